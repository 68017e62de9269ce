import Derived.Test.YtlcglapcmdpkfaaGreatM4
import Derived.Test.YtlcglapcmdpkfaaGreatD23
import Derived.BigQuiet
namespace Go.Proofs.YtlcglapcmdpkfaaGreat
open Go.RowKit
set_option linter.unusedSimpArgs false
set_option linter.unusedVariables false
theorem Only.drewN {bs : Nat → Prop} {a w : World} (h : Only bs a w) (n : Nat) : Only bs a (w.drewN n) := ⟨h.os, h.tape, h.output, h.size, h.block⟩
structure RPg where
 i : Int
 at_ : Nat
 b : List Nat
 v : Value
def RPg.p (y : RPg) : Int × Nat × List Nat := (y.i, y.at_, y.b)
def RPg.cells (y : RPg) : List Value := [.int .i64 y.i, .int .i64 (y.at_ : Nat), y.v]
def rpgL (l : List RPg) : List Value := l.flatMap RPg.cells
theorem rpgL_length (l : List RPg) : (rpgL l).length = l.length * 3 := by
 induction l with
 | nil => rfl
 | cons x r ih => simp only [rpgL, List.flatMap_cons, List.length_append, List.length_cons] at *; rw [ih]; simp [RPg.cells]; omega
theorem rpgL_append (l m : List RPg) : rpgL (l ++ m) = rpgL l ++ rpgL m := by simp [rpgL]
theorem rpgL_get : ∀ (ws : List RPg) (j : Nat) (h : j < ws.length) (q : Nat), q < 3 → (rpgL ws)[j * 3 + q]? = (ws[j]).cells[q]?
 | x :: r, 0, h, q, hq => by
   simp only [rpgL, List.flatMap_cons, Nat.zero_mul, Nat.zero_add, List.getElem_cons_zero]
   rw [List.getElem?_append_left (by simp [RPg.cells]; exact hq)]
 | x :: r, j + 1, h, q, hq => by
   simp only [List.length_cons] at h
   have ih := rpgL_get r j (by omega) q hq
   simp only [rpgL, List.flatMap_cons, List.getElem_cons_succ] at *
   rw [List.getElem?_append_right (by simp [RPg.cells]; omega), ← ih]
   congr 1
   simp [RPg.cells]; omega
structure PgsAt (w : World) (B : Nat) (av : Nat → Prop) (nv : Value) (l : List RPg) : Prop where
 own : w.ownsRow B 103 3 nv l.length (rpgL l)
 dat : ∀ y ∈ l, BytesAt w y.v y.b ∧ ∀ b, y.v.ownBlock = some b → b < w.heap.size ∧ ¬ av b
theorem PgsAt.frame {w w' : World} {B : Nat} {av av' bs : Nat → Prop} {nv : Value} {l : List RPg} (h : PgsAt w B av nv l) (ho : Only bs w w') (hr : ∀ b, nv.ownBlock = some b → ¬ bs b) (hb : ∀ k, k < w.heap.size → bs k → av k) (ha : ∀ k, k < w.heap.size → av' k → av k) : PgsAt w' B av' nv l :=
 ⟨ho.owns h.own hr, fun y hy => ⟨(h.dat y hy).1.keep ho (fun b e e' => ((h.dat y hy).2 b e).2 (hb b ((h.dat y hy).2 b e).1 e')),
  fun b e => ⟨Nat.lt_of_lt_of_le ((h.dat y hy).2 b e).1 ho.size, fun e' => ((h.dat y hy).2 b e).2 (ha b ((h.dat y hy).2 b e).1 e')⟩⟩⟩
theorem PgsAt.nil (w : World) (B : Nat) (av : Nat → Prop) : PgsAt w B av (.slice none 0 0) [] := ⟨World.ownsRow_nil _ _ _ _, fun y hy => by cases hy⟩
theorem PgsAt.form {w : World} {B : Nat} {av : Nat → Prop} {nv : Value} {l : List RPg} (h : PgsAt w B av nv l) : ∃ a c, nv = .slice a l.length c ∧ l.length ≤ c := by
 rcases h.own.2 with ⟨rfl, h0⟩ | ⟨g, cap, cur, rfl, hb, hg, hc, _⟩
 ·exact ⟨none, 0, by rw [h0], by omega⟩
 ·exact ⟨_, _, rfl, hc⟩
theorem PgsAt.lt {w : World} {B : Nat} {av : Nat → Prop} {nv : Value} {l : List RPg} (h : PgsAt w B av nv l) (b : Nat) (hb : nv.ownBlock = some b) : B ≤ b ∧ b < w.heap.size := h.own.lt b hb
theorem PgsAt.get {w : World} {B : Nat} {av : Nat → Prop} {a : Option Addr} {m c : Nat} {l : List RPg} (h : PgsAt w B av (.slice a m c) l) (i : Nat) (hi : i < l.length) :
  ∃ g, a = some ⟨g, 0, none⟩ ∧ (∀ q, q < 3 → ∃ u, (l[i]).cells[q]? = some u ∧ w.cell? ⟨g, i * 3 + q, none⟩ = some u) ∧ (∀ q, q < 3 → w.frozen? ⟨g, i * 3 + q, none⟩ = false) := by
 rcases h.own.2 with ⟨hv, h0⟩ | ⟨g, cap, cur, hv, hb, hg, hc, hcm, hcs, ht⟩
 ·omega
 ·simp only [Value.slice.injEq] at hv
  obtain ⟨rfl, rfl, rfl⟩ := hv
  refine ⟨g, rfl, fun q hq => ?_, fun q hq => ?_⟩
  ·have e := rpgL_get l i hi q hq
   have hq2 : q < (l[i]).cells.length := by simp only [RPg.cells, List.length_cons, List.length_nil]; omega
   obtain ⟨u, hu⟩ : ∃ u, (l[i]).cells[q]? = some u := ⟨_, List.getElem?_eq_getElem hq2⟩
   refine ⟨u, hu, ?_⟩
   rw [hu, ← ht, List.getElem?_take] at e
   split at e
   ·rw [cell_of_row _ _ _ _ _ _ hg]
    simpa using e
   ·cases e
  ·simp [World.frozen?, hg]
theorem PgsAt.at {w : World} {B : Nat} {av : Nat → Prop} {a : Option Addr} {m c : Nat} {l : List RPg} (h : PgsAt w B av (.slice a m c) l) (i : Nat) (hi : i < l.length) :
  ∃ g, a = some ⟨g, 0, none⟩ ∧ w.cell? ⟨g, i * 3, none⟩ = some (.int .i64 (l[i]).i) ∧ w.cell? ⟨g, i * 3 + 1, none⟩ = some (.int .i64 ((l[i]).at_ : Nat)) ∧ w.cell? ⟨g, i * 3 + 2, none⟩ = some (l[i]).v := by
 obtain ⟨g, rfl, hq, _⟩ := h.get i hi
 obtain ⟨u0, e0, c0⟩ := hq 0 (by omega)
 obtain ⟨u1, e1, c1⟩ := hq 1 (by omega)
 obtain ⟨u2, e2, c2⟩ := hq 2 (by omega)
 simp only [RPg.cells, List.getElem?_cons_zero, List.getElem?_cons_succ, Option.some.injEq] at e0 e1 e2
 subst e0 e1 e2
 exact ⟨g, rfl, c0, c1, c2⟩
def muR (rk : Nat → Prop) (r : Nat) (nv : Value) : Nat → Prop := fun k => k = r ∨ nv.ownBlock = some k ∨ rk k
def rsL (q : Nat) (x : SS) (tv kv nv : Value) (dead : Bool) : List Value :=
 [.pointer (some ⟨q, 0, none⟩), .int .i64 ((x.sector / 4 : Nat) : Int), .int .u64 (x.epoch : Nat), tv, kv, nv, .bool dead]
structure RsAt (w : World) (rk : Nat → Prop) (B r q : Nat) (tv kv nv : Value) (x : SS) (lk ln : List RPg) : Prop where
 cells : w.rangeAt r 0 (rsL q x tv kv nv false)
 there : w.there r 0 7
 rB : B ≤ r
 k1 : ¬ rk r
 k2 : ∀ b, nv.ownBlock = some b → b ≠ r ∧ ¬ rk b
 tabs : RowAt w tv x.tabs.length 1 (fun j => .int .i64 (x.tabs.getD j 0 : Nat))
 tabsB : ∀ b, tv.ownBlock = some b → b < w.heap.size ∧ ¬ muR rk r nv b
 keptB : ∀ b, kv.ownBlock = some b → ¬ muR rk r nv b
 kept : PgsAt w B (muR rk r nv) kv lk
 now : PgsAt w B (muR rk r nv) nv ln
 comE : lk.map RPg.p = x.com
 nowE : ln.map RPg.p = x.now
 comR : Rise x.com
 nowR : Rise x.now
 wf : x.Wf
section
variable {w : World} {rk : Nat → Prop} {B r q : Nat} {tv kv nv : Value} {x : SS} {lk ln : List RPg}
theorem RsAt.lt (h : RsAt w rk B r q tv kv nv x lk ln) : r < w.heap.size := World.block_lt_of_cell? w _ (h.cells 0 _ rfl)
theorem RsAt.frame {w' : World} {rk' bs : Nat → Prop} (h : RsAt w rk B r q tv kv nv x lk ln) (ho : Only bs w w') (hb : ∀ k, k < w.heap.size → bs k → rk k) (hd : ∀ k, k < w.heap.size → rk' k → rk k) : RsAt w' rk' B r q tv kv nv x lk ln := by
 have hs := h.lt
 have ns : ¬ bs r := fun e => h.k1 (hb _ hs e)
 have ha : ∀ k, k < w.heap.size → muR rk' r nv k → muR rk r nv k := by
  rintro k hk (e | e | e)
  ·exact .inl e
  ·exact .inr (.inl e)
  ·exact .inr (.inr (hd k hk e))
 have hb' : ∀ k, k < w.heap.size → bs k → muR rk r nv k := fun k hk e => .inr (.inr (hb k hk e))
 exact { cells := ho.range h.cells ns, there := ho.there h.there ns, rB := h.rB, k1 := fun e => h.k1 (hd _ hs e)
         k2 := fun b e => ⟨(h.k2 b e).1, fun e' => (h.k2 b e).2 (hd _ (h.now.lt b e).2 e')⟩
         tabs := h.tabs.keep ho (fun b e e' => (h.tabsB b e).2 (hb' b (h.tabsB b e).1 e'))
         tabsB := fun b e => ⟨Nat.lt_of_lt_of_le (h.tabsB b e).1 ho.size, fun e' => (h.tabsB b e).2 (ha b (h.tabsB b e).1 e')⟩
         keptB := fun b e e' => h.keptB b e (ha b (h.kept.lt b e).2 e')
         kept := h.kept.frame ho (fun b e e' => h.keptB b e (hb' b (h.kept.lt b e).2 e')) hb' ha
         now := h.now.frame ho (fun b e e' => (h.k2 b e).2 (hb b (h.now.lt b e).2 e')) hb' ha
         comE := h.comE, nowE := h.nowE, comR := h.comR, nowR := h.nowR, wf := h.wf }
theorem RsAt.still {w' : World} (h : RsAt w rk B r q tv kv nv x lk ln) (ho : Only (fun _ => False) w w') : RsAt w' rk B r q tv kv nv x lk ln := h.frame ho (fun _ _ e => e.elim) (fun _ _ e => e)
theorem RsAt.c0 (h : RsAt w rk B r q tv kv nv x lk ln) : w.cell? ⟨r, 0, none⟩ = some (.pointer (some ⟨q, 0, none⟩)) := h.cells 0 _ rfl
theorem RsAt.c1 (h : RsAt w rk B r q tv kv nv x lk ln) : w.cell? ⟨r, 1, none⟩ = some (.int .i64 ((x.sector / 4 : Nat) : Int)) := h.cells 1 _ rfl
theorem RsAt.c2 (h : RsAt w rk B r q tv kv nv x lk ln) : w.cell? ⟨r, 2, none⟩ = some (.int .u64 (x.epoch : Nat)) := h.cells 2 _ rfl
theorem RsAt.c3 (h : RsAt w rk B r q tv kv nv x lk ln) : w.cell? ⟨r, 3, none⟩ = some tv := h.cells 3 _ rfl
theorem RsAt.c4 (h : RsAt w rk B r q tv kv nv x lk ln) : w.cell? ⟨r, 4, none⟩ = some kv := h.cells 4 _ rfl
theorem RsAt.c5 (h : RsAt w rk B r q tv kv nv x lk ln) : w.cell? ⟨r, 5, none⟩ = some nv := h.cells 5 _ rfl
theorem RsAt.c6 (h : RsAt w rk B r q tv kv nv x lk ln) : w.cell? ⟨r, 6, none⟩ = some (.bool false) := h.cells 6 _ rfl
theorem RsAt.fz (h : RsAt w rk B r q tv kv nv x lk ln) (j : Nat) (hj : j < 7) : w.frozen? ⟨r, j, none⟩ = false := by
 have := (h.there j hj).2
 simpa using this
theorem RsAt.nowLen (h : RsAt w rk B r q tv kv nv x lk ln) : ln.length = x.now.length := by rw [← h.nowE]; simp
theorem RsAt.comLen (h : RsAt w rk B r q tv kv nv x lk ln) : lk.length = x.com.length := by rw [← h.comE]; simp
end
theorem rbad_dead (r : Nat) (i : Int) (w : World) (h : w.cell? ⟨r, 6, none⟩ = some (.bool true)) :
  Calls Tryz.prog 52 #[.pointer (some ⟨r, 0, none⟩), .int .i64 i] w fun e w' => e = .returned (.int .i64 3) ∧ w' = w := by
 go_enter Tryz.func52, Tryz.ntmps52
 go_wp2
 go_ret
 exact ⟨rfl, rfl⟩
def badE (i : Int) : Int := if 0 ≤ i ∧ i < 728 then 0 else 4
theorem rbad_any (r : Nat) (i : Int) (w : World) (h : w.cell? ⟨r, 6, none⟩ = some (.bool false)) :
  Calls Tryz.prog 52 #[.pointer (some ⟨r, 0, none⟩), .int .i64 i] w fun e w' => e = .returned (.int .i64 (badE i)) ∧ w' = w := by
 by_cases h1 : i < 0
 ·rw [show badE i = 4 from if_neg (by omega)]
  go_enter Tryz.func52, Tryz.ntmps52
  go_wp2
  go_ret
  exact ⟨rfl, rfl⟩
 ·have h3 : decide (i < 0) = false := by simpa using h1
  by_cases h2 : 728 ≤ i
  ·rw [show badE i = 4 from if_neg (by omega)]
   go_enter Tryz.func52, Tryz.ntmps52
   go_wp2
   go_ret
   exact ⟨rfl, rfl⟩
  ·rw [show badE i = 0 from if_pos (by omega)]
   go_enter Tryz.func52, Tryz.ntmps52
   go_wp2
   go_ret
   exact ⟨rfl, rfl⟩
def fi : Pgs → Int → Nat
 | [], _ => 0
 | p :: r, i => if p.1 < i then fi r i + 1 else 0
def isAt (l : Pgs) (i : Int) : Bool := match l[fi l i]? with
 | some p => p.1 == i
 | none => false
theorem fi_le : ∀ (l : Pgs) (i : Int), fi l i ≤ l.length
 | [], _ => Nat.le_refl _
 | p :: r, i => by
   have := fi_le r i
   simp only [fi, List.length_cons]
   split <;> omega
theorem fi_lt : ∀ {l : Pgs} {i : Int} {k : Nat}, k < fi l i → ∃ h : k < l.length, (l[k]).1 < i
 | [], _, _, hk => by simp [fi] at hk
 | p :: r, i, k, hk => by
   simp only [fi] at hk
   split at hk
   ·rename_i hp
    cases k with
    | zero => exact ⟨by simp, hp⟩
    | succ k =>
      obtain ⟨h1, h2⟩ := fi_lt (l := r) (i := i) (k := k) (by omega)
      exact ⟨by simp; omega, h2⟩
   ·omega
theorem fi_end : ∀ {l : Pgs} {i : Int} (h : fi l i < l.length), ¬ (l[fi l i]).1 < i
 | [], _, h => by simp [fi] at h
 | p :: r, i, h => by
   by_cases hp : p.1 < i
   ·have e : fi (p :: r) i = fi r i + 1 := by simp [fi, hp]
    have h' : fi r i < r.length := by rw [e, List.length_cons] at h; omega
    have := fi_end h'
    simp only [e, List.getElem_cons_succ]
    exact this
   ·have e : fi (p :: r) i = 0 := by simp [fi, hp]
    simp only [e, List.getElem_cons_zero]
    exact hp
theorem fi_go {l : Pgs} {i : Int} {k : Nat} (hk : k ≤ fi l i) (h : k < l.length) (hlt : (l[k]).1 < i) : k < fi l i := by
 rcases Nat.lt_or_ge k (fi l i) with h1 | h1
 ·exact h1
 ·obtain rfl : k = fi l i := by omega
  exact absurd hlt (fi_end h)
set_option maxRecDepth 100000 in
set_option maxHeartbeats 1000000 in
theorem find_any {w : World} {rk : Nat → Prop} {B r q : Nat} {tv kv nv : Value} {x : SS} {lk ln : List RPg} (h : RsAt w rk B r q tv kv nv x lk ln) (i : Int) :
  Calls Tryz.prog 53 #[.pointer (some ⟨r, 0, none⟩), .int .i64 i] w fun e w' => e = .returned (.tuple #[.int .i64 (fi x.now i : Nat), .bool (isAt x.now i)]) ∧ Only (fun _ => False) w w' := by
 have hle := fi_le x.now i
 have hnl := h.nowLen
 have c5 := h.c5
 obtain ⟨a, c, hnv, hcc⟩ := h.now.form
 subst hnv
 obtain ⟨n, hn⟩ : ∃ n, n = ln.length := ⟨_, rfl⟩
 have HR : Hid (PgsAt w B (muR rk r (.slice a ln.length c)) (.slice a ln.length c) ln) := h.now
 have HE : Hid (ln.map RPg.p = x.now) := h.nowE
 have hn7 : n ≤ 9223372036854775807 := by
  have h1 := h.now.own
  rcases h1.2 with ⟨_, h0⟩ | ⟨g, cap, cur, hv, hb, hg, hc, hcm, _⟩
  ·omega
  ·simp only [maxLen] at hcm; omega
 have HN : Hid (n = ln.length ∧ n = x.now.length) := ⟨hn, by omega⟩
 rw [← hn] at c5
 have HG : Hid (∀ k, k < n → ∃ g u, a = some ⟨g, 0, none⟩ ∧ w.cell? ⟨g, k * 3, none⟩ = some (.int .i64 u) ∧ ∃ hk : k < x.now.length, u = (x.now[k]).1) := fun k hk => by
  have hk2 : k < ln.length := by rw [← HN.out.1]; exact hk
  obtain ⟨g, e, z0, _, _⟩ := HR.out.at k hk2
  refine ⟨g, _, e, z0, by rw [← HN.out.2]; exact hk, ?_⟩
  have := HE.out
  simp only [← this, List.getElem_map, RPg.p]
 clear h hnl hcc hn
 go_enter Tryz.func53, Tryz.ntmps53
 go_wp2_with fail
 go_loopw [6] (fun t wr => ∃ k : Nat, k ≤ fi x.now i ∧ t = .int .i64 k ∧ w = wr) (fun t _ => n - (intOf t).toNat)
 case atStart => exact ⟨0, Nat.zero_le _, rfl, rfl⟩
 case round =>
  obtain ⟨k, hk, rfl, rfl⟩ := hrel
  by_cases hlt : k < n
  ·obtain ⟨g, u, rfl, z0, hkx, hu⟩ := HG.out k hlt
   have i0 : (0 : Int) ≤ (k : Int) := Int.natCast_nonneg _
   have i1 : (k : Int) < (n : Int) := by omega
   have HU : Hid (∃ hkx : k < x.now.length, u = (x.now[k]).1) := ⟨hkx, hu⟩
   have HK : Hid (k ≤ fi x.now i) := hk
   clear hu hkx hk hle
   by_cases hui : u < i
   ·go_wp2
    go_roundw
    case rel =>
     obtain ⟨hkx, hu⟩ := HU.out
     exact ⟨k + 1, by have := fi_go HK.out hkx (by rw [← hu]; exact hui); omega, by go_num, trivial⟩
    case measure => simp [intOf]; omega
   ·have hd : decide (u < i) = false := by simpa using hui
    have HF : Hid (k = fi x.now i ∧ isAt x.now i = (u == i)) := by
     obtain ⟨hkx, hu⟩ := HU.out
     have e : k = fi x.now i := by
      rcases Nat.lt_or_ge k (fi x.now i) with h1 | h1
      ·obtain ⟨_, h2⟩ := fi_lt h1
       rw [← hu] at h2
       exact absurd h2 hui
      ·have := HK.out; omega
     refine ⟨e, ?_⟩
     unfold isAt
     rw [← e, List.getElem?_eq_getElem hkx, hu]
    have hd2 : decide ((k : Int) < (n : Int)) = true := by simpa using hlt
    go_wp2_with fail
    go_quiet (fail)
    go_wp2
    go_ret2
    obtain ⟨e1, e2⟩ := HF.out
    rw [e2, ← e1]
    exact ⟨rfl, (Only.refl _ _).drewN _⟩
  ·have hd2 : decide ((k : Int) < (n : Int)) = false := by simp; omega
   have HF : Hid (k = fi x.now i ∧ isAt x.now i = false) := by
    have e : k = fi x.now i := by have := HN.out.2; omega
    refine ⟨e, ?_⟩
    unfold isAt
    rw [← e, List.getElem?_eq_none (by have := HN.out.2; omega)]
   clear hk hle
   go_wp2_with fail
   go_quiet (fail)
   go_wp2
   go_ret2
   obtain ⟨e1, e2⟩ := HF.out
   rw [e2, ← e1]
   exact ⟨rfl, (Only.refl _ _).drewN _⟩
end Go.Proofs.YtlcglapcmdpkfaaGreat
