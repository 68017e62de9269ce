/- Which blocks a call may have turned: definitions and small facts, with no program in them. What a disk is in memory: definitions and small facts, with no program in them. The small calls of a disk: what alive, reach, age, Len, Pending, Live and Barrier answer and change, by the cells that they read. Laws for single operations, and what Read of a sector that there is answers. What Write does on a disk that lives, at a sector that there is. What New answers, what Read answers, and when Write is refused. What sector answers; New. -/
import Derived.WalkKit
import Derived.WalkSpells
import Derived.WalkLawsBesides
import Derived.OneCell
import Derived.Deep.MidRow
import Derived.Deep.AppendLies
import Derived.Deep.Upon
import Derived.Deep.WholeRow
import Derived.Test.YtpoakkdkibameaaRows
import Derived.Deep.RegionHeld3
import Derived.Deep.DrawnRows
namespace Go.Proofs.Ytpoakkdkibameaa
open Go.RowKit

/-- Only blocks of bs may have turned; the streams stand; no block has gone. -/
structure Only (bs : Nat → Prop) (w w' : World) : Prop where
  os : w'.os = w.os
  tape : w'.tape = w.tape
  output : w'.output = w.output
  size : w.heap.size ≤ w'.heap.size
  block : ∀ k, k < w.heap.size → ¬ bs k → w'.heap[k]? = w.heap[k]?

theorem Only.refl (bs : Nat → Prop) (w : World) : Only bs w w := ⟨rfl, rfl, rfl, Nat.le_refl _, fun _ _ _ => rfl⟩
theorem Only.mono {bs bs' : Nat → Prop} {w w' : World} (h : Only bs w w') (hb : ∀ k, k < w.heap.size → bs k → bs' k) : Only bs' w w' :=
  ⟨h.os, h.tape, h.output, h.size, fun k hk hn => h.block k hk (fun e => hn (hb k hk e))⟩
theorem Only.trans {bs bs' : Nat → Prop} {a b c : World} (h : Only bs a b) (k : Only bs' b c) (hb : ∀ i, i < a.heap.size → bs' i → bs i) : Only bs a c :=
  ⟨k.os.trans h.os, k.tape.trans h.tape, k.output.trans h.output, Nat.le_trans h.size k.size,
    fun i hi hn => (k.block i (Nat.lt_of_lt_of_le hi h.size) (fun e => hn (hb i hi e))).trans (h.block i hi hn)⟩
theorem Only.drew {bs : Nat → Prop} {a w : World} (h : Only bs a w) : Only bs a w.drew := ⟨h.os, h.tape, h.output, h.size, h.block⟩
theorem Only.alloc {bs : Nat → Prop} {a w : World} (h : Only bs a w) (o : Obj) : Only bs a (w.alloc o) :=
  ⟨h.os, h.tape, h.output, by have := h.size; simp; omega, fun k hk hn => (Below.heap_alloc _ _ _ (Nat.lt_of_lt_of_le hk h.size)).trans (h.block k hk hn)⟩
theorem Only.setCell {bs : Nat → Prop} {a w : World} (h : Only bs a w) (p : Addr) (u : Value) (hp : p.block < a.heap.size → bs p.block) : Only bs a (w.setCell p u) :=
  ⟨h.os, h.tape, h.output, by have := h.size; simpa [World.setCell] using this, fun k hk hn => (Below.heap_setCell w p u k (fun e => hn (by rw [e]; exact hp (by rw [← e]; exact hk)))).trans (h.block k hk hn)⟩
theorem setCells_same (b : Nat) : ∀ (vs : List Value) (o : Nat) (w : World), (w.setCells b o vs).os = w.os ∧ (w.setCells b o vs).tape = w.tape ∧ (w.setCells b o vs).output = w.output ∧ (w.setCells b o vs).heap.size = w.heap.size
  | [], _, _ => ⟨rfl, rfl, rfl, rfl⟩
  | v :: r, o, w => by
    obtain ⟨h1, h2, h3, h4⟩ := setCells_same b r (o + 1) (w.setCell ⟨b, o, none⟩ v)
    exact ⟨h1, h2, h3, h4.trans (by simp [World.setCell])⟩
theorem Only.setCells {bs : Nat → Prop} {a w : World} (h : Only bs a w) (b o : Nat) (vs : List Value) (hp : b < a.heap.size → bs b) : Only bs a (w.setCells b o vs) := by
  obtain ⟨h1, h2, h3, h4⟩ := setCells_same b vs o w
  exact ⟨h1.trans h.os, h2.trans h.tape, h3.trans h.output, h4 ▸ h.size, fun k hk hn =>
    (World.heap_setCells_other w b o vs (Nat.lt_of_lt_of_le hk h.size) (fun e => hn (e ▸ hp (e ▸ hk)))).trans (h.block k hk hn)⟩
theorem Only.grown {bs : Nat → Prop} {a w w' : World} {row : Option Nat} (h : Only bs a w) (hg : w.grownBy w' row) (hr : ∀ k, row = some k → k < a.heap.size → bs k) : Only bs a w' :=
  ⟨hg.os.trans h.os, hg.tape.trans h.tape, hg.output.trans h.output, Nat.le_trans h.size hg.size,
    fun k hk hn => (hg.block k (Nat.lt_of_lt_of_le hk h.size) (fun e => hn (hr k e.symm hk))).trans (h.block k hk hn)⟩
theorem Only.below {bs : Nat → Prop} {w w' : World} {B : Nat} (h : Only bs w w') (hb : ∀ k, bs k → B ≤ k) (hB : B ≤ w.heap.size) : Below B w w' :=
  ⟨h.os, h.tape, h.output, h.size, fun k hk => h.block k (by omega) (fun e => by have := hb k e; omega)⟩
theorem Only.cell {bs : Nat → Prop} {w w' : World} (h : Only bs w w') {a : Addr} {v : Value} (hc : w.cell? a = some v) (hn : ¬ bs a.block) : w'.cell? a = some v :=
  (World.cell?_of_block (w := w) (h.block a.block (World.block_lt_of_cell? w a hc) hn)).trans hc
theorem Only.frozen {bs : Nat → Prop} {w w' : World} (h : Only bs w w') {a : Addr} (hl : a.block < w.heap.size) (hn : ¬ bs a.block) : w'.frozen? a = w.frozen? a :=
  World.frozen?_of_block (w := w) (h.block a.block hl hn)
theorem Only.range {bs : Nat → Prop} {w w' : World} (h : Only bs w w') {b o : Nat} {cs : List Value} (hc : w.rangeAt b o cs) (hn : ¬ bs b) : w'.rangeAt b o cs :=
  fun j v hv => h.cell (a := ⟨b, o + j, none⟩) (hc j v hv) hn
theorem Only.there {bs : Nat → Prop} {w w' : World} (h : Only bs w w') {b o n : Nat} (hc : w.there b o n) (hn : ¬ bs b) : w'.there b o n := fun j hj => by
  obtain ⟨h1, h2⟩ := hc j hj
  obtain ⟨u, hu⟩ := Option.isSome_iff_exists.1 h1
  exact ⟨by rw [h.cell hu hn]; rfl, by rw [h.frozen (World.block_lt_of_cell? w _ hu) hn]; exact h2⟩
theorem Only.owns {bs : Nat → Prop} {w w' : World} (h : Only bs w w') {B e size n : Nat} {v : Value} {xs : List Value} (ho : w.ownsRow B e size v n xs) (hn : ∀ k, v.ownBlock = some k → ¬ bs k) : w'.ownsRow B e size v n xs := by
  refine ⟨ho.1, ?_⟩
  rcases ho.2 with hz | ⟨g, cap, cur, hv, hb, hg, rest⟩
  · exact .inl hz
  · refine .inr ⟨g, cap, cur, hv, hb, ?_, rest⟩
    have hl : g < w.heap.size := by
      rcases Nat.lt_or_ge g w.heap.size with hlt | hge
      · exact hlt
      · simp [Array.getElem?_eq_none hge] at hg
    rw [h.block g hl (hn g (by rw [hv]; rfl))]; exact hg


theorem ownsRow_slice {w : World} {B e size n : Nat} {v : Value} {xs : List Value} (h : w.ownsRow B e size v n xs) : ∃ a c, v = .slice a n c := by
  rcases h.2 with ⟨h1, h2⟩ | ⟨g, cap, cur, h1, _⟩
  · exact ⟨none, 0, by rw [h1, h2]⟩
  · exact ⟨_, _, h1⟩
end Go.Proofs.Ytpoakkdkibameaa
namespace Go.Proofs.Ytpoakkdkibameaa
open Go.RowKit

/-- The 32 cells of a sector. -/
def secL (f : Nat → Int) : List Value := (List.range 32).map fun j => .int .u8 (f j)
/-- The 65 cells of a write. -/
def wrL (s : Int) (f g : Nat → Int) : List Value := .int .i64 s :: (secL f ++ secL g)
theorem secL_length (f : Nat → Int) : (secL f).length = 32 := by simp [secL]
theorem wrL_length (s : Int) (f g : Nat → Int) : (wrL s f g).length = 65 := by simp [wrL, secL_length]
theorem secL_one (f : Nat → Int) : ∀ v ∈ secL f, v.oneCell' = true := by
  intro v hv
  simp only [secL, List.mem_map] at hv
  obtain ⟨j, _, rfl⟩ := hv
  rfl
theorem wrL_one (s : Int) (f g : Nat → Int) : ∀ v ∈ wrL s f g, v.oneCell' = true := by
  intro v hv
  simp only [wrL, List.mem_cons, List.mem_append] at hv
  rcases hv with rfl | hv | hv
  · rfl
  · exact secL_one f v hv
  · exact secL_one g v hv
theorem secL_get (f : Nat → Int) (j : Nat) (h : j < 32) : (secL f)[j]? = some (.int .u8 (f j)) := by simp [secL, h]

/-- A write that is pending. -/
structure Wr where
  at_ : Nat
  bef : Nat → Int
  aft : Nat → Int
/-- A disk: how many sectors, what each byte of each is, the writes that are pending, the life. -/
structure DS where
  n : Nat
  sec : Nat → Nat → Int
  pend : List Wr
  life : Int
def Wr.cells (x : Wr) : List Value := wrL x.at_ x.bef x.aft
def wrsL (l : List Wr) : List Value := l.flatMap Wr.cells
theorem wrsL_length (l : List Wr) : (wrsL l).length = l.length * 65 := by
  induction l with
  | nil => rfl
  | cons x r ih => simp only [wrsL, List.flatMap_cons, List.length_append, List.length_cons] at *; rw [ih]; simp [Wr.cells, wrL_length]; omega
theorem wrsL_snoc (l : List Wr) (x : Wr) : wrsL (l ++ [x]) = wrsL l ++ x.cells := by simp [wrsL]
/-- One sector is another. -/
def upd (sec : Nat → Nat → Int) (k : Nat) (f : Nat → Int) : Nat → Nat → Int := fun i => if i = k then f else sec i

/-- The disk d lies at block p, its sectors in block S, its pending writes behind pv; all its blocks are from B on. -/
structure DiskAt (w : World) (B p S : Nat) (pv : Value) (d : DS) : Prop where
  pB : B ≤ p
  SB : B ≤ S
  pS : p ≠ S
  c0 : ∃ c, w.cell? ⟨p, 0, none⟩ = some (.slice (some ⟨S, 0, none⟩) d.n c)
  c1 : w.cell? ⟨p, 1, none⟩ = some pv
  c2 : w.cell? ⟨p, 2, none⟩ = some (.int .i64 d.life)
  f1 : w.frozen? ⟨p, 1, none⟩ = false
  f2 : w.frozen? ⟨p, 2, none⟩ = false
  secs : ∀ i, i < d.n → w.rangeAt S (i * 32) (secL (d.sec i)) ∧ w.there S (i * 32) 32
  own : w.ownsRow B 124 65 pv d.pend.length (wrsL d.pend)
  hp : pv.ownBlock ≠ some p
  hS : pv.ownBlock ≠ some S
  n1 : 1 ≤ d.n
  n2 : d.n ≤ 8192
  at_ : ∀ x ∈ d.pend, x.at_ < d.n
  l1 : -1 ≤ d.life
  l2 : d.life ≤ 9223372036854775807

/-- A disk's blocks. -/
def diskB (p S : Nat) (pv : Value) : Nat → Prop := fun k => k = p ∨ k = S ∨ pv.ownBlock = some k

theorem DiskAt.frame {w w' : World} {B p S : Nat} {pv : Value} {d : DS} {bs : Nat → Prop} (h : DiskAt w B p S pv d) (ho : Only bs w w') (hn : ∀ k, diskB p S pv k → ¬ bs k) : DiskAt w' B p S pv d := by
  obtain ⟨c, hc⟩ := h.c0
  have np := hn p (.inl rfl)
  have nS := hn S (.inr (.inl rfl))
  exact { pB := h.pB, SB := h.SB, pS := h.pS, c0 := ⟨c, ho.cell hc np⟩, c1 := ho.cell h.c1 np, c2 := ho.cell h.c2 np,
          f1 := (ho.frozen (World.block_lt_of_cell? w _ h.c1) np).trans h.f1, f2 := (ho.frozen (World.block_lt_of_cell? w _ h.c2) np).trans h.f2,
          secs := fun i hi => ⟨ho.range (h.secs i hi).1 nS, ho.there (h.secs i hi).2 nS⟩,
          own := ho.owns h.own (fun k hk => hn k (.inr (.inr hk))), hp := h.hp, hS := h.hS, n1 := h.n1, n2 := h.n2, at_ := h.at_, l1 := h.l1, l2 := h.l2 }
theorem DiskAt.lt {w : World} {B p S : Nat} {pv : Value} {d : DS} (h : DiskAt w B p S pv d) : ∀ k, diskB p S pv k → B ≤ k ∧ k < w.heap.size := by
  intro k hk
  rcases hk with rfl | rfl | hk
  · exact ⟨h.pB, World.block_lt_of_cell? w _ h.c1⟩
  · refine ⟨h.SB, ?_⟩
    have h0 := (h.secs 0 h.n1).1 0 _ (secL_get _ 0 (by omega))
    exact World.block_lt_of_cell? w _ h0
  · exact h.own.lt k hk
end Go.Proofs.Ytpoakkdkibameaa
namespace Go.Proofs.Ytpoakkdkibameaa
open Go.RowKit

theorem build_wr (s : Int) (f g : Nat → Int) (w : World) : (Instr.build 124 #[(0, .int .i64 s), (1, .agg (secL f).toArray), (2, .agg (secL g).toArray)]).run Try.prog w = .ok (.agg (wrL s f g).toArray) w := by kernel_rfl
theorem size68 : (Try.prog.info? 100).map (·.size) = some 32 := by kernel_rfl
theorem size71 : (Try.prog.info? 124).map (·.size) = some 65 := by kernel_rfl

set_option maxHeartbeats 400000 in
theorem alive_dead (p : Nat) (w : World) (h2 : w.cell? ⟨p, 2, none⟩ = some (.int .i64 0)) :
    Calls Try.prog 68 #[.pointer (some ⟨p, 0, none⟩)] w fun e w' => e = .returned (.int .i64 3) ∧ w' = w := by
  go_enter Try.func68, Try.ntmps68
  go_wp2
  go_ret
  exact ⟨rfl, rfl⟩
set_option maxHeartbeats 400000 in
theorem alive_ok (p : Nat) (l : Int) (w : World) (h2 : w.cell? ⟨p, 2, none⟩ = some (.int .i64 l)) (hl : (l == 0) = false) :
    Calls Try.prog 68 #[.pointer (some ⟨p, 0, none⟩)] w fun e w' => e = .returned (.int .i64 0) ∧ w' = w := by
  go_enter Try.func68, Try.ntmps68
  go_wp2
  go_ret
  exact ⟨rfl, rfl⟩
set_option maxHeartbeats 400000 in
theorem reach_dead (p : Nat) (k : Int) (w : World) (h2 : w.cell? ⟨p, 2, none⟩ = some (.int .i64 0)) :
    Calls Try.prog 55 #[.pointer (some ⟨p, 0, none⟩), .int .i64 k] w fun e w' => e = .returned (.int .i64 3) ∧ w' = w := by
  go_enter Try.func55, Try.ntmps55
  go_wp2
  go_ret
  exact ⟨rfl, rfl⟩
set_option maxHeartbeats 400000 in
theorem reach_out (p S n c : Nat) (l : Int) (k : Int) (w : World) (h0 : w.cell? ⟨p, 0, none⟩ = some (.slice (some ⟨S, 0, none⟩) n c)) (h2 : w.cell? ⟨p, 2, none⟩ = some (.int .i64 l)) (hl : (l == 0) = false) (hk : k < 0 ∨ n ≤ k) :
    Calls Try.prog 55 #[.pointer (some ⟨p, 0, none⟩), .int .i64 k] w fun e w' => e = .returned (.int .i64 4) ∧ w' = w := by
  rcases hk with hk | hk
  · go_enter Try.func55, Try.ntmps55
    go_wp2
    go_ret
    exact ⟨rfl, rfl⟩
  · have hk' : ¬ k < 0 := by omega
    go_enter Try.func55, Try.ntmps55
    go_wp2
    go_ret
    exact ⟨rfl, rfl⟩
set_option maxHeartbeats 400000 in
theorem reach_ok (p S n c : Nat) (l : Int) (k : Int) (w : World) (h0 : w.cell? ⟨p, 0, none⟩ = some (.slice (some ⟨S, 0, none⟩) n c)) (h2 : w.cell? ⟨p, 2, none⟩ = some (.int .i64 l)) (hl : (l == 0) = false) (hk : 0 ≤ k) (hk2 : k < n) :
    Calls Try.prog 55 #[.pointer (some ⟨p, 0, none⟩), .int .i64 k] w fun e w' => e = .returned (.int .i64 0) ∧ w' = w := by
  go_enter Try.func55, Try.ntmps55
  go_wp2
  go_ret
  exact ⟨rfl, rfl⟩
set_option maxHeartbeats 400000 in
theorem age_end (p : Nat) (w : World) (h2 : w.cell? ⟨p, 2, none⟩ = some (.int .i64 (-1))) :
    Calls Try.prog 69 #[.pointer (some ⟨p, 0, none⟩)] w fun e w' => e = .returned (.tuple #[]) ∧ w' = w := by
  go_enter Try.func69, Try.ntmps69
  go_wp2
  go_end0
  exact ⟨rfl, rfl⟩
set_option maxHeartbeats 400000 in
theorem age_less (p : Nat) (l : Int) (w : World) (h2 : w.cell? ⟨p, 2, none⟩ = some (.int .i64 l)) (hf : w.frozen? ⟨p, 2, none⟩ = false) (hl : 0 ≤ l) (hl2 : l ≤ 9223372036854775807) :
    Calls Try.prog 69 #[.pointer (some ⟨p, 0, none⟩)] w fun e w' => e = .returned (.tuple #[]) ∧ w' = w.setCell ⟨p, 2, none⟩ (.int .i64 (l - 1)) := by
  have hl3 : (l == -1) = false := by simp; omega
  go_enter Try.func69, Try.ntmps69
  go_wp2
  go_end0
  exact ⟨rfl, rfl⟩
set_option maxHeartbeats 400000 in
theorem len_any (p S n c : Nat) (w : World) (h0 : w.cell? ⟨p, 0, none⟩ = some (.slice (some ⟨S, 0, none⟩) n c)) :
    Calls Try.prog 14 #[.pointer (some ⟨p, 0, none⟩)] w fun e w' => e = .returned (.int .i64 n) ∧ w' = w := by
  go_enter Try.func14, Try.ntmps14
  go_wp2
  go_ret
  exact ⟨rfl, rfl⟩
set_option maxHeartbeats 400000 in
theorem barrier_dead (p : Nat) (w : World) (h2 : w.cell? ⟨p, 2, none⟩ = some (.int .i64 0)) :
    Calls Try.prog 50 #[.pointer (some ⟨p, 0, none⟩)] w fun e w' => e = .returned (.int .i64 3) ∧ w' = w := by
  go_enter Try.func50, Try.ntmps50
  go_wp2
  go_ret
  exact ⟨rfl, rfl⟩
set_option maxHeartbeats 400000 in
theorem barrier_end (p : Nat) (v : Value) (w : World) (h1 : w.cell? ⟨p, 1, none⟩ = some v) (hf1 : w.frozen? ⟨p, 1, none⟩ = false) (h2 : w.cell? ⟨p, 2, none⟩ = some (.int .i64 (-1))) :
    Calls Try.prog 50 #[.pointer (some ⟨p, 0, none⟩)] w fun e w' => e = .returned (.int .i64 0) ∧ w' = w.setCell ⟨p, 1, none⟩ (.slice none 0 0) := by
  go_enter Try.func50, Try.ntmps50
  go_wp2
  go_end0
  go_wp2
  go_ret
  exact ⟨rfl, rfl⟩
set_option maxHeartbeats 400000 in
theorem barrier_less (p : Nat) (v : Value) (l : Int) (w : World) (h1 : w.cell? ⟨p, 1, none⟩ = some v) (hf1 : w.frozen? ⟨p, 1, none⟩ = false) (h2 : w.cell? ⟨p, 2, none⟩ = some (.int .i64 l)) (hf2 : w.frozen? ⟨p, 2, none⟩ = false) (hl : 0 < l) (hl2 : l ≤ 9223372036854775807) :
    Calls Try.prog 50 #[.pointer (some ⟨p, 0, none⟩)] w fun e w' => e = .returned (.int .i64 0) ∧ w' = (w.setCell ⟨p, 1, none⟩ (.slice none 0 0)).setCell ⟨p, 2, none⟩ (.int .i64 (l - 1)) := by
  have hl3 : (l == -1) = false := by simp; omega
  have hl4 : (l == 0) = false := by simp; omega
  go_enter Try.func50, Try.ntmps50
  go_wp2
  go_end0
  go_wp2
  go_ret
  exact ⟨rfl, rfl⟩
end Go.Proofs.Ytpoakkdkibameaa
namespace Go.Proofs.Ytpoakkdkibameaa
open Go.RowKit

section
variable {P : Program} {ops : Array Oper} {op : Oper} {a : Act} {w w' : World} {K : Act → World → Prop} {Q : Exit → Act → World → Prop}
/-- An operation that yields a value, by its run. -/
theorem wp_value {s : Sem Value} {v : Value} (ho : execOp a.eval op = (do pure (.value (← s)))) (h : s.run P w = .ok v w') (hk : K (a.put op.dst v) w') : op.wp P a w K Q := by
  unfold Oper.wp
  simp only [ho, Sem.run_bind, h, Result.andThen_ok, Sem.run_pure, Oper.upon]
  exact hk
/-- An operation that yields nothing, by its run. -/
theorem wp_unit {s : Sem Unit} (ho : execOp a.eval op = (do s; pure .skip)) (h : s.run P w = .ok () w') (hk : K (a.put op.dst undef) w') : op.wp P a w K Q := by
  unfold Oper.wp
  simp only [ho, Sem.run_bind, h, Result.andThen_ok, Sem.run_pure, Oper.upon]
  exact hk
/-- An operation of a region that draws its order, whose value hangs on S alone. -/
theorem yields_value {S : World → Prop} {s : Sem Value} {v : Value} (hw : Region.wanted op (yielded ops a.tmps) = true) (ho : execOp a.eval op = (do pure (.value (← s)))) (h : ∀ w, S w → s.run P w = .ok v w) : YieldsIf P ops S op v a :=
  .inl ⟨hw, fun w hS => by simp only [ho, Sem.run_bind, h w hS, Result.andThen_ok, Sem.run_pure]⟩
theorem wpList_value {rest : List Oper} {s : Sem Value} {v : Value} (hgd : op.guard = none) (ho : execOp a.eval op = (do pure (.value (← s)))) (h : s.run P w = .ok v w') (hk : wpList P ops Q rest (a.put op.dst v) w') : wpList P ops Q (op :: rest) a w :=
  wpList_plain hgd fun _ hK => wp_value ho h (hK _ _ hk)
theorem wpList_unit {rest : List Oper} {s : Sem Unit} (hgd : op.guard = none) (ho : execOp a.eval op = (do s; pure .skip)) (h : s.run P w = .ok () w') (hk : wpList P ops Q rest (a.put op.dst undef) w') : wpList P ops Q (op :: rest) a w :=
  wpList_plain hgd fun _ hK => wp_unit ho h (hK _ _ hk)
theorem wpList_storeNew {rest : List Oper} (hgd : op.guard = none) (ty : TypeId) (x y : Operand) (ho : op.op = .store ty x y)
    (w0 : World) (c cells : Array Value) (hx : a.eval x = .pointer (some ⟨w0.heap.size, 0, none⟩)) (hy : a.eval y = .agg cells)
    (hi : (P.info? ty).map (·.size) = some cells.size) (hs : c.size = cells.size) (h1 : cells.all (·.oneCell') = true)
    (h : wpList P ops Q rest (a.put op.dst undef) (w0.alloc (.cells cells ty))) : wpList P ops Q (op :: rest) a (w0.alloc (.cells c ty)) :=
  wpList_plain hgd fun _ hK => by
    unfold Oper.wp execOp
    simp only [ho, hx, hy, Sem.run_bind, Sem.run_pure, run_storeAt_new w0 ty c cells hi hs h1, Result.andThen_ok]
    exact hK _ _ h
end

set_option maxHeartbeats 400000 in
set_option maxRecDepth 100000 in
theorem read_ok (p S n c k : Nat) (l : Int) (cs : List Value) (w : World) (h0 : w.cell? ⟨p, 0, none⟩ = some (.slice (some ⟨S, 0, none⟩) n c)) (h2 : w.cell? ⟨p, 2, none⟩ = some (.int .i64 l)) (hl : (l == 0) = false) (hk2 : (k : Int) < n)
    (hcs : cs.length = 32) (h1 : ∀ v ∈ cs, v.oneCell' = true) (hr : w.rangeAt S (k * 32) cs) :
    Calls Try.prog 40 #[.pointer (some ⟨p, 0, none⟩), .int .i64 k] w fun e w' => e = .returned (.tuple #[.slice (some ⟨w.heap.size, 0, none⟩) 32 32, .int .i64 0]) ∧ w' = w.alloc (.cells cs.toArray 100) := by
  have hk : (0 : Int) ≤ (k : Int) := Int.natCast_nonneg _
  have hi : (Try.prog.info? 100).map (·.size) = some cs.length := by rw [size68, hcs]
  have hi2 : (Try.prog.info? 100).map (·.size) = some cs.toArray.size := by rw [size68]; simp [hcs]
  have hall := all_oneCell_toArray h1
  go_enter Try.func40, Try.ntmps40
  go_wp2_with (first | (go_at_call 55; refine (reach_ok p S n c l k _ ‹_› ‹_› hl hk hk2).mono ?_; rintro e w' ⟨rfl, rfl⟩) | (refine wpList_load_mid rfl 100 _ rfl S (k * 32) rfl cs _ hr Try.underlying100 rfl hi ?_) | (refine wpList_storeNew rfl 100 _ _ rfl _ _ cs.toArray rfl rfl hi2 (by simp [hcs]) hall ?_))
  go_ret2
  exact ⟨rfl, rfl⟩
end Go.Proofs.Ytpoakkdkibameaa
namespace Go.Proofs.Ytpoakkdkibameaa
open Go.RowKit
set_option linter.unusedSimpArgs false
set_option linter.unusedVariables false

theorem info71 : (Try.prog.info? 124).map (fun i => (i.zero, i.size, i.bytes)) = some (some (.agg (wrL 0 (fun _ => 0) (fun _ => 0)).toArray), 65, 72) := by kernel_rfl
theorem arrayAt68 (a : Addr) (bc : Nat) (w : World) : (Instr.arrayAt 100 (.slice (some a) 32 bc)).run Try.prog w = .ok (.pointer (some a)) w := by kernel_rfl
theorem alloc71 (w : World) : (Instr.alloc 124 true (.tuple #[])).run Try.prog w = .ok (.pointer (some ⟨w.heap.size, 0, none⟩)) (w.alloc (.cells (wrL 0 (fun _ => 0) (fun _ => 0)).toArray 124)) := by kernel_rfl
theorem slice71 (s : Int) (f g : Nat → Int) (w : World) : (Instr.buildSlice 73 1 #[(0, .agg (wrL s f g).toArray)]).run Try.prog w = .ok (.slice (some ⟨w.heap.size, 0, none⟩) 1 1) (w.alloc (.cells (wrL s f g).toArray 124)) := by kernel_rfl

theorem load63 (a : Addr) (v : Value) (w : World) (h : w.cell? a = some v) : (Instr.loadAt 73 (.pointer (some a))).run Try.prog w = .ok v w := by go_simp
set_option maxRecDepth 100000 in
set_option maxHeartbeats 1600000 in
/-- Write, up to the disk's age: the sector holds the new bytes, the write is behind the others; of the rest nothing has turned. -/
theorem write_core (p S n c k g o bc m B : Nat) (l : Int) (pv : Value) (old new wr xs : List Value) (w : World) (R : Ending → World → Prop)
    (h0 : w.cell? ⟨p, 0, none⟩ = some (.slice (some ⟨S, 0, none⟩) n c)) (h1 : w.cell? ⟨p, 1, none⟩ = some pv) (h2 : w.cell? ⟨p, 2, none⟩ = some (.int .i64 l)) (hf1 : w.frozen? ⟨p, 1, none⟩ = false) (hl : (l == 0) = false) (hk2 : (k : Int) < n)
    (lo : old.length = 32) (ln : new.length = 32) (lw : wr.length = 65) (on : ∀ v ∈ new, v.oneCell' = true) (ow : ∀ v ∈ wr, v.oneCell' = true) (hwn : wr.drop 33 = new)
    (hold : w.rangeAt S (k * 32) old) (hnew : w.rangeAt g o new) (ht : w.there S (k * 32) 32) (hpS : p ≠ S)
    (hown : w.ownsRow B 124 65 pv m xs) (ap : pv.ownBlock ≠ some p) (aS : pv.ownBlock ≠ some S) (hB : B ≤ w.heap.size) (hm : m + 1 ≤ maxLen) (hby : (m + 1) * 72 ≤ 140737488355328)
    (hb : ∀ w, (Instr.build 124 #[(0, .int .i64 k), (1, .agg old.toArray), (2, .agg new.toArray)]).run Try.prog w = .ok (.agg wr.toArray) w)
    (hbs : ∀ w, (Instr.buildSlice 73 1 #[(0, .agg wr.toArray)]).run Try.prog w = .ok (.slice (some ⟨w.heap.size, 0, none⟩) 1 1) (w.alloc (.cells wr.toArray 124)))
    (hrest : ∀ (gg cap : Nat) (w1 w3 : World), Only (fun i => i = S) w w1 → w1.rangeAt S (k * 32) new → (∀ o' cs, w.rangeAt S o' cs → o' + cs.length ≤ k * 32 ∨ k * 32 + 32 ≤ o' → w1.rangeAt S o' cs) → (∀ o' q, w.there S o' q → w1.there S o' q) →
        w1.grownBy w3 pv.ownBlock → w3.ownsRow B 124 65 (.slice (some ⟨gg, 0, none⟩) (m + 1) cap) (m + 1) (xs ++ wr) → (pv.ownBlock = some gg ∨ w.heap.size ≤ gg) → gg < w3.heap.size →
        Calls Try.prog 69 #[.pointer (some ⟨p, 0, none⟩)] (w3.setCell ⟨p, 1, none⟩ (.slice (some ⟨gg, 0, none⟩) (m + 1) cap)) fun e w' => e = .returned (.tuple #[]) ∧ R (.returned (.int .i64 0)) w') :
    Calls Try.prog 53 #[.pointer (some ⟨p, 0, none⟩), .int .i64 k, .slice (some ⟨g, o, none⟩) 32 bc] w R := by
  have hk : (0 : Int) ≤ (k : Int) := Int.natCast_nonneg _
  have hu := Try.underlying100
  have hu71 := Try.underlying124
  have hio : (Try.prog.info? 100).map (·.size) = some old.length := by rw [size68, lo]
  have hin : (Try.prog.info? 100).map (·.size) = some new.length := by rw [size68, ln]
  have hiw : (Try.prog.info? 124).map (·.size) = some wr.length := by rw [size71, lw]
  have hsa := arrayAt68
  have lp := World.block_lt_of_cell? w _ h0
  have lS : S < w.heap.size := by
    obtain ⟨u, hu'⟩ := Option.isSome_iff_exists.1 (ht 0 (by omega)).1
    exact World.block_lt_of_cell? w _ hu'
  obtain ⟨i0, hi0, hz0, hz1, hz2⟩ := info_parts info71
  have aB0 : ∀ q, pv.ownBlock = some q → q < w.heap.size := fun q hq => (hown.lt q hq).2
  have HR : Hid _ := hrest
  clear hrest
  go_enter Try.func53, Try.ntmps53
  go_wp2_with (first | (go_at_call 55; refine (reach_ok p S n c l k _ ‹_› ‹_› hl hk hk2).mono ?_; rintro e wq ⟨rfl, hwq⟩; have hwq2 := hwq.symm; clear hwq; subst hwq2))
  refine wp_region_noPanic ?_
  refine wp_region_held_drew (S := fun w' => w'.cell? ⟨p, 0, none⟩ = some (.slice (some ⟨S, 0, none⟩) n c) ∧ w'.rangeAt S (k * 32) old ∧ w'.rangeAt g o new) (by kernel_rfl) ?_ (fun hHeld => ?_)
  · exact ⟨by simpa using h0, by simpa using hold, by simpa using hnew⟩
  refine wpAnyH_take (i := 0) (v := .int .i64 k) rfl (by kernel_rfl) (by kernel_rfl) (by kernel_rfl) (fun _ _ _ h => h) (Or.inl ⟨by rfl, fun wx hSw => by go_simp⟩) hHeld ?_
  simp only [Act.put, List.setIfInBounds_toArray, List.set_cons_zero, List.set_cons_succ, List.getElem_toArray, List.getElem_cons_zero, List.getElem_cons_succ]
  refine wpAnyH_take (i := 1) (v := .pointer (some ⟨p, 0, none⟩)) rfl (by kernel_rfl) (by kernel_rfl) (by kernel_rfl) (fun _ _ _ h => h) (Or.inl ⟨by rfl, fun wx hSw => by go_simp⟩) hHeld ?_
  simp only [Act.put, List.setIfInBounds_toArray, List.set_cons_zero, List.set_cons_succ, List.getElem_toArray, List.getElem_cons_zero, List.getElem_cons_succ]
  refine wpAnyH_take (i := 2) (v := .pointer (some ⟨p, 0, none⟩)) rfl (by kernel_rfl) (by kernel_rfl) (by kernel_rfl) (fun _ _ _ h => h) (Or.inl ⟨by rfl, fun wx hSw => by go_simp⟩) hHeld ?_
  simp only [Act.put, List.setIfInBounds_toArray, List.set_cons_zero, List.set_cons_succ, List.getElem_toArray, List.getElem_cons_zero, List.getElem_cons_succ]
  refine wpAnyH_take (i := 3) (v := .pointer (some ⟨p, 0, none⟩)) rfl (by kernel_rfl) (by kernel_rfl) (by kernel_rfl) (fun _ _ _ h => h) (Or.inl ⟨by rfl, fun wx hSw => by go_simp⟩) hHeld ?_
  simp only [Act.put, List.setIfInBounds_toArray, List.set_cons_zero, List.set_cons_succ, List.getElem_toArray, List.getElem_cons_zero, List.getElem_cons_succ]
  refine wpAnyH_take (i := 4) (v := .slice (some ⟨S, 0, none⟩) n c) rfl (by kernel_rfl) (by kernel_rfl) (by kernel_rfl) (fun _ _ _ h => h) (Or.inl ⟨by rfl, fun wx hSw => by go_simp⟩) hHeld ?_
  simp only [Act.put, List.setIfInBounds_toArray, List.set_cons_zero, List.set_cons_succ, List.getElem_toArray, List.getElem_cons_zero, List.getElem_cons_succ]
  refine wpAnyH_take (i := 5) (v := .int .i64 k) rfl (by kernel_rfl) (by kernel_rfl) (by kernel_rfl) (fun _ _ _ h => h) (Or.inl ⟨by rfl, fun wx hSw => by go_simp⟩) hHeld ?_
  simp only [Act.put, List.setIfInBounds_toArray, List.set_cons_zero, List.set_cons_succ, List.getElem_toArray, List.getElem_cons_zero, List.getElem_cons_succ]
  refine wpAnyH_take (i := 6) (v := .pointer (some ⟨S, k * 32, none⟩)) rfl (by kernel_rfl) (by kernel_rfl) (by kernel_rfl) (fun _ _ _ h => h) (Or.inl ⟨by rfl, fun wx hSw => by go_simp⟩) hHeld ?_
  simp only [Act.put, List.setIfInBounds_toArray, List.set_cons_zero, List.set_cons_succ, List.getElem_toArray, List.getElem_cons_zero, List.getElem_cons_succ]
  refine wpAnyH_take (i := 7) (v := .agg old.toArray) rfl (by kernel_rfl) (by kernel_rfl) (by kernel_rfl) (fun _ _ _ h => h) (yieldsIf_load_mid (by rfl) 100 _ rfl S (k * 32) rfl old _ (fun wx hSw => hSw.2.1) hu rfl hio) hHeld ?_
  simp only [Act.put, List.setIfInBounds_toArray, List.set_cons_zero, List.set_cons_succ, List.getElem_toArray, List.getElem_cons_zero, List.getElem_cons_succ]
  refine wpAnyH_take (i := 8) (v := .slice (some ⟨g, o, none⟩) 32 bc) rfl (by kernel_rfl) (by kernel_rfl) (by kernel_rfl) (fun _ _ _ h => h) (Or.inl ⟨by rfl, fun wx hSw => by go_simp⟩) hHeld ?_
  simp only [Act.put, List.setIfInBounds_toArray, List.set_cons_zero, List.set_cons_succ, List.getElem_toArray, List.getElem_cons_zero, List.getElem_cons_succ]
  refine wpAnyH_take (i := 9) (v := .pointer (some ⟨g, o, none⟩)) rfl (by kernel_rfl) (by kernel_rfl) (by kernel_rfl) (fun _ _ _ h => h) (Or.inl ⟨by rfl, fun wx hSw => by go_simp⟩) hHeld ?_
  simp only [Act.put, List.setIfInBounds_toArray, List.set_cons_zero, List.set_cons_succ, List.getElem_toArray, List.getElem_cons_zero, List.getElem_cons_succ]
  refine wpAnyH_take (i := 10) (v := .agg new.toArray) rfl (by kernel_rfl) (by kernel_rfl) (by kernel_rfl) (fun _ _ _ h => h) (yieldsIf_load_mid (by rfl) 100 _ rfl g o rfl new _ (fun wx hSw => hSw.2.2) hu rfl hin) hHeld ?_
  simp only [Act.put, List.setIfInBounds_toArray, List.set_cons_zero, List.set_cons_succ, List.getElem_toArray, List.getElem_cons_zero, List.getElem_cons_succ]
  refine wpAnyH_take (i := 11) (v := .agg wr.toArray) rfl (by kernel_rfl) (by kernel_rfl) (by kernel_rfl) (fun _ _ _ h => h) (yields_value (s := Instr.build 124 #[(0, .int .i64 k), (1, .agg old.toArray), (2, .agg new.toArray)]) (by rfl) (by simp only [List.getElem_toArray, List.getElem_cons_succ, List.getElem_cons_zero, execOp, List.map_toArray, List.map_cons, List.map_nil]; rfl) (fun wx _ => hb wx)) hHeld ?_
  simp only [Act.put, List.setIfInBounds_toArray, List.set_cons_zero, List.set_cons_succ, List.getElem_toArray, List.getElem_cons_zero, List.getElem_cons_succ]
  refine wpAnyH_ready (rs := [12]) (by kernel_rfl) (by simp) ?_
  refine AllReadyH.cons rfl (fun K hK => ?_) AllReadyH.nil
  rw [if_pos (by rfl)]
  refine wp_value rfl (alloc71 _) ?_
  refine hK.out _ _ ⟨World.cell?_alloc_some _ _ _ (by simp [h0]) |>.trans (by simpa using h0), World.rangeAt_alloc (by simpa using hold) _, World.rangeAt_alloc (by simpa using hnew) _⟩ (fun hHeld => ?_)
  clear hK K
  simp only [Act.put, List.setIfInBounds_toArray, List.set_cons_zero, List.set_cons_succ, List.getElem_toArray, List.getElem_cons_zero, List.getElem_cons_succ]
  refine wpAnyH_ready (rs := [13]) (by kernel_rfl) (by simp) ?_
  refine AllReadyH.cons rfl (fun K hK => ?_) AllReadyH.nil
  rw [if_pos (by rfl)]
  refine wp_unit rfl (run_storeAt_new _ 124 _ wr.toArray (by rw [size71]; simp [lw]) (by simp [lw, wrL_length]) (all_oneCell_toArray ow)) ?_
  refine hK.out _ _ ⟨World.cell?_alloc_some _ _ _ (by simp [h0]) |>.trans (by simpa using h0), World.rangeAt_alloc (by simpa using hold) _, World.rangeAt_alloc (by simpa using hnew) _⟩ (fun hHeld => ?_)
  clear hK K hHeld
  simp only [Act.put, List.setIfInBounds_toArray, List.set_cons_zero, List.set_cons_succ, List.getElem_toArray, List.getElem_cons_zero, List.getElem_cons_succ]
  refine wpAnyH_done (by kernel_rfl) ?_ _
  refine NoPanic.normal ?_
  obtain ⟨w0, hw0⟩ : ∃ x, x = w.drew.alloc (.cells wr.toArray 124) := ⟨_, rfl⟩
  obtain ⟨N, hN⟩ : ∃ x, x = w.heap.size := ⟨_, rfl⟩
  have o0 : Only (fun i => i = S) w w0 := by rw [hw0]; exact (Only.refl _ w).drew.alloc _
  have a0 : w0.cell? ⟨p, 0, none⟩ = some (.slice (some ⟨S, 0, none⟩) n c) := o0.cell h0 hpS
  have a1 : w0.cell? ⟨p, 1, none⟩ = some pv := o0.cell h1 hpS
  have af : w0.frozen? ⟨p, 1, none⟩ = false := (o0.frozen lp hpS).trans hf1
  have at0 : ∀ o' q, w.there S o' q → w0.there S o' q := fun o' q h => by rw [hw0]; exact World.there_alloc (by simpa using h) _
  have ar0 : ∀ o' cs, w.rangeAt S o' cs → w0.rangeAt S o' cs := fun o' cs h => by rw [hw0]; exact World.rangeAt_alloc (by simpa using h) _
  have hNb : w0.heap[N]? = some (.cells wr.toArray 124 (0, 0)) := by rw [hw0, hN]; exact heap_alloc_new w.drew _
  have aw : w0.rangeAt N 0 wr := fun j v hv => by rw [cell_of_row w0 N (0 + j) _ _ _ hNb]; simpa using hv
  have an : w0.rangeAt N 33 new := fun j v hv => by
    rw [cell_of_row w0 N (33 + j) _ _ _ hNb]
    rw [← hwn, List.getElem?_drop] at hv
    simpa using hv
  have hNl : N < w0.heap.size := by rw [hw0, hN]; simp
  have own0 : w0.ownsRow B 124 65 pv m xs := by rw [hw0]; exact (hown.drew).alloc _
  have hNS : N ≠ S := by omega
  have hNp : N ≠ p := by omega
  have hNw : w.drew.heap.size = N := by rw [hN]; rfl
  have hNge : w.heap.size ≤ N := by omega
  rw [← hw0, hNw]
  clear hw0 hNw hN hNb
  have O0 : Hid (Only (fun i => i = S) w w0) := o0
  have AT : Hid (∀ o' q, w.there S o' q → w0.there S o' q) := at0
  have AR : Hid (∀ o' cs, w.rangeAt S o' cs → w0.rangeAt S o' cs) := ar0
  have ht0 := at0 _ _ ht
  clear o0 at0 ar0 hb h0 h1 hold hnew ht hown hf1
  go_wp2
  go_region_held3 (fun w' => w'.cell? ⟨p, 0, none⟩ = some (.slice (some ⟨S, 0, none⟩) n c) ∧ w'.rangeAt N 33 new ∧ w'.there S (k * 32) 32)
    (first
      | go_keep_ranges
      | (go_split_ands
         refine ⟨(World.cell?_setCells_out _ _ _ _ _ (fun h => absurd h hpS)).trans (by assumption), World.rangeAt_setCells_apart (by assumption) _ _ _ (Or.inl hNS), World.there_setCells (by assumption) _ _ _⟩)) (fail)
  obtain ⟨w1, hw1⟩ : ∃ x, x = w0.drew.setCells S (k * 32) new := ⟨_, rfl⟩
  have o1 : Only (fun i => i = S) w w1 := by rw [hw1]; exact O0.out.drew.setCells _ _ _ (fun _ => rfl)
  have b1 : w1.cell? ⟨p, 1, none⟩ = some pv := by rw [hw1]; exact (World.cell?_setCells_out _ _ _ _ _ (fun h => absurd h hpS)).trans (by simpa using a1)
  have bf : w1.frozen? ⟨p, 1, none⟩ = false := by rw [hw1, World.frozen?_setCells]; simpa using af
  have bw : w1.rangeAt N 0 wr := by rw [hw1]; exact World.rangeAt_setCells_apart (by simpa using aw) _ _ _ (Or.inl hNS)
  have bS : w1.rangeAt S (k * 32) new := by rw [hw1]; exact World.rangeAt_setCells_same _ _ _ _ (by rw [ln]; simpa using ht0)
  have bA : ∀ o' cs, w.rangeAt S o' cs → o' + cs.length ≤ k * 32 ∨ k * 32 + 32 ≤ o' → w1.rangeAt S o' cs := fun o' cs h hx => by
    rw [hw1]; exact World.rangeAt_setCells_apart (by simpa using AR.out o' cs h) _ _ _ (by rw [ln]; omega)
  have bT : ∀ o' q, w.there S o' q → w1.there S o' q := fun o' q h => by rw [hw1]; exact World.there_setCells (by simpa using AT.out o' q h) _ _ _
  have own1 : w1.ownsRow B 124 65 pv m xs := by
    have oo : Only (fun i => i = S) w0 w1 := by rw [hw1]; exact (Only.refl _ w0).drew.setCells _ _ _ (fun _ => rfl)
    exact oo.owns own0 (fun q hq e => aS (by rw [hq, e]))
  have hNl1 : N < w1.heap.size := by rw [hw1, (setCells_same S new (k * 32) w0.drew).2.2.2]; exact hNl
  have aB : ∀ q, pv.ownBlock = some q → q < w.heap.size := aB0
  have hB1 : B ≤ w1.heap.size := by have := o1.size; omega
  rw [← hw1]
  have O1 : Hid (Only (fun i => i = S) w w1) := o1
  clear hw1 o1 O0 AT AR ht0 own0 aw an a0 a1 af hsa
  go_wp2
  refine wp_region_noPanic ?_
  refine wp_region_held_drew (S := fun w' => w'.rangeAt N 0 wr) (by kernel_rfl) (by simpa using bw) (fun hHeld => ?_)
  refine wpAnyH_take (i := 0) (v := .pointer (some ⟨p, 0, none⟩)) rfl (by kernel_rfl) (by kernel_rfl) (by kernel_rfl) (fun _ _ _ h => h) (Or.inl ⟨by rfl, fun wx hSw => by go_simp⟩) hHeld ?_
  simp only [Act.put, List.setIfInBounds_toArray, List.set_cons_zero, List.set_cons_succ, List.getElem_toArray, List.getElem_cons_zero, List.getElem_cons_succ]
  refine wpAnyH_take (i := 1) (v := .pointer (some ⟨p, 0, none⟩)) rfl (by kernel_rfl) (by kernel_rfl) (by kernel_rfl) (fun _ _ _ h => h) (Or.inl ⟨by rfl, fun wx hSw => by go_simp⟩) hHeld ?_
  simp only [Act.put, List.setIfInBounds_toArray, List.set_cons_zero, List.set_cons_succ, List.getElem_toArray, List.getElem_cons_zero, List.getElem_cons_succ]
  refine wpAnyH_take (i := 2) (v := .pointer (some ⟨p, 0, none⟩)) rfl (by kernel_rfl) (by kernel_rfl) (by kernel_rfl) (fun _ _ _ h => h) (Or.inl ⟨by rfl, fun wx hSw => by go_simp⟩) hHeld ?_
  simp only [Act.put, List.setIfInBounds_toArray, List.set_cons_zero, List.set_cons_succ, List.getElem_toArray, List.getElem_cons_zero, List.getElem_cons_succ]
  refine wpAnyH_take (i := 3) (v := .pointer (some ⟨p, 1, none⟩)) rfl (by kernel_rfl) (by kernel_rfl) (by kernel_rfl) (fun _ _ _ h => h) (Or.inl ⟨by rfl, fun wx hSw => by go_simp⟩) hHeld ?_
  simp only [Act.put, List.setIfInBounds_toArray, List.set_cons_zero, List.set_cons_succ, List.getElem_toArray, List.getElem_cons_zero, List.getElem_cons_succ]
  refine wpAnyH_take (i := 5) (v := .agg wr.toArray) rfl (by kernel_rfl) (by kernel_rfl) (by kernel_rfl) (fun _ _ _ h => h) (yieldsIf_load_mid (by rfl) 124 _ rfl N 0 rfl wr _ (fun wx hSw => hSw) hu71 rfl hiw) hHeld ?_
  simp only [Act.put, List.setIfInBounds_toArray, List.set_cons_zero, List.set_cons_succ, List.getElem_toArray, List.getElem_cons_zero, List.getElem_cons_succ]
  refine wpAnyH_ready (rs := [4, 6]) (by kernel_rfl) (by simp) ?_
  refine AllReadyH.cons rfl (fun K hK => ?_) (AllReadyH.cons rfl (fun K hK => ?_) AllReadyH.nil)
  · rw [if_pos (by rfl)]
    refine wp_value rfl (load63 ⟨p, 1, none⟩ pv w1.drew (by simpa using b1)) ?_
    refine hK.out _ _ (by simpa using bw) (fun hHeld => ?_)
    clear hK K
    simp only [Act.put, List.setIfInBounds_toArray, List.set_cons_zero, List.set_cons_succ, List.getElem_toArray, List.getElem_cons_zero, List.getElem_cons_succ]
    refine wpAnyH_ready (rs := [6]) (by kernel_rfl) (by simp) ?_
    refine AllReadyH.cons rfl (fun K hK => ?_) AllReadyH.nil
    rw [if_pos (by rfl)]
    refine wp_value (s := Instr.buildSlice 73 1 #[(0, .agg wr.toArray)]) (by simp only [List.getElem_toArray, List.getElem_cons_succ, List.getElem_cons_zero, execOp, List.map_toArray, List.map_cons, List.map_nil]; rfl) (hbs _) ?_
    refine hK.out _ _ (World.rangeAt_alloc (by simpa using bw) _) (fun hHeld => ?_)
    clear hK K
    simp only [Act.put, List.setIfInBounds_toArray, List.set_cons_zero, List.set_cons_succ, List.getElem_toArray, List.getElem_cons_zero, List.getElem_cons_succ]
    refine wpAnyH_ready (rs := [7]) (by kernel_rfl) (by simp) ?_
    refine AllReadyH.cons rfl (fun K hK => ?_) AllReadyH.nil
    refine step_append_lies _ (by rfl) _ _ _ (by rfl) B 124 i0 _ 65 72 Try.underlying73 hi0 hz0 hz1 hz2 (by simp [wrL_length, Value.cells]) (by omega) pv m xs (by rfl) ((own1.drew).alloc _)
        ⟨w1.drew.heap.size, 0, none⟩ 1 1 wr (by rfl) (by simp [lw]) (World.news_of_block (cs := wr.toArray) (t := 124) (fr := (0, 0)) (heap_alloc_new w1.drew _)) ow
        (by omega) hm hby (by simp; omega) (w1.heap.size + 1) (by simp) ?_
    intro gg cap w3 own3 hgrow hat hlt
    have gN : some N ≠ pv.ownBlock := fun e => by have := aB N e.symm; omega
    have hgr : w1.grownBy w3 pv.ownBlock := ⟨hgrow.os, hgrow.tape, hgrow.output, by have := hgrow.size; simp at this; omega, fun q hq hn => (hgrow.block q (by simp; omega) hn).trans (Below.heap_alloc _ _ _ hq)⟩
    refine hK.out _ _ (fun j v hv => hgr.cell (a := ⟨N, 0 + j, none⟩) (bw j v hv) gN) (fun hHeld => ?_)
    clear hK K
    simp only [Act.put, List.setIfInBounds_toArray, List.set_cons_zero, List.set_cons_succ, List.getElem_toArray, List.getElem_cons_zero, List.getElem_cons_succ]
    refine wpAnyH_take (i := 8) (v := .pointer (some ⟨p, 0, none⟩)) rfl (by kernel_rfl) (by kernel_rfl) (by kernel_rfl) (fun _ _ _ h => h) (Or.inl ⟨by rfl, fun wx hSw => by go_simp⟩) hHeld ?_
    simp only [Act.put, List.setIfInBounds_toArray, List.set_cons_zero, List.set_cons_succ, List.getElem_toArray, List.getElem_cons_zero, List.getElem_cons_succ]
    refine wpAnyH_take (i := 9) (v := .pointer (some ⟨p, 1, none⟩)) rfl (by kernel_rfl) (by kernel_rfl) (by kernel_rfl) (fun _ _ _ h => h) (Or.inl ⟨by rfl, fun wx hSw => by go_simp⟩) hHeld ?_
    simp only [Act.put, List.setIfInBounds_toArray, List.set_cons_zero, List.set_cons_succ, List.getElem_toArray, List.getElem_cons_zero, List.getElem_cons_succ]
    refine wpAnyH_ready (rs := [10]) (by kernel_rfl) (by simp) ?_
    refine AllReadyH.cons rfl (fun K hK => ?_) AllReadyH.nil
    rw [if_pos (by rfl)]
    have d1 : w3.cell? ⟨p, 1, none⟩ = some pv := hgr.cell b1 (Ne.symm ap)
    have df : w3.frozen? ⟨p, 1, none⟩ = false := (hgr.frozen_far ⟨p, 1, none⟩ (World.block_lt_of_cell? w1 _ b1) (Ne.symm ap)).trans bf
    refine wp_unit (w' := w3.setCell ⟨p, 1, none⟩ (.slice (some ⟨gg, 0, none⟩) (m + 1) cap)) rfl (s := Instr.storeAt 73 (.pointer (some ⟨p, 1, none⟩)) (.slice (some ⟨gg, 0, none⟩) (m + 1) cap)) (by go_simp) ?_
    refine hK.out _ _ (fun j v hv => (World.cell?_setCell_other _ _ _ _ (fun e => hNp (by injection e with e; exact e.symm))).trans (hHeld j v hv)) (fun hHeld => ?_)
    clear hK K
    simp only [Act.put, List.setIfInBounds_toArray, List.set_cons_zero, List.set_cons_succ, List.getElem_toArray, List.getElem_cons_zero, List.getElem_cons_succ]
    refine wpAnyH_done (by kernel_rfl) ?_ _
    refine NoPanic.normal ?_
    have HC := HR.out gg cap w1 w3 O1.out bS bA bT hgr own3 (hat.imp id (fun e => by omega)) hlt
    go_wp2_with (go_at_call 69; refine HC.mono ?_; rintro e wq ⟨rfl, hRq⟩)
    exact hRq
  · rw [if_pos (by rfl)]
    refine wp_value (s := Instr.buildSlice 73 1 #[(0, .agg wr.toArray)]) (by simp only [List.getElem_toArray, List.getElem_cons_succ, List.getElem_cons_zero, execOp, List.map_toArray, List.map_cons, List.map_nil]; rfl) (hbs _) ?_
    refine hK.out _ _ (World.rangeAt_alloc (by simpa using bw) _) (fun hHeld => ?_)
    clear hK K
    simp only [Act.put, List.setIfInBounds_toArray, List.set_cons_zero, List.set_cons_succ, List.getElem_toArray, List.getElem_cons_zero, List.getElem_cons_succ]
    refine wpAnyH_ready (rs := [4]) (by kernel_rfl) (by simp) ?_
    refine AllReadyH.cons rfl (fun K hK => ?_) AllReadyH.nil
    rw [if_pos (by rfl)]
    refine wp_value rfl (load63 ⟨p, 1, none⟩ pv (w1.drew.alloc (.cells wr.toArray 124)) ((World.cell?_alloc_some _ _ _ (by simp [b1])).trans (by simpa using b1))) ?_
    refine hK.out _ _ (World.rangeAt_alloc (by simpa using bw) _) (fun hHeld => ?_)
    clear hK K
    simp only [Act.put, List.setIfInBounds_toArray, List.set_cons_zero, List.set_cons_succ, List.getElem_toArray, List.getElem_cons_zero, List.getElem_cons_succ]
    refine wpAnyH_ready (rs := [7]) (by kernel_rfl) (by simp) ?_
    refine AllReadyH.cons rfl (fun K hK => ?_) AllReadyH.nil
    refine step_append_lies _ (by rfl) _ _ _ (by rfl) B 124 i0 _ 65 72 Try.underlying73 hi0 hz0 hz1 hz2 (by simp [wrL_length, Value.cells]) (by omega) pv m xs (by rfl) ((own1.drew).alloc _)
        ⟨w1.drew.heap.size, 0, none⟩ 1 1 wr (by rfl) (by simp [lw]) (World.news_of_block (cs := wr.toArray) (t := 124) (fr := (0, 0)) (heap_alloc_new w1.drew _)) ow
        (by omega) hm hby (by simp; omega) (w1.heap.size + 1) (by simp) ?_
    intro gg cap w3 own3 hgrow hat hlt
    have gN : some N ≠ pv.ownBlock := fun e => by have := aB N e.symm; omega
    have hgr : w1.grownBy w3 pv.ownBlock := ⟨hgrow.os, hgrow.tape, hgrow.output, by have := hgrow.size; simp at this; omega, fun q hq hn => (hgrow.block q (by simp; omega) hn).trans (Below.heap_alloc _ _ _ hq)⟩
    refine hK.out _ _ (fun j v hv => hgr.cell (a := ⟨N, 0 + j, none⟩) (bw j v hv) gN) (fun hHeld => ?_)
    clear hK K
    simp only [Act.put, List.setIfInBounds_toArray, List.set_cons_zero, List.set_cons_succ, List.getElem_toArray, List.getElem_cons_zero, List.getElem_cons_succ]
    refine wpAnyH_take (i := 8) (v := .pointer (some ⟨p, 0, none⟩)) rfl (by kernel_rfl) (by kernel_rfl) (by kernel_rfl) (fun _ _ _ h => h) (Or.inl ⟨by rfl, fun wx hSw => by go_simp⟩) hHeld ?_
    simp only [Act.put, List.setIfInBounds_toArray, List.set_cons_zero, List.set_cons_succ, List.getElem_toArray, List.getElem_cons_zero, List.getElem_cons_succ]
    refine wpAnyH_take (i := 9) (v := .pointer (some ⟨p, 1, none⟩)) rfl (by kernel_rfl) (by kernel_rfl) (by kernel_rfl) (fun _ _ _ h => h) (Or.inl ⟨by rfl, fun wx hSw => by go_simp⟩) hHeld ?_
    simp only [Act.put, List.setIfInBounds_toArray, List.set_cons_zero, List.set_cons_succ, List.getElem_toArray, List.getElem_cons_zero, List.getElem_cons_succ]
    refine wpAnyH_ready (rs := [10]) (by kernel_rfl) (by simp) ?_
    refine AllReadyH.cons rfl (fun K hK => ?_) AllReadyH.nil
    rw [if_pos (by rfl)]
    have d1 : w3.cell? ⟨p, 1, none⟩ = some pv := hgr.cell b1 (Ne.symm ap)
    have df : w3.frozen? ⟨p, 1, none⟩ = false := (hgr.frozen_far ⟨p, 1, none⟩ (World.block_lt_of_cell? w1 _ b1) (Ne.symm ap)).trans bf
    refine wp_unit (w' := w3.setCell ⟨p, 1, none⟩ (.slice (some ⟨gg, 0, none⟩) (m + 1) cap)) rfl (s := Instr.storeAt 73 (.pointer (some ⟨p, 1, none⟩)) (.slice (some ⟨gg, 0, none⟩) (m + 1) cap)) (by go_simp) ?_
    refine hK.out _ _ (fun j v hv => (World.cell?_setCell_other _ _ _ _ (fun e => hNp (by injection e with e; exact e.symm))).trans (hHeld j v hv)) (fun hHeld => ?_)
    clear hK K
    simp only [Act.put, List.setIfInBounds_toArray, List.set_cons_zero, List.set_cons_succ, List.getElem_toArray, List.getElem_cons_zero, List.getElem_cons_succ]
    refine wpAnyH_done (by kernel_rfl) ?_ _
    refine NoPanic.normal ?_
    have HC := HR.out gg cap w1 w3 O1.out bS bA bT hgr own3 (hat.imp id (fun e => by omega)) hlt
    go_wp2_with (go_at_call 69; refine HC.mono ?_; rintro e wq ⟨rfl, hRq⟩)
    exact hRq

/-- The life behind a write or a barrier. -/
def aged (l : Int) : Int := if l = -1 then -1 else l - 1
theorem age_any (p : Nat) (l : Int) (w : World) (h2 : w.cell? ⟨p, 2, none⟩ = some (.int .i64 l)) (hf : w.frozen? ⟨p, 2, none⟩ = false) (hl : -1 ≤ l) (hl2 : l ≤ 9223372036854775807) :
    Calls Try.prog 69 #[.pointer (some ⟨p, 0, none⟩)] w fun e w' => e = .returned (.tuple #[]) ∧ w'.cell? ⟨p, 2, none⟩ = some (.int .i64 (aged l)) ∧ w'.frozen? ⟨p, 2, none⟩ = false ∧ (∀ a, a ≠ ⟨p, 2, none⟩ → w'.cell? a = w.cell? a) ∧ (∀ a, w'.frozen? a = w.frozen? a) ∧ Only (fun i => i = p) w w' := by
  by_cases e : l = -1
  · subst e
    refine (age_end p w h2).mono ?_
    rintro e w' ⟨rfl, rfl⟩
    exact ⟨rfl, h2, hf, fun _ _ => rfl, fun _ => rfl, Only.refl _ _⟩
  · refine (age_less p l w h2 hf (by omega) hl2).mono ?_
    rintro e' w' ⟨rfl, rfl⟩
    refine ⟨rfl, ?_, ?_, ?_, ?_, (Only.refl _ _).setCell _ _ (fun _ => rfl)⟩
    · rw [World.cell?_setCell_same _ _ _ h2]; simp [aged, e]
    · simpa using hf
    · intro a ha; exact World.cell?_setCell_other _ _ _ _ (fun h => ha h.symm)
    · intro a; simp

/-- Write on a disk that lives, at a sector that there is. -/
theorem write_ok (p S k g o bc B : Nat) (pv : Value) (d : DS) (f : Nat → Int) (w : World) (h : DiskAt w B p S pv d) (hl : d.life ≠ 0) (hk : k < d.n) (hf : w.rangeAt g o (secL f)) (hB : B ≤ w.heap.size) (hby : (d.pend.length + 1) * 72 ≤ 140737488355328) :
    Calls Try.prog 53 #[.pointer (some ⟨p, 0, none⟩), .int .i64 k, .slice (some ⟨g, o, none⟩) 32 bc] w fun e w' => e = .returned (.int .i64 0) ∧ ∃ pv', DiskAt w' B p S pv' { d with sec := upd d.sec k f, pend := d.pend ++ [⟨k, d.sec k, f⟩], life := aged d.life } ∧ Only (diskB p S pv) w w' ∧ (∀ b, pv'.ownBlock = some b → pv.ownBlock = some b ∨ w.heap.size ≤ b) := by
  obtain ⟨c, hc0⟩ := h.c0
  have hlt := h.lt
  refine write_core p S d.n c k g o bc d.pend.length B d.life pv (secL (d.sec k)) (secL f) (wrL k (d.sec k) f) (wrsL d.pend) w _ hc0 h.c1 h.c2 h.f1 (by simpa using hl) (by omega) (secL_length _) (secL_length _) (wrL_length _ _ _) (secL_one _) (wrL_one _ _ _)
    (by simp [wrL, List.drop_append, secL_length]) (h.secs k hk).1 hf (h.secs k hk).2 h.pS h.own h.hp h.hS hB (by unfold maxLen; omega) hby (fun w => build_wr _ _ _ w) (fun w => slice71 _ _ _ w) ?_
  intro gg cap w1 w3 o1 r1 ra rt hg own3 hat hlt3
  have hpS := h.pS
  have o3 : Only (diskB p S pv) w w3 := (o1.mono (fun q _ e => .inr (.inl e))).grown hg (fun q e _ => .inr (.inr e))
  have np : some p ≠ pv.ownBlock := Ne.symm h.hp
  have nS : some S ≠ pv.ownBlock := Ne.symm h.hS
  have e0 : w3.cell? ⟨p, 0, none⟩ = _ := hg.cell (o1.cell hc0 hpS) np
  have e1 : w3.cell? ⟨p, 1, none⟩ = _ := hg.cell (o1.cell h.c1 hpS) np
  have e2 : w3.cell? ⟨p, 2, none⟩ = _ := hg.cell (o1.cell h.c2 hpS) np
  have lp : p < w.heap.size := World.block_lt_of_cell? w _ h.c1
  have lp1 : p < w1.heap.size := Nat.lt_of_lt_of_le lp o1.size
  have g1 : w3.frozen? ⟨p, 1, none⟩ = false := (hg.frozen_far ⟨p, 1, none⟩ lp1 np).trans ((o1.frozen lp hpS).trans h.f1)
  have g2 : w3.frozen? ⟨p, 2, none⟩ = false := (hg.frozen_far ⟨p, 2, none⟩ lp1 np).trans ((o1.frozen lp hpS).trans h.f2)
  have gp : gg ≠ p := fun e => by rcases hat with hat | hat; exact h.hp (by rw [hat, e]); omega
  have gS : gg ≠ S := fun e => by rcases hat with hat | hat; exact h.hS (by rw [hat, e]); have := hlt S (.inr (.inl rfl)); omega
  have o13 : Only (fun q => pv.ownBlock = some q) w1 w3 := (Only.refl _ w1).grown hg (fun q e _ => e)
  refine (age_any p d.life _ ((World.cell?_setCell_other _ _ _ _ (by simp)).trans e2) (by simpa using g2) h.l1 h.l2).mono ?_
  rintro e w' ⟨rfl, c2, f2, hcell, hfr, oA⟩
  have s1 : Only (fun i => i = p) w3 w' := ((Only.refl (fun i => i = p) w3).setCell _ _ (fun _ => rfl)).trans oA (fun _ _ e => e)
  refine ⟨rfl, rfl, .slice (some ⟨gg, 0, none⟩) (d.pend.length + 1) cap, ?_, o3.trans s1 (fun i _ e => .inl e), ?_⟩
  · exact { pB := h.pB, SB := h.SB, pS := h.pS
            c0 := ⟨c, by rw [hcell _ (by simp), World.cell?_setCell_other _ _ _ _ (by simp)]; exact e0⟩
            c1 := by rw [hcell _ (by simp), World.cell?_setCell_same _ _ _ e1]
            c2 := c2
            f1 := by rw [hfr]; simpa using g1
            f2 := f2
            secs := fun i hi => by
              have hr := (h.secs i hi).1
              have ht := (h.secs i hi).2
              refine ⟨s1.range (o13.range ?_ (fun e => h.hS e)) (fun e => hpS e.symm), s1.there (o13.there (rt _ _ ht) (fun e => h.hS e)) (fun e => hpS e.symm)⟩
              by_cases e : i = k
              · subst e; simpa [upd] using r1
              · simp only [upd, if_neg e]
                exact ra _ _ hr (by rw [secL_length]; omega)
            own := by
              have := s1.owns own3 (fun q hq e => gp (by simp [Value.ownBlock] at hq; omega))
              simpa [wrsL_snoc, Wr.cells] using this
            hp := by simpa [Value.ownBlock] using gp
            hS := by simpa [Value.ownBlock] using gS
            n1 := h.n1, n2 := h.n2
            at_ := fun x hx => by
              rcases List.mem_append.1 hx with hx | hx
              · exact h.at_ x hx
              · simp at hx; subst hx; exact hk
            l1 := by have := h.l1; simp only [aged]; split <;> omega
            l2 := by have := h.l2; simp only [aged]; split <;> omega }
  · intro b hb
    simp [Value.ownBlock] at hb
    subst hb
    exact hat
end Go.Proofs.Ytpoakkdkibameaa
namespace Go.Proofs.Ytpoakkdkibameaa
open Go.RowKit
set_option linter.unusedSimpArgs false
set_option linter.unusedVariables false

theorem info68 : (Try.prog.info? 100).map (fun i => (i.zero, i.size, i.bytes)) = some (some (.agg (secL (fun _ => 0)).toArray), 32, 32) := by kernel_rfl

set_option maxHeartbeats 400000 in
theorem new_bad (n : Int) (w : World) (h : n < 1 ∨ 8192 < n) :
    Calls Try.prog 24 #[.int .i64 n] w fun e w' => e = .returned (.tuple #[.pointer none, .int .i64 2]) ∧ w' = w := by
  rcases h with h | h
  · go_enter Try.func24, Try.ntmps24
    go_wp2
    go_ret2
    exact ⟨rfl, rfl⟩
  · have h' : ¬ n < 1 := by omega
    go_enter Try.func24, Try.ntmps24
    go_wp2
    go_ret2
    exact ⟨rfl, rfl⟩

set_option maxHeartbeats 400000 in
theorem new_core (n : Nat) (A : Array Value) (w : World) (h1 : (1 : Int) ≤ n) (h2 : (n : Int) ≤ 8192)
    (hmk : ∀ w, (Instr.makeSlice 72 (.int .i64 n) (.int .i64 n)).run Try.prog w = .ok (.slice (some ⟨w.heap.size, 0, none⟩) n n) (w.alloc (.cells A 100))) :
    Calls Try.prog 24 #[.int .i64 n] w fun e w' => e = .returned (.tuple #[.pointer (some ⟨w.heap.size + 1, 0, none⟩), .int .i64 0]) ∧
      w' = (w.alloc (.cells A 100)).alloc (.cells #[.slice (some ⟨w.heap.size, 0, none⟩) n n, .slice none 0 0, .int .i64 (-1)] 75) := by
  have h1' : ¬ (n : Int) < 1 := by omega
  have h2' : ¬ (8192 : Int) < n := by omega
  go_enter Try.func24, Try.ntmps24
  go_wp2
  go_ret2
  exact ⟨rfl, rfl⟩

/-- New: a disk of n sectors, all 0, without an end to its life. -/
theorem new_ok (n : Nat) (w : World) (h1 : 1 ≤ n) (h2 : n ≤ 8192) :
    Calls Try.prog 24 #[.int .i64 n] w fun e w' => e = .returned (.tuple #[.pointer (some ⟨w.heap.size + 1, 0, none⟩), .int .i64 0]) ∧
      DiskAt w' w.heap.size (w.heap.size + 1) w.heap.size (.slice none 0 0) ⟨n, fun _ _ => 0, [], -1⟩ ∧ Only (fun _ => False) w w' ∧ w'.heap.size = w.heap.size + 2 := by
  obtain ⟨i0, hi0, hz0, hz1, hz2⟩ := info_parts info68
  refine (new_core n _ w (by omega) (by omega) (fun w => run_make w 72 100 i0 _ Try.underlying72 hi0 hz0 .i64 .i64 n n (by omega) (Int.le_refl _) (by rw [hz2]; omega) (by omega))).mono ?_
  rintro e w' ⟨rfl, rfl⟩
  rw [hz1, Int.toNat_natCast]
  refine ⟨rfl, ?_, ((Only.refl _ w).alloc _).alloc _, by simp⟩
  have hS : ((w.alloc (.cells (madeCells (Value.agg (secL (fun _ => 0)).toArray).cells (n * 32)) 100)).alloc (.cells #[.slice (some ⟨w.heap.size, 0, none⟩) n n, .slice none 0 0, .int .i64 (-1)] 75)).heap[w.heap.size]? = some (.cells (madeCells (Value.agg (secL (fun _ => 0)).toArray).cells (n * 32)) 100 (0, 0)) := heap_alloc2_old w _ _
  have hp : ((w.alloc (.cells (madeCells (Value.agg (secL (fun _ => 0)).toArray).cells (n * 32)) 100)).alloc (.cells #[.slice (some ⟨w.heap.size, 0, none⟩) n n, .slice none 0 0, .int .i64 (-1)] 75)).heap[w.heap.size + 1]? = some (.cells #[.slice (some ⟨w.heap.size, 0, none⟩) n n, .slice none 0 0, .int .i64 (-1)] 75 (0, 0)) := heap_alloc2_new w _ _
  have hcell : ∀ j, j < n * 32 → (madeCells (Value.agg (secL (fun _ => 0)).toArray).cells (n * 32))[j]? = some (.int .u8 0) := by
    intro j hj
    have hm : j % 32 < 32 := Nat.mod_lt _ (by omega)
    have : (secL (fun _ => 0))[j % 32]? = some (.int .u8 0) := secL_get _ _ hm
    simp [madeCells, hj, Value.cells, secL_length, this]
  exact { pB := by omega, SB := by omega, pS := by omega
          c0 := ⟨n, by rw [cell_of_row _ _ 0 _ _ _ hp]; rfl⟩
          c1 := by rw [cell_of_row _ _ 1 _ _ _ hp]; rfl
          c2 := by rw [cell_of_row _ _ 2 _ _ _ hp]; rfl
          f1 := frozen_of_row _ _ _ _ _ hp
          f2 := frozen_of_row _ _ _ _ _ hp
          secs := fun i hi => by
            constructor
            · intro j v hv
              have hj : j < 32 := by have := (List.getElem?_eq_some_iff.1 hv).1; rwa [secL_length] at this
              rw [secL_get _ _ hj] at hv
              rw [cell_of_row _ _ _ _ _ _ hS, hcell _ (by simp at hi; omega)]
              exact hv
            · intro j hj
              refine ⟨?_, frozen_of_row _ _ _ _ _ hS⟩
              rw [cell_of_row _ _ _ _ _ _ hS, hcell _ (by simp at hi; omega)]; rfl
          own := World.ownsRow_nil _ _ _ _
          hp := by simp [Value.ownBlock]
          hS := by simp [Value.ownBlock]
          n1 := h1, n2 := h2
          at_ := fun x hx => by cases hx
          l1 := by simp
          l2 := by simp }

/-- Read of a sector that there is, on a disk that lives. -/
theorem read_any (p S k B : Nat) (pv : Value) (d : DS) (w : World) (h : DiskAt w B p S pv d) (hl : d.life ≠ 0) (hk : k < d.n) :
    Calls Try.prog 40 #[.pointer (some ⟨p, 0, none⟩), .int .i64 k] w fun e w' => e = .returned (.tuple #[.slice (some ⟨w.heap.size, 0, none⟩) 32 32, .int .i64 0]) ∧ w' = w.alloc (.cells (secL (d.sec k)).toArray 100) := by
  obtain ⟨c, hc⟩ := h.c0
  exact read_ok p S d.n c k d.life (secL (d.sec k)) w hc h.c2 (by simpa using hl) (by omega) (secL_length _) (secL_one _) (h.secs k hk).1

set_option maxHeartbeats 400000 in
theorem read_dead (p : Nat) (k : Int) (w : World) (h2 : w.cell? ⟨p, 2, none⟩ = some (.int .i64 0)) :
    Calls Try.prog 40 #[.pointer (some ⟨p, 0, none⟩), .int .i64 k] w fun e w' => e = .returned (.tuple #[.slice none 0 0, .int .i64 3]) ∧ w' = w := by
  go_enter Try.func40, Try.ntmps40
  go_wp2_with (go_at_call 55; refine (reach_dead p k _ h2).mono ?_; rintro e w' ⟨rfl, rfl⟩)
  go_ret2
  exact ⟨rfl, rfl⟩
set_option maxHeartbeats 400000 in
theorem read_out (p S n c : Nat) (l k : Int) (w : World) (h0 : w.cell? ⟨p, 0, none⟩ = some (.slice (some ⟨S, 0, none⟩) n c)) (h2 : w.cell? ⟨p, 2, none⟩ = some (.int .i64 l)) (hl : (l == 0) = false) (hk : k < 0 ∨ n ≤ k) :
    Calls Try.prog 40 #[.pointer (some ⟨p, 0, none⟩), .int .i64 k] w fun e w' => e = .returned (.tuple #[.slice none 0 0, .int .i64 4]) ∧ w' = w := by
  go_enter Try.func40, Try.ntmps40
  go_wp2_with (go_at_call 55; refine (reach_out p S n c l k _ h0 h2 hl hk).mono ?_; rintro e w' ⟨rfl, rfl⟩)
  go_ret2
  exact ⟨rfl, rfl⟩
set_option maxHeartbeats 400000 in
theorem write_len (p : Value) (k : Int) (a : Option Addr) (n c : Nat) (w : World) (hn : ((n : Int) == 32) = false) :
    Calls Try.prog 53 #[p, .int .i64 k, .slice a n c] w fun e w' => e = .returned (.int .i64 2) ∧ w' = w := by
  go_enter Try.func53, Try.ntmps53
  go_wp2
  go_ret
  exact ⟨rfl, rfl⟩
set_option maxHeartbeats 400000 in
theorem write_dead (p c : Nat) (a : Option Addr) (k : Int) (w : World) (h2 : w.cell? ⟨p, 2, none⟩ = some (.int .i64 0)) :
    Calls Try.prog 53 #[.pointer (some ⟨p, 0, none⟩), .int .i64 k, .slice a 32 c] w fun e w' => e = .returned (.int .i64 3) ∧ w' = w := by
  go_enter Try.func53, Try.ntmps53
  go_wp2_with (go_at_call 55; refine (reach_dead p k _ h2).mono ?_; rintro e w' ⟨rfl, rfl⟩)
  go_ret
  exact ⟨rfl, rfl⟩
set_option maxHeartbeats 400000 in
theorem write_out (p S n c bc : Nat) (a : Option Addr) (l k : Int) (w : World) (h0 : w.cell? ⟨p, 0, none⟩ = some (.slice (some ⟨S, 0, none⟩) n c)) (h2 : w.cell? ⟨p, 2, none⟩ = some (.int .i64 l)) (hl : (l == 0) = false) (hk : k < 0 ∨ n ≤ k) :
    Calls Try.prog 53 #[.pointer (some ⟨p, 0, none⟩), .int .i64 k, .slice a 32 bc] w fun e w' => e = .returned (.int .i64 4) ∧ w' = w := by
  go_enter Try.func53, Try.ntmps53
  go_wp2_with (go_at_call 55; refine (reach_out p S n c l k _ h0 h2 hl hk).mono ?_; rintro e w' ⟨rfl, rfl⟩)
  go_ret
  exact ⟨rfl, rfl⟩
end Go.Proofs.Ytpoakkdkibameaa
namespace Go.Proofs.Ytpoakkdkibameaa
open Go.RowKit
set_option linter.unusedSimpArgs false
set_option linter.unusedVariables false

/-- The bytes of a sector whose first bytes are z's, up to k, the others 0. -/
def fullF (z : Nat → Int) (k : Nat) : Nat → Int := fun j => if j < k then z j else 0
theorem fullF_set (z : Nat → Int) (k : Nat) : (secL (fullF z k)).toArray.setIfInBounds k (.int .u8 (z k)) = (secL (fullF z (k + 1))).toArray := by
  apply Array.ext
  · simp [secL_length]
  · intro i h1 h2
    simp [secL_length] at h1 h2
    simp [secL, Array.getElem_setIfInBounds, fullF]
    by_cases e : k = i
    · subst e; simp
    · simp [e]
      by_cases l : i < k
      · simp [l]; intro; omega
      · simp [l]; intro; omega
theorem secL_congr (f g : Nat → Int) (h : ∀ j, j < 32 → f j = g j) : secL f = secL g := by
  simp only [secL]
  apply List.map_congr_left
  intro j hj
  rw [h j (by simpa using hj)]
theorem fullF_big (z : Nat → Int) (n : Nat) (h : 32 ≤ n) : secL (fullF z 32) = secL (fullF z n) :=
  secL_congr _ _ fun j hj => by simp only [fullF]; rw [if_pos hj, if_pos (by omega)]
theorem mk32 (z : Nat → Int) (w : World) : (Instr.makeSlice 28 (.int .i64 32) (.int .i64 32)).run Try.prog w = .ok (.slice (some ⟨w.heap.size, 0, none⟩) 32 32) (w.alloc (.cells (secL (fullF z 0)).toArray 5)) := by kernel_rfl

theorem new_any (n : Nat) (w : World) (h1 : 1 ≤ n) (h2 : n ≤ 8192) :
    Calls Try.prog 24 #[.int .i64 n] w fun e w' => ∃ p S, e = .returned (.tuple #[.pointer (some ⟨p, 0, none⟩), .int .i64 0]) ∧
      DiskAt w' w.heap.size p S (.slice none 0 0) ⟨n, fun _ _ => 0, [], -1⟩ ∧ Only (fun _ => False) w w' :=
  (new_ok n w h1 h2).mono fun _ _ h => ⟨_, _, h.1, h.2.1, h.2.2.1⟩
end Go.Proofs.Ytpoakkdkibameaa
