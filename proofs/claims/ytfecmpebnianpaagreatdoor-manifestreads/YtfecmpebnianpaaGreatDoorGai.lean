/- Where tokens stand: the pure facts of LexPlaces. A call of a function within a region that draws. LexPlaces: the walk. readAll: the walk. readAll: the loop. readAll's deferred function, of items. All items of a source: readAll. readAll of items: the loop. Parse, Items; awake. -/
import Derived.Test.YtfecmpebnianpaaGreatDoorGah
import Derived.Lib.RuneCountTail
import Derived.Test.YtfecmpebnianpaaGreatDoorGaa
import Derived.Deep.RegionHeld3
import Derived.BigQuiet
namespace Go.Proofs.YtfecmpebnianpaaGreatDoor
open Go.RowKit Go.Lib
set_option linter.unusedSimpArgs false
set_option linter.unusedVariables false
theorem bg_bd {s : ByteArray} {a : Nat} (ha : a ≤ s.size) : a ≤ bg s a ∧ bg s a ≤ s.size := bgn_bd s _ a ha
/-- A character is a quote just where its byte is. -/
theorem quote_byte {s : ByteArray} {a : Nat} (ha : a < s.size) : (byN s a = 34) ↔ ((Utf8.decode s a).1 = 34) := by
  unfold byN
  rw [← get_bang s a ha]
  by_cases h : (s[a]'ha).toNat < 128
  · rw [decode_ascii s a ha h]
  · have := (decode_high s a ha (by omega)).1
    constructor <;> intro g <;> omega
/-- What a token at a place is. -/
structure TkOk (s : ByteArray) (a : Nat) (t : Tok) : Prop where
  at_ : t.a = (a : Int)
  nb : blk (Utf8.decode s a).1 = false
  str : (t.k = 3) ↔ ((Utf8.decode s a).1 = 34)
  word : t.k = 1 → t.t.size ≤ s.size - a ∧ s.extract a (a + t.t.size) = t.t ∧ nameB t.t = true
def Chain (s : ByteArray) : Int → List Tok → Prop
  | _, [] => True
  | last, t :: r => ∃ a : Nat, last < (a : Int) ∧ a < s.size ∧ TkOk s a t ∧ Chain s (a : Int) r
theorem numR_three (b : ByteArray) : (numR b).2 = 0 ∨ (numR b).2 = 9 ∨ (numR b).2 = 11 := by
  unfold numR
  split
  · exact .inr (.inl rfl)
  · split
    · exact .inl rfl
    · split
      · exact .inl rfl
      · exact .inr (.inr rfl)
theorem stL_le (s : ByteArray) : ∀ (b pos : Nat), stL s (crs s b pos) ≤ s.size
  | 0, pos => by simp [crs, stL]
  | b + 1, pos => by
    by_cases hp : pos < s.size
    · rw [show crs s (b + 1) pos = (pos, (Utf8.decode s pos).1) :: crs s b (pos + (Utf8.decode s pos).2) by simp [crs, hp]]
      unfold stL
      split
      · exact Nat.le_of_lt hp
      · exact stL_le s b _
    · rw [crs_end hp]
      exact Nat.le_refl _
/-- A token's cells among all. -/
theorem tkCs_get : ∀ (l : List Tok) (i : Nat) (t : Tok), l[i]? = some t → (tkCs l)[i * 4]? = some (.int .i64 t.k) ∧ (tkCs l)[i * 4 + 1]? = some (.string t.t) ∧ (tkCs l)[i * 4 + 2]? = some (.int .i64 t.n) ∧ (tkCs l)[i * 4 + 3]? = some (.int .i64 t.a)
  | [], i, t, h => by simp at h
  | x :: l, 0, t, h => by
    simp only [List.getElem?_cons_zero, Option.some.injEq] at h
    subst h
    simp [tkCs]
  | x :: l, i + 1, t, h => by
    have := tkCs_get l i t (by simpa using h)
    have e : ∀ k, (tkCs (x :: l))[k + 4]? = (tkCs l)[k]? := fun k => by simp [tkCs]
    rw [show (i + 1) * 4 = i * 4 + 4 by omega, show i * 4 + 4 + 1 = i * 4 + 1 + 4 by omega, show i * 4 + 4 + 2 = i * 4 + 2 + 4 by omega, show i * 4 + 4 + 3 = i * 4 + 3 + 4 by omega, e, e, e, e]
    exact this
end Go.Proofs.YtfecmpebnianpaaGreatDoor
namespace Go.Proofs.YtfecmpebnianpaaGreatDoor
open Go.RowKit
set_option linter.unusedSimpArgs false
set_option linter.unusedVariables false
theorem Only.drewN {bs : Nat → Prop} {a w : World} (h : Only bs a w) (n : Nat) : Only bs a (w.drewN n) := ⟨h.os, h.tape, h.output, h.size, h.block⟩
section
variable {P : Program} {n l : Nat} {ops : Array Oper} {op : Oper} {a : Act} {w w' : World} {K : Act → World → Prop} {Q : Exit → Act → World → Prop}
end
end Go.Proofs.YtfecmpebnianpaaGreatDoor
namespace Go.Proofs.YtfecmpebnianpaaGreatDoor
open Go.RowKit Go.Lib
set_option linter.unusedSimpArgs false
set_option linter.unusedVariables false
set_option maxRecDepth 100000 in
set_option maxHeartbeats 1000000 in
theorem rblank_any (c : Nat) (w : World) : Calls Tryz.prog 68 #[.int .i32 (c : Int)] w fun e w' => e = .returned (.bool (blk c)) ∧ w' = w := by
  by_cases h9 : c = 9
  · subst h9
    rw [show blk 9 = true from rfl]
    go_enter Tryz.func68, Tryz.ntmps68
    go_wp2
    go_ret
    exact ⟨rfl, rfl⟩
  · have i9 : ¬ (c : Int) = 9 := by omega
    by_cases h10 : c = 10
    · subst h10
      rw [show blk 10 = true from rfl]
      go_enter Tryz.func68, Tryz.ntmps68
      go_wp2
      go_ret
      exact ⟨rfl, rfl⟩
    · have i10 : ¬ (c : Int) = 10 := by omega
      by_cases h13 : c = 13
      · subst h13
        rw [show blk 13 = true from rfl]
        go_enter Tryz.func68, Tryz.ntmps68
        go_wp2
        go_ret
        exact ⟨rfl, rfl⟩
      · have i13 : ¬ (c : Int) = 13 := by omega
        by_cases h32 : c = 32
        · subst h32
          rw [show blk 32 = true from rfl]
          go_enter Tryz.func68, Tryz.ntmps68
          go_wp2
          go_ret
          exact ⟨rfl, rfl⟩
        · have i32 : ¬ (c : Int) = 32 := by omega
          by_cases h160 : c = 160
          · subst h160
            rw [show blk 160 = true from rfl]
            go_enter Tryz.func68, Tryz.ntmps68
            go_wp2
            go_ret
            exact ⟨rfl, rfl⟩
          · have i160 : ¬ (c : Int) = 160 := by omega
            by_cases h12288 : c = 12288
            · subst h12288
              rw [show blk 12288 = true from rfl]
              go_enter Tryz.func68, Tryz.ntmps68
              go_wp2
              go_ret
              exact ⟨rfl, rfl⟩
            · have i12288 : ¬ (c : Int) = 12288 := by omega
              have e : blk c = false := by simp [blk, *]
              have e1 : ((c : Int) == 9 || (c : Int) == 10 || (c : Int) == 13 || (c : Int) == 32 || (c : Int) == 160 || (c : Int) == 12288) = false := by simp [i9, i10, i13, i32, i160, i12288]
              rw [e]
              go_enter Tryz.func68, Tryz.ntmps68
              go_wp2
              go_ret
              exact ⟨rfl, rfl⟩
theorem addr_add (g k : Nat) : (⟨g, 0, none⟩ : Addr).add k = ⟨g, k, none⟩ := by
  unfold Addr.add
  split
  · simp_all
  · simp
theorem owns_lower {w : World} {B C : Nat} {e : TypeId} {sz : Nat} {v : Value} {n : Nat} {xs : List Value} (h : w.ownsRowF B e sz v n xs) (hC : C ≤ B) : w.ownsRowF C e sz v n xs := by
  refine ⟨h.1, ?_⟩
  rcases h.2 with g | ⟨g, cap, cur, fz, h1, h2, h3⟩
  · exact .inl g
  · exact .inr ⟨g, cap, cur, fz, h1, by omega, h3⟩
/-- The cells of a row's token. -/
theorem toks_cells {w : World} {B : Nat} {v : Value} {l : List Tok} (h : ToksAt w B v l) {i : Nat} {t : Tok} (ht : l[i]? = some t) :
    ∃ g cap, v = .slice (some ⟨g, 0, none⟩) l.length cap ∧ B ≤ g ∧ g < w.heap.size ∧ w.cell? ⟨g, i * 4, none⟩ = some (.int .i64 t.k) ∧ w.cell? ⟨g, i * 4 + 1, none⟩ = some (.string t.t) ∧ w.cell? ⟨g, i * 4 + 2, none⟩ = some (.int .i64 t.n) ∧ w.cell? ⟨g, i * 4 + 3, none⟩ = some (.int .i64 t.a) := by
  obtain ⟨c0, c1, c2, c3⟩ := tkCs_get l i t ht
  have hi : i < l.length := (List.getElem?_eq_some_iff.1 ht).1
  rcases h.2.2 with ⟨_, h0⟩ | ⟨g, cap, cur, fz, hv, hB, hg, _⟩
  · omega
  · subst hv
    exact ⟨g, cap, rfl, hB, (Array.getElem?_eq_some_iff.1 hg).1, (by have := h.2.cells (g := g) rfl _ _ c0; rwa [addr_add] at this), (by have := h.2.cells (g := g) rfl _ _ c1; rwa [addr_add] at this), (by have := h.2.cells (g := g) rfl _ _ c2; rwa [addr_add] at this), (by have := h.2.cells (g := g) rfl _ _ c3; rwa [addr_add] at this)⟩
theorem tokG_len (s : ByteArray) : ∀ (f a : Nat) (acc : List Tok), acc.length ≤ 4096 → (tokG s f a acc).1.length ≤ 4096
  | 0, a, acc, h => h
  | f + 1, a, acc, h => by
    unfold tokG
    split
    · split
      · split
        · exact Nat.zero_le _
        · exact tokG_len s f _ _ (by rw [List.length_append]; show acc.length + 1 ≤ 4096; omega)
      · exact Nat.zero_le _
    · exact h
theorem tokR_len (s : ByteArray) : (tokR s).1.length ≤ 4096 := by
  unfold tokR
  split
  · exact Nat.zero_le _
  · split
    · exact Nat.zero_le _
    · exact tokG_len s _ _ _ (Nat.zero_le _)
theorem tokR_size {s : ByteArray} (h : (tokR s).2.2 = 0) : s.size ≤ 65536 := by
  unfold tokR at h
  split at h
  · exact absurd h (by simp)
  · omega
theorem Chain.head {s : ByteArray} {last : Int} {l : List Tok} {i : Nat} {t : Tok} (h : Chain s last (l.drop i)) (ht : l[i]? = some t) : ∃ a : Nat, last < (a : Int) ∧ a < s.size ∧ TkOk s a t ∧ Chain s (a : Int) (l.drop (i + 1)) := by
  have hi := (List.getElem?_eq_some_iff.1 ht).1
  have : l.drop i = t :: l.drop (i + 1) := by
    rw [← (List.getElem?_eq_some_iff.1 ht).2]
    exact List.drop_eq_getElem_cons hi
  rw [this] at h
  exact h
end Go.Proofs.YtfecmpebnianpaaGreatDoor
namespace Go.Proofs.YtfecmpebnianpaaGreatDoor
open Go.RowKit
set_option linter.unusedSimpArgs false
set_option linter.unusedVariables false
def raP (s : ByteArray) (w : World) (x : Ending) (w' : World) : Prop := ∃ v, x = .returned (.tuple #[v, .int .i64 (parR s).2.1, .int .i64 (parR s).2.2]) ∧ Hid (FsAt w' w.heap.size 12400 v (parR s).1 ∧ Below w.heap.size w w')
set_option maxRecDepth 100000 in
set_option maxHeartbeats 8000000 in
theorem readAll_bad (s : ByteArray) (w : World) (h : Nog w) (hb : ¬ (tokR s).2.2 = 0) :
    Calls Tryz.prog 65 #[.string s, .func (.func 66) #[] #[]] w (raP s w) := by
  have HT : Hid (∀ w1, Only (fun _ => False) w w1 → Calls Tryz.prog 98 #[.string s] w1 fun e w' => ∃ v, e = .returned (.tuple #[v, .int .i64 ((tokR s).2.1 : Nat), .int .i64 (tokR s).2.2]) ∧ Hid (ToksAt w' w1.heap.size v (tokR s).1 ∧ Below w1.heap.size w1 w')) := fun w1 o1 => tokens_any s w1 (h.frame o1)
  have HP : Hid (∀ w', Below w.heap.size w w' → raP s w (.returned (.tuple #[.slice none 0 0, .int .i64 ((tokR s).2.1 : Nat), .int .i64 (tokR s).2.2])) w') := by
    intro w' hw
    have e1 : parR s = ([], ((tokR s).2.1 : Int), (tokR s).2.2) := by unfold parR; rw [if_neg hb]
    unfold raP
    rw [e1]
    exact ⟨_, rfl, fs_nil _ _ _, hw⟩
  obtain ⟨a, ha⟩ : ∃ a, a = (tokR s).2.1 := ⟨_, rfl⟩
  obtain ⟨e, he⟩ : ∃ e, e = (tokR s).2.2 := ⟨_, rfl⟩
  rw [← ha, ← he] at HT HP
  rw [← he] at hb
  have K0 : Hid (RaK w.heap.size (.slice none 0 0) 0 0 (((w.alloc (.cells #[.slice none 0 0] 113)).alloc (.cells #[.int .i64 0] 3)).alloc (.cells #[.int .i64 0] 24))) := RaK.start w
  have O0 : Hid (Only (fun _ => False) w (((w.alloc (.cells #[.slice none 0 0] 113)).alloc (.cells #[.int .i64 0] 3)).alloc (.cells #[.int .i64 0] 24))) := (((Only.refl _ w).alloc _).alloc _).alloc _
  clear ha he h
  go_enter_defers Tryz.func65, Tryz.ntmps65
  go_wp2_with fail
  refine (show Calls Tryz.prog 98 _ _ _ from HT.out _ O0.out).mono ?_
  rintro ex w1 ⟨v, rfl, g1⟩
  have o1 := below_only g1.out.2
  have K1 := K0.out.only o1 (fun _ _ _ h => h)
  have O1 : Hid (Only (fun _ => False) w w1) := O0.out.trans o1 (fun _ _ g => g)
  have e1 : (((w.alloc (.cells #[.slice none 0 0] 113)).alloc (.cells #[.int .i64 0] 3))).heap.size = w.heap.size + 2 := by simp
  obtain ⟨N, hN⟩ : ∃ N, N = w.heap.size := ⟨_, rfl⟩
  have HN : Hid (N = w.heap.size) := hN
  rw [← hN] at K1
  have HK1 : Hid (RaK N (.slice none 0 0) 0 0 w1) := K1
  have x0 : w1.cell? ⟨N, 0, none⟩ = some (.slice none 0 0) := by rw [blk_cells K1.bx]; rfl
  have y0 : w1.cell? ⟨N + 1, 0, none⟩ = some (.int .i64 0) := by rw [blk_cells K1.by_]; rfl
  have z0 : w1.cell? ⟨N + 2, 0, none⟩ = some (.int .i64 0) := by rw [blk_cells K1.bz]; rfl
  have fx : w1.frozen? ⟨N, 0, none⟩ = false := blk_froz K1.bx 0
  have fy : w1.frozen? ⟨N + 1, 0, none⟩ = false := blk_froz K1.by_ 0
  have fz : w1.frozen? ⟨N + 2, 0, none⟩ = false := blk_froz K1.bz 0
  rw [← hN]
  clear HT O0 K0 o1 g1 hN K1 e1
  go_wp2
  obtain ⟨W, hW⟩ : ∃ W, W = ((w1.setCell ⟨N + 1, 0, none⟩ (.int .i64 (a : Int))).setCell ⟨N + 1 + 1, 0, none⟩ (.int .i64 e)) := ⟨_, rfl⟩
  have K2 : RaK N (.slice none 0 0) (a : Int) e W := by rw [hW]; exact (HK1.out.setY _).setZ _
  have O2 : Hid (Only (fun _ => False) w W) := by
    show Only _ _ _
    have hn : N = w.heap.size := HN.out
    rw [hW]
    exact (O1.out.setCell ⟨N + 1, 0, none⟩ _ (fun h => by simp only at h; omega)).setCell ⟨N + 1 + 1, 0, none⟩ _ (fun h => by simp only at h; omega)
  rw [← hW]
  clear x0 y0 z0 fx fy fz hW HK1 O1
  have HK2 : Hid (RaK N (.slice none 0 0) (a : Int) e W) := K2
  have x0 : W.cell? ⟨N, 0, none⟩ = some (.slice none 0 0) := by rw [blk_cells K2.bx]; rfl
  have y0 : W.cell? ⟨N + 1, 0, none⟩ = some (.int .i64 (a : Int)) := by rw [blk_cells K2.by_]; rfl
  have z0 : W.cell? ⟨N + 1 + 1, 0, none⟩ = some (.int .i64 e) := by rw [blk_cells K2.bz]; rfl
  have fx : W.frozen? ⟨N, 0, none⟩ = false := blk_froz K2.bx 0
  have fy : W.frozen? ⟨N + 1, 0, none⟩ = false := blk_froz K2.by_ 0
  have fz : W.frozen? ⟨N + 1 + 1, 0, none⟩ = false := blk_froz K2.bz 0
  clear K2
  go_region
  obtain ⟨W2, hW2⟩ : ∃ W2, W2 = (((W.setCell ⟨N, 0, none⟩ (.slice none 0 0)).setCell ⟨N + 1, 0, none⟩ (.int .i64 (a : Int))).setCell ⟨N + 1 + 1, 0, none⟩ (.int .i64 e)).drew := ⟨_, rfl⟩
  have K3 : Hid (RaK N (.slice none 0 0) (a : Int) e W2) := by
    show RaK _ _ _ _ _
    rw [hW2]
    have := ((HK2.out.setX (.slice none 0 0)).setY (a : Int)).setZ e
    exact ⟨this.bx, this.by_, this.bz⟩
  have O3 : Hid (Only (fun _ => False) w W2) := by
    show Only _ _ _
    have hn : N = w.heap.size := HN.out
    rw [hW2]
    exact (((O2.out.setCell ⟨N, 0, none⟩ _ (fun h => by simp only at h; omega)).setCell ⟨N + 1, 0, none⟩ _ (fun h => by simp only at h; omega)).setCell ⟨N + 1 + 1, 0, none⟩ _ (fun h => by simp only at h; omega)).drew
  rw [← hW2]
  clear hW2 x0 y0 z0 fx fy fz HK2 O2
  go_wp2
  exact ⟨_, results_ra rfl _ _ N (N + 1) (N + 2) (by rw [blk_cells K3.out.bx]; rfl) (by rw [blk_cells K3.out.by_]; rfl) (by rw [blk_cells K3.out.bz]; rfl) rfl rfl rfl, HP.out _ (only_below O3.out)⟩
end Go.Proofs.YtfecmpebnianpaaGreatDoor
namespace Go.Proofs.YtfecmpebnianpaaGreatDoor
open Go.RowKit
set_option linter.unusedSimpArgs false
set_option linter.unusedVariables false
set_option maxRecDepth 100000 in
theorem fm_info : ∃ i z, Tryz.prog.info? 117 = some i ∧ i.zero = some z ∧ i.size = 6 ∧ i.bytes = 80 ∧ z.cells.size = 6 := ⟨_, _, rfl, rfl, rfl, rfl, rfl⟩
theorem TrAt.form {w : World} {S : Nat → Prop} {d : Nat} {i : Bool} {t : Tre} {v : Value} (ht : TrAt w S d i t v) : ∃ T x, v = .iface T x := by
  cases d with
  | zero => exact ht.elim
  | succ d =>
    cases i with
    | true => rcases ht with h | ⟨_, u, h, _⟩
              · exact ⟨_, _, h.2.2⟩
              · exact ⟨_, _, h⟩
    | false => rcases ht with h | h | h | ⟨_, _, _, h, _⟩
               · exact ⟨_, _, h.2.2⟩
               · exact ⟨_, _, h.2.2⟩
               · exact ⟨_, _, h.2.2⟩
               · exact ⟨_, _, h⟩
theorem FmAt.one {w : World} {S : Nat → Prop} {d : Nat} {fm : Fm} {bv iv : Value} (h : FmAt w S d fm bv iv) : bv.oneCell' = true ∧ iv.oneCell' = true := by
  rcases h with ⟨_, _, ⟨ao, cap, rfl, _⟩, rfl⟩ | ⟨_, _, _, _, _, rfl, h7⟩
  · exact ⟨rfl, rfl⟩
  · obtain ⟨T, x, rfl⟩ := h7.form
    exact ⟨rfl, rfl⟩
/-- a form is put behind a row -/
theorem app_form {w : World} {B C d : Nat} {v : Value} {acc : List Fm} {fm : Fm} {bv iv : Value} (hf : FsAt w B d v acc) (hn : NfAt w C d fm bv iv) (hC : B ≤ C) (hv : ∀ k, v.ownBlock = some k → k < C) (hB : B ≤ w.heap.size) (hl : acc.length ≤ 4096) :
    ∃ v' w', (∀ ty, (Builtin.append_ #[113, 113] ty #[v, .slice (some ⟨w.heap.size, 0, none⟩) 1 1]).run Tryz.prog (w.alloc (.cells #[.bool fm.d, .string fm.nm, .int .i64 (fm.i : Int), .int .i64 (fm.j : Int), bv, iv] 117)) = .ok v' w') ∧ FsAt w' B d v' (acc ++ [fm]) ∧ Only (fun k => B ≤ k) w w' := by
  obtain ⟨i0, z0, hi, hz0, hz1, hz2, hz3⟩ := fm_info
  obtain ⟨W, hW⟩ : ∃ W, W = w.alloc (.cells #[.bool fm.d, .string fm.nm, .int .i64 (fm.i : Int), .int .i64 (fm.j : Int), bv, iv] 117) := ⟨_, rfl⟩
  have oo : Only (fun _ => False) w W := by rw [hW]; exact (Only.refl _ w).alloc _
  have hf2 := hf.only oo (fun _ _ h => h)
  have hn2 := hn.only oo (fun _ _ h => h)
  have hblk : W.heap[w.heap.size]? = some (.cells #[.bool fm.d, .string fm.nm, .int .i64 (fm.i : Int), .int .i64 (fm.j : Int), bv, iv] 117) := by rw [hW]; exact alloc_at _ _ _ rfl
  obtain ⟨us, S, ho, ht, hS⟩ := hf2
  obtain ⟨S1, h1, hs1⟩ := id hn2
  have hone := h1.one
  have key := fun ty => run_append_own_at (P := Tryz.prog) W B 113 ty 117 i0 z0 6 80 Tryz.underlying113 hi hz0 hz1 hz2 hz3 (by omega) v acc.length us ho ⟨w.heap.size, 0, none⟩ 1 1 [.bool fm.d, .string fm.nm, .int .i64 (fm.i : Int), .int .i64 (fm.j : Int), bv, iv] rfl (by
      intro j u hj
      rw [addr_ad, blk_cells hblk]
      simpa using hj) (by
      intro u hu
      simp only [List.mem_cons, List.not_mem_nil, or_false] at hu
      rcases hu with rfl | rfl | rfl | rfl | rfl | rfl
      · rfl
      · rfl
      · rfl
      · rfl
      · exact hone.1
      · exact hone.2) (by unfold maxLen; omega) (by omega) (by have := oo.size; omega)
  obtain ⟨v', w', hr, own', hg, _, hat⟩ := key 0
  refine ⟨v', w', fun ty => ?_, FsAt.snoc hg ho ht hS hn2 hC hv own' hat, oo.mono (bs' := fun k => B ≤ k) (fun _ _ h => h.elim) |>.trans ((Only.refl (fun k => v.ownBlock = some k) W).grown hg (fun k e _ => e)) (fun k hk e => (ho.lt k e).1)⟩
  rw [← hW, ← hr]
  rfl
/-- the reader as it begins -/
theorem rd_start {w1 W : World} {N : Nat} {v : Value} {q : List Tok} {n : Int} (h : ToksAt w1 (N + 3) v q) (o : Only (fun b => b < N + 3) w1 W) (hW : W.heap[w1.heap.size]? = some (.cells #[v, .int .i64 n, .int .i64 0, .int .i64 0] 179)) : RdAt W w1.heap.size q n 0 0 := by
  refine ⟨v, hW, ?_⟩
  obtain ⟨ao, cap, hv⟩ := h.1
  have hc : q.length ≤ cap := by
    rcases h.2.2 with ⟨e, h0⟩ | ⟨g, cap', cur, fz, e, _, _, _, hcap, _⟩
    · omega
    · rw [hv] at e
      injection e with _ _ e3
      omega
  refine ⟨ao, cap, hv, hc, fun i t ht => ?_⟩
  obtain ⟨g, cap', e, hB, hg, c0, c1, c2, c3⟩ := toks_cells h ht
  rw [hv] at e
  injection e with e1
  exact ⟨g, 0, e1, hg, by rw [Nat.zero_add]; exact o.cell c0 (by simp only; omega), by rw [Nat.zero_add]; exact o.cell c1 (by simp only; omega), by rw [Nat.zero_add]; exact o.cell c2 (by simp only; omega), by rw [Nat.zero_add]; exact o.cell c3 (by simp only; omega)⟩
/-- a block of one cell is none of the tokens' -/
theorem RdAt.one {w : World} {R N : Nat} {q : List Tok} {n o z : Int} {vx : Value} {T : TypeId} (h : RdAt w R q n o z) (hN : w.heap[N]? = some (.cells #[vx] T)) (hR : N ≠ R) (y : Value) : RdAt (w.setCell ⟨N, 0, none⟩ y) R q n o z := by
  obtain ⟨v, hv, ao, cap, e, hc, hq⟩ := h
  refine ⟨v, by rw [heap_setCell_other _ _ _ _ (by simp only; omega)]; exact hv, ao, cap, e, hc, fun i t ht => ?_⟩
  obtain ⟨g, k, ha, hg, c0, c1, c2, c3⟩ := hq i t ht
  have hgN : g ≠ N := by
    rintro rfl
    rw [blk_cells hN] at c1
    simp at c1
  have oN : Only (fun b => b = N) w (w.setCell ⟨N, 0, none⟩ y) := (Only.refl (fun b => b = N) w).setCell ⟨N, 0, none⟩ _ (fun _ => rfl)
  exact ⟨g, k, ha, hg, oN.cell c0 hgN, oN.cell c1 hgN, oN.cell c2 hgN, oN.cell c3 hgN⟩
section
variable {P : Program} {op : Oper} {a : Act} {w w' : World} {K : Act → World → Prop} {Q : Exit → Act → World → Prop}
theorem wp_append_run (s x : Operand) (t : TypeId) (ho : op.op = .call { callee := .builtin .append, args := #[s, x], argTypes := #[t, t] }) (v1 v2 v' : Value) (hs : a.eval s = v1) (hx : a.eval x = v2)
    (hr : (Builtin.append_ #[t, t] op.type #[v1, v2]).run P w = .ok v' w') (h : K (a.put op.dst v') w') : op.wp P a w K Q := by
  unfold Oper.wp
  simp [execOp, ho, resolve, invoke, builtin, hs, hx, hr, Result.andThen]
  exact h
theorem step_append_run {ops : Array Oper} {E : Prop} (hgd : op.guard = none) (s x : Operand) (t : TypeId) (ho : op.op = .call { callee := .builtin .append, args := #[s, x], argTypes := #[t, t] }) (v1 v2 v' : Value) (hs : a.eval s = v1) (hx : a.eval x = v2)
    (hr : ∀ ty, (Builtin.append_ #[t, t] ty #[v1, v2]).run P w = .ok v' w') (h : K (a.put op.dst v') w') : if Region.wanted op (yielded ops a.tmps) = true then Oper.wp P op a w K Q else E := by
  have hw : Region.wanted op (yielded ops a.tmps) = true := by simp [Region.wanted, hgd]
  rw [if_pos hw]
  exact wp_append_run s x t ho v1 v2 v' hs hx (hr _) h
end
theorem leaves_same {P : Program} {fn : Func} {R : Ending → World → Prop} {t t' : Array Value} (h : results fn t = results fn t') : ∀ (ds : List Deferred) (u : FrameMode) (w : World), Leaves P fn t R ds u w → Leaves P fn t' R ds u w
  | [], .returning, w, g => by obtain ⟨v, h1, h2⟩ := g; exact ⟨v, by rw [← h]; exact h1, h2⟩
  | [], .panicking c, w, g => g
  | [], .run, w, g => g
  | d :: ds, u, w, g => by
    obtain ⟨h1, fv, cap, f, args, h2, h3, h4⟩ := g
    refine ⟨h1, fv, cap, f, args, h2, h3, h4.mono fun e u' w' g => ?_⟩
    cases e with
    | returned v => exact leaves_same h ds _ _ g
    | panicked c => exact leaves_same h ds _ _ g
    | outgrown => exact g
theorem ra_put {R : Ending → World → Prop} {a : Act} {k : Nat} {v : Value} {c : List PanicEntry} {w : World} (h4 : k ≠ 4) (h5 : k ≠ 5) (h6 : k ≠ 6) (h : bodyPostD Tryz.prog Tryz.f65 R (.panic c) (a.put (some k) v) w) : bodyPostD Tryz.prog Tryz.f65 R (.panic c) a w := by
  refine leaves_same (t := (a.put (some k) v).tmps) ?_ _ _ _ h
  simp [results, Tryz.results65, Act.put, Array.getElem?_setIfInBounds, h4, h5, h6]
set_option maxRecDepth 100000 in
set_option maxHeartbeats 8000000 in
theorem readAll_good (s : ByteArray) (w : World) (h : Nog w) (hb : (tokR s).2.2 = 0) (hlen : (tokR s).1.length ≤ 4096) (hs : s.size ≤ 1000000) :
    Calls Tryz.prog 65 #[.string s, .func (.func 66) #[] #[]] w (raP s w) := by
  have HT : Hid (∀ w1, Only (fun _ => False) w w1 → Calls Tryz.prog 98 #[.string s] w1 fun e w' => ∃ v, e = .returned (.tuple #[v, .int .i64 ((tokR s).2.1 : Nat), .int .i64 0]) ∧ Hid (ToksAt w' w1.heap.size v (tokR s).1 ∧ Below w1.heap.size w1 w')) := fun w1 o1 => by have := tokens_any s w1 (h.frame o1); rw [hb] at this; exact this
  obtain ⟨X, hX⟩ : ∃ X, X = alR (s.size : Int) 12400 ((tokR s).1.length + 1) (tokR s).1 := ⟨_, rfl⟩
  have HP : Hid (∀ w' v a e l, (match X with | .error (a, e) => ([], a, e) | .ok l => (l, 0, 0)) = (l, a, e) → FsAt w' w.heap.size 12400 v l → Below w.heap.size w w' → raP s w (.returned (.tuple #[v, .int .i64 a, .int .i64 e])) w') := by
    intro w' v a e l h1 h2 h3
    have e1 : parR s = (l, a, e) := by unfold parR; rw [if_pos hb, ← hX]; exact h1
    unfold raP
    rw [e1]
    exact ⟨_, rfl, h2, h3⟩
  obtain ⟨a, ha⟩ : ∃ a, a = (tokR s).2.1 := ⟨_, rfl⟩
  obtain ⟨q, hq⟩ : ∃ q, q = (tokR s).1 := ⟨_, rfl⟩
  rw [← ha, ← hq] at HT
  rw [← hq] at hlen hX
  have HX : Hid (X = preF [] (alR (s.size : Int) 12400 (q.length + 1) q) ∧ q.length ≤ 4096) := ⟨by
    rw [hX]
    cases alR (s.size : Int) 12400 (q.length + 1) q <;> rfl, hlen⟩
  have K0 : Hid (RaK w.heap.size (.slice none 0 0) 0 0 (((w.alloc (.cells #[.slice none 0 0] 113)).alloc (.cells #[.int .i64 0] 3)).alloc (.cells #[.int .i64 0] 24))) := RaK.start w
  have O0 : Hid (Only (fun _ => False) w (((w.alloc (.cells #[.slice none 0 0] 113)).alloc (.cells #[.int .i64 0] 3)).alloc (.cells #[.int .i64 0] 24))) := (((Only.refl _ w).alloc _).alloc _).alloc _
  have hmf : ∀ (fn : Fn) (first cap : Array Value) (w : World), (Instr.makeFunc fn first cap).run Tryz.prog w = .ok (.func fn first cap) w := fun _ _ _ _ => rfl
  clear ha hq h hX hlen hb
  go_enter_defers Tryz.func65, Tryz.ntmps65
  go_wp2_with fail
  refine (show Calls Tryz.prog 98 _ _ _ from HT.out _ O0.out).mono ?_
  rintro ex w1 ⟨v, rfl, g1⟩
  have o1 := below_only g1.out.2
  have K1 := K0.out.only o1 (fun _ _ _ h => h)
  have O1 : Hid (Only (fun _ => False) w w1) := O0.out.trans o1 (fun _ _ g => g)
  obtain ⟨N, hN⟩ : ∃ N, N = w.heap.size := ⟨_, rfl⟩
  have HN : Hid (N = w.heap.size) := hN
  have TK : Hid (ToksAt w1 (N + 3) v q) := ⟨g1.out.1.1, by have := g1.out.1.2; rw [hN]; exact owns_lower this (by simp)⟩
  rw [← hN] at K1
  have HK1 : Hid (RaK N (.slice none 0 0) 0 0 w1) := K1
  have y0 : w1.cell? ⟨N + 1, 0, none⟩ = some (.int .i64 0) := by rw [blk_cells K1.by_]; rfl
  have z0 : w1.cell? ⟨N + 1 + 1, 0, none⟩ = some (.int .i64 0) := by rw [blk_cells K1.bz]; rfl
  have fy : w1.frozen? ⟨N + 1, 0, none⟩ = false := blk_froz K1.by_ 0
  have fz : w1.frozen? ⟨N + 1 + 1, 0, none⟩ = false := blk_froz K1.bz 0
  obtain ⟨ao, cap, hv⟩ := g1.out.1.1
  subst hv
  rw [← hN]
  clear HT O0 K0 o1 g1 hN K1
  go_wp2_with fail
  obtain ⟨W, hW⟩ : ∃ W, W = (((w1.setCell ⟨N + 1, 0, none⟩ (.int .i64 (a : Int))).setCell ⟨N + 1 + 1, 0, none⟩ (.int .i64 0)).alloc (.cells #[.slice ao q.length cap, .int .i64 (s.size : Int), .int .i64 0, .int .i64 0] 179)) := ⟨_, rfl⟩
  obtain ⟨R, hR⟩ : ∃ R, R = w1.heap.size := ⟨_, rfl⟩
  have hn : N = w.heap.size := HN.out
  have hNR : N + 2 < R := by rw [hR]; exact (Array.getElem?_eq_some_iff.1 HK1.out.bz).1
  have K2 : Hid (RaK N (.slice none 0 0) (a : Int) 0 W) := by
    show RaK _ _ _ _ _
    rw [hW]
    exact ((HK1.out.setY (a : Int)).setZ 0).only ((Only.refl (fun _ => False) _).alloc _) (fun _ _ _ h => h)
  have O2 : Hid (Only (fun _ => False) w W) := by
    show Only _ _ _
    rw [hW]
    exact ((O1.out.setCell ⟨N + 1, 0, none⟩ _ (fun h => by simp only at h; omega)).setCell ⟨N + 1 + 1, 0, none⟩ _ (fun h => by simp only at h; omega)).alloc _
  have R2 : Hid (RdAt W R q (s.size : Int) 0 0) := by
    show RdAt _ _ _ _ _ _
    rw [hR]
    refine rd_start TK.out ?_ ?_
    · rw [hW]
      exact (((Only.refl (fun b => b < N + 3) w1).setCell ⟨N + 1, 0, none⟩ _ (fun _ => by simp only; omega)).setCell ⟨N + 1 + 1, 0, none⟩ _ (fun _ => by simp only; omega)).alloc _
    · rw [hW]
      exact alloc_at _ _ _ (by simp)
  rw [← hW, ← hR]
  clear hW hR hn TK HK1 O1 y0 z0 fy fz
  have HNR : Hid (N + 2 < R) := hNR
  clear hNR
  go_loopw [] (fun wr => ∃ (g : Nat) (q' : List Tok) (z' : Int) (acc : List Fm) (ao : Option Addr) (cap : Nat), Hid (X = preF acc (alR (s.size : Int) 12400 g q') ∧ q'.length < g ∧ acc.length + q'.length ≤ 4096 ∧ RaK N (.slice ao acc.length cap) (a : Int) 0 wr ∧ FsAt wr (R + 1) 12400 (.slice ao acc.length cap) acc ∧ RdAt wr R q' (s.size : Int) 0 z' ∧ Only (fun _ => False) w wr)) (fun wr => qLen wr R)
  case atStart => exact ⟨q.length + 1, q, 0, [], none, 0, HX.out.1, by omega, by simpa using HX.out.2, K2.out, fs_nil _ _ _, R2.out, O2.out⟩
  case round =>
    obtain ⟨g, q', z', acc, ao, cap, HI⟩ := hrel
    obtain ⟨u, rfl⟩ : ∃ u, u = wr := ⟨_, rfl⟩
    clear K2 O2 R2
    obtain ⟨g0, rfl⟩ : ∃ g0, g = g0 + 1 := ⟨g - 1, by have := HI.out.2.1; omega⟩
    obtain ⟨vv, hRR, av, cv, hvv, hcv, _⟩ := HI.out.2.2.2.2.2.1
    subst hvv
    have r0 : u.cell? ⟨R, 0, none⟩ = some (.slice av q'.length cv) := by rw [blk_cells hRR]; rfl
    have r3 : u.cell? ⟨R, 3, none⟩ = some (.int .i64 z') := by rw [blk_cells hRR]; rfl
    have f3 : u.frozen? ⟨R, 3, none⟩ = false := blk_froz hRR 3
    clear hRR hcv
    have hNR : N + 2 < R := HNR.out
    cases q' with
    | nil =>
      have HE : Hid (X = .ok acc) := by show X = _; rw [HI.out.1]; simp [alR, preF]
      have K2 := HI.out.2.2.2.1
      have x0 : u.cell? ⟨N, 0, none⟩ = some (.slice ao acc.length cap) := by rw [blk_cells K2.bx]; rfl
      have y0 : u.cell? ⟨N + 1, 0, none⟩ = some (.int .i64 (a : Int)) := by rw [blk_cells K2.by_]; rfl
      have z0 : u.cell? ⟨N + 1 + 1, 0, none⟩ = some (.int .i64 0) := by rw [blk_cells K2.bz]; rfl
      have fx : u.frozen? ⟨N, 0, none⟩ = false := blk_froz K2.bx 0
      have fy : u.frozen? ⟨N + 1, 0, none⟩ = false := blk_froz K2.by_ 0
      have fz : u.frozen? ⟨N + 1 + 1, 0, none⟩ = false := blk_froz K2.bz 0
      have HK : Hid (RaK N (.slice ao acc.length cap) (a : Int) 0 u ∧ FsAt u (R + 1) 12400 (.slice ao acc.length cap) acc ∧ Only (fun _ => False) w u) := ⟨K2, HI.out.2.2.2.2.1, HI.out.2.2.2.2.2.2⟩
      clear HI K2
      simp only [List.length_nil] at r0
      obtain ⟨L, hL⟩ : ∃ L, L = acc.length := ⟨_, rfl⟩
      have HL : Hid (L = acc.length) := hL
      rw [← hL] at HK x0
      clear hL
      go_wp2
      obtain ⟨U, hU⟩ : ∃ U, U = ((u.setCell ⟨N, 0, none⟩ (.slice ao L cap)).setCell ⟨N + 1, 0, none⟩ (.int .i64 0)).setCell ⟨N + 1 + 1, 0, none⟩ (.int .i64 0) := ⟨_, rfl⟩
      have hn : N = w.heap.size := HN.out
      have e1 : L = acc.length := HL.out
      have OO : Only (fun b => b ≤ N + 2) u U := by
        rw [hU]
        exact (((Only.refl (fun b => b ≤ N + 2) u).setCell ⟨N, 0, none⟩ _ (fun _ => by simp only; omega)).setCell ⟨N + 1, 0, none⟩ _ (fun _ => by simp only; omega)).setCell ⟨N + 1 + 1, 0, none⟩ _ (fun _ => by simp only; omega)
      have K3 : Hid (RaK N (.slice ao L cap) 0 0 U) := by
        show RaK _ _ _ _ _
        rw [hU]
        exact ((HK.out.1.setX _).setY 0).setZ 0
      have K4 : Hid (FsAt U w.heap.size 12400 (.slice ao L cap) acc ∧ Below w.heap.size w U) := by
        refine ⟨(HK.out.2.1.only OO (fun b h1 e => by omega)).lower (by omega), only_below ?_⟩
        rw [hU]
        exact ((HK.out.2.2.setCell ⟨N, 0, none⟩ _ (fun h => by simp only at h; omega)).setCell ⟨N + 1, 0, none⟩ _ (fun h => by simp only at h; omega)).setCell ⟨N + 1 + 1, 0, none⟩ _ (fun h => by simp only at h; omega)
      rw [← hU]
      clear hU OO HK x0 y0 z0 fx fy fz
      refine leaves_cons (f := 99) (args := #[.pointer (some ⟨N, 0, none⟩), .pointer (some ⟨N + 1, 0, none⟩), .pointer (some ⟨N + 1 + 1, 0, none⟩)]) (by simp) (by simp [go_sem]) ?_
      refine (caught_idle _ _ _ _).mono ?_
      rintro ex u' w'' ⟨rfl, rfl, rfl⟩
      exact ⟨_, results_ra rfl _ _ N (N + 1) (N + 2) (by rw [blk_cells K3.out.bx]; rfl) (by rw [blk_cells K3.out.by_]; rfl) (by rw [blk_cells K3.out.bz]; rfl) rfl rfl rfl, HP.out _ _ _ _ acc (by rw [show X = _ from HE.out]) K4.out.1 K4.out.2⟩
    | cons t r =>
      have HB : Hid ((t :: r).length < g0 + 1 ∧ acc.length + (t :: r).length ≤ 4096 ∧ qLen u R = (t :: r).length) := ⟨HI.out.2.1, HI.out.2.2.1, qLen_of HI.out.2.2.2.2.2.1⟩
      obtain ⟨q1, o1⟩ := HI.out.2.2.2.2.2.1.size 0
      obtain ⟨u1, hu1⟩ : ∃ u1, u1 = u.setCell ⟨R, 3, none⟩ (.int .i64 0) := ⟨_, rfl⟩
      rw [← hu1] at q1 o1
      have K2 := HI.out.2.2.2.1.only o1 (fun b h1 h2 e => by omega)
      have F2 := HI.out.2.2.2.2.1.only o1 (fun b h1 e => by omega)
      have hn : N = w.heap.size := HN.out
      have O2 : Only (fun _ => False) w u1 := HI.out.2.2.2.2.2.2.trans o1 (fun b h1 e => by omega)
      have HE0 := HI.out.1
      rw [alR_go] at HE0
      have HC : ∀ u2, RdAt u2 R (t :: r) (s.size : Int) 0 0 → Calls Tryz.prog 66 #[.pointer (some ⟨R, 0, none⟩)] u2 (fmP R 12400 (s.size : Int) 0 u2 (fmR (s.size : Int) 12400 (t :: r) 0 0)) := by
        intro u2 h2
        have := HB.out
        exact form_any R 12400 (t :: r) (s.size : Int) 0 0 u2 (by omega) (by omega) (by omega) (by omega) (by omega) (by omega) h2
      have i1 : (0 : Int) < ((t :: r).length : Int) := by simp only [List.length_cons]; omega
      obtain ⟨L2, hL2⟩ : ∃ L2, L2 = (t :: r).length := ⟨_, rfl⟩
      rw [← hL2] at r0 i1
      clear hL2
      cases hX2 : fmR (s.size : Int) 12400 (t :: r) 0 0 with
      | error p =>
        obtain ⟨pa, pe⟩ := p
        rw [hX2] at HE0
        have HE : Hid (X = .error (pa, pe)) := HE0
        have HCE : Hid (∀ u2, RdAt u2 R (t :: r) (s.size : Int) 0 0 → Calls Tryz.prog 66 #[.pointer (some ⟨R, 0, none⟩)] u2 fun x w' => x = gup pa pe ∧ Only (fun b => b = R) u2 w') := fun u2 h2 => by have := HC u2 h2; rw [hX2] at this; exact this
        have HK : Hid (RaK N (.slice ao acc.length cap) (a : Int) 0 u1 ∧ Only (fun _ => False) w u1 ∧ RdAt u1 R (t :: r) (s.size : Int) 0 0) := ⟨K2, O2, q1⟩
        have x0 : u1.cell? ⟨N, 0, none⟩ = some (.slice ao acc.length cap) := by rw [blk_cells K2.bx]; rfl
        have fx : u1.frozen? ⟨N, 0, none⟩ = false := blk_froz K2.bx 0
        clear HI HE0 HC hX2 K2 F2 O2 q1 o1 hn hNR
        go_wp2_with fail
        rw [← hu1]
        clear r0 r3 f3 hu1
        refine wp_region_any (by kernel_rfl) ?_
        change wpAny _ _ _ _ _ _ _ (World.drew _)
        refine wpAny_take (i := 1) (v := .func (.func 66) #[] #[]) rfl (by kernel_rfl) (by kernel_rfl) (by kernel_rfl) (fun c a w h => ra_put (k := 35) (by omega) (by omega) (by omega) h) (Or.inl ⟨by rfl, fun w => by rfl⟩) ?_
        refine wpAny_take (i := 2) (v := .pointer (some ⟨R, 0, none⟩)) rfl (by kernel_rfl) (by kernel_rfl) (by kernel_rfl) (fun c a w h => ra_put (k := 36) (by omega) (by omega) (by omega) h) (Or.inl ⟨by rfl, fun w => by rfl⟩) ?_
        refine wpAny_ready (rs := [0, 3]) (by kernel_rfl) (by simp) ?_
        refine AllReady.cons rfl (fun K hK => ?_) (AllReady.cons rfl (fun K hK => ?_) AllReady.nil)
        · go_simp
          refine hK _ _ ?_
          clear hK K
          refine wpAny_ready (rs := [3]) (by kernel_rfl) (by simp) ?_
          refine AllReady.cons rfl (fun K hK => ?_) AllReady.nil
          go_simp
          · skip
            go_wp2_with (go_at_call 66; refine (show Calls Tryz.prog 66 _ _ _ from HCE.out _ (HK.out.2.2.only ((Only.refl _ u1).drew))).mono ?_; rintro ex u3 ⟨rfl, o3⟩; unfold gup)
            have hNR : N + 2 < R := HNR.out
            have hn : N = w.heap.size := HN.out
            have K3 := (HK.out.1.only ((Only.refl (fun _ => False) u1).drew) (fun _ _ _ h => h)).only o3 (fun b h1 h2 e => by omega)
            have O3 : Only (fun _ => False) w u3 := HK.out.2.1.drew.trans o3 (fun b h1 e => by omega)
            refine leaves_cons (f := 99) (args := #[.pointer (some ⟨N, 0, none⟩), .pointer (some ⟨N + 1, 0, none⟩), .pointer (some ⟨N + 1 + 1, 0, none⟩)]) (by simp) (by simp [go_sem]) ?_
            refine (caught_own N (N + 1) (N + 1 + 1) _ _ _ _ _ _ pa pe [] _ K3.bx K3.by_ K3.bz (by omega) (by omega) (by omega)).mono ?_
            rintro ex u' w'' ⟨rfl, rfl, g⟩
            exact ⟨_, results_ra rfl _ _ N (N + 1) (N + 1 + 1) g.out.1 g.out.2.1 g.out.2.2.1 rfl rfl rfl, HP.out _ _ pa pe [] (by rw [show X = _ from HE.out]) (fs_nil _ _ _) (only_below (O3.trans g.out.2.2.2 (fun b h1 e => by omega)))⟩
        · go_simp
          · skip
            go_wp2_with (go_at_call 66; refine (show Calls Tryz.prog 66 _ _ _ from HCE.out _ (HK.out.2.2.only ((Only.refl _ u1).drew))).mono ?_; rintro ex u3 ⟨rfl, o3⟩; unfold gup)
            have hNR : N + 2 < R := HNR.out
            have hn : N = w.heap.size := HN.out
            have K3 := (HK.out.1.only ((Only.refl (fun _ => False) u1).drew) (fun _ _ _ h => h)).only o3 (fun b h1 h2 e => by omega)
            have O3 : Only (fun _ => False) w u3 := HK.out.2.1.drew.trans o3 (fun b h1 e => by omega)
            refine leaves_cons (f := 99) (args := #[.pointer (some ⟨N, 0, none⟩), .pointer (some ⟨N + 1, 0, none⟩), .pointer (some ⟨N + 1 + 1, 0, none⟩)]) (by simp) (by simp [go_sem]) ?_
            refine (caught_own N (N + 1) (N + 1 + 1) _ _ _ _ _ _ pa pe [] _ K3.bx K3.by_ K3.bz (by omega) (by omega) (by omega)).mono ?_
            rintro ex u' w'' ⟨rfl, rfl, g⟩
            exact ⟨_, results_ra rfl _ _ N (N + 1) (N + 1 + 1) g.out.1 g.out.2.1 g.out.2.2.1 rfl rfl rfl, HP.out _ _ pa pe [] (by rw [show X = _ from HE.out]) (fs_nil _ _ _) (only_below (O3.trans g.out.2.2.2 (fun b h1 e => by omega)))⟩
      | ok p =>
        obtain ⟨fm, q2, z2⟩ := p
        rw [hX2] at HE0
        have HE : Hid (X = preF (acc ++ [fm]) (alR (s.size : Int) 12400 g0 q2)) := HE0
        have HCE : Hid (∀ u2, RdAt u2 R (t :: r) (s.size : Int) 0 0 → Calls Tryz.prog 66 #[.pointer (some ⟨R, 0, none⟩)] u2 fun x w' => ∃ bv iv, x = .returned (fmV fm bv iv) ∧ Hid (NfAt w' u2.heap.size 12400 fm bv iv ∧ RdAt w' R q2 (s.size : Int) 0 z2 ∧ Only (fun b => b = R) u2 w')) := fun u2 h2 => by have := HC u2 h2; rw [hX2] at this; exact this
        have HQ : Hid (q2.length < (t :: r).length) := fmR_len (by omega) hX2
        have HK : Hid (RaK N (.slice ao acc.length cap) (a : Int) 0 u1 ∧ Only (fun _ => False) w u1 ∧ RdAt u1 R (t :: r) (s.size : Int) 0 0 ∧ FsAt u1 (R + 1) 12400 (.slice ao acc.length cap) acc) := ⟨K2, O2, q1, F2⟩
        have x0 : u1.cell? ⟨N, 0, none⟩ = some (.slice ao acc.length cap) := by rw [blk_cells K2.bx]; rfl
        have fx : u1.frozen? ⟨N, 0, none⟩ = false := blk_froz K2.bx 0
        clear HI HE0 HC hX2 K2 F2 O2 q1 o1 hn hNR
        go_wp2_with fail
        rw [← hu1]
        clear r0 r3 f3 hu1
        have HAP : Hid (∀ u2 u3 bv iv, Only (fun _ => False) u1 u2 → NfAt u3 u2.heap.size 12400 fm bv iv → RdAt u3 R q2 (s.size : Int) 0 z2 → Only (fun b => b = R) u2 u3 → ∃ ao' cap' u4, (∀ ty, (Builtin.append_ #[113, 113] ty #[.slice ao acc.length cap, .slice (some ⟨u3.heap.size, 0, none⟩) 1 1]).run Tryz.prog (u3.alloc (.cells #[.bool fm.d, .string fm.nm, .int .i64 (fm.i : Int), .int .i64 (fm.j : Int), bv, iv] 117)) = .ok (.slice ao' (acc.length + 1) cap') u4) ∧ u3.cell? ⟨N, 0, none⟩ = some (.slice ao acc.length cap) ∧ u4.cell? ⟨N, 0, none⟩ = some (.slice ao acc.length cap) ∧ u4.frozen? ⟨N, 0, none⟩ = false ∧ bv.oneCell' = true ∧ iv.oneCell' = true ∧ Hid (RaK N (.slice ao' (acc.length + 1) cap') (a : Int) 0 (u4.setCell ⟨N, 0, none⟩ (.slice ao' (acc.length + 1) cap')) ∧ FsAt (u4.setCell ⟨N, 0, none⟩ (.slice ao' (acc.length + 1) cap')) (R + 1) 12400 (.slice ao' (acc.length + 1) cap') (acc ++ [fm]) ∧ RdAt (u4.setCell ⟨N, 0, none⟩ (.slice ao' (acc.length + 1) cap')) R q2 (s.size : Int) 0 z2 ∧ Only (fun _ => False) w (u4.setCell ⟨N, 0, none⟩ (.slice ao' (acc.length + 1) cap')))) := by
          intro u2 u3 bv iv o2 nf rd o3
          have hNR : N + 2 < R := HNR.out
          have hn : N = w.heap.size := HN.out
          have hR1 : R < u1.heap.size := HK.out.2.2.1.lt
          have K3 := (HK.out.1.only o2 (fun _ _ _ h => h)).only o3 (fun b h1 h2 e => by omega)
          have F3 := (HK.out.2.2.2.only o2 (fun _ _ h => h)).only o3 (fun b h1 e => by omega)
          have O3 : Only (fun _ => False) w u3 := (HK.out.2.1.trans o2 (fun _ _ h => h)).trans o3 (fun b h1 e => by omega)
          obtain ⟨S1, h1, _⟩ := id nf
          have hone := h1.one
          have hb := HB.out
          simp only [List.length_cons] at hb
          have s2 := o2.size
          have s3 := o3.size
          obtain ⟨us, S, hown, _⟩ := HK.out.2.2.2
          obtain ⟨v', u4, hr, hf, ho⟩ := app_form F3 nf (by omega) (fun k hk => by have := (hown.lt k hk).2; omega) (by omega) (by omega)
          obtain ⟨ao', cap', hv⟩ := hf.form
          simp only [List.length_append, List.length_cons, List.length_nil, Nat.zero_add] at hv
          subst hv
          have K4 := K3.only ho (fun b h1 h2 e => by omega)
          have oN : Only (fun b => b = N) u4 (u4.setCell ⟨N, 0, none⟩ (.slice ao' (acc.length + 1) cap')) := (Only.refl (fun b => b = N) u4).setCell ⟨N, 0, none⟩ _ (fun _ => rfl)
          refine ⟨ao', cap', u4, hr, by rw [blk_cells K3.bx]; rfl, by rw [blk_cells K4.bx]; rfl, blk_froz K4.bx 0, hone.1, hone.2, K4.setX _, hf.only oN (fun b h1 e => by omega), (rd.other (fun b h1 e => by omega) ho).one K4.bx (by omega) _, (O3.trans ho (fun b h1 e => by omega)).trans oN (fun b h1 e => by omega)⟩
        refine wp_region_any (by kernel_rfl) ?_
        change wpAny _ _ _ _ _ _ _ (World.drew _)
        refine wpAny_take (i := 1) (v := .func (.func 66) #[] #[]) rfl (by kernel_rfl) (by kernel_rfl) (by kernel_rfl) (fun c a w h => ra_put (k := 35) (by omega) (by omega) (by omega) h) (Or.inl ⟨by rfl, fun w => by rfl⟩) ?_
        refine wpAny_take (i := 2) (v := .pointer (some ⟨R, 0, none⟩)) rfl (by kernel_rfl) (by kernel_rfl) (by kernel_rfl) (fun c a w h => ra_put (k := 36) (by omega) (by omega) (by omega) h) (Or.inl ⟨by rfl, fun w => by rfl⟩) ?_
        refine wpAny_ready (rs := [0, 3]) (by kernel_rfl) (by simp) ?_
        refine AllReady.cons rfl (fun K hK => ?_) (AllReady.cons rfl (fun K hK => ?_) AllReady.nil)
        · skip
          go_simp
          refine hK _ _ ?_
          clear hK K
          refine wpAny_ready (rs := [3]) (by kernel_rfl) (by simp) ?_
          refine AllReady.cons rfl (fun K hK => ?_) AllReady.nil
          go_simp
          go_wp2_with (go_at_call 66; refine (show Calls Tryz.prog 66 _ _ _ from HCE.out _ (HK.out.2.2.1.only ((Only.refl _ u1).drew))).mono ?_; rintro ex u3 ⟨bv, iv, rfl, g3⟩; unfold fmV)
          obtain ⟨ao', cap', u4, hr, y3, y4, yf, b1, b2, HZZ⟩ := HAP.out u1.drew u3 bv iv ((Only.refl _ u1).drew) g3.out.1 g3.out.2.1 g3.out.2.2
          have y5 : ∀ x, (u3.alloc x).cell? ⟨N, 0, none⟩ = some (.slice ao acc.length cap) := fun x => alloc_cell u3 _ x _ y3
          clear g3
          refine wpAny_ready (rs := [4]) (by kernel_rfl) (by simp) ?_
          refine AllReady.cons rfl (fun K hK => ?_) AllReady.nil
          go_simp
          refine hK _ _ ?_
          clear hK K
          refine wpAny_ready (rs := [5]) (by kernel_rfl) (by simp) ?_
          refine AllReady.cons rfl (fun K hK => ?_) AllReady.nil
          refine step_append_run (by rfl) _ _ 113 (by rfl) _ _ (.slice ao' (acc.length + 1) cap') (by rfl) (by rfl) hr ?_
          refine hK _ _ ?_
          clear hK K
          refine wpAny_ready (rs := [6]) (by kernel_rfl) (by simp) ?_
          refine AllReady.cons rfl (fun K hK => ?_) AllReady.nil
          go_simp
          refine hK _ _ ?_
          clear hK K
          refine wpAny_done (by kernel_rfl) ?_ _
          clear hr y3 y4 yf b1 b2 y5
          obtain ⟨U, hU⟩ : ∃ U, U = u4.setCell ⟨N, 0, none⟩ (.slice ao' (acc.length + 1) cap') := ⟨_, rfl⟩
          rw [← hU] at HZZ
          rw [← hU]
          clear hU
          go_wp2
          go_roundw
          case rel => exact ⟨g0, q2, z2, acc ++ [fm], ao', cap', HE.out, by have := HB.out; have := HQ.out; omega, by have := HB.out; have := HQ.out; simp only [List.length_append, List.length_cons, List.length_nil] at *; omega, by simpa using HZZ.out.1, by simpa using HZZ.out.2.1, HZZ.out.2.2.1, HZZ.out.2.2.2⟩
          case measure => rw [HB.out.2.2, qLen_of HZZ.out.2.2.1]; exact HQ.out
        · skip
          go_simp
          go_wp2_with (go_at_call 66; refine (show Calls Tryz.prog 66 _ _ _ from HCE.out _ (HK.out.2.2.1.only ((Only.refl _ u1).drew))).mono ?_; rintro ex u3 ⟨bv, iv, rfl, g3⟩; unfold fmV)
          obtain ⟨ao', cap', u4, hr, y3, y4, yf, b1, b2, HZZ⟩ := HAP.out u1.drew u3 bv iv ((Only.refl _ u1).drew) g3.out.1 g3.out.2.1 g3.out.2.2
          have y5 : ∀ x, (u3.alloc x).cell? ⟨N, 0, none⟩ = some (.slice ao acc.length cap) := fun x => alloc_cell u3 _ x _ y3
          clear g3
          refine wpAny_ready (rs := [0, 4]) (by kernel_rfl) (by simp) ?_
          refine AllReady.cons rfl (fun K hK => ?_) (AllReady.cons rfl (fun K hK => ?_) AllReady.nil)
          · skip
            go_simp
            refine hK _ _ ?_
            clear hK K
            refine wpAny_ready (rs := [4]) (by kernel_rfl) (by simp) ?_
            refine AllReady.cons rfl (fun K hK => ?_) AllReady.nil
            go_simp
            refine hK _ _ ?_
            clear hK K
            refine wpAny_ready (rs := [5]) (by kernel_rfl) (by simp) ?_
            refine AllReady.cons rfl (fun K hK => ?_) AllReady.nil
            refine step_append_run (by rfl) _ _ 113 (by rfl) _ _ (.slice ao' (acc.length + 1) cap') (by rfl) (by rfl) hr ?_
            refine hK _ _ ?_
            clear hK K
            refine wpAny_ready (rs := [6]) (by kernel_rfl) (by simp) ?_
            refine AllReady.cons rfl (fun K hK => ?_) AllReady.nil
            go_simp
            refine hK _ _ ?_
            clear hK K
            refine wpAny_done (by kernel_rfl) ?_ _
            clear hr y3 y4 yf b1 b2 y5
            obtain ⟨U, hU⟩ : ∃ U, U = u4.setCell ⟨N, 0, none⟩ (.slice ao' (acc.length + 1) cap') := ⟨_, rfl⟩
            rw [← hU] at HZZ
            rw [← hU]
            clear hU
            go_wp2
            go_roundw
            case rel => exact ⟨g0, q2, z2, acc ++ [fm], ao', cap', HE.out, by have := HB.out; have := HQ.out; omega, by have := HB.out; have := HQ.out; simp only [List.length_append, List.length_cons, List.length_nil] at *; omega, by simpa using HZZ.out.1, by simpa using HZZ.out.2.1, HZZ.out.2.2.1, HZZ.out.2.2.2⟩
            case measure => rw [HB.out.2.2, qLen_of HZZ.out.2.2.1]; exact HQ.out
          · skip
            go_simp
            refine hK _ _ ?_
            clear hK K
            refine wpAny_ready (rs := [0]) (by kernel_rfl) (by simp) ?_
            refine AllReady.cons rfl (fun K hK => ?_) AllReady.nil
            go_simp
            refine hK _ _ ?_
            clear hK K
            refine wpAny_ready (rs := [5]) (by kernel_rfl) (by simp) ?_
            refine AllReady.cons rfl (fun K hK => ?_) AllReady.nil
            refine step_append_run (by rfl) _ _ 113 (by rfl) _ _ (.slice ao' (acc.length + 1) cap') (by rfl) (by rfl) hr ?_
            refine hK _ _ ?_
            clear hK K
            refine wpAny_ready (rs := [6]) (by kernel_rfl) (by simp) ?_
            refine AllReady.cons rfl (fun K hK => ?_) AllReady.nil
            go_simp
            refine hK _ _ ?_
            clear hK K
            refine wpAny_done (by kernel_rfl) ?_ _
            clear hr y3 y4 yf b1 b2 y5
            obtain ⟨U, hU⟩ : ∃ U, U = u4.setCell ⟨N, 0, none⟩ (.slice ao' (acc.length + 1) cap') := ⟨_, rfl⟩
            rw [← hU] at HZZ
            rw [← hU]
            clear hU
            go_wp2
            go_roundw
            case rel => exact ⟨g0, q2, z2, acc ++ [fm], ao', cap', HE.out, by have := HB.out; have := HQ.out; omega, by have := HB.out; have := HQ.out; simp only [List.length_append, List.length_cons, List.length_nil] at *; omega, by simpa using HZZ.out.1, by simpa using HZZ.out.2.1, HZZ.out.2.2.1, HZZ.out.2.2.2⟩
            case measure => rw [HB.out.2.2, qLen_of HZZ.out.2.2.1]; exact HQ.out
end Go.Proofs.YtfecmpebnianpaaGreatDoor
namespace Go.Proofs.YtfecmpebnianpaaGreatDoor
open Go.RowKit
set_option linter.unusedSimpArgs false
set_option linter.unusedVariables false
end Go.Proofs.YtfecmpebnianpaaGreatDoor
namespace Go.Proofs.YtfecmpebnianpaaGreatDoor
open Go.RowKit
set_option linter.unusedSimpArgs false
set_option linter.unusedVariables false
/-- the three results of readAll in memory -/
structure RaKI (N : Nat) (vx : Value) (vy vz : Int) (w : World) : Prop where
  bx : w.heap[N]? = some (.cells #[vx] 47)
  by_ : w.heap[N + 1]? = some (.cells #[.int .i64 vy] 3)
  bz : w.heap[N + 2]? = some (.cells #[.int .i64 vz] 24)
theorem RaKI.only {N : Nat} {vx : Value} {vy vz : Int} {w w' : World} {bs : Nat → Prop} (h : RaKI N vx vy vz w) (o : Only bs w w') (hb : ∀ b, b ≤ N + 2 → N ≤ b → ¬ bs b) : RaKI N vx vy vz w' :=
  ⟨(o.block _ (Array.getElem?_eq_some_iff.1 h.bx).1 (hb _ (by omega) (by omega))).trans h.bx, (o.block _ (Array.getElem?_eq_some_iff.1 h.by_).1 (hb _ (by omega) (by omega))).trans h.by_, (o.block _ (Array.getElem?_eq_some_iff.1 h.bz).1 (hb _ (by omega) (by omega))).trans h.bz⟩
theorem RaKI.setY {N : Nat} {vx : Value} {vy vz : Int} {w : World} (h : RaKI N vx vy vz w) (y : Int) : RaKI N vx y vz (w.setCell ⟨N + 1, 0, none⟩ (.int .i64 y)) :=
  ⟨by rw [heap_setCell_other _ _ _ _ (by simp only; omega)]; exact h.bx, (heap_setCell_same _ _ _ _ _ _ h.by_).trans rfl, by rw [heap_setCell_other _ _ _ _ (by simp only; omega)]; exact h.bz⟩
theorem RaKI.setZ {N : Nat} {vx : Value} {vy vz : Int} {w : World} (h : RaKI N vx vy vz w) (z : Int) : RaKI N vx vy z (w.setCell ⟨N + 2, 0, none⟩ (.int .i64 z)) :=
  ⟨by rw [heap_setCell_other _ _ _ _ (by simp only; omega)]; exact h.bx, by rw [heap_setCell_other _ _ _ _ (by simp only; omega)]; exact h.by_, (heap_setCell_same _ _ _ _ _ _ h.bz).trans rfl⟩
theorem RaKI.setX {N : Nat} {vx : Value} {vy vz : Int} {w : World} (h : RaKI N vx vy vz w) (x : Value) : RaKI N x vy vz (w.setCell ⟨N, 0, none⟩ x) :=
  ⟨(heap_setCell_same _ _ _ _ _ _ h.bx).trans rfl, by rw [heap_setCell_other _ _ _ _ (by simp only; omega)]; exact h.by_, by rw [heap_setCell_other _ _ _ _ (by simp only; omega)]; exact h.bz⟩
theorem RaKI.start (w : World) : RaKI w.heap.size (.slice none 0 0) 0 0 (((w.alloc (.cells #[.slice none 0 0] 47)).alloc (.cells #[.int .i64 0] 3)).alloc (.cells #[.int .i64 0] 24)) := by
  have h1 := alloc_at w (.cells #[.slice none 0 0] 47) _ rfl
  have h2 := alloc_at (w.alloc (.cells #[.slice none 0 0] 47)) (.cells #[.int .i64 0] 3) (w.heap.size + 1) (by simp)
  have h3 := alloc_at ((w.alloc (.cells #[.slice none 0 0] 47)).alloc (.cells #[.int .i64 0] 3)) (.cells #[.int .i64 0] 24) (w.heap.size + 2) (by simp)
  have al : ∀ (W : World) (ob : Obj) (b : Nat) (o : Obj), W.heap[b]? = some o → (W.alloc ob).heap[b]? = some o := fun W ob b o hb => (((Only.refl (fun _ => False) W).alloc ob).block b (Array.getElem?_eq_some_iff.1 hb).1 (fun h => h)).trans hb
  exact ⟨al _ _ _ _ (al _ _ _ _ h1), al _ _ _ _ h2, h3⟩
end Go.Proofs.YtfecmpebnianpaaGreatDoor
namespace Go.Proofs.YtfecmpebnianpaaGreatDoor
open Go.RowKit
set_option linter.unusedSimpArgs false
set_option linter.unusedVariables false
end Go.Proofs.YtfecmpebnianpaaGreatDoor
namespace Go.Proofs.YtfecmpebnianpaaGreatDoor
open Go.RowKit
set_option linter.unusedSimpArgs false
set_option linter.unusedVariables false
theorem readAll_any (s : ByteArray) (w : World) (h : Nog w) : Calls Tryz.prog 65 #[.string s, .func (.func 66) #[] #[]] w (raP s w) := by
  by_cases hb : (tokR s).2.2 = 0
  · exact readAll_good s w h hb (tokR_len s) (by have := tokR_size hb; omega)
  · exact readAll_bad s w h hb
set_option maxRecDepth 100000 in
theorem parse_any (s : ByteArray) (w : World) (h : Nog w) : Calls Tryz.prog 46 #[.string s] w (raP s w) := by
  have HC : Hid (Calls Tryz.prog 65 #[.string s, .func (.func 66) #[] #[]] w (raP s w)) := readAll_any s w h
  clear h
  go_enter Tryz.func46, Tryz.ntmps46
  go_wp2_with fail
  refine (show Calls Tryz.prog 65 _ _ _ from HC.out).mono ?_
  rintro e w1 ⟨v, rfl, g⟩
  clear HC
  go_wp2
  go_ret3
  exact ⟨v, rfl, g⟩
end Go.Proofs.YtfecmpebnianpaaGreatDoor
