/- Measure: the size and the depth of a tree of the document that is sound. Bare, Sound, SoundItem, SoundItems, SoundDef: where they say true. Forms that are the same: SameDef, SameForms. Rows of the document's forms, one behind the other. Forms of a source: what the law asks of each. ParseSound: the walk. -/
import Derived.Test.YtapehdolnljnoaaDoorGai
import Derived.Test.YtapehdolnljnoaaDoorGak
import Derived.Test.YtapehdolnljnoaaDoorGal
namespace Go.Proofs.YtapehdolnljnoaaDoor
open Go.RowKit
set_option linter.unusedSimpArgs false
set_option linter.unusedVariables false
theorem Sz_nn : ∀ (d : Nat) (t : Tre), 0 ≤ Sz d t
  | 0, t => by simp [Sz]
  | d + 1, t => by
    unfold Sz
    split
    · have : ∀ l : List Tre, 0 ≤ (l.map (Sz d)).sum := fun l => by
        induction l with
        | nil => simp
        | cons x l ih => simp only [List.map_cons, List.sum_cons]; have := Sz_nn d x; omega
      have := this t.l
      omega
    · omega
/-- the size and the depth of the first i parts -/
def szP (d : Nat) (l : List Tre) (i : Nat) : Int := 1 + ((l.take i).map (Sz d)).sum
def dpP (d : Nat) (l : List Tre) (i : Nat) : Int := ((l.take i).map (Dp d)).foldl max 0
theorem szP_step {d : Nat} {l : List Tre} {i : Nat} {x : Tre} (h : l[i]? = some x) : szP d l (i + 1) = szP d l i + Sz d x := by
  unfold szP
  rw [List.take_add_one, h]
  simp
  omega
theorem dpP_step {d : Nat} {l : List Tre} {i : Nat} {x : Tre} (h : l[i]? = some x) : dpP d l (i + 1) = max (dpP d l i) (Dp d x) := by
  unfold dpP
  rw [List.take_add_one, h]
  simp
theorem szP_le {d : Nat} {l : List Tre} : ∀ (k i : Nat), szP d l i ≤ szP d l (i + k)
  | 0, i => by simp
  | k + 1, i => by
    have h1 := szP_le (d := d) (l := l) k i
    cases h : l[i + k]? with
    | none =>
      have : szP d l (i + (k + 1)) = szP d l (i + k) := by unfold szP; rw [← Nat.add_assoc, List.take_add_one, h]; simp
      omega
    | some x =>
      have := szP_step (d := d) h
      have := Sz_nn d x
      rw [← Nat.add_assoc]
      omega
theorem dpP_le {d : Nat} {l : List Tre} : ∀ (k i : Nat), dpP d l i ≤ dpP d l (i + k)
  | 0, i => by simp
  | k + 1, i => by
    have h1 := dpP_le (d := d) (l := l) k i
    cases h : l[i + k]? with
    | none =>
      have : dpP d l (i + (k + 1)) = dpP d l (i + k) := by unfold dpP; rw [← Nat.add_assoc, List.take_add_one, h]; simp
      omega
    | some x =>
      have := dpP_step (d := d) h
      rw [← Nat.add_assoc]
      omega
theorem dpP_nn (d : Nat) (l : List Tre) (i : Nat) : 0 ≤ dpP d l i := fmax_ge _ _
theorem sz_list {d : Nat} {t : Tre} (h : t.k = 4 ∨ t.k = 5) : Sz (d + 1) t = szP d t.l t.l.length := by
  unfold Sz szP
  rw [if_pos h, List.take_length]
theorem dp_list {d : Nat} {t : Tre} (h : t.k = 4 ∨ t.k = 5) : Dp (d + 1) t = 1 + dpP d t.l t.l.length := by
  unfold Dp dpP
  rw [if_pos h, List.take_length]
theorem sz_leaf {d : Nat} {t : Tre} (h : ¬ (t.k = 4 ∨ t.k = 5)) : Sz (d + 1) t = 1 := by
  unfold Sz
  rw [if_neg h]
theorem dp_leaf {d : Nat} {t : Tre} (h : ¬ (t.k = 4 ∨ t.k = 5)) : Dp (d + 1) t = 0 := by
  unfold Dp
  rw [if_neg h]
/-- the document's tree as a value -/
def vV (k n : Int) (s : ByteArray) (lv : Value) : Value := .agg #[.int .i64 k, .int .i64 n, .string s, lv]
def mR (z d : Int) (w : World) (e : Ending) (w' : World) : Prop := e = .returned (.tuple #[.int .i64 z, .int .i64 d, .bool true]) ∧ Only (fun _ => False) w w'
set_option maxRecDepth 100000 in
set_option maxHeartbeats 2000000 in
theorem ms_int (n : Int) (s : ByteArray) (ao : Option Addr) (L c : Nat) (left nest : Int) (h1 : 1 ≤ left) (h2 : left ≤ 1024) (h3 : 0 ≤ nest) (h4 : nest ≤ 32) (g1 : -1152921504606846976 ≤ n) (g2 : n ≤ 1152921504606846975) (w : World) : Calls Tryd.prog 29 #[vV 1 n s (.slice ao L c), .int .i64 left, .int .i64 nest] w (mR 1 0 w) := by
  unfold vV mR
  have HI : Hid (∀ w1, Calls Tryd.prog 42 #[.int .i64 n] w1 fun x w' => x = .returned (.bool true) ∧ w' = w1) := in_any n g1 g2
  clear g1 g2
  go_enter Tryd.func29, Tryd.ntmps29
  go_wp2_with fail
  refine (show Calls Tryd.prog 42 _ _ _ from HI.out _).mono ?_
  rintro e w1 ⟨rfl, rfl⟩
  clear HI
  go_wp2
  go_ret3
  exact ⟨rfl, (Only.refl _ w).alloc _⟩
set_option maxRecDepth 100000 in
set_option maxHeartbeats 2000000 in
theorem ms_str (n : Int) (s : ByteArray) (ao : Option Addr) (L c : Nat) (left nest : Int) (h1 : 1 ≤ left) (h2 : left ≤ 1024) (h3 : 0 ≤ nest) (h4 : nest ≤ 32) (g1 : s.size ≤ 4096) (g2 : ¬ stR s < s.size) (w : World) : Calls Tryd.prog 29 #[vV 2 n s (.slice ao L c), .int .i64 left, .int .i64 nest] w (mR 1 0 w) := by
  unfold vV mR
  have HI : Hid (∀ w1, Calls Tryd.prog 16 #[.string s] w1 fun x w' => x = .returned (.int .i64 (-1)) ∧ Only (fun _ => False) w1 w') := fun w1 => by
    have := bad_any s (by omega) w1
    rwa [show badR s = -1 from if_neg g2] at this
  have g3 : (s.size : Int) ≤ 4096 := by omega
  clear g2
  go_enter Tryd.func29, Tryd.ntmps29
  go_wp2_with fail
  refine (show Calls Tryd.prog 16 _ _ _ from HI.out _).mono ?_
  rintro e w1 ⟨rfl, o1⟩
  have O1 : Hid (Only (fun _ => False) w w1) := ((Only.refl (fun _ => False) w).alloc _).trans o1 (fun _ _ g => g)
  clear HI o1
  go_wp2
  go_ret3
  exact ⟨rfl, O1.out⟩
set_option maxRecDepth 100000 in
set_option maxHeartbeats 2000000 in
theorem ms_bool (n : Int) (s : ByteArray) (ao : Option Addr) (L c : Nat) (left nest : Int) (h1 : 1 ≤ left) (h2 : left ≤ 1024) (h3 : 0 ≤ nest) (h4 : nest ≤ 32) (w : World) : Calls Tryd.prog 29 #[vV 3 n s (.slice ao L c), .int .i64 left, .int .i64 nest] w (mR 1 0 w) := by
  unfold vV mR
  go_enter Tryd.func29, Tryd.ntmps29
  go_wp2
  go_ret3
  exact ⟨rfl, (Only.refl _ w).alloc _⟩
set_option maxRecDepth 100000 in
set_option maxHeartbeats 2000000 in
theorem ms_call (n : Int) (s : ByteArray) (ao : Option Addr) (L c : Nat) (left nest : Int) (h1 : 1 ≤ left) (h2 : left ≤ 1024) (h3 : 0 ≤ nest) (h4 : nest ≤ 32) (g1 : nameB s = true) (g2 : resB s = false) (g3 : s.size ≤ 65536) (w : World) : Calls Tryd.prog 29 #[vV 7 n s (.slice ao L c), .int .i64 left, .int .i64 nest] w (mR 1 0 w) := by
  unfold vV mR
  have HI : Hid (∀ w1, Calls Tryd.prog 27 #[.string s] w1 fun x w' => x = .returned (.bool true) ∧ Only (fun _ => False) w1 w') := rname7_any s (by omega) g1 g2
  clear g1 g2 g3
  go_enter Tryd.func29, Tryd.ntmps29
  go_wp2_with fail
  refine (show Calls Tryd.prog 27 _ _ _ from HI.out _).mono ?_
  rintro e w1 ⟨rfl, o1⟩
  have O1 : Hid (Only (fun _ => False) w w1) := ((Only.refl (fun _ => False) w).alloc _).trans o1 (fun _ _ g => g)
  clear HI o1
  go_wp2
  go_ret3
  exact ⟨rfl, O1.out⟩
/-- Measure, as far as d -/
def MsC (d : Nat) : Prop := ∀ (t : Tre) (lv : Value) (w : World) (S : Nat → Prop) (left nest : Int), VtAt w S d t lv → WfT d t → TrG d t → Sz d t ≤ left → left ≤ 1024 → 0 ≤ nest → nest + Dp d t ≤ 32 → Calls Tryd.prog 29 #[vV (t.k : Int) (vn t) (vs t) lv, .int .i64 left, .int .i64 nest] w (mR (Sz d t) (Dp d t) w)
/-- the parts of a tree that can be measured, wherever -/
def MsP (d : Nat) (l : List Tre) (ao : Option Addr) (w : World) (K : Int) : Prop := ∀ (i : Nat) (x : Tre), l[i]? = some x → ∃ g k lx, ao = some ⟨g, k, none⟩ ∧ (w.cell? ⟨g, k + i * 4, none⟩ = some (.int .i64 (x.k : Int)) ∧ w.cell? ⟨g, k + i * 4 + 1, none⟩ = some (.int .i64 (vn x)) ∧ w.cell? ⟨g, k + i * 4 + 2, none⟩ = some (.string (vs x)) ∧ w.cell? ⟨g, k + i * 4 + 3, none⟩ = some lx) ∧ (K = 4 → (x.k : Int) ≠ 7) ∧ ∀ w1 left nest, Only (fun _ => False) w w1 → Sz d x ≤ left → left ≤ 1024 → 0 ≤ nest → nest + Dp d x ≤ 32 → Calls Tryd.prog 29 #[vV (x.k : Int) (vn x) (vs x) lx, .int .i64 left, .int .i64 nest] w1 (mR (Sz d x) (Dp d x) w1)
set_option maxRecDepth 100000 in
set_option maxHeartbeats 8000000 in
theorem ms_list4 (d : Nat) (l : List Tre) (n : Int) (s : ByteArray) (ao : Option Addr) (c : Nat) (left nest : Int) (h2 : left ≤ 1024) (h3 : 0 ≤ nest) (hL : l.length ≤ 4096) (hs : szP d l l.length ≤ left) (hd : nest + 1 + dpP d l l.length ≤ 32) (w : World) (hp : MsP d l ao w 4) : Calls Tryd.prog 29 #[vV 4 n s (.slice ao l.length c), .int .i64 left, .int .i64 nest] w (mR (szP d l l.length) (1 + dpP d l l.length) w) := by
  obtain ⟨N, hN⟩ : ∃ N, N = l.length := ⟨_, rfl⟩
  have HNN : Hid (N = l.length) := hN
  have HP : Hid (MsP d l ao w 4) := hp
  have h4 : nest ≤ 32 := by have := dpP_nn d l l.length; omega
  have h1 : 1 ≤ left := by
    have := szP_le (d := d) (l := l) l.length 0
    have h0 : szP d l 0 = 1 := by simp [szP]
    rw [Nat.zero_add] at this
    omega
  have HS : Hid (szP d l N ≤ left ∧ nest + 1 + dpP d l N ≤ 32 ∧ N ≤ 4096) := ⟨by rw [hN]; exact hs, by rw [hN]; exact hd, by omega⟩
  rw [← hN]
  clear hN hp hs hd hL
  unfold mR vV
  obtain ⟨B, hB⟩ : ∃ B, B = w.heap.size := ⟨_, rfl⟩
  have HB : Hid (B = w.heap.size) := hB
  obtain ⟨w0, hw0⟩ : ∃ w0, w0 = w.alloc (.cells #[.int .i64 4, .int .i64 n, .string s, .slice ao N c] 38) := ⟨_, rfl⟩
  have HO : Hid (Only (fun _ => False) w w0) := by rw [hw0]; exact (Only.refl _ w).alloc _
  have HX : Hid (w0.heap[B]? = some (.cells #[.int .i64 4, .int .i64 n, .string s, .slice ao N c] 38)) := by rw [hw0]; exact alloc_at _ _ _ hB
  go_enter Tryd.func29, Tryd.ntmps29
  go_wp2
  rw [← hB, ← hw0]
  clear hB hw0
  go_loopw [6, 7, 9] (fun r6 r7 r9 wr => ∃ i : Nat, r6 = .int .i64 (szP d l i) ∧ r7 = .int .i64 (dpP d l i) ∧ r9 = .int .i64 (i : Int) ∧ i ≤ N ∧ Hid (Only (fun _ => False) w0 wr)) (fun _ _ r9 _ => N - uOf r9)
  case atStart => exact ⟨0, by simp [szP], by simp [dpP], rfl, Nat.zero_le _, Only.refl _ _⟩
  case round =>
    obtain ⟨i, rfl, rfl, rfl, hi, HI⟩ := hrel
    obtain ⟨w1, rfl⟩ : ∃ w1, w1 = wr := ⟨_, rfl⟩
    have hX := (HI.out.block B (Array.getElem?_eq_some_iff.1 HX.out).1 (fun g => g)).trans HX.out
    have b0 := blk_cells hX 0
    have b3 := blk_cells hX 3
    simp only [List.getElem?_toArray, List.getElem?_cons_zero, List.getElem?_cons_succ] at b0 b3
    clear hX
    obtain ⟨hs, hd, hN4⟩ := HS.out
    have hNl : N = l.length := HNN.out
    by_cases hiN : i < N
    · obtain ⟨x, hx⟩ : ∃ x, l[i]? = some x := ⟨l[i]'(by omega), List.getElem?_eq_getElem (by omega)⟩
      obtain ⟨g, k, lx, rfl, ⟨c0, c1, c2, c3⟩, hk7, hcall⟩ := HP.out i x hx
      have oo := HO.out.trans HI.out (fun _ _ g => g)
      have c0 := oo.cell c0 (fun g => g)
      have c1 := oo.cell c1 (fun g => g)
      have c2 := oo.cell c2 (fun g => g)
      have c3 := oo.cell c3 (fun g => g)
      have e1 := szP_step (d := d) hx
      have e2 := dpP_step (d := d) hx
      have e3 := szP_le (d := d) (l := l) (N - (i + 1)) (i + 1)
      have e4 := dpP_le (d := d) (l := l) (N - (i + 1)) (i + 1)
      rw [show i + 1 + (N - (i + 1)) = N by omega] at e3 e4
      have e5 := dpP_nn d l i
      have e6 := Sz_nn d x
      have e7 := szP_le (d := d) (l := l) i 0
      rw [show szP d l 0 = 1 by simp [szP], Nat.zero_add] at e7
      obtain ⟨zi, hzi⟩ : ∃ z, z = szP d l i := ⟨_, rfl⟩
      obtain ⟨di, hdi⟩ : ∃ z, z = dpP d l i := ⟨_, rfl⟩
      obtain ⟨zx, hzx⟩ : ∃ z, z = Sz d x := ⟨_, rfl⟩
      obtain ⟨dx, hdx⟩ : ∃ z, z = Dp d x := ⟨_, rfl⟩
      have HC : Hid (∀ w2, Only (fun _ => False) w1 w2 → Calls Tryd.prog 29 #[.agg #[.int .i64 (x.k : Int), .int .i64 (vn x), .string (vs x), lx], .int .i64 (left - zi), .int .i64 (nest + 1)] w2 fun e w' => e = .returned (.tuple #[.int .i64 zx, .int .i64 dx, .bool true]) ∧ Only (fun _ => False) w2 w') := fun w2 o2 => by
        rw [hzx, hdx]
        exact hcall w2 (left - zi) (nest + 1) (oo.trans o2 (fun _ _ g => g)) (by omega) (by omega) (by omega) (by omega)
      have HE : Hid (szP d l (i + 1) = zi + zx ∧ dpP d l (i + 1) = max di dx) := ⟨by omega, by omega⟩
      have f1 : 1 ≤ zi := by omega
      have f2 : zi + zx ≤ 1024 := by omega
      have f3 : 0 ≤ zx := by omega
      have f4 : 0 ≤ di := by omega
      have f5 : di ≤ 32 := by omega
      have f6 : dx ≤ 32 := by omega
      have f7 : nest + 1 ≤ 32 := by omega
      rw [← hzi, ← hdi]
      obtain ⟨x0, hx0⟩ : ∃ x0, x0 = (x.k : Int) := ⟨_, rfl⟩
      obtain ⟨x1, hx1⟩ : ∃ x1, x1 = vn x := ⟨_, rfl⟩
      obtain ⟨x2, hx2⟩ : ∃ x2, x2 = vs x := ⟨_, rfl⟩
      rw [← hx0, ← hx1, ← hx2] at HC
      rw [← hx0] at c0 hk7
      rw [← hx1] at c1
      rw [← hx2] at c2
      have hk : x0 ≠ 7 := hk7 rfl
      have HBd : Hid (i < N ∧ N ≤ 4096) := ⟨hiN, hN4⟩
      have i1 : (i : Int) < (N : Int) := by omega
      have i0 : (0 : Int) ≤ (i : Int) := by omega
      have hi4 : i ≤ 4096 := by omega
      clear hx0 hx1 hx2 hzi hdi hzx hdx e1 e2 e3 e4 e5 e6 e7 hs hd hN4 hNl hiN hi hcall oo hx hk7
      go_wp2_with fail
      refine (show Calls Tryd.prog 29 _ _ _ from HC.out _ (Only.refl _ _)).mono ?_
      rintro e w2 ⟨rfl, o2⟩
      have HK : Hid (Only (fun _ => False) w0 w2) := HI.out.trans o2 (fun _ _ g => g)
      clear HC HI o2 c0 c1 c2 c3 b0 b3
      go_wp2
      all_goals
        go_roundw
        case rel => exact ⟨i + 1, by rw [HE.out.1], by rw [HE.out.2], by go_num, by have := HBd.out; omega, HK⟩
        case measure => simp only [uOf]; have := HBd.out; omega
    · obtain rfl : i = N := by omega
      have i1 : ¬ (i : Int) < (i : Int) := by omega
      have e5 := dpP_nn d l i
      have f8 : dpP d l i < 32 := by omega
      have f9 : dpP d l i ≤ 32 := by omega
      clear hs hd hN4 hNl hiN hi
      go_wp2
      go_ret3
      refine ⟨?_, HO.out.trans HI.out (fun _ _ g => g)⟩
      rw [Int.add_comm 1 _]
      rfl
set_option maxRecDepth 100000 in
set_option maxHeartbeats 8000000 in
theorem ms_list5 (d : Nat) (l : List Tre) (n : Int) (s : ByteArray) (ao : Option Addr) (c : Nat) (left nest : Int) (h2 : left ≤ 1024) (h3 : 0 ≤ nest) (hL : l.length ≤ 4096) (hs : szP d l l.length ≤ left) (hd : nest + 1 + dpP d l l.length ≤ 32) (w : World) (hp : MsP d l ao w 5) : Calls Tryd.prog 29 #[vV 5 n s (.slice ao l.length c), .int .i64 left, .int .i64 nest] w (mR (szP d l l.length) (1 + dpP d l l.length) w) := by
  obtain ⟨N, hN⟩ : ∃ N, N = l.length := ⟨_, rfl⟩
  have HNN : Hid (N = l.length) := hN
  have HP : Hid (MsP d l ao w 5) := hp
  have h4 : nest ≤ 32 := by have := dpP_nn d l l.length; omega
  have h1 : 1 ≤ left := by
    have := szP_le (d := d) (l := l) l.length 0
    have h0 : szP d l 0 = 1 := by simp [szP]
    rw [Nat.zero_add] at this
    omega
  have HS : Hid (szP d l N ≤ left ∧ nest + 1 + dpP d l N ≤ 32 ∧ N ≤ 4096) := ⟨by rw [hN]; exact hs, by rw [hN]; exact hd, by omega⟩
  rw [← hN]
  clear hN hp hs hd hL
  unfold mR vV
  obtain ⟨B, hB⟩ : ∃ B, B = w.heap.size := ⟨_, rfl⟩
  have HB : Hid (B = w.heap.size) := hB
  obtain ⟨w0, hw0⟩ : ∃ w0, w0 = w.alloc (.cells #[.int .i64 5, .int .i64 n, .string s, .slice ao N c] 38) := ⟨_, rfl⟩
  have HO : Hid (Only (fun _ => False) w w0) := by rw [hw0]; exact (Only.refl _ w).alloc _
  have HX : Hid (w0.heap[B]? = some (.cells #[.int .i64 5, .int .i64 n, .string s, .slice ao N c] 38)) := by rw [hw0]; exact alloc_at _ _ _ hB
  go_enter Tryd.func29, Tryd.ntmps29
  go_wp2
  rw [← hB, ← hw0]
  clear hB hw0
  go_loopw [6, 7, 9] (fun r6 r7 r9 wr => ∃ i : Nat, r6 = .int .i64 (szP d l i) ∧ r7 = .int .i64 (dpP d l i) ∧ r9 = .int .i64 (i : Int) ∧ i ≤ N ∧ Hid (Only (fun _ => False) w0 wr)) (fun _ _ r9 _ => N - uOf r9)
  case atStart => exact ⟨0, by simp [szP], by simp [dpP], rfl, Nat.zero_le _, Only.refl _ _⟩
  case round =>
    obtain ⟨i, rfl, rfl, rfl, hi, HI⟩ := hrel
    obtain ⟨w1, rfl⟩ : ∃ w1, w1 = wr := ⟨_, rfl⟩
    have hX := (HI.out.block B (Array.getElem?_eq_some_iff.1 HX.out).1 (fun g => g)).trans HX.out
    have b0 := blk_cells hX 0
    have b3 := blk_cells hX 3
    simp only [List.getElem?_toArray, List.getElem?_cons_zero, List.getElem?_cons_succ] at b0 b3
    clear hX
    obtain ⟨hs, hd, hN4⟩ := HS.out
    have hNl : N = l.length := HNN.out
    by_cases hiN : i < N
    · obtain ⟨x, hx⟩ : ∃ x, l[i]? = some x := ⟨l[i]'(by omega), List.getElem?_eq_getElem (by omega)⟩
      obtain ⟨g, k, lx, rfl, ⟨c0, c1, c2, c3⟩, hk7, hcall⟩ := HP.out i x hx
      have oo := HO.out.trans HI.out (fun _ _ g => g)
      have c0 := oo.cell c0 (fun g => g)
      have c1 := oo.cell c1 (fun g => g)
      have c2 := oo.cell c2 (fun g => g)
      have c3 := oo.cell c3 (fun g => g)
      have e1 := szP_step (d := d) hx
      have e2 := dpP_step (d := d) hx
      have e3 := szP_le (d := d) (l := l) (N - (i + 1)) (i + 1)
      have e4 := dpP_le (d := d) (l := l) (N - (i + 1)) (i + 1)
      rw [show i + 1 + (N - (i + 1)) = N by omega] at e3 e4
      have e5 := dpP_nn d l i
      have e6 := Sz_nn d x
      have e7 := szP_le (d := d) (l := l) i 0
      rw [show szP d l 0 = 1 by simp [szP], Nat.zero_add] at e7
      obtain ⟨zi, hzi⟩ : ∃ z, z = szP d l i := ⟨_, rfl⟩
      obtain ⟨di, hdi⟩ : ∃ z, z = dpP d l i := ⟨_, rfl⟩
      obtain ⟨zx, hzx⟩ : ∃ z, z = Sz d x := ⟨_, rfl⟩
      obtain ⟨dx, hdx⟩ : ∃ z, z = Dp d x := ⟨_, rfl⟩
      have HC : Hid (∀ w2, Only (fun _ => False) w1 w2 → Calls Tryd.prog 29 #[.agg #[.int .i64 (x.k : Int), .int .i64 (vn x), .string (vs x), lx], .int .i64 (left - zi), .int .i64 (nest + 1)] w2 fun e w' => e = .returned (.tuple #[.int .i64 zx, .int .i64 dx, .bool true]) ∧ Only (fun _ => False) w2 w') := fun w2 o2 => by
        rw [hzx, hdx]
        exact hcall w2 (left - zi) (nest + 1) (oo.trans o2 (fun _ _ g => g)) (by omega) (by omega) (by omega) (by omega)
      have HE : Hid (szP d l (i + 1) = zi + zx ∧ dpP d l (i + 1) = max di dx) := ⟨by omega, by omega⟩
      have f1 : 1 ≤ zi := by omega
      have f2 : zi + zx ≤ 1024 := by omega
      have f3 : 0 ≤ zx := by omega
      have f4 : 0 ≤ di := by omega
      have f5 : di ≤ 32 := by omega
      have f6 : dx ≤ 32 := by omega
      have f7 : nest + 1 ≤ 32 := by omega
      rw [← hzi, ← hdi]
      obtain ⟨x0, hx0⟩ : ∃ x0, x0 = (x.k : Int) := ⟨_, rfl⟩
      obtain ⟨x1, hx1⟩ : ∃ x1, x1 = vn x := ⟨_, rfl⟩
      obtain ⟨x2, hx2⟩ : ∃ x2, x2 = vs x := ⟨_, rfl⟩
      rw [← hx0, ← hx1, ← hx2] at HC
      rw [← hx0] at c0 hk7
      rw [← hx1] at c1
      rw [← hx2] at c2
      skip
      have HBd : Hid (i < N ∧ N ≤ 4096) := ⟨hiN, hN4⟩
      have i1 : (i : Int) < (N : Int) := by omega
      have i0 : (0 : Int) ≤ (i : Int) := by omega
      have hi4 : i ≤ 4096 := by omega
      clear hx0 hx1 hx2 hzi hdi hzx hdx e1 e2 e3 e4 e5 e6 e7 hs hd hN4 hNl hiN hi hcall oo hx hk7
      go_wp2_with fail
      refine (show Calls Tryd.prog 29 _ _ _ from HC.out _ (Only.refl _ _)).mono ?_
      rintro e w2 ⟨rfl, o2⟩
      have HK : Hid (Only (fun _ => False) w0 w2) := HI.out.trans o2 (fun _ _ g => g)
      clear HC HI o2 c0 c1 c2 c3 b0 b3
      go_wp2
      all_goals
        go_roundw
        case rel => exact ⟨i + 1, by rw [HE.out.1], by rw [HE.out.2], by go_num, by have := HBd.out; omega, HK⟩
        case measure => simp only [uOf]; have := HBd.out; omega
    · obtain rfl : i = N := by omega
      have i1 : ¬ (i : Int) < (i : Int) := by omega
      have e5 := dpP_nn d l i
      have f8 : dpP d l i < 32 := by omega
      have f9 : dpP d l i ≤ 32 := by omega
      clear hs hd hN4 hNl hiN hi
      go_wp2
      go_ret3
      refine ⟨?_, HO.out.trans HI.out (fun _ _ g => g)⟩
      rw [Int.add_comm 1 _]
      rfl
theorem ms_any : ∀ d : Nat, MsC d
  | 0 => fun t lv w S left nest h => h.elim
  | d + 1 => by
    intro t lv w S left nest hv hw hg h1 h2 h3 h4
    have ih := ms_any d
    by_cases hk : t.k = 4 ∨ t.k = 5
    · obtain ⟨ao, cap, rfl, hc, hl⟩ := hv
      rw [sz_list hk] at h1 ⊢
      rw [dp_list hk] at h4 ⊢
      have hp : MsP d t.l ao w (t.k : Int) := fun i x hx => by
        obtain ⟨g, k, lx, ha, hS, hcs, ht⟩ := hl i x hx
        have hm : x ∈ t.l := List.mem_of_getElem? hx
        exact ⟨g, k, lx, ha, hcs, fun g4 g7 => (hg.2 x hm).2 (by omega) (by omega), fun w1 left nest o a1 a2 a3 a4 => ih x lx w1 S left nest (ht.step (fun _ g => g) (fun a u _ hc => o.cell hc (fun g => g)) (Nat.le_refl _)) (hw.2 x hm) (hg.2 x hm).1 a1 a2 a3 a4⟩
      rcases hk with hk | hk
      · rw [hk] at hp ⊢
        exact ms_list4 d t.l _ _ ao cap left nest h2 h3 hw.1 h1 (by omega) w hp
      · rw [hk] at hp ⊢
        exact ms_list5 d t.l _ _ ao cap left nest h2 h3 hw.1 h1 (by omega) w hp
    · rw [sz_leaf hk] at h1 ⊢
      rw [dp_leaf hk] at h4 ⊢
      obtain ⟨ao, cap, rfl, hc, hl⟩ := hv
      rcases hg.1 with ⟨e, g1, g2⟩ | ⟨e, g1, g2⟩ | ⟨e, _⟩ | ⟨e, g1, g2, g3⟩ | e | e
      · rw [show vn t = t.n by simp [vn, e], e]
        exact ms_int _ _ ao _ cap left nest h1 h2 h3 (by omega) g1 g2 w
      · rw [show vs t = t.s by simp [vs, e], e]
        exact ms_str _ _ ao _ cap left nest h1 h2 h3 (by omega) g1 g2 w
      · rw [e]
        exact ms_bool _ _ ao _ cap left nest h1 h2 h3 (by omega) w
      · rw [show vs t = t.s by simp [vs, e], e]
        exact ms_call _ _ ao _ cap left nest h1 h2 h3 (by omega) g1 g2 g3 w
      · exact absurd (.inl e) hk
      · exact absurd (.inr e) hk
end Go.Proofs.YtapehdolnljnoaaDoor
namespace Go.Proofs.YtapehdolnljnoaaDoor
open Go.RowKit
set_option linter.unusedSimpArgs false
set_option linter.unusedVariables false
def tR (w : World) (e : Ending) (w' : World) : Prop := e = .returned (.bool true) ∧ Only (fun _ => False) w w'
/-- Bare, as far as d -/
def BrC (d : Nat) : Prop := ∀ (t : Tre) (lv : Value) (w : World) (S : Nat → Prop), VtAt w S d t lv → WfT d t → TrG d t → Calls Tryd.prog 12 #[vV (t.k : Int) (vn t) (vs t) lv] w (tR w)
def BrP (l : List Tre) (ao : Option Addr) (w : World) : Prop := ∀ (i : Nat) (x : Tre), l[i]? = some x → ∃ g k lx, ao = some ⟨g, k, none⟩ ∧ (w.cell? ⟨g, k + i * 4, none⟩ = some (.int .i64 (x.k : Int)) ∧ w.cell? ⟨g, k + i * 4 + 1, none⟩ = some (.int .i64 (vn x)) ∧ w.cell? ⟨g, k + i * 4 + 2, none⟩ = some (.string (vs x)) ∧ w.cell? ⟨g, k + i * 4 + 3, none⟩ = some lx) ∧ ∀ w1, Only (fun _ => False) w w1 → Calls Tryd.prog 12 #[vV (x.k : Int) (vn x) (vs x) lx] w1 (tR w1)
set_option maxRecDepth 100000 in
set_option maxHeartbeats 8000000 in
theorem br_walk (K n : Int) (hK : K ≠ 6) (l : List Tre) (s : ByteArray) (ao : Option Addr) (c : Nat) (hL : l.length ≤ 4096) (w : World) (hp : BrP l ao w) : Calls Tryd.prog 12 #[vV K n s (.slice ao l.length c)] w (tR w) := by
  obtain ⟨N, hN⟩ : ∃ N, N = l.length := ⟨_, rfl⟩
  have HNN : Hid (N = l.length) := hN
  have HP : Hid (BrP l ao w) := hp
  have HS : Hid (N ≤ 4096) := by rw [hN]; exact hL
  rw [← hN]
  clear hN hp hL
  unfold tR vV
  obtain ⟨B, hB⟩ : ∃ B, B = w.heap.size := ⟨_, rfl⟩
  have HB : Hid (B = w.heap.size) := hB
  obtain ⟨w0, hw0⟩ : ∃ w0, w0 = w.alloc (.cells #[.int .i64 K, .int .i64 n, .string s, .slice ao N c] 38) := ⟨_, rfl⟩
  have HO : Hid (Only (fun _ => False) w w0) := by rw [hw0]; exact (Only.refl _ w).alloc _
  have HX : Hid (w0.heap[B]? = some (.cells #[.int .i64 K, .int .i64 n, .string s, .slice ao N c] 38)) := by rw [hw0]; exact alloc_at _ _ _ hB
  have hK6 : (K == 6) = false := by simpa using hK
  go_enter Tryd.func12, Tryd.ntmps12
  go_wp2
  rw [← hB, ← hw0]
  try rw [hK6]
  clear hB hw0 hK hK6
  go_loopw [3] (fun r3 wr => ∃ i : Nat, r3 = .int .i64 (i : Int) ∧ i ≤ N ∧ Hid (Only (fun _ => False) w0 wr)) (fun r3 _ => N - uOf r3)
  case atStart => exact ⟨0, rfl, Nat.zero_le _, Only.refl _ _⟩
  case round =>
    obtain ⟨i, rfl, hi, HI⟩ := hrel
    obtain ⟨w1, rfl⟩ : ∃ w1, w1 = wr := ⟨_, rfl⟩
    have hX := (HI.out.block B (Array.getElem?_eq_some_iff.1 HX.out).1 (fun g => g)).trans HX.out
    have b3 := blk_cells hX 3
    simp only [List.getElem?_toArray, List.getElem?_cons_zero, List.getElem?_cons_succ] at b3
    clear hX
    have hN4 := HS.out
    have hNl : N = l.length := HNN.out
    by_cases hiN : i < N
    · obtain ⟨x, hx⟩ : ∃ x, l[i]? = some x := ⟨l[i]'(by omega), List.getElem?_eq_getElem (by omega)⟩
      obtain ⟨g, k, lx, rfl, ⟨c0, c1, c2, c3⟩, hcall⟩ := HP.out i x hx
      have oo := HO.out.trans HI.out (fun _ _ g => g)
      have c0 := oo.cell c0 (fun g => g)
      have c1 := oo.cell c1 (fun g => g)
      have c2 := oo.cell c2 (fun g => g)
      have c3 := oo.cell c3 (fun g => g)
      have HC : Hid (Calls Tryd.prog 12 #[.agg #[.int .i64 (x.k : Int), .int .i64 (vn x), .string (vs x), lx]] w1 fun e w' => e = .returned (.bool true) ∧ Only (fun _ => False) w1 w') := hcall w1 oo
      obtain ⟨x0, hx0⟩ : ∃ x0, x0 = (x.k : Int) := ⟨_, rfl⟩
      obtain ⟨x1, hx1⟩ : ∃ x1, x1 = vn x := ⟨_, rfl⟩
      obtain ⟨x2, hx2⟩ : ∃ x2, x2 = vs x := ⟨_, rfl⟩
      rw [← hx0, ← hx1, ← hx2] at HC
      rw [← hx0] at c0
      rw [← hx1] at c1
      rw [← hx2] at c2
      have HBd : Hid (i < N ∧ N ≤ 4096) := ⟨hiN, hN4⟩
      have i1 : (i : Int) < (N : Int) := by omega
      have i0 : (0 : Int) ≤ (i : Int) := by omega
      have hi4 : i ≤ 4096 := by omega
      clear hx0 hx1 hx2 hN4 hNl hiN hi hcall oo hx
      go_wp2_with fail
      refine (show Calls Tryd.prog 12 _ _ _ from HC.out).mono ?_
      rintro e w2 ⟨rfl, o2⟩
      have HK : Hid (Only (fun _ => False) w0 w2) := HI.out.trans o2 (fun _ _ g => g)
      clear HC HI o2 c0 c1 c2 c3 b3
      go_wp2
      go_roundw
      case rel => exact ⟨i + 1, by go_num, by have := HBd.out; omega, HK⟩
      case measure => simp only [uOf]; have := HBd.out; omega
    · obtain rfl : i = N := by omega
      have i1 : ¬ (i : Int) < (i : Int) := by omega
      clear hN4 hNl hiN hi
      go_wp2
      go_ret
      exact ⟨rfl, HO.out.trans HI.out (fun _ _ g => g)⟩
theorem br_any : ∀ d : Nat, BrC d
  | 0 => fun t lv w S h => h.elim
  | d + 1 => by
    intro t lv w S hv hw hg
    have ih := br_any d
    obtain ⟨ao, cap, rfl, hc, hl⟩ := hv
    refine br_walk _ _ ?_ t.l _ ao cap hw.1 w fun i x hx => ?_
    · rcases hg.1 with ⟨e, _⟩ | ⟨e, _⟩ | ⟨e, _⟩ | ⟨e, _⟩ | e | e <;> rw [e] <;> decide
    · obtain ⟨g, k, lx, ha, hS, hcs, ht⟩ := hl i x hx
      have hm : x ∈ t.l := List.mem_of_getElem? hx
      exact ⟨g, k, lx, ha, hcs, fun w1 o => ih x lx w1 S (ht.step (fun _ g => g) (fun a u _ hc => o.cell hc (fun g => g)) (Nat.le_refl _)) (hw.2 x hm) (hg.2 x hm).1⟩
/-- a tree in memory whose size and depth are within the limits -/
def MeC (k n : Int) (s : ByteArray) (lv : Value) (w : World) : Prop := ∀ w1, Only (fun _ => False) w w1 → ∃ z d, Calls Tryd.prog 29 #[.agg #[.int .i64 k, .int .i64 n, .string s, lv], .int .i64 1024, .int .i64 0] w1 fun e w' => e = .returned (.tuple #[.int .i64 z, .int .i64 d, .bool true]) ∧ Only (fun _ => False) w1 w'
theorem me_any {e : Nat} {t : Tre} {lv : Value} {w : World} {S : Nat → Prop} (h : VtAt w S e t lv) (g : SnT e t) : MeC (t.k : Int) (vn t) (vs t) lv w := fun w1 o =>
  ⟨_, _, ms_any e t lv w1 S 1024 0 (h.step (fun _ g => g) (fun a u _ hc => o.cell hc (fun g => g)) (Nat.le_refl _)) g.1 g.2.1 g.2.2.1 (by omega) (by omega) (by have := g.2.2.2.2; omega)⟩
set_option maxRecDepth 100000 in
set_option maxHeartbeats 2000000 in
theorem sounditem_any (k n : Int) (s : ByteArray) (ao : Option Addr) (L c : Nat) (w : World) (h : MeC k n s (.slice ao L c) w) : Calls Tryd.prog 11 #[vV k n s (.slice ao L c)] w (tR w) := by
  obtain ⟨z, d, hm⟩ := h _ ((Only.refl (fun _ => False) w).alloc (.cells #[.int .i64 k, .int .i64 n, .string s, .slice ao L c] 38))
  have HM : Hid _ := hm
  clear h hm
  unfold vV tR
  go_enter Tryd.func11, Tryd.ntmps11
  go_wp2_with fail
  refine (show Calls Tryd.prog 29 _ _ _ from HM.out).mono ?_
  rintro e w1 ⟨rfl, o1⟩
  have O1 : Hid (Only (fun _ => False) w w1) := ((Only.refl (fun _ => False) w).alloc _).trans o1 (fun _ _ g => g)
  clear HM o1
  go_wp2
  go_ret
  exact ⟨rfl, O1.out⟩
set_option maxRecDepth 100000 in
set_option maxHeartbeats 2000000 in
theorem sound_any (k n : Int) (s : ByteArray) (ao : Option Addr) (L c : Nat) (hk : k ≠ 7) (w : World) (h : MeC k n s (.slice ao L c) w) : Calls Tryd.prog 41 #[vV k n s (.slice ao L c)] w (tR w) := by
  obtain ⟨z, d, hm⟩ := h _ ((Only.refl (fun _ => False) w).alloc (.cells #[.int .i64 k, .int .i64 n, .string s, .slice ao L c] 38))
  have HM : Hid _ := hm
  clear h hm
  unfold vV tR
  obtain ⟨N, hN⟩ : ∃ N, N = w.heap.size := ⟨_, rfl⟩
  go_enter Tryd.func41, Tryd.ntmps41
  go_wp2_with fail
  refine (show Calls Tryd.prog 29 _ _ _ from HM.out).mono ?_
  rintro e w1 ⟨rfl, o1⟩
  have O1 : Hid (Only (fun _ => False) w w1) := ((Only.refl (fun _ => False) w).alloc _).trans o1 (fun _ _ g => g)
  have hX : w1.heap[N]? = some (.cells #[.int .i64 k, .int .i64 n, .string s, .slice ao L c] 38) := (o1.block N (by simp [hN]) (fun g => g)).trans (alloc_at _ _ _ hN)
  have b0 := blk_cells hX 0
  simp only [List.getElem?_toArray, List.getElem?_cons_zero, List.getElem?_cons_succ] at b0
  rw [← hN]
  clear HM o1 hX hN
  go_wp2
  go_ret
  exact ⟨congrArg (fun b => Ending.returned (Value.bool b)) (show (k != 7) = true by simpa using hk), O1.out⟩
set_option maxRecDepth 100000 in
set_option maxHeartbeats 2000000 in
theorem sounditems_any (ao : Option Addr) (L c : Nat) (w : World) (h : MeC 5 0 ⟨#[]⟩ (.slice ao L c) w) : Calls Tryd.prog 28 #[.slice ao L c] w (tR w) := by
  have HM : Hid (Calls Tryd.prog 41 #[.agg #[.int .i64 5, .int .i64 0, .string ⟨#[]⟩, .slice ao L c]] w fun e w' => e = .returned (.bool true) ∧ Only (fun _ => False) w w') := sound_any 5 0 ⟨#[]⟩ ao L c (by decide) w h
  clear h
  unfold tR
  go_enter Tryd.func28, Tryd.ntmps28
  go_wp2_with fail
  refine (show Calls Tryd.prog 41 _ _ _ from HM.out).mono ?_
  rintro e w1 ⟨rfl, o1⟩
  have O1 : Hid (Only (fun _ => False) w w1) := o1
  clear HM o1
  go_wp2
  go_ret
  exact ⟨rfl, O1.out⟩
set_option maxRecDepth 100000 in
set_option maxHeartbeats 4000000 in
theorem sounddef_any (nm : ByteArray) (i j : Nat) (ao : Option Addr) (L c : Nat) (w : World) (g1 : nameB nm = true) (g2 : resB nm = false) (g3 : nm.size ≤ 65536) (g4 : i ≤ 16) (g5 : j ≤ 16) (h : MeC 5 0 ⟨#[]⟩ (.slice ao L c) w) (hb : ∀ w1, Only (fun _ => False) w w1 → Calls Tryd.prog 12 #[vV 5 0 ⟨#[]⟩ (.slice ao L c)] w1 (tR w1)) : Calls Tryd.prog 10 #[.agg #[.string nm, .int .i64 (i : Int), .int .i64 (j : Int), .slice ao L c]] w (tR w) := by
  have HN : Hid (∀ w1, Calls Tryd.prog 27 #[.string nm] w1 fun x w' => x = .returned (.bool true) ∧ Only (fun _ => False) w1 w') := rname7_any nm (by omega) g1 g2
  have HS : Hid (∀ w1, Only (fun _ => False) w w1 → Calls Tryd.prog 28 #[.slice ao L c] w1 fun x w' => x = .returned (.bool true) ∧ Only (fun _ => False) w1 w') := fun w1 o => sounditems_any ao L c w1 (fun w2 o2 => h w2 (o.trans o2 (fun _ _ g => g)))
  have HB : Hid (∀ w1, Only (fun _ => False) w w1 → Calls Tryd.prog 12 #[.agg #[.int .i64 5, .int .i64 0, .string ⟨#[]⟩, .slice ao L c]] w1 fun x w' => x = .returned (.bool true) ∧ Only (fun _ => False) w1 w') := hb
  have i0 : (0 : Int) ≤ (i : Int) := by omega
  have i1 : (i : Int) ≤ 16 := by omega
  have j0 : (0 : Int) ≤ (j : Int) := by omega
  have j1 : (j : Int) ≤ 16 := by omega
  clear g1 g2 g3 g4 g5 h hb
  unfold tR
  obtain ⟨N, hN⟩ : ∃ N, N = w.heap.size := ⟨_, rfl⟩
  go_enter Tryd.func10, Tryd.ntmps10
  go_wp2_with fail
  refine (show Calls Tryd.prog 27 _ _ _ from HN.out _).mono ?_
  rintro e w1 ⟨rfl, o1⟩
  have O1 : Hid (Only (fun _ => False) w w1) := ((Only.refl (fun _ => False) w).alloc _).trans o1 (fun _ _ g => g)
  have hX : w1.heap[N]? = some (.cells #[.string nm, .int .i64 (i : Int), .int .i64 (j : Int), .slice ao L c] 36) := (o1.block N (by simp [hN]) (fun g => g)).trans (alloc_at _ _ _ hN)
  have HX : Hid _ := hX
  have b1 := blk_cells hX 1
  have b2 := blk_cells hX 2
  have b3 := blk_cells hX 3
  simp only [List.getElem?_toArray, List.getElem?_cons_zero, List.getElem?_cons_succ] at b1 b2 b3
  rw [← hN]
  clear HN o1 hX hN
  go_wp2_with fail
  refine (show Calls Tryd.prog 28 _ _ _ from HS.out _ O1.out).mono ?_
  rintro e w2 ⟨rfl, o2⟩
  have O2 : Hid (Only (fun _ => False) w w2) := O1.out.trans o2 (fun _ _ g => g)
  have hX : w2.heap[N]? = some (.cells #[.string nm, .int .i64 (i : Int), .int .i64 (j : Int), .slice ao L c] 36) := (o2.block N (Array.getElem?_eq_some_iff.1 HX.out).1 (fun g => g)).trans HX.out
  clear HS HX O1 o2 b1 b2 b3
  have b3 := blk_cells hX 3
  simp only [List.getElem?_toArray, List.getElem?_cons_zero, List.getElem?_cons_succ] at b3
  clear hX
  go_wp2_with fail
  refine (show Calls Tryd.prog 12 _ _ _ from HB.out _ O2.out).mono ?_
  rintro e w3 ⟨rfl, o3⟩
  have O3 : Hid (Only (fun _ => False) w w3) := O2.out.trans o3 (fun _ _ g => g)
  clear HB O2 o3 b3
  go_wp2
  go_ret
  exact ⟨rfl, O3.out⟩
end Go.Proofs.YtapehdolnljnoaaDoor
namespace Go.Proofs.YtapehdolnljnoaaDoor
open Go.RowKit
set_option linter.unusedSimpArgs false
set_option linter.unusedVariables false
set_option maxRecDepth 100000 in
set_option maxHeartbeats 4000000 in
theorem samedef_walk (nm : ByteArray) (x y : Int) (a1 a2 : Option Addr) (L c1 c2 : Nat) (w : World) (HC0 : ∀ w1, Only (fun _ => False) w w1 → Calls Tryd.prog 39 #[.slice a1 L c1, .slice a2 L c2] w1 fun e w' => e = .returned (.bool true) ∧ Only (fun _ => False) w1 w') :
    Calls Tryd.prog 25 #[.agg #[.string nm, .int .i64 x, .int .i64 y, .slice a1 L c1], .agg #[.string nm, .int .i64 x, .int .i64 y, .slice a2 L c2]] w fun e w' => e = .returned (.bool true) ∧ Only (fun _ => False) w w' := by
  have HC : Hid (∀ w1, Only (fun _ => False) w w1 → Calls Tryd.prog 39 #[.slice a1 L c1, .slice a2 L c2] w1 fun e w' => e = .returned (.bool true) ∧ Only (fun _ => False) w1 w') := HC0
  have O0 : Hid (Only (fun _ => False) w w) := Only.refl _ _
  clear HC0
  go_enter Tryd.func25, Tryd.ntmps25
  go_wp2_with fail
  refine (show Calls Tryd.prog 39 _ _ _ from HC.out _ ((O0.out.alloc _).alloc _)).mono ?_
  rintro e w1 ⟨rfl, o1⟩
  have O1 : Hid (Only (fun _ => False) w w1) := ((O0.out.alloc _).alloc _).trans o1 (fun _ _ g => g)
  clear HC o1
  go_wp2
  go_ret
  exact ⟨rfl, O1.out⟩
/-- a slice of the document's forms that can be read -/
def VfQ (w : World) (S : Nat → Prop) (d : Nat) (v : Value) (l : List Fm) : Prop :=
  ∃ ao cap, v = .slice ao l.length cap ∧ ∀ (j : Nat) (fm : Fm), l[j]? = some fm → ∃ g k bl il, ao = some ⟨g, k, none⟩ ∧ (∀ i u, (fC fm bl il)[i]? = some u → w.cell? ⟨g, k + j * 9 + i, none⟩ = some u) ∧ VtAt w S d (bdT fm) bl ∧ VtAt w S d fm.it il
theorem VfAt.read {w : World} {B d : Nat} {v : Value} {l : List Fm} (h : VfAt w B d v l) : ∃ S, VfQ w S d v l := by
  obtain ⟨us, S, ho, ht, hS⟩ := h
  refine ⟨S, ?_⟩
  rcases ho.2 with ⟨rfl, h2⟩ | ⟨g, cap, cur, hv, hB, hg, hn, hcm, hcs, htk⟩
  · have : l = [] := List.eq_nil_of_length_eq_zero h2
    subst this
    exact ⟨none, 0, rfl, fun j fm hj => by simp at hj⟩
  · refine ⟨some ⟨g, 0, none⟩, cap, hv, fun j fm hj => ?_⟩
    obtain ⟨bl, il, h0, h1, h2⟩ := ht j fm hj
    refine ⟨g, 0, bl, il, rfl, fun i u hu => ?_, h1, h2⟩
    have := ho.cells (g := g) (by rw [hv]; rfl) _ u (h0 i u hu)
    rw [addr_ad] at this
    rw [Nat.zero_add]
    exact this
theorem VfQ.only {w w' : World} {S : Nat → Prop} {d : Nat} {v : Value} {l : List Fm} (h : VfQ w S d v l) (o : Only (fun _ => False) w w') : VfQ w' S d v l := by
  obtain ⟨ao, cap, hv, hl⟩ := h
  refine ⟨ao, cap, hv, fun j fm hj => ?_⟩
  obtain ⟨g, k, bl, il, ha, h0, h1, h2⟩ := hl j fm hj
  exact ⟨g, k, bl, il, ha, fun i u hu => o.cell (h0 i u hu) (fun g => g), h1.step (fun _ g => g) (fun a u _ hc => o.cell hc (fun g => g)) (Nat.le_refl _), h2.step (fun _ g => g) (fun a u _ hc => o.cell hc (fun g => g)) (Nat.le_refl _)⟩
set_option maxRecDepth 100000 in
set_option maxHeartbeats 40000000 in
theorem sameforms_any (d : Nat) (l : List Fm) (va vb : Value) (w : World) (S S' : Nat → Prop) (h1 : VfQ w S d va l) (h2 : VfQ w S' d vb l) (hl : l.length ≤ 8192) (hw : ∀ fm ∈ l, (∃ e, WfT e (bdT fm)) ∧ ∃ e, WfT e fm.it) : Calls Tryd.prog 9 #[va, vb] w fun e w' => e = .returned (.bool true) ∧ Only (fun _ => False) w w' := by
  obtain ⟨aa, ca, rfl, ha⟩ := h1
  obtain ⟨ab, cb, rfl, hb⟩ := h2
  have HE : Hid (∀ (j : Nat) (fm : Fm), l[j]? = some fm → ∃ g k g' k' a1 c1 a2 c2 b1 e1 b2 e2, aa = some ⟨g, k, none⟩ ∧ ab = some ⟨g', k', none⟩ ∧ (∀ i u, (fC fm (.slice a1 fm.b.length c1) (.slice a2 fm.it.l.length c2))[i]? = some u → w.cell? ⟨g, k + j * 9 + i, none⟩ = some u) ∧ (∀ i u, (fC fm (.slice b1 fm.b.length e1) (.slice b2 fm.it.l.length e2))[i]? = some u → w.cell? ⟨g', k' + j * 9 + i, none⟩ = some u) ∧ (∀ w1, Only (fun _ => False) w w1 → Calls Tryd.prog 25 #[.agg #[.string fm.nm, .int .i64 (fm.i : Int), .int .i64 (fm.j : Int), .slice a1 fm.b.length c1], .agg #[.string fm.nm, .int .i64 (fm.i : Int), .int .i64 (fm.j : Int), .slice b1 fm.b.length e1]] w1 fun e w' => e = .returned (.bool true) ∧ Only (fun _ => False) w1 w') ∧ (∀ w1, Only (fun _ => False) w w1 → Calls Tryd.prog 26 #[.agg #[.int .i64 (fm.it.k : Int), .int .i64 (vn fm.it), .string (vs fm.it), .slice a2 fm.it.l.length c2], .agg #[.int .i64 (fm.it.k : Int), .int .i64 (vn fm.it), .string (vs fm.it), .slice b2 fm.it.l.length e2]] w1 fun e w' => e = .returned (.bool true) ∧ Only (fun _ => False) w1 w')) := by
    intro j fm hx
    obtain ⟨g, k, bl, il, p1, p2, p3, p4⟩ := ha j fm hx
    obtain ⟨g', k', bl', il', q1, q2, q3, q4⟩ := hb j fm hx
    obtain ⟨w1, w2⟩ := hw fm (List.mem_of_getElem? hx)
    obtain ⟨a1, c1, rfl⟩ := p3.form
    obtain ⟨a2, c2, rfl⟩ := p4.form
    obtain ⟨b1, e1, rfl⟩ := q3.form
    obtain ⟨b2, e2, rfl⟩ := q4.form
    refine ⟨g, k, g', k', a1, c1, a2, c2, b1, e1, b2, e2, p1, q1, p2, q2, fun w1' o1 => samedef_walk _ _ _ a1 b1 _ c1 e1 w1' fun w3 o3 => ?_, fun w1' o1 => ?_⟩
    · have oo := o1.trans o3 (fun _ _ g => g)
      exact (sameT_any d).1 (bdT fm) _ _ w3 S S' (p3.step (fun _ g => g) (fun a u _ hc => oo.cell hc (fun g => g)) (Nat.le_refl _)) (q3.step (fun _ g => g) (fun a u _ hc => oo.cell hc (fun g => g)) (Nat.le_refl _)) w1
    · exact (sameT_any d).2 fm.it _ _ w1' S S' (p4.step (fun _ g => g) (fun a u _ hc => o1.cell hc (fun g => g)) (Nat.le_refl _)) (q4.step (fun _ g => g) (fun a u _ hc => o1.cell hc (fun g => g)) (Nat.le_refl _)) w2
  have HLB : Hid (l.length ≤ 8192) := hl
  clear ha hb hw
  obtain ⟨N, hN⟩ : ∃ N, N = l.length := ⟨_, rfl⟩
  have HNN : Hid (N = l.length) := hN
  rw [← hN]
  clear hN hl
  go_enter Tryd.func9, Tryd.ntmps9
  go_wp2
  go_loopw [5] (fun r5 wr => ∃ i : Nat, r5 = .int .i64 (i : Int) ∧ i ≤ N ∧ Hid (Only (fun _ => False) w wr)) (fun r5 _ => N - uOf r5)
  case atStart => exact ⟨0, rfl, Nat.zero_le _, Only.refl _ _⟩
  case round =>
    obtain ⟨i, rfl, hi, HI⟩ := hrel
    obtain ⟨w1, rfl⟩ : ∃ w1, w1 = wr := ⟨_, rfl⟩
    have hNl : N = l.length := HNN.out
    have hN4 : l.length ≤ 8192 := HLB.out
    by_cases hiN : i < N
    · obtain ⟨fm, hx⟩ : ∃ x, l[i]? = some x := ⟨l[i]'(by omega), List.getElem?_eq_getElem (by omega)⟩
      obtain ⟨g, k, g', k', a1, c1, a2, c2, b1, e1, b2, e2, rfl, rfl, hA, hB, hD, hI⟩ := HE.out i fm hx
      have HB : Hid (i < N ∧ N ≤ 8192) := ⟨hiN, by omega⟩
      have i1 : (i : Int) < (N : Int) := by omega
      have i0 : (0 : Int) ≤ (i : Int) := by omega
      have hi4 : i ≤ 8192 := by omega
      obtain ⟨fd, hfd⟩ : ∃ fd, fd = fm.d := ⟨_, rfl⟩
      obtain ⟨fn, hfn⟩ : ∃ fn, fn = fm.nm := ⟨_, rfl⟩
      obtain ⟨fi, hfi⟩ : ∃ fi : Int, fi = fm.i := ⟨_, rfl⟩
      obtain ⟨fj, hfj⟩ : ∃ fj : Int, fj = fm.j := ⟨_, rfl⟩
      obtain ⟨x0, hx0⟩ : ∃ x0, x0 = (fm.it.k : Int) := ⟨_, rfl⟩
      obtain ⟨x1, hx1⟩ : ∃ x1, x1 = vn fm.it := ⟨_, rfl⟩
      obtain ⟨x2, hx2⟩ : ∃ x2, x2 = vs fm.it := ⟨_, rfl⟩
      obtain ⟨bL, hbL⟩ : ∃ bL, bL = fm.b.length := ⟨_, rfl⟩
      obtain ⟨xl, hxl⟩ : ∃ xl, xl = fm.it.l.length := ⟨_, rfl⟩
      unfold fC at hA hB
      rw [← hfd, ← hfn, ← hfi, ← hfj, ← hx0, ← hx1, ← hx2, ← hbL, ← hxl] at hA hB
      rw [← hfn, ← hfi, ← hfj, ← hbL] at hD
      rw [← hx0, ← hx1, ← hx2, ← hxl] at hI
      have HS : Hid (∀ w', Only (fun _ => False) w1 w' → w'.cell? ⟨g, k + i * 9, none⟩ = some (.bool fd) ∧ w'.cell? ⟨g, k + i * 9 + 1, none⟩ = some (.string fn) ∧ w'.cell? ⟨g, k + i * 9 + 2, none⟩ = some (.int .i64 fi) ∧ w'.cell? ⟨g, k + i * 9 + 3, none⟩ = some (.int .i64 fj) ∧ w'.cell? ⟨g, k + i * 9 + 4, none⟩ = some (.slice a1 bL c1) ∧ w'.cell? ⟨g, k + i * 9 + 5, none⟩ = some (.int .i64 x0) ∧ w'.cell? ⟨g, k + i * 9 + 6, none⟩ = some (.int .i64 x1) ∧ w'.cell? ⟨g, k + i * 9 + 7, none⟩ = some (.string x2) ∧ w'.cell? ⟨g, k + i * 9 + 8, none⟩ = some (.slice a2 xl c2) ∧ w'.cell? ⟨g', k' + i * 9, none⟩ = some (.bool fd) ∧ w'.cell? ⟨g', k' + i * 9 + 1, none⟩ = some (.string fn) ∧ w'.cell? ⟨g', k' + i * 9 + 2, none⟩ = some (.int .i64 fi) ∧ w'.cell? ⟨g', k' + i * 9 + 3, none⟩ = some (.int .i64 fj) ∧ w'.cell? ⟨g', k' + i * 9 + 4, none⟩ = some (.slice b1 bL e1) ∧ w'.cell? ⟨g', k' + i * 9 + 5, none⟩ = some (.int .i64 x0) ∧ w'.cell? ⟨g', k' + i * 9 + 6, none⟩ = some (.int .i64 x1) ∧ w'.cell? ⟨g', k' + i * 9 + 7, none⟩ = some (.string x2) ∧ w'.cell? ⟨g', k' + i * 9 + 8, none⟩ = some (.slice b2 xl e2)) := fun w' o => by
        have oo := HI.out.trans o (fun _ _ g => g)
        have ca := fun i u hu => oo.cell (hA i u hu) (fun g => g)
        have cb := fun i u hu => oo.cell (hB i u hu) (fun g => g)
        exact ⟨ca 0 _ rfl, ca 1 _ rfl, ca 2 _ rfl, ca 3 _ rfl, ca 4 _ rfl, ca 5 _ rfl, ca 6 _ rfl, ca 7 _ rfl, ca 8 _ rfl, cb 0 _ rfl, cb 1 _ rfl, cb 2 _ rfl, cb 3 _ rfl, cb 4 _ rfl, cb 5 _ rfl, cb 6 _ rfl, cb 7 _ rfl, cb 8 _ rfl⟩
      have HD : Hid (∀ w1, Only (fun _ => False) w w1 → Calls Tryd.prog 25 #[.agg #[.string fn, .int .i64 fi, .int .i64 fj, .slice a1 bL c1], .agg #[.string fn, .int .i64 fi, .int .i64 fj, .slice b1 bL e1]] w1 fun e w' => e = .returned (.bool true) ∧ Only (fun _ => False) w1 w') := hD
      have HIt : Hid (∀ w1, Only (fun _ => False) w w1 → Calls Tryd.prog 26 #[.agg #[.int .i64 x0, .int .i64 x1, .string x2, .slice a2 xl c2], .agg #[.int .i64 x0, .int .i64 x1, .string x2, .slice b2 xl e2]] w1 fun e w' => e = .returned (.bool true) ∧ Only (fun _ => False) w1 w') := hI
      have OR : Hid (Only (fun _ => False) w1 w1) := Only.refl _ _
      clear hfd hfn hfi hfj hx0 hx1 hx2 hbL hxl hA hB hD hI HE hx hNl hN4 hi hiN
      go_wp2_with fail
      go_region_held3 (fun w' => w'.cell? ⟨g, k + i * 9, none⟩ = some (.bool fd) ∧ w'.cell? ⟨g, k + i * 9 + 1, none⟩ = some (.string fn) ∧ w'.cell? ⟨g, k + i * 9 + 2, none⟩ = some (.int .i64 fi) ∧ w'.cell? ⟨g, k + i * 9 + 3, none⟩ = some (.int .i64 fj) ∧ w'.cell? ⟨g, k + i * 9 + 4, none⟩ = some (.slice a1 bL c1) ∧ w'.cell? ⟨g, k + i * 9 + 5, none⟩ = some (.int .i64 x0) ∧ w'.cell? ⟨g, k + i * 9 + 6, none⟩ = some (.int .i64 x1) ∧ w'.cell? ⟨g, k + i * 9 + 7, none⟩ = some (.string x2) ∧ w'.cell? ⟨g, k + i * 9 + 8, none⟩ = some (.slice a2 xl c2) ∧ w'.cell? ⟨g', k' + i * 9, none⟩ = some (.bool fd) ∧ w'.cell? ⟨g', k' + i * 9 + 1, none⟩ = some (.string fn) ∧ w'.cell? ⟨g', k' + i * 9 + 2, none⟩ = some (.int .i64 fi) ∧ w'.cell? ⟨g', k' + i * 9 + 3, none⟩ = some (.int .i64 fj) ∧ w'.cell? ⟨g', k' + i * 9 + 4, none⟩ = some (.slice b1 bL e1) ∧ w'.cell? ⟨g', k' + i * 9 + 5, none⟩ = some (.int .i64 x0) ∧ w'.cell? ⟨g', k' + i * 9 + 6, none⟩ = some (.int .i64 x1) ∧ w'.cell? ⟨g', k' + i * 9 + 7, none⟩ = some (.string x2) ∧ w'.cell? ⟨g', k' + i * 9 + 8, none⟩ = some (.slice b2 xl e2))
        (first
          | with_reducible exact HS.out _ OR.out.drew
          | with_reducible exact HS.out _ O2.out
          | with_reducible exact HS.out _ O3.out)
        (first
          | (go_at_call 25; refine (show Calls Tryd.prog 25 _ _ _ from HD.out _ HI.out.drew).mono ?_; rintro ex w2 ⟨rfl, o2⟩; have O2 : Hid (Only (fun _ => False) w1 w2) := OR.out.drew.trans o2 (fun _ _ g => g))
          | (go_at_call 26; refine (show Calls Tryd.prog 26 _ _ _ from HIt.out _ (HI.out.trans O2.out (fun _ _ g => g))).mono ?_; rintro ex w3 ⟨rfl, o3⟩; have O3 : Hid (Only (fun _ => False) w1 w3) := O2.out.trans o3 (fun _ _ g => g)))
      have HK : Hid (Only (fun _ => False) w w3) := HI.out.trans O3.out (fun _ _ g => g)
      clear HI O2 O3 OR HS HD HIt o2 o3
      go_wp2
      go_roundw
      case rel => exact ⟨i + 1, by go_num, by have := HB.out; omega, HK⟩
      case measure => simp only [uOf]; have := HB.out; omega
    · obtain rfl : i = N := by omega
      have i1 : ¬ (i : Int) < (i : Int) := by omega
      clear HE hNl hN4 hi hiN
      go_wp2
      go_ret
      exact ⟨rfl, HI.out⟩
end Go.Proofs.YtapehdolnljnoaaDoor
namespace Go.Proofs.YtapehdolnljnoaaDoor
open Go.RowKit
set_option linter.unusedSimpArgs false
set_option linter.unusedVariables false
theorem VtAt.one {w : World} {S : Nat → Prop} {d : Nat} {t : Tre} {lv : Value} (h : VtAt w S d t lv) : lv.oneCell' = true := by
  obtain ⟨ao, cap, rfl⟩ := h.form
  rfl
theorem fC_one {fm : Fm} {bl il : Value} (h1 : bl.oneCell' = true) (h2 : il.oneCell' = true) : ∀ u ∈ fC fm bl il, u.oneCell' = true := by
  intro u hu
  simp only [fC, List.mem_cons, List.not_mem_nil, or_false] at hu
  rcases hu with rfl | rfl | rfl | rfl | rfl | rfl | rfl | rfl | rfl
  · rfl
  · rfl
  · rfl
  · rfl
  · exact h1
  · rfl
  · rfl
  · rfl
  · exact h2
theorem VfAt.lower {w : World} {B C d : Nat} {v : Value} {l : List Fm} (h : VfAt w B d v l) (hC : C ≤ B) : VfAt w C d v l := by
  obtain ⟨us, S, ho, ht, hS⟩ := h
  refine ⟨us, S, ⟨ho.1, ?_⟩, ht, fun b hb => ⟨Nat.le_trans hC (hS b hb).1, (hS b hb).2⟩⟩
  rcases ho.2 with g | ⟨g, cap, cur, h1, h2, h3⟩
  · exact .inl g
  · exact .inr ⟨g, cap, cur, h1, by omega, h3⟩
set_option maxRecDepth 100000 in
theorem app_rows {w : World} {B C d : Nat} {v v2 : Value} {l l2 : List Fm} (hf : VfAt w B d v l) (hf2 : VfAt w C d v2 l2) (hC : B ≤ C) (hv : ∀ k, v.ownBlock = some k → k < C) (hB : B ≤ w.heap.size) (hl : l.length + l2.length ≤ 8192) :
    ∃ v' w', (∀ ty, (Builtin.append_ #[30, 30] ty #[v, v2]).run Tryd.prog w = .ok v' w') ∧ VfAt w' B d v' (l ++ l2) ∧ Only (fun k => B ≤ k) w w' := by
  obtain ⟨i0, z0, hi, hz0, hz1, hz2, hz3⟩ := rf_info
  obtain ⟨us, S, ho, ht, hS⟩ := id hf
  obtain ⟨us2, S2, ho2, ht2, hS2⟩ := hf2
  rcases ho2.2 with ⟨rfl, h0⟩ | ⟨g, cap, cur, hv2, hCg, hg, hn, hcm, hcs, htk⟩
  · obtain rfl : l2 = [] := List.eq_nil_of_length_eq_zero h0
    refine ⟨v, w, fun ty => run_append_owned_none _ B 30 ty 40 i0 9 Tryd.underlying30 hi _ l.length us ho, by simpa using hf, Only.refl _ _⟩
  · have hone : ∀ u ∈ us2, u.oneCell' = true := by
      intro u hu
      obtain ⟨p, hp⟩ := List.getElem?_of_mem hu
      have hpl : p < us2.length := (List.getElem?_eq_some_iff.1 hp).1
      have hl2 := ho2.1
      have hj : p / 9 < l2.length := by omega
      obtain ⟨fm, hfm⟩ : ∃ fm, l2[p / 9]? = some fm := ⟨l2[p / 9]'hj, List.getElem?_eq_getElem hj⟩
      obtain ⟨bl, il, c0, c1, c2⟩ := ht2 _ fm hfm
      have hi9 : p % 9 < (fC fm bl il).length := by show p % 9 < 9; omega
      have hc := c0 (p % 9) _ (List.getElem?_eq_getElem hi9)
      rw [show p / 9 * 9 + p % 9 = p by omega, hp] at hc
      injection hc with hc
      rw [hc]
      exact fC_one c1.one c2.one _ (List.getElem_mem hi9)
    have key := fun ty => run_append_own_at (P := Tryd.prog) w B 30 ty 40 i0 z0 9 120 Tryd.underlying30 hi hz0 hz1 hz2 hz3 (by omega) v l.length us ho ⟨g, 0, none⟩ l2.length cap us2 ho2.1 (by
      intro j u hj
      exact ho2.cells (g := g) (by rw [hv2]; rfl) j u hj) hone (by unfold maxLen; omega) (by omega) hB
    obtain ⟨v', w', hr, own', hgr, _, hat⟩ := key 0
    have oo : Only (fun k => v.ownBlock = some k) w w' := (Only.refl _ w).grown hgr (fun k e _ => e)
    have a1 : ∀ b, S b → ¬ v.ownBlock = some b := fun b h => (hS b h).2.2
    have a2 : ∀ b, S2 b → ¬ v.ownBlock = some b := fun b h e => by have := hv b e; have := (hS2 b h).1; omega
    have hl1 : us.length = l.length * 9 := ho.1
    refine ⟨v', w', fun ty => ?_, ⟨us ++ us2, fun b => S b ∨ S2 b, by simpa using own', fun j x hx => ?_, fun b hb => ?_⟩, oo.mono (fun k hk e => (ho.lt k e).1)⟩
    · rw [hv2, ← hr]
      rfl
    · by_cases hj : j < l.length
      · rw [List.getElem?_append_left hj] at hx
        obtain ⟨bl', il', h0, h1, h2⟩ := ht j x hx
        refine ⟨bl', il', fun i u hu => ?_, h1.step (fun _ g => .inl g) (fun a y hs hc => oo.cell hc (a1 _ hs)) (Nat.le_refl _), h2.step (fun _ g => .inl g) (fun a y hs hc => oo.cell hc (a1 _ hs)) (Nat.le_refl _)⟩
        have := h0 i u hu
        rw [List.getElem?_append_left (List.getElem?_eq_some_iff.1 this).1]
        exact this
      · rw [List.getElem?_append_right (by omega)] at hx
        obtain ⟨bl', il', h0, h1, h2⟩ := ht2 _ x hx
        refine ⟨bl', il', fun i u hu => ?_, h1.step (fun _ g => .inr g) (fun a y hs hc => oo.cell hc (a2 _ hs)) (Nat.le_refl _), h2.step (fun _ g => .inr g) (fun a y hs hc => oo.cell hc (a2 _ hs)) (Nat.le_refl _)⟩
        have := h0 i u hu
        rw [List.getElem?_append_right (by omega), show j * 9 + i - us.length = (j - l.length) * 9 + i by omega]
        exact this
    · have h1 : B ≤ b ∧ b < w.heap.size ∧ v.ownBlock ≠ some b := by
        rcases hb with h | h
        · exact hS b h
        · exact ⟨Nat.le_trans hC (hS2 b h).1, (hS2 b h).2.1, a2 b h⟩
      refine ⟨h1.1, Nat.lt_of_lt_of_le h1.2.1 oo.size, ?_⟩
      rcases hat with e | e <;> rw [e]
      · exact h1.2.2
      · intro e2
        injection e2 with e2
        have := h1.2.1
        omega
/-- FormTrees of what Parse answered -/
theorem ft_any (s : ByteArray) (v : Value) (B : Nat) (w : World) (h : FsAt w B 12400 v (parR s).1) : Calls Tryd.prog 8 #[v] w fun e w' => ∃ ao cap, e = .returned (.slice ao (parR s).1.length cap) ∧ Hid (VfAt w' w.heap.size 12401 (.slice ao (parR s).1.length cap) (parR s).1 ∧ Only (fun _ => False) w w') := by
  obtain ⟨S, hr⟩ := h.read
  have hw := @parR_wf s
  exact formtrees_any 12400 v _ w S hr hw.1 (fun fm hf => (hw.2 fm hf).wfm)
end Go.Proofs.YtapehdolnljnoaaDoor
namespace Go.Proofs.YtapehdolnljnoaaDoor
open Go.RowKit
set_option linter.unusedSimpArgs false
set_option linter.unusedVariables false
/-- is none of the first i forms a definition? -/
def onl (l : List Fm) (i : Nat) : Bool := (l.take i).all fun fm => !fm.d
theorem onl_step {l : List Fm} {i : Nat} {fm : Fm} (h : l[i]? = some fm) : onl l (i + 1) = (onl l i && !fm.d) := by
  unfold onl
  rw [List.take_add_one, h]
  simp
/-- a definition among forms in memory: its cells, and that it is sound -/
def DfS (w : World) (ao : Option Addr) (j : Nat) (fm : Fm) : Prop := ∃ g k ab Lb cb ai Li ci, ao = some ⟨g, k, none⟩ ∧ (w.cell? ⟨g, k + j * 9, none⟩ = some (.bool true) ∧ w.cell? ⟨g, k + j * 9 + 1, none⟩ = some (.string fm.nm) ∧ w.cell? ⟨g, k + j * 9 + 2, none⟩ = some (.int .i64 (fm.i : Int)) ∧ w.cell? ⟨g, k + j * 9 + 3, none⟩ = some (.int .i64 (fm.j : Int)) ∧ w.cell? ⟨g, k + j * 9 + 4, none⟩ = some (.slice ab Lb cb) ∧ w.cell? ⟨g, k + j * 9 + 5, none⟩ = some (.int .i64 0) ∧ w.cell? ⟨g, k + j * 9 + 6, none⟩ = some (.int .i64 0) ∧ w.cell? ⟨g, k + j * 9 + 7, none⟩ = some (.string ⟨#[]⟩) ∧ w.cell? ⟨g, k + j * 9 + 8, none⟩ = some (.slice ai Li ci)) ∧ ∀ w1, Only (fun _ => False) w w1 → Calls Tryd.prog 10 #[.agg #[.string fm.nm, .int .i64 (fm.i : Int), .int .i64 (fm.j : Int), .slice ab Lb cb]] w1 (tR w1)
/-- an item among forms in memory: its cells, and that it is sound and bare -/
def ItS (w : World) (ao : Option Addr) (j : Nat) (fm : Fm) : Prop := ∃ g k ab Lb cb ai Li ci, ao = some ⟨g, k, none⟩ ∧ (w.cell? ⟨g, k + j * 9, none⟩ = some (.bool false) ∧ w.cell? ⟨g, k + j * 9 + 1, none⟩ = some (.string fm.nm) ∧ w.cell? ⟨g, k + j * 9 + 2, none⟩ = some (.int .i64 (fm.i : Int)) ∧ w.cell? ⟨g, k + j * 9 + 3, none⟩ = some (.int .i64 (fm.j : Int)) ∧ w.cell? ⟨g, k + j * 9 + 4, none⟩ = some (.slice ab Lb cb) ∧ w.cell? ⟨g, k + j * 9 + 5, none⟩ = some (.int .i64 (fm.it.k : Int)) ∧ w.cell? ⟨g, k + j * 9 + 6, none⟩ = some (.int .i64 (vn fm.it)) ∧ w.cell? ⟨g, k + j * 9 + 7, none⟩ = some (.string (vs fm.it)) ∧ w.cell? ⟨g, k + j * 9 + 8, none⟩ = some (.slice ai Li ci)) ∧ (∀ w1, Only (fun _ => False) w w1 → Calls Tryd.prog 11 #[.agg #[.int .i64 (fm.it.k : Int), .int .i64 (vn fm.it), .string (vs fm.it), .slice ai Li ci]] w1 (tR w1)) ∧ ∀ w1, Only (fun _ => False) w w1 → Calls Tryd.prog 12 #[.agg #[.int .i64 (fm.it.k : Int), .int .i64 (vn fm.it), .string (vs fm.it), .slice ai Li ci]] w1 (tR w1)
theorem forms_sound {s : ByteArray} {w : World} {ao : Option Addr} {L cap : Nat} {B : Nat} (h : VfAt w B 12401 (.slice ao L cap) (parR s).1) (j : Nat) (fm : Fm) (hj : (parR s).1[j]? = some fm) : (fm.d = true → DfS w ao j fm) ∧ (fm.d = false → ItS w ao j fm) := by
  obtain ⟨S, ao', cap', hv, hr⟩ := h.read
  injection hv with e1 e2 e3
  subst e1
  obtain ⟨g, k, bl, il, ha, hc, hb, hi⟩ := hr j fm hj
  have hg := parR_good (s := s) fm (List.mem_of_getElem? hj)
  obtain ⟨ab, cb, eb⟩ := hb.form
  obtain ⟨ai, ci, ei⟩ := hi.form
  subst eb ei
  have c0 := hc 0 _ rfl
  have c1 := hc 1 _ rfl
  have c2 := hc 2 _ rfl
  have c3 := hc 3 _ rfl
  have c4 := hc 4 _ rfl
  have c5 := hc 5 _ rfl
  have c6 := hc 6 _ rfl
  have c7 := hc 7 _ rfl
  have c8 := hc 8 _ rfl
  have st : ∀ {t : Tre} {lv : Value} {w1 : World}, VtAt w S 12401 t lv → Only (fun _ => False) w w1 → VtAt w1 S 12401 t lv := fun h o => h.step (fun _ g => g) (fun a u _ hc => o.cell hc (fun g => g)) (Nat.le_refl _)
  refine ⟨fun hd => ?_, fun hd => ?_⟩
  · obtain ⟨n1, n2, n3, n4, n5, n6, n7⟩ := hg.1 hd
    rw [hd] at c0
    rw [n7] at c5 c6 c7
    refine ⟨g, k, ab, _, cb, ai, _, ci, ha, ⟨c0, c1, c2, c3, c4, c5, c6, c7, c8⟩, fun w1 o => ?_⟩
    exact sounddef_any fm.nm fm.i fm.j ab _ cb w1 n1 n2 n3 n4 n5 (me_any (t := bdT fm) (st hb o) n6) (fun w2 o2 => br_any 12401 (bdT fm) _ w2 S (st hb (o.trans o2 (fun _ _ g => g))) n6.1 n6.2.1)
  · have n := hg.2 hd
    rw [hd] at c0
    refine ⟨g, k, ab, _, cb, ai, _, ci, ha, ⟨c0, c1, c2, c3, c4, c5, c6, c7, c8⟩, fun w1 o => ?_, fun w1 o => ?_⟩
    · exact sounditem_any _ _ _ ai _ ci w1 (me_any (st hi o) n)
    · exact br_any 12401 fm.it _ w1 S (st hi o) n.1 n.2.1
end Go.Proofs.YtapehdolnljnoaaDoor
namespace Go.Proofs.YtapehdolnljnoaaDoor
open Go.RowKit
set_option linter.unusedSimpArgs false
set_option linter.unusedVariables false
theorem onl_all (l : List Fm) : (onl l l.length = true → ∀ fm ∈ l, fm.d = false) ∧ (onl l l.length = false → ∃ fm ∈ l, fm.d = true) := by
  unfold onl
  rw [List.take_length]
  refine ⟨fun h fm hf => ?_, fun h => ?_⟩
  · have := List.all_eq_true.1 h fm hf
    simpa using this
  · rw [List.all_eq_false] at h
    obtain ⟨fm, hf, h⟩ := h
    exact ⟨fm, hf, by simpa using h⟩
set_option maxRecDepth 100000 in
set_option maxHeartbeats 8000000 in
theorem psound_walk (s : ByteArray) (hs : s.size ≤ 140737488355328) (w : World) (h : Nog w) : Calls Tryd.prog 4 #[.string s] w fun e w' => e = .returned (.bool true) ∧ Below w.heap.size w w' := by
  have HA : Hid (Calls Tryd.prog 5 #[] w fun e w' => e = .returned (.bool true) ∧ Below w.heap.size w w') := awake_any w h
  have HP : Hid (∀ w1, Only (fun _ => False) w w1 → Calls Tryd.prog 6 #[.string s] w1 fun x w' => ∃ ao cap, x = .returned (.tuple #[.slice ao (parR s).1.length cap, .int .i64 (parR s).2.1, .int .i64 (parR s).2.2]) ∧ Hid (FsAt w' w1.heap.size 12400 (.slice ao (parR s).1.length cap) (parR s).1 ∧ Below w1.heap.size w1 w')) := fun w1 o1 => (parse_any s w1 (h.frame o1)).mono fun x w' g => by
    obtain ⟨v, he, g⟩ := g
    obtain ⟨ao, cap, hv⟩ := g.out.1.form
    subst hv
    exact ⟨ao, cap, he, g⟩
  have HQ : Hid (∀ w1, Only (fun _ => False) w w1 → Calls Tryd.prog 13 #[.string s] w1 fun x w' => ∃ ao cap a, x = .returned (.tuple #[.slice ao (parI s).1.length cap, .int .i64 a, .int .i64 (parI s).2.2]) ∧ Hid (Below w1.heap.size w1 w')) := fun w1 o1 => (items_any s w1 (h.frame o1)).mono fun x w' g => by
    obtain ⟨v, he, g⟩ := g
    obtain ⟨ao, cap, hv⟩ := g.out.1.form
    subst hv
    exact ⟨ao, cap, _, he, g.out.2⟩
  suffices H : Calls Tryd.prog 4 #[.string s] w fun e w' => e = .returned (.bool true) ∧ Only (fun _ => False) w w' from
    H.mono fun e w' h => ⟨h.1, h.2.os, h.2.tape, h.2.output, h.2.size, fun k hk => h.2.block k hk (fun g => g)⟩
  clear h hs
  obtain ⟨p1, hp1⟩ : ∃ p, p = (parR s).2.1 := ⟨_, rfl⟩
  rw [← hp1] at HP
  clear hp1
  by_cases h1 : (parR s).2.2 = 0
  · have HI := parI_of h1
    have HON := onl_all (parR s).1
    have HL : Hid ((parR s).1.length ≤ 4096) := parR_wf.1
    have HE : Hid (∀ B w1 ao L cap, VfAt w1 B 12401 (.slice ao L cap) (parR s).1 → ∀ j fm, (parR s).1[j]? = some fm → (fm.d = true → DfS w1 ao j fm) ∧ (fm.d = false → ItS w1 ao j fm)) := fun B w1 ao L cap h j fm hj => forms_sound h j fm hj
    have HF : Hid (∀ v B w1, FsAt w1 B 12400 v (parR s).1 → Calls Tryd.prog 8 #[v] w1 fun e w' => ∃ ao cap, e = .returned (.slice ao (parR s).1.length cap) ∧ Hid (VfAt w' w1.heap.size 12401 (.slice ao (parR s).1.length cap) (parR s).1 ∧ Only (fun _ => False) w1 w')) := fun v B w1 h => ft_any s v B w1 h
    rw [h1] at HP
    clear h1
    obtain ⟨l, hl⟩ : ∃ l, l = (parR s).1 := ⟨_, rfl⟩
    rw [← hl] at HP HE HF HL HI HON
    clear hl
    obtain ⟨N, hN⟩ : ∃ N, N = l.length := ⟨_, rfl⟩
    have HNN : Hid (N = l.length) := hN
    rw [← hN] at HP HF HON HL
    have HQ2 : Hid (∀ w1, Only (fun _ => False) w w1 → (onl l N = true → Calls Tryd.prog 13 #[.string s] w1 fun x w' => ∃ ao cap a, x = .returned (.tuple #[.slice ao N cap, .int .i64 a, .int .i64 0]) ∧ Hid (Below w1.heap.size w1 w')) ∧ (onl l N = false → Calls Tryd.prog 13 #[.string s] w1 fun x w' => ∃ ao M cap a, x = .returned (.tuple #[.slice ao M cap, .int .i64 a, .int .i64 9]) ∧ Hid (Below w1.heap.size w1 w'))) := fun w1 o1 => ⟨fun ho => by
      have e := HI.1 (HON.1 ho)
      have := HQ.out w1 o1
      rw [e, List.length_map, ← hN] at this
      exact this, fun ho => by
      have e := HI.2 (HON.2 ho)
      have := HQ.out w1 o1
      rw [e] at this
      exact this.mono fun x w' ⟨ao, cap, a, h1, h2⟩ => ⟨ao, _, cap, a, h1, h2⟩⟩
    clear hN HI HON HQ
    go_enter Tryd.func4, Tryd.ntmps4
    go_wp2_with fail
    refine (show Calls Tryd.prog 5 _ _ _ from HA.out).mono ?_
    rintro e w1 ⟨rfl, o1⟩
    have O1 : Hid (Only (fun _ => False) w w1) := below_only o1
    clear HA o1
    go_wp2_with fail
    refine (show Calls Tryd.prog 6 _ _ _ from HP.out _ O1.out).mono ?_
    rintro e w2 ⟨ao1, cap1, rfl, g2⟩
    have O2 : Hid (Only (fun _ => False) w w2) := O1.out.trans (below_only g2.out.2) (fun _ _ g => g)
    have F2 : Hid (Calls Tryd.prog 8 #[.slice ao1 N cap1] w2 fun e w' => ∃ ao cap, e = .returned (.slice ao N cap) ∧ Hid (VfAt w' w2.heap.size 12401 (.slice ao N cap) l ∧ Only (fun _ => False) w2 w')) := HF.out _ _ _ g2.out.1
    clear HP HF O1 g2
    go_wp2_with fail
    refine (show Calls Tryd.prog 8 _ _ _ from F2.out).mono ?_
    rintro e w3 ⟨ao2, cap2, rfl, g3⟩
    have O3 : Hid (Only (fun _ => False) w w3) := O2.out.trans g3.out.2 (fun _ _ g => g)
    have HE3 : Hid (∀ j fm, l[j]? = some fm → (fm.d = true → DfS w3 ao2 j fm) ∧ (fm.d = false → ItS w3 ao2 j fm)) := HE.out _ _ _ _ _ g3.out.1
    clear F2 O2 g3 HE
    go_wp2
    go_loopw [6, 8] (fun r6 r8 wr => ∃ i : Nat, r6 = .bool (onl l i) ∧ r8 = .int .i64 (i : Int) ∧ i ≤ N ∧ Hid (Only (fun _ => False) w3 wr)) (fun _ r8 _ => N - uOf r8)
    case atStart => exact ⟨0, by simp [onl], rfl, Nat.zero_le _, Only.refl _ _⟩
    case round =>
      obtain ⟨i, rfl, rfl, hi, HI⟩ := hrel
      obtain ⟨w4, rfl⟩ : ∃ w4, w4 = wr := ⟨_, rfl⟩
      have hNl : N = l.length := HNN.out
      have hN4 : N ≤ 4096 := HL.out
      by_cases hiN : i < N
      · obtain ⟨fm, hx⟩ : ∃ x, l[i]? = some x := ⟨l[i]'(by omega), List.getElem?_eq_getElem (by omega)⟩
        have e1 := onl_step hx
        have HBd : Hid (i < N ∧ N ≤ 4096) := ⟨hiN, hN4⟩
        have i1 : (i : Int) < (N : Int) := by omega
        have i0 : (0 : Int) ≤ (i : Int) := by omega
        have hi4 : i ≤ 4096 := by omega
        obtain ⟨b, hb⟩ : ∃ b, b = onl l i := ⟨_, rfl⟩
        rw [← hb] at e1 ⊢
        obtain ⟨HD, HT⟩ := HE3.out i fm hx
        have oo := HI.out
        cases hd : fm.d with
        | true =>
          rw [hd] at e1
          have HE1 : Hid (onl l (i + 1) = false) := by rw [e1]; cases b <;> rfl
          obtain ⟨g, k, ab, Lb, cb, ai, Li, ci, rfl, ⟨c0, c1, c2, c3, c4, c5, c6, c7, c8⟩, hcall⟩ := HD hd
          have c0 := oo.cell c0 (fun g => g)
          have c1 := oo.cell c1 (fun g => g)
          have c2 := oo.cell c2 (fun g => g)
          have c3 := oo.cell c3 (fun g => g)
          have c4 := oo.cell c4 (fun g => g)
          have c5 := oo.cell c5 (fun g => g)
          have c6 := oo.cell c6 (fun g => g)
          have c7 := oo.cell c7 (fun g => g)
          have c8 := oo.cell c8 (fun g => g)
          obtain ⟨n1, hn1⟩ : ∃ x, x = fm.nm := ⟨_, rfl⟩
          obtain ⟨n2, hn2⟩ : ∃ x, x = (fm.i : Int) := ⟨_, rfl⟩
          obtain ⟨n3, hn3⟩ : ∃ x, x = (fm.j : Int) := ⟨_, rfl⟩
          rw [← hn1] at c1 hcall
          rw [← hn2] at c2 hcall
          rw [← hn3] at c3 hcall
          have HC : Hid (∀ w5, Only (fun _ => False) w4 w5 → Calls Tryd.prog 10 #[.agg #[.string n1, .int .i64 n2, .int .i64 n3, .slice ab Lb cb]] w5 fun e w' => e = .returned (.bool true) ∧ Only (fun _ => False) w5 w') := fun w5 o5 => hcall w5 (oo.trans o5 (fun _ _ g => g))
          obtain ⟨P, hP⟩ : ∃ P, P = w4.heap.size := ⟨_, rfl⟩
          clear hn1 hn2 hn3 HD HT hcall oo e1 hb hd hx hNl hN4 hi hiN
          go_wp2_with fail
          refine (show Calls Tryd.prog 10 _ _ _ from HC.out _ ((Only.refl _ _).alloc _)).mono ?_
          rintro e w5 ⟨rfl, o5⟩
          have HK : Hid (Only (fun _ => False) w3 w5) := (HI.out.alloc _).trans o5 (fun _ _ g => g)
          have hX := (o5.block P (by simp [hP]) (fun g => g)).trans (alloc_at _ _ _ hP)
          have b0 := blk_cells hX 0
          simp only [List.getElem?_toArray, List.getElem?_cons_zero, List.getElem?_cons_succ] at b0
          rw [← hP]
          clear HC HI o5 c0 c1 c2 c3 c4 c5 c6 c7 c8 hX hP
          cases b
          · go_wp2
            go_roundw
            case rel => exact ⟨i + 1, by rw [HE1.out], by go_num, by have := HBd.out; omega, HK⟩
            case measure => simp only [uOf]; have := HBd.out; omega
          · go_wp2
            go_roundw
            case rel => exact ⟨i + 1, by rw [HE1.out], by go_num, by have := HBd.out; omega, HK⟩
            case measure => simp only [uOf]; have := HBd.out; omega
        | false =>
          rw [hd] at e1
          have HE1 : Hid (onl l (i + 1) = b) := by rw [e1]; cases b <;> rfl
          obtain ⟨g, k, ab, Lb, cb, ai, Li, ci, rfl, ⟨c0, c1, c2, c3, c4, c5, c6, c7, c8⟩, hcall, hcall2⟩ := HT hd
          have c0 := oo.cell c0 (fun g => g)
          have c1 := oo.cell c1 (fun g => g)
          have c2 := oo.cell c2 (fun g => g)
          have c3 := oo.cell c3 (fun g => g)
          have c4 := oo.cell c4 (fun g => g)
          have c5 := oo.cell c5 (fun g => g)
          have c6 := oo.cell c6 (fun g => g)
          have c7 := oo.cell c7 (fun g => g)
          have c8 := oo.cell c8 (fun g => g)
          obtain ⟨n1, hn1⟩ : ∃ x, x = fm.nm := ⟨_, rfl⟩
          obtain ⟨n2, hn2⟩ : ∃ x, x = (fm.i : Int) := ⟨_, rfl⟩
          obtain ⟨n3, hn3⟩ : ∃ x, x = (fm.j : Int) := ⟨_, rfl⟩
          obtain ⟨n5, hn5⟩ : ∃ x, x = (fm.it.k : Int) := ⟨_, rfl⟩
          obtain ⟨n6, hn6⟩ : ∃ x, x = vn fm.it := ⟨_, rfl⟩
          obtain ⟨n7, hn7⟩ : ∃ x, x = vs fm.it := ⟨_, rfl⟩
          rw [← hn1] at c1
          rw [← hn2] at c2
          rw [← hn3] at c3
          rw [← hn5] at c5 hcall hcall2
          rw [← hn6] at c6 hcall hcall2
          rw [← hn7] at c7 hcall hcall2
          have HC : Hid (∀ w5, Only (fun _ => False) w4 w5 → Calls Tryd.prog 11 #[.agg #[.int .i64 n5, .int .i64 n6, .string n7, .slice ai Li ci]] w5 fun e w' => e = .returned (.bool true) ∧ Only (fun _ => False) w5 w') := fun w5 o5 => hcall w5 (oo.trans o5 (fun _ _ g => g))
          have HC2 : Hid (∀ w5, Only (fun _ => False) w4 w5 → Calls Tryd.prog 12 #[.agg #[.int .i64 n5, .int .i64 n6, .string n7, .slice ai Li ci]] w5 fun e w' => e = .returned (.bool true) ∧ Only (fun _ => False) w5 w') := fun w5 o5 => hcall2 w5 (oo.trans o5 (fun _ _ g => g))
          obtain ⟨P, hP⟩ : ∃ P, P = w4.heap.size := ⟨_, rfl⟩
          clear hn1 hn2 hn3 hn5 hn6 hn7 HD HT hcall hcall2 oo e1 hb hd hx hNl hN4 hi hiN
          go_wp2_with fail
          refine (show Calls Tryd.prog 11 _ _ _ from HC.out _ ((Only.refl _ _).alloc _)).mono ?_
          rintro e w5 ⟨rfl, o5⟩
          have H5 : Hid (Only (fun _ => False) w4 w5) := ((Only.refl (fun _ => False) w4).alloc _).trans o5 (fun _ _ g => g)
          have hX := (o5.block P (by simp [hP]) (fun g => g)).trans (alloc_at _ _ _ hP)
          have HX : Hid (w5.heap[P]? = some (.cells #[.bool false, .string n1, .int .i64 n2, .int .i64 n3, .slice ab Lb cb, .int .i64 n5, .int .i64 n6, .string n7, .slice ai Li ci] 40)) := hX
          have b0 := blk_cells hX 0
          have b5 := blk_cells hX 5
          have b6 := blk_cells hX 6
          have b7 := blk_cells hX 7
          have b8 := blk_cells hX 8
          simp only [List.getElem?_toArray, List.getElem?_cons_zero, List.getElem?_cons_succ] at b0 b5 b6 b7 b8
          rw [← hP]
          clear HC o5 c0 c1 c2 c3 c4 c5 c6 c7 c8 hX hP
          go_wp2_with fail
          refine (show Calls Tryd.prog 12 _ _ _ from HC2.out _ H5.out).mono ?_
          rintro e w6 ⟨rfl, o6⟩
          have HK : Hid (Only (fun _ => False) w3 w6) := (HI.out.trans H5.out (fun _ _ g => g)).trans o6 (fun _ _ g => g)
          have hX := (o6.block P (Array.getElem?_eq_some_iff.1 HX.out).1 (fun g => g)).trans HX.out
          clear HC2 HI H5 o6 b0 b5 b6 b7 b8 HX
          have b0 := blk_cells hX 0
          simp only [List.getElem?_toArray, List.getElem?_cons_zero, List.getElem?_cons_succ] at b0
          clear hX
          cases b
          · go_wp2
            go_roundw
            case rel => exact ⟨i + 1, by rw [HE1.out], by go_num, by have := HBd.out; omega, HK⟩
            case measure => simp only [uOf]; have := HBd.out; omega
          · go_wp2
            go_roundw
            case rel => exact ⟨i + 1, by rw [HE1.out], by go_num, by have := HBd.out; omega, HK⟩
            case measure => simp only [uOf]; have := HBd.out; omega
      · obtain rfl : i = N := by omega
        have i1 : ¬ (i : Int) < (i : Int) := by omega
        have hN4 : (i : Int) ≤ 4096 := by omega
        have O4 : Hid (Only (fun _ => False) w w4) := O3.out.trans HI.out (fun _ _ g => g)
        obtain ⟨q1, q2⟩ := HQ2.out w4 O4.out
        clear hNl hi hiN HI HE3 HQ2
        cases hb : onl l i with
        | true =>
          have HQ3 : Hid _ := q1 hb
          clear q1 q2 hb
          go_wp2_with fail
          refine (show Calls Tryd.prog 13 _ _ _ from HQ3.out).mono ?_
          rintro e w5 ⟨ao3, cap3, a3, rfl, g5⟩
          have O5 : Hid (Only (fun _ => False) w w5) := O4.out.trans (below_only g5.out) (fun _ _ g => g)
          clear HQ3 O4 g5
          go_wp2
          go_ret
          exact ⟨rfl, O5.out⟩
        | false =>
          have HQ3 : Hid _ := q2 hb
          clear q1 q2 hb
          go_wp2_with fail
          refine (show Calls Tryd.prog 13 _ _ _ from HQ3.out).mono ?_
          rintro e w5 ⟨ao3, M, cap3, a3, rfl, g5⟩
          have O5 : Hid (Only (fun _ => False) w w5) := O4.out.trans (below_only g5.out) (fun _ _ g => g)
          clear HQ3 O4 g5
          go_wp2
          go_ret
          exact ⟨rfl, O5.out⟩
  · have hn : (parR s).1.length = 0 := by rw [parR_bad h1]; rfl
    rw [hn] at HP
    obtain ⟨k, hk⟩ : ∃ k, k = (parR s).2.2 := ⟨_, rfl⟩
    rw [← hk] at HP h1
    clear hn hk HQ
    go_enter Tryd.func4, Tryd.ntmps4
    go_wp2_with fail
    refine (show Calls Tryd.prog 5 _ _ _ from HA.out).mono ?_
    rintro e w1 ⟨rfl, o1⟩
    have O1 : Hid (Only (fun _ => False) w w1) := below_only o1
    clear HA o1
    go_wp2_with fail
    refine (show Calls Tryd.prog 6 _ _ _ from HP.out _ O1.out).mono ?_
    rintro e w2 ⟨ao1, cap1, rfl, g2⟩
    have O2 : Hid (Only (fun _ => False) w w2) := O1.out.trans (below_only g2.out.2) (fun _ _ g => g)
    clear HP O1 g2
    go_wp2
    go_ret
    exact ⟨rfl, O2.out⟩
end Go.Proofs.YtapehdolnljnoaaDoor
