/- law07.spoil: the list or the quotation of an item is written over. A literal. A literal: brackets, and what is none. -/
import Derived.Test.YtmpfbjmaiddigaaGreatDoorGag
import Derived.Test.YtmpfbjmaiddigaaGreatDoorGae
namespace Go.Proofs.YtmpfbjmaiddigaaGreatDoor
open Go.RowKit Go.Lib
set_option linter.unusedSimpArgs false
set_option linter.unusedVariables false
/-- an item that may be written over, its lists within the blocks S -/
def SqA (w : World) (S : Nat → Prop) (v : Value) : Prop := v = .nilIface ∨ ∃ T y, v = .iface T y ∧ (T = 81 → ∃ u, y = .agg #[u] ∧ (u = .nilIface ∨ ∃ U x, u = .iface U x ∧ ((U = 85 ∨ U = 90) → ∃ ao n cap, x = .agg #[.slice ao n cap] ∧ n ≤ 2513169434900 ∧ ∀ j, j < n → ∃ g k z, ao = some ⟨g, k, none⟩ ∧ S g ∧ w.cell? ⟨g, k + j, none⟩ = some z)))
theorem SqA.keep {S : Nat → Prop} {w w' : World} (h : Spl S w w') {v : Value} (g : SqA w S v) : SqA w' S v := by
  rcases g with g | ⟨T, y, hv, h1⟩
  · exact .inl g
  · refine .inr ⟨T, y, hv, fun hT => ?_⟩
    obtain ⟨u, p1, p2⟩ := h1 hT
    refine ⟨u, p1, ?_⟩
    rcases p2 with p2 | ⟨U, x, p3, p4⟩
    · exact .inl p2
    · refine .inr ⟨U, x, p3, fun hU => ?_⟩
      obtain ⟨ao, n, cap, q1, q2, q3⟩ := p4 hU
      refine ⟨ao, n, cap, q1, q2, fun j hj => ?_⟩
      obtain ⟨g, k, z, r1, r2, r3⟩ := q3 j hj
      obtain ⟨z', c1, _⟩ := h.2.2 ⟨g, k + j, none⟩ z r2 r3
      exact ⟨g, k, z', r1, r2, c1⟩
theorem sqA_call (w : World) (S : Nat → Prop) : SqA w S Lcall := .inr ⟨_, _, rfl, fun h => absurd h (by decide)⟩
theorem Lfv.sq {u : Value} (h : Lfv u) (w : World) (S : Nat → Prop) : SqA w S u := by
  obtain ⟨T, y, rfl, _, _, h3⟩ := h
  exact .inr ⟨T, y, rfl, fun g => absurd g h3⟩
set_option maxRecDepth 100000 in
theorem sq_nil (w : World) : Calls Tryz.prog 13 #[.nilIface] w fun e w' => e = .returned (.tuple #[]) ∧ Only (fun _ => False) w w' := by
  have mP := uas_nil 81 36 _ Tryz.underlying81 (by intro m h; cases h) _ vzero_Push
  have O : Hid (Only (fun _ => False) w w) := Only.refl _ _
  go_enter Tryz.func13, Tryz.ntmps13
  go_wp2
  refine bodyPost_ret (results_none rfl _ _ _) rfl ?_
  exact ⟨rfl, by repeat' first | exact O.out | apply Only.alloc⟩
set_option maxRecDepth 100000 in
theorem sq_other (T : TypeId) (x : Value) (hP : T ≠ 81) (w : World) : Calls Tryz.prog 13 #[.iface T x] w fun e w' => e = .returned (.tuple #[]) ∧ Only (fun _ => False) w w' := by
  have mP := va_miss T 81 36 _ Tryz.underlying81 (by intro m h; cases h) hP _ vzero_Push
  have O : Hid (Only (fun _ => False) w w) := Only.refl _ _
  clear hP
  go_enter Tryz.func13, Tryz.ntmps13
  go_wp2
  refine bodyPost_ret (results_none rfl _ _ _) rfl ?_
  exact ⟨rfl, by repeat' first | exact O.out | apply Only.alloc⟩
set_option maxRecDepth 100000 in
set_option maxHeartbeats 4000000 in
theorem sq_pnil (w : World) : Calls Tryz.prog 13 #[.iface 81 (.agg #[.nilIface])] w fun e w' => e = .returned (.tuple #[]) ∧ Only (fun _ => False) w w' := by
  have hP := va_hit 81 36 _ Tryz.underlying81 (by intro m h; cases h)
  have mL := uas_nil 85 79 _ Tryz.underlying85 (by intro m h; cases h) _ zL
  have mQ := uas_nil 90 79 _ Tryz.underlying90 (by intro m h; cases h) _ zQ
  obtain ⟨W1, hW1⟩ : ∃ W, W = w.alloc (.cells #[.nilIface] 81) := ⟨_, rfl⟩
  obtain ⟨W, hW⟩ : ∃ W, W = W1.alloc (.cells #[.slice none 0 0] 85) := ⟨_, rfl⟩
  have b1 : W1.heap[w.heap.size]? = some (.cells #[.nilIface] 81) := by rw [hW1]; exact valloc_at _ _ _ rfl
  have o1 : Only (fun _ => False) w W1 := by rw [hW1]; exact (Only.refl _ w).alloc _
  have o2 : Only (fun _ => False) W1 W := by rw [hW]; exact (Only.refl _ W1).alloc _
  have bW := (o2.block _ (Array.getElem?_eq_some_iff.1 b1).1 (fun g => g)).trans b1
  have O : Hid (Only (fun _ => False) w W) := o1.trans o2 (fun _ _ g => g)
  have C : Hid (W.cell? ⟨w.heap.size, 0, none⟩ = some (.nilIface)) := vblk_cells bW 0
  clear o1 o2 b1 bW
  go_enter Tryz.func13, Tryz.ntmps13
  go_wp2
  rw [← hW1, ← hW]
  clear hW1 hW
  go_loopw [5] (fun r wr => r = .int .i64 0 ∧ wr = W) (fun r _ => 0)
  case atStart => exact ⟨rfl, rfl⟩
  case round =>
    obtain ⟨rfl, rfl⟩ := hrel
    have c1 := C.out
    go_wp2
    go_loopw [7] (fun r wr => r = .int .i64 0 ∧ Hid (Only (fun _ => False) w wr)) (fun r _ => 0)
    case atStart => exact ⟨rfl, O.out.alloc _⟩
    case round =>
      obtain ⟨rfl, HI2⟩ := hrel
      obtain ⟨w2, hw2⟩ : ∃ w2, w2 = wr := ⟨_, rfl⟩
      rw [← hw2] at HI2 ⊢
      clear hw2
      go_wp2
      go_end0
      exact ⟨rfl, HI2.out⟩
set_option maxRecDepth 100000 in
set_option maxHeartbeats 4000000 in
theorem sq_pother (U : TypeId) (x : Value) (hL : U ≠ 85) (hQ : U ≠ 90) (w : World) : Calls Tryz.prog 13 #[.iface 81 (.agg #[.iface U x])] w fun e w' => e = .returned (.tuple #[]) ∧ Only (fun _ => False) w w' := by
  have hP := va_hit 81 36 _ Tryz.underlying81 (by intro m h; cases h)
  have mL := va_miss U 85 79 _ Tryz.underlying85 (by intro m h; cases h) hL _ zL
  have mQ := va_miss U 90 79 _ Tryz.underlying90 (by intro m h; cases h) hQ _ zQ
  obtain ⟨W1, hW1⟩ : ∃ W, W = w.alloc (.cells #[.iface U x] 81) := ⟨_, rfl⟩
  obtain ⟨W, hW⟩ : ∃ W, W = W1.alloc (.cells #[.slice none 0 0] 85) := ⟨_, rfl⟩
  have b1 : W1.heap[w.heap.size]? = some (.cells #[.iface U x] 81) := by rw [hW1]; exact valloc_at _ _ _ rfl
  have o1 : Only (fun _ => False) w W1 := by rw [hW1]; exact (Only.refl _ w).alloc _
  have o2 : Only (fun _ => False) W1 W := by rw [hW]; exact (Only.refl _ W1).alloc _
  have bW := (o2.block _ (Array.getElem?_eq_some_iff.1 b1).1 (fun g => g)).trans b1
  have O : Hid (Only (fun _ => False) w W) := o1.trans o2 (fun _ _ g => g)
  have C : Hid (W.cell? ⟨w.heap.size, 0, none⟩ = some (.iface U x)) := vblk_cells bW 0
  clear o1 o2 b1 bW
  clear hL hQ
  go_enter Tryz.func13, Tryz.ntmps13
  go_wp2
  rw [← hW1, ← hW]
  clear hW1 hW
  go_loopw [5] (fun r wr => r = .int .i64 0 ∧ wr = W) (fun r _ => 0)
  case atStart => exact ⟨rfl, rfl⟩
  case round =>
    obtain ⟨rfl, rfl⟩ := hrel
    have c1 := C.out
    go_wp2
    go_loopw [7] (fun r wr => r = .int .i64 0 ∧ Hid (Only (fun _ => False) w wr)) (fun r _ => 0)
    case atStart => exact ⟨rfl, O.out.alloc _⟩
    case round =>
      obtain ⟨rfl, HI2⟩ := hrel
      obtain ⟨w2, hw2⟩ : ∃ w2, w2 = wr := ⟨_, rfl⟩
      rw [← hw2] at HI2 ⊢
      clear hw2
      go_wp2
      go_end0
      exact ⟨rfl, HI2.out⟩
set_option maxRecDepth 100000 in
set_option maxHeartbeats 4000000 in
theorem sq_list (ao : Option Addr) (n cap : Nat) (w : World) (S : Nat → Prop) (hS : ∀ b, S b → Liv w b) (hn : n ≤ 2513169434900) (hel : ∀ j, j < n → ∃ g k z, ao = some ⟨g, k, none⟩ ∧ S g ∧ w.cell? ⟨g, k + j, none⟩ = some z) :
    Calls Tryz.prog 13 #[.iface 81 (.agg #[.iface 85 (.agg #[.slice ao n cap])])] w fun e w' => e = .returned (.tuple #[]) ∧ Hid (Spl S w w') := by
  have hP := va_hit 81 36 _ Tryz.underlying81 (by intro m h; cases h)
  have hList := va_hit 85 79 _ Tryz.underlying85 (by intro m h; cases h)
  have mQuot := va_miss 85 90 79 _ Tryz.underlying90 (by intro m h; cases h) (by decide) _ zQ
  obtain ⟨W1, hW1⟩ : ∃ W, W = w.alloc (.cells #[.iface 85 (.agg #[.slice ao n cap])] 81) := ⟨_, rfl⟩
  obtain ⟨W, hW⟩ : ∃ W, W = W1.alloc (.cells #[.slice ao n cap] 85) := ⟨_, rfl⟩
  have hz1 : W1.heap.size = w.heap.size + 1 := by rw [hW1]; simp
  have b1 : W1.heap[w.heap.size]? = some (.cells #[.iface 85 (.agg #[.slice ao n cap])] 81) := by rw [hW1]; exact valloc_at _ _ _ rfl
  have o1 : Only (fun _ => False) w W1 := by rw [hW1]; exact (Only.refl _ w).alloc _
  have o2 : Only (fun _ => False) W1 W := by rw [hW]; exact (Only.refl _ W1).alloc _
  have bP := (o2.block _ (Array.getElem?_eq_some_iff.1 b1).1 (fun g => g)).trans b1
  have bL : W.heap[w.heap.size + 1]? = some (.cells #[.slice ao n cap] 85) := by rw [hW]; exact valloc_at _ _ _ hz1.symm
  have oW : Only (fun _ => False) w W := o1.trans o2 (fun _ _ g => g)
  have HW : Hid (Spl S w W) := Spl.of oW
  have HE : Hid (∀ w1, Spl S W w1 → (w1.cell? ⟨w.heap.size, 0, none⟩ = some (.iface 85 (.agg #[.slice ao n cap]))) ∧ (w1.cell? ⟨w.heap.size + 1, 0, none⟩ = some (.slice ao n cap)) ∧ ∀ j, j < n → ∃ g k u, ao = some ⟨g, k, none⟩ ∧ S g ∧ Liv w1 g ∧ w1.cell? ⟨g, k + j, none⟩ = some u) := fun w1 s1 => by
    have s2 : Spl S w w1 := HW.out.trans s1
    refine ⟨vblk_cells ((s1.1.block _ (Array.getElem?_eq_some_iff.1 bP).1 (fun g => by have := (hS _ g).1; omega)).trans bP) 0, vblk_cells ((s1.1.block _ (Array.getElem?_eq_some_iff.1 bL).1 (fun g => by have := (hS _ g).1; omega)).trans bL) 0, fun j hj => ?_⟩
    obtain ⟨g, k, u, e1, e2, e3⟩ := hel j hj
    obtain ⟨u', c1, _⟩ := s2.2.2 ⟨g, k + j, none⟩ u e2 e3
    exact ⟨g, k, u', e1, e2, s2.2.1 g e2 (hS g e2), c1⟩
  have HN : Hid (n ≤ 2513169434900) := hn
  have HB : Hid (∀ b, S b → b < w.heap.size) := fun b hb => (hS b hb).1
  obtain ⟨B, hB⟩ : ∃ B, B = w.heap.size := ⟨_, rfl⟩
  rw [← hB] at HE
  clear hel hS hn b1 o1 o2 bP bL oW hz1
  go_enter Tryz.func13, Tryz.ntmps13
  go_wp2
  rw [← hW1, ← hW, ← hB]
  clear hW1 hW hB
  go_loopw [5] (fun r wr => ∃ j : Nat, r = .int .i64 (j : Int) ∧ j ≤ n ∧ Hid (Spl S W wr)) (fun r _ => n - vuOf r)
  case atStart => exact ⟨0, rfl, Nat.zero_le _, Spl.of (Only.refl _ _)⟩
  case round =>
    obtain ⟨j, rfl, hj, HI⟩ := hrel
    obtain ⟨w1, hw1⟩ : ∃ w1, w1 = wr := ⟨_, rfl⟩
    rw [← hw1] at HI ⊢
    clear hw1
    obtain ⟨cP, cL, he⟩ := HE.out w1 HI.out
    by_cases hjN : j < n
    · obtain ⟨g, k, u, rfl, h2, h3, h4⟩ := he j hjN
      have i1 : (j : Int) < (n : Int) := by omega
      have i0 : (0 : Int) ≤ (j : Int) := by omega
      have i4 : j ≤ 2513169434900 := by have := HN.out; omega
      have f2 := h3.froz (k + j)
      have H3 : Hid (Spl S W (w1.setCell ⟨g, k + j, none⟩ Lint)) := HI.out.trans (Spl.set h2 h3 h4 lfv_lint)
      have HJ : Hid (j < n) := hjN
      unfold Lint at H3
      clear he h2 h3 HI hj hjN
      go_wp2
      go_roundw
      case rel => exact ⟨j + 1, by go_num, by have := HJ.out; omega, H3⟩
      case measure => simp only [vuOf]; have := HJ.out; omega
    · obtain rfl : j = n := by omega
      have i1 : ¬ (j : Int) < (j : Int) := by omega
      have HF : Hid (Spl S w w1) := HW.out.trans HI.out
      clear he hj hjN HI HE
      go_wp2
      go_loopw [7] (fun r wr => r = .int .i64 0 ∧ Hid (Spl S w wr)) (fun r _ => 0)
      case atStart => exact ⟨rfl, HF.out.trans (Spl.of ((Only.refl _ _).alloc _))⟩
      case round =>
        obtain ⟨rfl, HI2⟩ := hrel
        obtain ⟨w2, hw2⟩ : ∃ w2, w2 = wr := ⟨_, rfl⟩
        rw [← hw2] at HI2 ⊢
        clear hw2
        go_wp2
        go_end0
        exact ⟨rfl, HI2⟩
set_option maxRecDepth 100000 in
set_option maxHeartbeats 4000000 in
theorem sq_quot (ao : Option Addr) (n cap : Nat) (w : World) (S : Nat → Prop) (hS : ∀ b, S b → Liv w b) (hn : n ≤ 2513169434900) (hel : ∀ j, j < n → ∃ g k z, ao = some ⟨g, k, none⟩ ∧ S g ∧ w.cell? ⟨g, k + j, none⟩ = some z) :
    Calls Tryz.prog 13 #[.iface 81 (.agg #[.iface 90 (.agg #[.slice ao n cap])])] w fun e w' => e = .returned (.tuple #[]) ∧ Hid (Spl S w w') := by
  have hP := va_hit 81 36 _ Tryz.underlying81 (by intro m h; cases h)
  have hQuot := va_hit 90 79 _ Tryz.underlying90 (by intro m h; cases h)
  have mList := va_miss 90 85 79 _ Tryz.underlying85 (by intro m h; cases h) (by decide) _ zL
  obtain ⟨W1, hW1⟩ : ∃ W, W = w.alloc (.cells #[.iface 90 (.agg #[.slice ao n cap])] 81) := ⟨_, rfl⟩
  obtain ⟨W, hW⟩ : ∃ W, W = W1.alloc (.cells #[.slice none 0 0] 85) := ⟨_, rfl⟩
  have hz1 : W1.heap.size = w.heap.size + 1 := by rw [hW1]; simp
  have b1 : W1.heap[w.heap.size]? = some (.cells #[.iface 90 (.agg #[.slice ao n cap])] 81) := by rw [hW1]; exact valloc_at _ _ _ rfl
  have o1 : Only (fun _ => False) w W1 := by rw [hW1]; exact (Only.refl _ w).alloc _
  have o2 : Only (fun _ => False) W1 W := by rw [hW]; exact (Only.refl _ W1).alloc _
  have bP := (o2.block _ (Array.getElem?_eq_some_iff.1 b1).1 (fun g => g)).trans b1
  have bL : W.heap[w.heap.size + 1]? = some (.cells #[.slice none 0 0] 85) := by rw [hW]; exact valloc_at _ _ _ hz1.symm
  have oW : Only (fun _ => False) w W := o1.trans o2 (fun _ _ g => g)
  have HW : Hid (Spl S w W) := Spl.of oW
  have HE : Hid (∀ w1, Spl S W w1 → (w1.cell? ⟨w.heap.size, 0, none⟩ = some (.iface 90 (.agg #[.slice ao n cap]))) ∧ (w1.cell? ⟨w.heap.size + 1, 0, none⟩ = some (.slice none 0 0)) ∧ ∀ j, j < n → ∃ g k u, ao = some ⟨g, k, none⟩ ∧ S g ∧ Liv w1 g ∧ w1.cell? ⟨g, k + j, none⟩ = some u) := fun w1 s1 => by
    have s2 : Spl S w w1 := HW.out.trans s1
    refine ⟨vblk_cells ((s1.1.block _ (Array.getElem?_eq_some_iff.1 bP).1 (fun g => by have := (hS _ g).1; omega)).trans bP) 0, vblk_cells ((s1.1.block _ (Array.getElem?_eq_some_iff.1 bL).1 (fun g => by have := (hS _ g).1; omega)).trans bL) 0, fun j hj => ?_⟩
    obtain ⟨g, k, u, e1, e2, e3⟩ := hel j hj
    obtain ⟨u', c1, _⟩ := s2.2.2 ⟨g, k + j, none⟩ u e2 e3
    exact ⟨g, k, u', e1, e2, s2.2.1 g e2 (hS g e2), c1⟩
  have HN : Hid (n ≤ 2513169434900) := hn
  have HB : Hid (∀ b, S b → b < w.heap.size) := fun b hb => (hS b hb).1
  obtain ⟨B, hB⟩ : ∃ B, B = w.heap.size := ⟨_, rfl⟩
  rw [← hB] at HE
  clear hel hS hn b1 o1 o2 bP bL oW hz1
  go_enter Tryz.func13, Tryz.ntmps13
  go_wp2
  rw [← hW1, ← hW, ← hB]
  clear hW1 hW hB
  go_loopw [5] (fun r wr => r = .int .i64 0 ∧ wr = W) (fun r _ => 0)
  case atStart => exact ⟨rfl, rfl⟩
  case round =>
    obtain ⟨rfl, rfl⟩ := hrel
    obtain ⟨cP, cL, _⟩ := HE.out _ (Spl.of (Only.refl _ _))
    obtain ⟨X, hX⟩ : ∃ X, X = wr.alloc (.cells #[.slice ao n cap] 90) := ⟨_, rfl⟩
    obtain ⟨D, hD⟩ : ∃ D, D = wr.heap.size := ⟨_, rfl⟩
    have bX : X.heap[D]? = some (.cells #[.slice ao n cap] 90) := by rw [hX]; exact valloc_at _ _ _ hD
    have oX : Only (fun _ => False) wr X := by rw [hX]; exact (Only.refl _ wr).alloc _
    have hD2 : w.heap.size ≤ D := by rw [hD]; exact HW.out.1.size
    have HX : Hid (Spl S wr X) := Spl.of oX
    have HY : Hid (∀ w1, Spl S X w1 → w1.cell? ⟨D, 0, none⟩ = some (.slice ao n cap)) := fun w1 s1 => vblk_cells ((s1.1.block _ (Array.getElem?_eq_some_iff.1 bX).1 (fun g => by have := HB.out _ g; omega)).trans bX) 0
    clear bX oX hD2
    go_wp2
    rw [← hX, ← hD]
    clear hX hD
    go_loopw [7] (fun r wr' => ∃ j : Nat, r = .int .i64 (j : Int) ∧ j ≤ n ∧ Hid (Spl S X wr')) (fun r _ => n - vuOf r)
    case atStart => exact ⟨0, rfl, Nat.zero_le _, Spl.of (Only.refl _ _)⟩
    case round =>
      obtain ⟨j, rfl, hj, HI⟩ := hrel
      obtain ⟨w1, hw1⟩ : ∃ w1, w1 = wr := ⟨_, rfl⟩
      rw [← hw1] at HI ⊢
      clear hw1
      obtain ⟨_, _, he⟩ := HE.out w1 (HX.out.trans HI.out)
      have cD := HY.out w1 HI.out
      by_cases hjN : j < n
      · obtain ⟨g, k, u, rfl, h2, h3, h4⟩ := he j hjN
        have i1 : (j : Int) < (n : Int) := by omega
        have i0 : (0 : Int) ≤ (j : Int) := by omega
        have i4 : j ≤ 2513169434900 := by have := HN.out; omega
        have f2 := h3.froz (k + j)
        have H3 : Hid (Spl S X (w1.setCell ⟨g, k + j, none⟩ Lcall)) := HI.out.trans (Spl.set h2 h3 h4 lfv_call)
        have HJ : Hid (j < n) := hjN
        unfold Lcall at H3
        clear he h2 h3 HI hj hjN cP cL
        go_wp2
        go_roundw
        case rel => exact ⟨j + 1, by go_num, by have := HJ.out; omega, H3⟩
        case measure => simp only [vuOf]; have := HJ.out; omega
      · obtain rfl : j = n := by omega
        have i1 : ¬ (j : Int) < (j : Int) := by omega
        have HF : Hid (Spl S w w1) := (HW.out.trans HX.out).trans HI.out
        clear he hj hjN HI HE
        go_wp2
        go_end0
        exact ⟨rfl, HF⟩
theorem sq_all {w : World} {S : Nat → Prop} {v : Value} (h : SqA w S v) (hS : ∀ b, S b → Liv w b) : Calls Tryz.prog 13 #[v] w fun e w' => e = .returned (.tuple #[]) ∧ Hid (Spl S w w') := by
  rcases h with rfl | ⟨T, y, rfl, h1⟩
  · exact (sq_nil w).mono fun e w' g => ⟨g.1, Spl.of g.2⟩
  · by_cases hP : T = 81
    · subst hP
      obtain ⟨u, rfl, h2⟩ := h1 rfl
      rcases h2 with rfl | ⟨U, x, rfl, h3⟩
      · exact (sq_pnil w).mono fun e w' g => ⟨g.1, Spl.of g.2⟩
      · by_cases hL : U = 85
        · subst hL
          obtain ⟨ao, n, cap, rfl, hn, hel⟩ := h3 (.inl rfl)
          exact sq_list ao n cap w S hS hn hel
        by_cases hQ : U = 90
        · subst hQ
          obtain ⟨ao, n, cap, rfl, hn, hel⟩ := h3 (.inr rfl)
          exact sq_quot ao n cap w S hS hn hel
        exact (sq_pother U x hL hQ w).mono fun e w' g => ⟨g.1, Spl.of g.2⟩
    · exact (sq_other T y hP w).mono fun e w' g => ⟨g.1, Spl.of g.2⟩
end Go.Proofs.YtmpfbjmaiddigaaGreatDoor
namespace Go.Proofs.YtmpfbjmaiddigaaGreatDoor
open Go.RowKit
set_option linter.unusedSimpArgs false
set_option linter.unusedVariables false
/-- what reading one part answers -/
def ptP (R d : Nat) (i : Bool) (n o : Int) (w : World) (r : Except (Int × Int) (List Tre × List Tok × Int)) (x : Ending) (w' : World) : Prop :=
  match r with
  | .error (a, e) => x = gup a e ∧ Only (fun b => b = R) w w'
  | .ok (l, q, z) => ∃ t v, l = [t] ∧ x = .returned v ∧ Hid (NwAt w' w.heap.size d i t v ∧ RdAt w' R q n o z ∧ Only (fun b => b = R) w w')
/-- what reading parts up to a word answers -/
def upP (R d : Nat) (T : TypeId) (i : Bool) (n o : Int) (w : World) (r : Except (Int × Int) (List Tre × List Tok × Int)) (x : Ending) (w' : World) : Prop :=
  match r with
  | .error (a, e) => x = gup a e ∧ Only (fun b => b = R) w w'
  | .ok (l, q, z) => ∃ ao cap, x = .returned (.slice ao l.length cap) ∧ Hid (RwAt w' w.heap.size T d i (.slice ao l.length cap) l ∧ RdAt w' R q n (o - 1) z ∧ Only (fun b => b = R) w w')
def UpC (R : Nat) (n : Int) (f m F : Nat) (T : TypeId) (i : Bool) (G : Nat) : Prop := ∀ (q : List Tok) (o z : Int) (w : World), 3 * q.length + 3 ≤ f → q.length ≤ 4096 → 1 ≤ o → o ≤ 32 → 0 ≤ z → z ≤ 1024 → RdAt w R q n o z → Calls Tryz.prog F #[.pointer (some ⟨R, 0, none⟩), .string (shB (m - 2)), .func (.func G) #[] #[]] w (upP R f T i n o w (prs n f m q o z))
def PtC (R : Nat) (n : Int) (f m F : Nat) (i : Bool) : Prop := ∀ (q : List Tok) (o z : Int) (w : World), 3 * q.length + 1 + m ≤ f → q.length ≤ 4096 → 0 ≤ o → o ≤ 32 → 0 ≤ z → z ≤ 1024 → RdAt w R q n o z → Calls Tryz.prog F #[.pointer (some ⟨R, 0, none⟩)] w (ptP R f i n o w (prs n f m q o z))
theorem count_full (R : Nat) (t : Tok) (q : List Tok) (n o : Int) (w : World) (h : RdAt w R (t :: q) n o 1024) :
    Calls Tryz.prog 45 #[.pointer (some ⟨R, 0, none⟩)] w fun x w' => x = gup t.a 11 ∧ Only (fun b => b = R) w w' :=
  (count_any R (t :: q) n o 1024 w (by omega) h).mono fun e w' g => by simpa [flt] using g
theorem count_cons (R : Nat) (t : Tok) (q : List Tok) (n o z : Int) (w : World) (hz : 0 ≤ z) (h1 : z ≤ 1024) (h2 : ¬ z = 1024) (h : RdAt w R (t :: q) n o z) :
    Calls Tryz.prog 45 #[.pointer (some ⟨R, 0, none⟩)] w fun x w' => x = .returned t.v ∧ Hid (RdAt w' R q n o (z + 1) ∧ Only (fun b => b = R) w w') :=
  (count_any R (t :: q) n o z w (by omega) h).mono fun e w' g => by rw [if_neg h2] at g; exact g
theorem tok_f0 (a b c d : Value) (w : World) : (Instr.field 114 (.agg #[a, b, c, d]) 0).run Tryz.prog w = .ok a w := by simp [Instr.field, part, sizeOf, typeInfo, go_sem, Tryz.underlying114, isAgg, asAgg]
theorem tok_f1 (a b c d : Value) (w : World) : (Instr.field 114 (.agg #[a, b, c, d]) 1).run Tryz.prog w = .ok b w := by simp [Instr.field, part, sizeOf, typeInfo, go_sem, Tryz.underlying114, isAgg, asAgg]
theorem tok_f2 (a b c d : Value) (w : World) : (Instr.field 114 (.agg #[a, b, c, d]) 2).run Tryz.prog w = .ok c w := by simp [Instr.field, part, sizeOf, typeInfo, go_sem, Tryz.underlying114, isAgg, asAgg]
theorem str_of {t : ByteArray} {c : UInt8} (h : t.toList = [c]) : t = ⟨#[c]⟩ := by
  have h1 : t.data.toList = [c] := by rw [← h]; exact (ByteArray.toList_eq t).symm
  have h2 : t.data = #[c] := by
    apply Array.toList_inj.1
    simpa using h1
  cases t
  simp_all
set_option maxRecDepth 100000 in
theorem lit_num_full (R : Nat) (r : List Tok) (n o : Int) (tt : ByteArray) (tn ta : Int) (w : World)  (h : RdAt w R (⟨2, tt, tn, ta⟩ :: r) n o 1024) :
    Calls Tryz.prog 46 #[.pointer (some ⟨R, 0, none⟩)] w fun x w' => x = gup ta 11 ∧ Only (fun b => b = R) w w' := by
  obtain ⟨z, hz⟩ : ∃ z : Int, z = 1024 := ⟨_, rfl⟩
  rw [← hz] at h
  have HZ : Hid (z = 1024) := hz
  have H0 : Hid (RdAt w R (⟨2, tt, tn, ta⟩ :: r) n o z) := h
  have O0 : Hid (Only (fun b => b = R) w w) := Only.refl _ _
  clear h hz
  have f0 := tok_f0
  have f1 := tok_f1
  have f2 := tok_f2
  go_enter Tryz.func46, Tryz.ntmps46
  go_wp2_with fail
  refine (show Calls Tryz.prog 60 _ _ _ from next_cons R _ r n o z _ H0.out).mono ?_
  rintro e w1 ⟨rfl, o1⟩
  have O1 : Hid (Only (fun b => b = R) w w1) := O0.out.trans (o1.mono (bs' := fun b => b = R) (fun _ _ h => h.elim)) (fun _ _ g => g)
  have H1 : Hid (RdAt w1 R (⟨2, tt, tn, ta⟩ :: r) n o z) := H0.out.only o1
  clear o1 H0 O0
  simp only [Tok.v]
  go_wp2_with fail
  refine (show Calls Tryz.prog 45 _ _ _ from count_full R ⟨2, tt, tn, ta⟩ r n o _ (by have := H1.out; rw [show z = 1024 from HZ.out] at this; exact this)).mono ?_
  rintro e w2 ⟨rfl, o2⟩
  have O2 : Hid (Only (fun b => b = R) w w2) := O1.out.trans o2 (fun _ _ g => g)
  clear o2 H1 O1
  unfold gup
  go_wp2
  exact ⟨rfl, rfl, O2.out⟩
set_option maxRecDepth 100000 in
theorem lit_num_ok (R : Nat) (r : List Tok) (n o z : Int) (tt : ByteArray) (tn ta : Int) (w : World)  (hz : 0 ≤ z) (hz1 : z ≤ 1024) (hz2 : ¬ z = 1024) (h : RdAt w R (⟨2, tt, tn, ta⟩ :: r) n o z) :
    Calls Tryz.prog 46 #[.pointer (some ⟨R, 0, none⟩)] w fun x w' => x = .returned (.iface 88 (.agg #[.int .i64 tn])) ∧ Hid (RdAt w' R r n o (z + 1) ∧ Only (fun b => b = R) w w') := by
  have HC : Hid (∀ w1, RdAt w1 R (⟨2, tt, tn, ta⟩ :: r) n o z → Calls Tryz.prog 45 #[.pointer (some ⟨R, 0, none⟩)] w1 fun x w' => x = .returned (Tok.v ⟨2, tt, tn, ta⟩) ∧ Hid (RdAt w' R r n o (z + 1) ∧ Only (fun b => b = R) w1 w')) := fun w1 h1 => count_cons R _ r n o z w1 hz hz1 hz2 h1
  have H0 : Hid (RdAt w R (⟨2, tt, tn, ta⟩ :: r) n o z) := h
  have O0 : Hid (Only (fun b => b = R) w w) := Only.refl _ _
  clear h hz hz1 hz2
  have f0 := tok_f0
  have f1 := tok_f1
  have f2 := tok_f2
  go_enter Tryz.func46, Tryz.ntmps46
  go_wp2_with fail
  refine (show Calls Tryz.prog 60 _ _ _ from next_cons R _ r n o z _ H0.out).mono ?_
  rintro e w1 ⟨rfl, o1⟩
  have O1 : Hid (Only (fun b => b = R) w w1) := O0.out.trans (o1.mono (bs' := fun b => b = R) (fun _ _ h => h.elim)) (fun _ _ g => g)
  have H1 : Hid (RdAt w1 R (⟨2, tt, tn, ta⟩ :: r) n o z) := H0.out.only o1
  clear o1 H0 O0
  simp only [Tok.v]
  go_wp2_with fail
  refine (show Calls Tryz.prog 45 _ _ _ from HC.out _ H1.out).mono ?_
  rintro e w2 ⟨rfl, g2⟩
  have G2 : Hid (RdAt w2 R r n o (z + 1) ∧ Only (fun b => b = R) w w2) := ⟨g2.out.1, O1.out.trans g2.out.2 (fun _ _ g => g)⟩
  clear g2 H1 O1 HC
  simp only [Tok.v]
  go_wp2
  go_ret
  exact ⟨rfl, G2⟩
set_option maxRecDepth 100000 in
theorem lit_str_full (R : Nat) (r : List Tok) (n o : Int) (tt : ByteArray) (tn ta : Int) (w : World)  (h : RdAt w R (⟨3, tt, tn, ta⟩ :: r) n o 1024) :
    Calls Tryz.prog 46 #[.pointer (some ⟨R, 0, none⟩)] w fun x w' => x = gup ta 11 ∧ Only (fun b => b = R) w w' := by
  obtain ⟨z, hz⟩ : ∃ z : Int, z = 1024 := ⟨_, rfl⟩
  rw [← hz] at h
  have HZ : Hid (z = 1024) := hz
  have H0 : Hid (RdAt w R (⟨3, tt, tn, ta⟩ :: r) n o z) := h
  have O0 : Hid (Only (fun b => b = R) w w) := Only.refl _ _
  clear h hz
  have f0 := tok_f0
  have f1 := tok_f1
  have f2 := tok_f2
  go_enter Tryz.func46, Tryz.ntmps46
  go_wp2_with fail
  refine (show Calls Tryz.prog 60 _ _ _ from next_cons R _ r n o z _ H0.out).mono ?_
  rintro e w1 ⟨rfl, o1⟩
  have O1 : Hid (Only (fun b => b = R) w w1) := O0.out.trans (o1.mono (bs' := fun b => b = R) (fun _ _ h => h.elim)) (fun _ _ g => g)
  have H1 : Hid (RdAt w1 R (⟨3, tt, tn, ta⟩ :: r) n o z) := H0.out.only o1
  clear o1 H0 O0
  simp only [Tok.v]
  go_wp2_with fail
  refine (show Calls Tryz.prog 45 _ _ _ from count_full R ⟨3, tt, tn, ta⟩ r n o _ (by have := H1.out; rw [show z = 1024 from HZ.out] at this; exact this)).mono ?_
  rintro e w2 ⟨rfl, o2⟩
  have O2 : Hid (Only (fun b => b = R) w w2) := O1.out.trans o2 (fun _ _ g => g)
  clear o2 H1 O1
  unfold gup
  go_wp2
  exact ⟨rfl, rfl, O2.out⟩
set_option maxRecDepth 100000 in
theorem lit_str_ok (R : Nat) (r : List Tok) (n o z : Int) (tt : ByteArray) (tn ta : Int) (w : World)  (hz : 0 ≤ z) (hz1 : z ≤ 1024) (hz2 : ¬ z = 1024) (h : RdAt w R (⟨3, tt, tn, ta⟩ :: r) n o z) :
    Calls Tryz.prog 46 #[.pointer (some ⟨R, 0, none⟩)] w fun x w' => x = .returned (.iface 118 (.agg #[.string tt])) ∧ Hid (RdAt w' R r n o (z + 1) ∧ Only (fun b => b = R) w w') := by
  have HC : Hid (∀ w1, RdAt w1 R (⟨3, tt, tn, ta⟩ :: r) n o z → Calls Tryz.prog 45 #[.pointer (some ⟨R, 0, none⟩)] w1 fun x w' => x = .returned (Tok.v ⟨3, tt, tn, ta⟩) ∧ Hid (RdAt w' R r n o (z + 1) ∧ Only (fun b => b = R) w1 w')) := fun w1 h1 => count_cons R _ r n o z w1 hz hz1 hz2 h1
  have H0 : Hid (RdAt w R (⟨3, tt, tn, ta⟩ :: r) n o z) := h
  have O0 : Hid (Only (fun b => b = R) w w) := Only.refl _ _
  clear h hz hz1 hz2
  have f0 := tok_f0
  have f1 := tok_f1
  have f2 := tok_f2
  go_enter Tryz.func46, Tryz.ntmps46
  go_wp2_with fail
  refine (show Calls Tryz.prog 60 _ _ _ from next_cons R _ r n o z _ H0.out).mono ?_
  rintro e w1 ⟨rfl, o1⟩
  have O1 : Hid (Only (fun b => b = R) w w1) := O0.out.trans (o1.mono (bs' := fun b => b = R) (fun _ _ h => h.elim)) (fun _ _ g => g)
  have H1 : Hid (RdAt w1 R (⟨3, tt, tn, ta⟩ :: r) n o z) := H0.out.only o1
  clear o1 H0 O0
  simp only [Tok.v]
  go_wp2_with fail
  refine (show Calls Tryz.prog 45 _ _ _ from HC.out _ H1.out).mono ?_
  rintro e w2 ⟨rfl, g2⟩
  have G2 : Hid (RdAt w2 R r n o (z + 1) ∧ Only (fun b => b = R) w w2) := ⟨g2.out.1, O1.out.trans g2.out.2 (fun _ _ g => g)⟩
  clear g2 H1 O1 HC
  simp only [Tok.v]
  go_wp2
  go_ret
  exact ⟨rfl, G2⟩
set_option maxRecDepth 100000 in
theorem lit_yes_full (R : Nat) (r : List Tok) (n o : Int) (tk tn ta : Int) (w : World) (i2 : (tk == 2) = false) (i3 : (tk == 3) = false) (h : RdAt w R (⟨tk, ⟨#[116]⟩, tn, ta⟩ :: r) n o 1024) :
    Calls Tryz.prog 46 #[.pointer (some ⟨R, 0, none⟩)] w fun x w' => x = gup ta 11 ∧ Only (fun b => b = R) w w' := by
  obtain ⟨z, hz⟩ : ∃ z : Int, z = 1024 := ⟨_, rfl⟩
  rw [← hz] at h
  have HZ : Hid (z = 1024) := hz
  have H0 : Hid (RdAt w R (⟨tk, ⟨#[116]⟩, tn, ta⟩ :: r) n o z) := h
  have O0 : Hid (Only (fun b => b = R) w w) := Only.refl _ _
  clear h hz
  have f0 := tok_f0
  have f1 := tok_f1
  have f2 := tok_f2
  go_enter Tryz.func46, Tryz.ntmps46
  go_wp2_with fail
  refine (show Calls Tryz.prog 60 _ _ _ from next_cons R _ r n o z _ H0.out).mono ?_
  rintro e w1 ⟨rfl, o1⟩
  have O1 : Hid (Only (fun b => b = R) w w1) := O0.out.trans (o1.mono (bs' := fun b => b = R) (fun _ _ h => h.elim)) (fun _ _ g => g)
  have H1 : Hid (RdAt w1 R (⟨tk, ⟨#[116]⟩, tn, ta⟩ :: r) n o z) := H0.out.only o1
  clear o1 H0 O0
  simp only [Tok.v]
  go_wp2_with fail
  refine (show Calls Tryz.prog 60 _ _ _ from next_cons R _ r n o z _ H1.out).mono ?_
  rintro e w2 ⟨rfl, o2⟩
  have O2 : Hid (Only (fun b => b = R) w w2) := O1.out.trans (o2.mono (bs' := fun b => b = R) (fun _ _ h => h.elim)) (fun _ _ g => g)
  have H2 : Hid (RdAt w2 R (⟨tk, ⟨#[116]⟩, tn, ta⟩ :: r) n o z) := H1.out.only o2
  clear o2 H1 O1
  simp only [Tok.v]
  go_wp2_with fail
  refine (show Calls Tryz.prog 45 _ _ _ from count_full R ⟨tk, ⟨#[116]⟩, tn, ta⟩ r n o _ (by have := H2.out; rw [show z = 1024 from HZ.out] at this; exact this)).mono ?_
  rintro e w3 ⟨rfl, o3⟩
  have O3 : Hid (Only (fun b => b = R) w w3) := O2.out.trans o3 (fun _ _ g => g)
  clear o3 H2 O2
  unfold gup
  go_wp2
  exact ⟨rfl, rfl, O3.out⟩
set_option maxRecDepth 100000 in
theorem lit_yes_ok (R : Nat) (r : List Tok) (n o z : Int) (tk tn ta : Int) (w : World) (i2 : (tk == 2) = false) (i3 : (tk == 3) = false) (hz : 0 ≤ z) (hz1 : z ≤ 1024) (hz2 : ¬ z = 1024) (h : RdAt w R (⟨tk, ⟨#[116]⟩, tn, ta⟩ :: r) n o z) :
    Calls Tryz.prog 46 #[.pointer (some ⟨R, 0, none⟩)] w fun x w' => x = .returned (.iface 120 (.agg #[.bool true])) ∧ Hid (RdAt w' R r n o (z + 1) ∧ Only (fun b => b = R) w w') := by
  have HC : Hid (∀ w1, RdAt w1 R (⟨tk, ⟨#[116]⟩, tn, ta⟩ :: r) n o z → Calls Tryz.prog 45 #[.pointer (some ⟨R, 0, none⟩)] w1 fun x w' => x = .returned (Tok.v ⟨tk, ⟨#[116]⟩, tn, ta⟩) ∧ Hid (RdAt w' R r n o (z + 1) ∧ Only (fun b => b = R) w1 w')) := fun w1 h1 => count_cons R _ r n o z w1 hz hz1 hz2 h1
  have H0 : Hid (RdAt w R (⟨tk, ⟨#[116]⟩, tn, ta⟩ :: r) n o z) := h
  have O0 : Hid (Only (fun b => b = R) w w) := Only.refl _ _
  clear h hz hz1 hz2
  have f0 := tok_f0
  have f1 := tok_f1
  have f2 := tok_f2
  go_enter Tryz.func46, Tryz.ntmps46
  go_wp2_with fail
  refine (show Calls Tryz.prog 60 _ _ _ from next_cons R _ r n o z _ H0.out).mono ?_
  rintro e w1 ⟨rfl, o1⟩
  have O1 : Hid (Only (fun b => b = R) w w1) := O0.out.trans (o1.mono (bs' := fun b => b = R) (fun _ _ h => h.elim)) (fun _ _ g => g)
  have H1 : Hid (RdAt w1 R (⟨tk, ⟨#[116]⟩, tn, ta⟩ :: r) n o z) := H0.out.only o1
  clear o1 H0 O0
  simp only [Tok.v]
  go_wp2_with fail
  refine (show Calls Tryz.prog 60 _ _ _ from next_cons R _ r n o z _ H1.out).mono ?_
  rintro e w2 ⟨rfl, o2⟩
  have O2 : Hid (Only (fun b => b = R) w w2) := O1.out.trans (o2.mono (bs' := fun b => b = R) (fun _ _ h => h.elim)) (fun _ _ g => g)
  have H2 : Hid (RdAt w2 R (⟨tk, ⟨#[116]⟩, tn, ta⟩ :: r) n o z) := H1.out.only o2
  clear o2 H1 O1
  simp only [Tok.v]
  go_wp2_with fail
  refine (show Calls Tryz.prog 45 _ _ _ from HC.out _ H2.out).mono ?_
  rintro e w3 ⟨rfl, g3⟩
  have G3 : Hid (RdAt w3 R r n o (z + 1) ∧ Only (fun b => b = R) w w3) := ⟨g3.out.1, O2.out.trans g3.out.2 (fun _ _ g => g)⟩
  clear g3 H2 O2 HC
  simp only [Tok.v]
  go_wp2
  go_ret
  exact ⟨rfl, G3⟩
set_option maxRecDepth 100000 in
theorem lit_no_full (R : Nat) (r : List Tok) (n o : Int) (tk tn ta : Int) (w : World) (i2 : (tk == 2) = false) (i3 : (tk == 3) = false) (h : RdAt w R (⟨tk, ⟨#[102]⟩, tn, ta⟩ :: r) n o 1024) :
    Calls Tryz.prog 46 #[.pointer (some ⟨R, 0, none⟩)] w fun x w' => x = gup ta 11 ∧ Only (fun b => b = R) w w' := by
  obtain ⟨z, hz⟩ : ∃ z : Int, z = 1024 := ⟨_, rfl⟩
  rw [← hz] at h
  have HZ : Hid (z = 1024) := hz
  have H0 : Hid (RdAt w R (⟨tk, ⟨#[102]⟩, tn, ta⟩ :: r) n o z) := h
  have O0 : Hid (Only (fun b => b = R) w w) := Only.refl _ _
  clear h hz
  have f0 := tok_f0
  have f1 := tok_f1
  have f2 := tok_f2
  go_enter Tryz.func46, Tryz.ntmps46
  go_wp2_with fail
  refine (show Calls Tryz.prog 60 _ _ _ from next_cons R _ r n o z _ H0.out).mono ?_
  rintro e w1 ⟨rfl, o1⟩
  have O1 : Hid (Only (fun b => b = R) w w1) := O0.out.trans (o1.mono (bs' := fun b => b = R) (fun _ _ h => h.elim)) (fun _ _ g => g)
  have H1 : Hid (RdAt w1 R (⟨tk, ⟨#[102]⟩, tn, ta⟩ :: r) n o z) := H0.out.only o1
  clear o1 H0 O0
  simp only [Tok.v]
  go_wp2_with fail
  refine (show Calls Tryz.prog 60 _ _ _ from next_cons R _ r n o z _ H1.out).mono ?_
  rintro e w2 ⟨rfl, o2⟩
  have O2 : Hid (Only (fun b => b = R) w w2) := O1.out.trans (o2.mono (bs' := fun b => b = R) (fun _ _ h => h.elim)) (fun _ _ g => g)
  have H2 : Hid (RdAt w2 R (⟨tk, ⟨#[102]⟩, tn, ta⟩ :: r) n o z) := H1.out.only o2
  clear o2 H1 O1
  simp only [Tok.v]
  go_wp2_with fail
  refine (show Calls Tryz.prog 45 _ _ _ from count_full R ⟨tk, ⟨#[102]⟩, tn, ta⟩ r n o _ (by have := H2.out; rw [show z = 1024 from HZ.out] at this; exact this)).mono ?_
  rintro e w3 ⟨rfl, o3⟩
  have O3 : Hid (Only (fun b => b = R) w w3) := O2.out.trans o3 (fun _ _ g => g)
  clear o3 H2 O2
  unfold gup
  go_wp2
  exact ⟨rfl, rfl, O3.out⟩
set_option maxRecDepth 100000 in
theorem lit_no_ok (R : Nat) (r : List Tok) (n o z : Int) (tk tn ta : Int) (w : World) (i2 : (tk == 2) = false) (i3 : (tk == 3) = false) (hz : 0 ≤ z) (hz1 : z ≤ 1024) (hz2 : ¬ z = 1024) (h : RdAt w R (⟨tk, ⟨#[102]⟩, tn, ta⟩ :: r) n o z) :
    Calls Tryz.prog 46 #[.pointer (some ⟨R, 0, none⟩)] w fun x w' => x = .returned (.iface 120 (.agg #[.bool false])) ∧ Hid (RdAt w' R r n o (z + 1) ∧ Only (fun b => b = R) w w') := by
  have HC : Hid (∀ w1, RdAt w1 R (⟨tk, ⟨#[102]⟩, tn, ta⟩ :: r) n o z → Calls Tryz.prog 45 #[.pointer (some ⟨R, 0, none⟩)] w1 fun x w' => x = .returned (Tok.v ⟨tk, ⟨#[102]⟩, tn, ta⟩) ∧ Hid (RdAt w' R r n o (z + 1) ∧ Only (fun b => b = R) w1 w')) := fun w1 h1 => count_cons R _ r n o z w1 hz hz1 hz2 h1
  have H0 : Hid (RdAt w R (⟨tk, ⟨#[102]⟩, tn, ta⟩ :: r) n o z) := h
  have O0 : Hid (Only (fun b => b = R) w w) := Only.refl _ _
  clear h hz hz1 hz2
  have f0 := tok_f0
  have f1 := tok_f1
  have f2 := tok_f2
  go_enter Tryz.func46, Tryz.ntmps46
  go_wp2_with fail
  refine (show Calls Tryz.prog 60 _ _ _ from next_cons R _ r n o z _ H0.out).mono ?_
  rintro e w1 ⟨rfl, o1⟩
  have O1 : Hid (Only (fun b => b = R) w w1) := O0.out.trans (o1.mono (bs' := fun b => b = R) (fun _ _ h => h.elim)) (fun _ _ g => g)
  have H1 : Hid (RdAt w1 R (⟨tk, ⟨#[102]⟩, tn, ta⟩ :: r) n o z) := H0.out.only o1
  clear o1 H0 O0
  simp only [Tok.v]
  go_wp2_with fail
  refine (show Calls Tryz.prog 60 _ _ _ from next_cons R _ r n o z _ H1.out).mono ?_
  rintro e w2 ⟨rfl, o2⟩
  have O2 : Hid (Only (fun b => b = R) w w2) := O1.out.trans (o2.mono (bs' := fun b => b = R) (fun _ _ h => h.elim)) (fun _ _ g => g)
  have H2 : Hid (RdAt w2 R (⟨tk, ⟨#[102]⟩, tn, ta⟩ :: r) n o z) := H1.out.only o2
  clear o2 H1 O1
  simp only [Tok.v]
  go_wp2_with fail
  refine (show Calls Tryz.prog 45 _ _ _ from HC.out _ H2.out).mono ?_
  rintro e w3 ⟨rfl, g3⟩
  have G3 : Hid (RdAt w3 R r n o (z + 1) ∧ Only (fun b => b = R) w w3) := ⟨g3.out.1, O2.out.trans g3.out.2 (fun _ _ g => g)⟩
  clear g3 H2 O2 HC
  simp only [Tok.v]
  go_wp2
  go_ret
  exact ⟨rfl, G3⟩
end Go.Proofs.YtmpfbjmaiddigaaGreatDoor
namespace Go.Proofs.YtmpfbjmaiddigaaGreatDoor
open Go.RowKit
set_option linter.unusedSimpArgs false
set_option linter.unusedVariables false
set_option maxRecDepth 100000 in
theorem lit_none (R : Nat) (r : List Tok) (n o z : Int) (tk tn ta : Int) (tt : ByteArray) (w : World) (i2 : (tk == 2) = false) (i3 : (tk == 3) = false) (j1 : (tt.toList == [116]) = false) (j2 : (tt.toList == [102]) = false) (j3 : (tt.toList == [91]) = false) (j4 : (tt.toList == [123]) = false) (h : RdAt w R (⟨tk, tt, tn, ta⟩ :: r) n o z) :
    Calls Tryz.prog 46 #[.pointer (some ⟨R, 0, none⟩)] w fun x w' => x = gup ta 9 ∧ Only (fun b => b = R) w w' := by
  have HF : Hid (∀ w1, RdAt w1 R (⟨tk, tt, tn, ta⟩ :: r) n o z → Calls Tryz.prog 67 #[.pointer (some ⟨R, 0, none⟩), .int .i64 9] w1 fun x w' => x = .returned (.agg #[.int .i64 ta, .int .i64 9]) ∧ Only (fun _ => False) w1 w') := fun w1 h1 => fault_any R (⟨tk, tt, tn, ta⟩ :: r) n o z 9 w1 h1
  have H0 : Hid (RdAt w R (⟨tk, tt, tn, ta⟩ :: r) n o z) := h
  have O0 : Hid (Only (fun b => b = R) w w) := Only.refl _ _
  clear h
  have f0 := tok_f0
  have f1 := tok_f1
  go_enter Tryz.func46, Tryz.ntmps46
  go_wp2_with fail
  refine (show Calls Tryz.prog 60 _ _ _ from next_cons R _ r n o z _ H0.out).mono ?_
  rintro e w1 ⟨rfl, o1⟩
  have O1 : Hid (Only (fun b => b = R) w w1) := O0.out.trans (o1.mono (bs' := fun b => b = R) (fun _ _ h => h.elim)) (fun _ _ g => g)
  have H1 : Hid (RdAt w1 R (⟨tk, tt, tn, ta⟩ :: r) n o z) := H0.out.only o1
  clear o1 H0 O0
  simp only [Tok.v]
  go_wp2_with fail
  refine (show Calls Tryz.prog 60 _ _ _ from next_cons R _ r n o z _ H1.out).mono ?_
  rintro e w2 ⟨rfl, o2⟩
  have O2 : Hid (Only (fun b => b = R) w w2) := O1.out.trans (o2.mono (bs' := fun b => b = R) (fun _ _ h => h.elim)) (fun _ _ g => g)
  have H2 : Hid (RdAt w2 R (⟨tk, tt, tn, ta⟩ :: r) n o z) := H1.out.only o2
  clear o2 H1 O1
  simp only [Tok.v]
  go_wp2_with fail
  refine (show Calls Tryz.prog 67 _ _ _ from HF.out _ H2.out).mono ?_
  rintro e w3 ⟨rfl, o3⟩
  have O3 : Hid (Only (fun b => b = R) w w3) := O2.out.trans (o3.mono (bs' := fun b => b = R) (fun _ _ h => h.elim)) (fun _ _ g => g)
  clear o3 H2 O2 HF
  go_wp2
  exact ⟨rfl, rfl, O3.out⟩
theorem RwAt.lower {w : World} {B C : Nat} {T : TypeId} {d : Nat} {i : Bool} {v : Value} {l : List Tre} (h : RwAt w B T d i v l) (hC : C ≤ B) : RwAt w C T d i v l := by
  obtain ⟨us, S, ho, ht, hS⟩ := h
  refine ⟨us, S, ⟨ho.1, ?_⟩, ht, fun b hb => ⟨Nat.le_trans hC (hS b hb).1, (hS b hb).2⟩⟩
  rcases ho.2 with g | ⟨g, cap, cur, h1, h2, h3⟩
  · exact .inl g
  · exact .inr ⟨g, cap, cur, h1, by omega, h3⟩
/-- what a bracket is read as -/
def brP (R d : Nat) (T Y : TypeId) (i : Bool) (n o : Int) (w : World) (r : Except (Int × Int) (List Tre × List Tok × Int)) (x : Ending) (w' : World) : Prop :=
  match r with
  | .error (a, e) => x = gup a e ∧ Only (fun b => b = R) w w'
  | .ok (l, q, z) => ∃ ao cap, x = .returned (.iface Y (.agg #[.slice ao l.length cap])) ∧ Hid (RwAt w' w.heap.size T d i (.slice ao l.length cap) l ∧ RdAt w' R q n o z ∧ Only (fun b => b = R) w w')
set_option maxRecDepth 100000 in
theorem lit_quot_full (R : Nat) (r : List Tok) (n o z : Int) (tk tn ta : Int) (w : World) (i2 : (tk == 2) = false) (i3 : (tk == 3) = false) (ho : 0 ≤ o) (ho1 : o ≤ 32) (hz : 0 ≤ z) (hz1 : z ≤ 1024) (hf : o = 32 ∨ z = 1024) (h : RdAt w R (⟨tk, ⟨#[91]⟩, tn, ta⟩ :: r) n o z) :
    Calls Tryz.prog 46 #[.pointer (some ⟨R, 0, none⟩)] w fun x w' => x = gup ta 11 ∧ Only (fun b => b = R) w w' := by
  have HE : Hid (∀ w1, RdAt w1 R (⟨tk, ⟨#[91]⟩, tn, ta⟩ :: r) n o z → Calls Tryz.prog 61 #[.pointer (some ⟨R, 0, none⟩)] w1 fun x w' => x = gup ta 11 ∧ Only (fun b => b = R) w1 w') := fun w1 h1 => (enter_any R _ n o z w1 (by omega) (by omega) h1).mono fun e w' g => by unfold enP at g; rw [if_pos hf] at g; exact g
  have H0 : Hid (RdAt w R (⟨tk, ⟨#[91]⟩, tn, ta⟩ :: r) n o z) := h
  have O0 : Hid (Only (fun b => b = R) w w) := Only.refl _ _
  clear h hf ho ho1 hz hz1
  have f0 := tok_f0
  have f1 := tok_f1
  go_enter Tryz.func46, Tryz.ntmps46
  go_wp2_with fail
  refine (show Calls Tryz.prog 60 _ _ _ from next_cons R _ r n o z _ H0.out).mono ?_
  rintro e w1 ⟨rfl, o1⟩
  have O1 : Hid (Only (fun b => b = R) w w1) := O0.out.trans (o1.mono (bs' := fun b => b = R) (fun _ _ h => h.elim)) (fun _ _ g => g)
  have H1 : Hid (RdAt w1 R (⟨tk, ⟨#[91]⟩, tn, ta⟩ :: r) n o z) := H0.out.only o1
  clear o1 H0 O0
  simp only [Tok.v]
  go_wp2_with fail
  refine (show Calls Tryz.prog 60 _ _ _ from next_cons R _ r n o z _ H1.out).mono ?_
  rintro e w2 ⟨rfl, o2⟩
  have O2 : Hid (Only (fun b => b = R) w w2) := O1.out.trans (o2.mono (bs' := fun b => b = R) (fun _ _ h => h.elim)) (fun _ _ g => g)
  have H2 : Hid (RdAt w2 R (⟨tk, ⟨#[91]⟩, tn, ta⟩ :: r) n o z) := H1.out.only o2
  clear o2 H1 O1
  simp only [Tok.v]
  go_wp2_with fail
  refine (show Calls Tryz.prog 61 _ _ _ from HE.out _ H2.out).mono ?_
  rintro e w3 ⟨rfl, o3⟩
  have O3 : Hid (Only (fun b => b = R) w w3) := O2.out.trans o3 (fun _ _ g => g)
  clear o3 H2 O2 HE
  unfold gup
  go_wp2
  exact ⟨rfl, rfl, O3.out⟩
set_option maxRecDepth 100000 in
theorem lit_quot_ok (R f : Nat) (r : List Tok) (n o z : Int) (tk tn ta : Int) (w : World) (i2 : (tk == 2) = false) (i3 : (tk == 3) = false) (ho : 0 ≤ o) (ho1 : o ≤ 32) (hz : 0 ≤ z) (hz1 : z ≤ 1024) (hf : ¬ (o = 32 ∨ z = 1024)) (hl : 3 * r.length + 3 ≤ f) (hl2 : r.length ≤ 4096)
    (HU : UpC R n f 3 65 36 true 29) (h : RdAt w R (⟨tk, ⟨#[91]⟩, tn, ta⟩ :: r) n o z) :
    Calls Tryz.prog 46 #[.pointer (some ⟨R, 0, none⟩)] w (brP R f 36 90 true n o w (prs n f 3 r (o + 1) (z + 1))) := by
  have HE : Hid (∀ w1, RdAt w1 R (⟨tk, ⟨#[91]⟩, tn, ta⟩ :: r) n o z → Calls Tryz.prog 61 #[.pointer (some ⟨R, 0, none⟩)] w1 fun x w' => x = .returned (.tuple #[]) ∧ Hid (RdAt w' R r n (o + 1) (z + 1) ∧ Only (fun b => b = R) w1 w')) := fun w1 h1 => (enter_any R _ n o z w1 (by omega) (by omega) h1).mono fun e w' g => by unfold enP at g; rw [if_neg hf] at g; exact g
  have HUU : Hid (∀ w1, RdAt w1 R r n (o + 1) (z + 1) → Calls Tryz.prog 65 #[.pointer (some ⟨R, 0, none⟩), .string ⟨#[93]⟩, .func (.func 29) #[] #[]] w1 (upP R f 36 true n (o + 1) w1 (prs n f 3 r (o + 1) (z + 1)))) := fun w1 h1 => HU r (o + 1) (z + 1) w1 hl hl2 (by omega) (by omega) (by omega) (by omega) h1
  have H0 : Hid (RdAt w R (⟨tk, ⟨#[91]⟩, tn, ta⟩ :: r) n o z) := h
  have O0 : Hid (Only (fun b => b = R) w w) := Only.refl _ _
  clear h hf ho ho1 hz hz1 HU hl hl2
  obtain ⟨X, hX⟩ : ∃ X, X = prs n f 3 r (o + 1) (z + 1) := ⟨_, rfl⟩
  rw [← hX] at HUU ⊢
  clear hX
  have f0 := tok_f0
  have f1 := tok_f1
  go_enter Tryz.func46, Tryz.ntmps46
  go_wp2_with fail
  refine (show Calls Tryz.prog 60 _ _ _ from next_cons R _ r n o z _ H0.out).mono ?_
  rintro e w1 ⟨rfl, o1⟩
  have O1 : Hid (Only (fun b => b = R) w w1) := O0.out.trans (o1.mono (bs' := fun b => b = R) (fun _ _ h => h.elim)) (fun _ _ g => g)
  have H1 : Hid (RdAt w1 R (⟨tk, ⟨#[91]⟩, tn, ta⟩ :: r) n o z) := H0.out.only o1
  clear o1 H0 O0
  simp only [Tok.v]
  go_wp2_with fail
  refine (show Calls Tryz.prog 60 _ _ _ from next_cons R _ r n o z _ H1.out).mono ?_
  rintro e w2 ⟨rfl, o2⟩
  have O2 : Hid (Only (fun b => b = R) w w2) := O1.out.trans (o2.mono (bs' := fun b => b = R) (fun _ _ h => h.elim)) (fun _ _ g => g)
  have H2 : Hid (RdAt w2 R (⟨tk, ⟨#[91]⟩, tn, ta⟩ :: r) n o z) := H1.out.only o2
  clear o2 H1 O1
  simp only [Tok.v]
  go_wp2_with fail
  refine (show Calls Tryz.prog 61 _ _ _ from HE.out _ H2.out).mono ?_
  rintro e w3 ⟨rfl, g3⟩
  have H3 : Hid (RdAt w3 R r n (o + 1) (z + 1)) := g3.out.1
  have O3 : Hid (Only (fun b => b = R) w w3) := O2.out.trans g3.out.2 (fun _ _ g => g)
  clear g3 H2 O2 HE
  go_wp2_with fail
  refine (show Calls Tryz.prog 65 _ _ _ from HUU.out _ H3.out).mono ?_
  intro e w4 g4
  clear H3 HUU
  cases X with
  | error p =>
    obtain ⟨a, er⟩ := p
    obtain ⟨he, o4⟩ := g4
    subst he
    have O4 : Hid (Only (fun b => b = R) w w4) := O3.out.trans o4 (fun _ _ g => g)
    clear o4 O3
    unfold gup
    go_wp2
    exact ⟨rfl, show _ ∧ _ from ⟨rfl, O4.out⟩⟩
  | ok p =>
    obtain ⟨l, q, z'⟩ := p
    obtain ⟨ao, cap, he, g5⟩ := g4
    subst he
    have G5 : Hid (RwAt w4 w3.heap.size 36 f true (.slice ao l.length cap) l ∧ RdAt w4 R q n o z' ∧ Only (fun b => b = R) w w4) := ⟨g5.out.1, by have := g5.out.2.1; rwa [Int.add_sub_cancel] at this, O3.out.trans g5.out.2.2 (fun _ _ g => g)⟩
    have hs3 := O3.out.size
    clear g5 O3
    obtain ⟨L, hL⟩ : ∃ L, L = l.length := ⟨_, rfl⟩
    have HL : Hid (L = l.length) := hL
    rw [← hL] at G5
    rw [← hL]
    clear hL
    go_wp2
    go_ret
    have e1 : L = l.length := HL.out
    refine show ∃ ao' cap', _ ∧ Hid _ from ⟨ao, cap, by rw [e1]; rfl, ?_⟩
    rw [← e1]
    exact ⟨G5.out.1.lower hs3, G5.out.2.1, G5.out.2.2⟩
set_option maxRecDepth 100000 in
theorem lit_list_full (R : Nat) (r : List Tok) (n o z : Int) (tk tn ta : Int) (w : World) (i2 : (tk == 2) = false) (i3 : (tk == 3) = false) (ho : 0 ≤ o) (ho1 : o ≤ 32) (hz : 0 ≤ z) (hz1 : z ≤ 1024) (hf : o = 32 ∨ z = 1024) (h : RdAt w R (⟨tk, ⟨#[123]⟩, tn, ta⟩ :: r) n o z) :
    Calls Tryz.prog 46 #[.pointer (some ⟨R, 0, none⟩)] w fun x w' => x = gup ta 11 ∧ Only (fun b => b = R) w w' := by
  have HE : Hid (∀ w1, RdAt w1 R (⟨tk, ⟨#[123]⟩, tn, ta⟩ :: r) n o z → Calls Tryz.prog 61 #[.pointer (some ⟨R, 0, none⟩)] w1 fun x w' => x = gup ta 11 ∧ Only (fun b => b = R) w1 w') := fun w1 h1 => (enter_any R _ n o z w1 (by omega) (by omega) h1).mono fun e w' g => by unfold enP at g; rw [if_pos hf] at g; exact g
  have H0 : Hid (RdAt w R (⟨tk, ⟨#[123]⟩, tn, ta⟩ :: r) n o z) := h
  have O0 : Hid (Only (fun b => b = R) w w) := Only.refl _ _
  clear h hf ho ho1 hz hz1
  have f0 := tok_f0
  have f1 := tok_f1
  go_enter Tryz.func46, Tryz.ntmps46
  go_wp2_with fail
  refine (show Calls Tryz.prog 60 _ _ _ from next_cons R _ r n o z _ H0.out).mono ?_
  rintro e w1 ⟨rfl, o1⟩
  have O1 : Hid (Only (fun b => b = R) w w1) := O0.out.trans (o1.mono (bs' := fun b => b = R) (fun _ _ h => h.elim)) (fun _ _ g => g)
  have H1 : Hid (RdAt w1 R (⟨tk, ⟨#[123]⟩, tn, ta⟩ :: r) n o z) := H0.out.only o1
  clear o1 H0 O0
  simp only [Tok.v]
  go_wp2_with fail
  refine (show Calls Tryz.prog 60 _ _ _ from next_cons R _ r n o z _ H1.out).mono ?_
  rintro e w2 ⟨rfl, o2⟩
  have O2 : Hid (Only (fun b => b = R) w w2) := O1.out.trans (o2.mono (bs' := fun b => b = R) (fun _ _ h => h.elim)) (fun _ _ g => g)
  have H2 : Hid (RdAt w2 R (⟨tk, ⟨#[123]⟩, tn, ta⟩ :: r) n o z) := H1.out.only o2
  clear o2 H1 O1
  simp only [Tok.v]
  go_wp2_with fail
  refine (show Calls Tryz.prog 61 _ _ _ from HE.out _ H2.out).mono ?_
  rintro e w3 ⟨rfl, o3⟩
  have O3 : Hid (Only (fun b => b = R) w w3) := O2.out.trans o3 (fun _ _ g => g)
  clear o3 H2 O2 HE
  unfold gup
  go_wp2
  exact ⟨rfl, rfl, O3.out⟩
set_option maxRecDepth 100000 in
theorem lit_list_ok (R f : Nat) (r : List Tok) (n o z : Int) (tk tn ta : Int) (w : World) (i2 : (tk == 2) = false) (i3 : (tk == 3) = false) (ho : 0 ≤ o) (ho1 : o ≤ 32) (hz : 0 ≤ z) (hz1 : z ≤ 1024) (hf : ¬ (o = 32 ∨ z = 1024)) (hl : 3 * r.length + 3 ≤ f) (hl2 : r.length ≤ 4096)
    (HU : UpC R n f 2 68 79 false 46) (h : RdAt w R (⟨tk, ⟨#[123]⟩, tn, ta⟩ :: r) n o z) :
    Calls Tryz.prog 46 #[.pointer (some ⟨R, 0, none⟩)] w (brP R f 79 85 false n o w (prs n f 2 r (o + 1) (z + 1))) := by
  have HE : Hid (∀ w1, RdAt w1 R (⟨tk, ⟨#[123]⟩, tn, ta⟩ :: r) n o z → Calls Tryz.prog 61 #[.pointer (some ⟨R, 0, none⟩)] w1 fun x w' => x = .returned (.tuple #[]) ∧ Hid (RdAt w' R r n (o + 1) (z + 1) ∧ Only (fun b => b = R) w1 w')) := fun w1 h1 => (enter_any R _ n o z w1 (by omega) (by omega) h1).mono fun e w' g => by unfold enP at g; rw [if_neg hf] at g; exact g
  have HUU : Hid (∀ w1, RdAt w1 R r n (o + 1) (z + 1) → Calls Tryz.prog 68 #[.pointer (some ⟨R, 0, none⟩), .string ⟨#[125]⟩, .func (.func 46) #[] #[]] w1 (upP R f 79 false n (o + 1) w1 (prs n f 2 r (o + 1) (z + 1)))) := fun w1 h1 => HU r (o + 1) (z + 1) w1 hl hl2 (by omega) (by omega) (by omega) (by omega) h1
  have H0 : Hid (RdAt w R (⟨tk, ⟨#[123]⟩, tn, ta⟩ :: r) n o z) := h
  have O0 : Hid (Only (fun b => b = R) w w) := Only.refl _ _
  clear h hf ho ho1 hz hz1 HU hl hl2
  obtain ⟨X, hX⟩ : ∃ X, X = prs n f 2 r (o + 1) (z + 1) := ⟨_, rfl⟩
  rw [← hX] at HUU ⊢
  clear hX
  have f0 := tok_f0
  have f1 := tok_f1
  go_enter Tryz.func46, Tryz.ntmps46
  go_wp2_with fail
  refine (show Calls Tryz.prog 60 _ _ _ from next_cons R _ r n o z _ H0.out).mono ?_
  rintro e w1 ⟨rfl, o1⟩
  have O1 : Hid (Only (fun b => b = R) w w1) := O0.out.trans (o1.mono (bs' := fun b => b = R) (fun _ _ h => h.elim)) (fun _ _ g => g)
  have H1 : Hid (RdAt w1 R (⟨tk, ⟨#[123]⟩, tn, ta⟩ :: r) n o z) := H0.out.only o1
  clear o1 H0 O0
  simp only [Tok.v]
  go_wp2_with fail
  refine (show Calls Tryz.prog 60 _ _ _ from next_cons R _ r n o z _ H1.out).mono ?_
  rintro e w2 ⟨rfl, o2⟩
  have O2 : Hid (Only (fun b => b = R) w w2) := O1.out.trans (o2.mono (bs' := fun b => b = R) (fun _ _ h => h.elim)) (fun _ _ g => g)
  have H2 : Hid (RdAt w2 R (⟨tk, ⟨#[123]⟩, tn, ta⟩ :: r) n o z) := H1.out.only o2
  clear o2 H1 O1
  simp only [Tok.v]
  go_wp2_with fail
  refine (show Calls Tryz.prog 61 _ _ _ from HE.out _ H2.out).mono ?_
  rintro e w3 ⟨rfl, g3⟩
  have H3 : Hid (RdAt w3 R r n (o + 1) (z + 1)) := g3.out.1
  have O3 : Hid (Only (fun b => b = R) w w3) := O2.out.trans g3.out.2 (fun _ _ g => g)
  clear g3 H2 O2 HE
  go_wp2_with fail
  refine (show Calls Tryz.prog 68 _ _ _ from HUU.out _ H3.out).mono ?_
  intro e w4 g4
  clear H3 HUU
  cases X with
  | error p =>
    obtain ⟨a, er⟩ := p
    obtain ⟨he, o4⟩ := g4
    subst he
    have O4 : Hid (Only (fun b => b = R) w w4) := O3.out.trans o4 (fun _ _ g => g)
    clear o4 O3
    unfold gup
    go_wp2
    exact ⟨rfl, show _ ∧ _ from ⟨rfl, O4.out⟩⟩
  | ok p =>
    obtain ⟨l, q, z'⟩ := p
    obtain ⟨ao, cap, he, g5⟩ := g4
    subst he
    have G5 : Hid (RwAt w4 w3.heap.size 79 f false (.slice ao l.length cap) l ∧ RdAt w4 R q n o z' ∧ Only (fun b => b = R) w w4) := ⟨g5.out.1, by have := g5.out.2.1; rwa [Int.add_sub_cancel] at this, O3.out.trans g5.out.2.2 (fun _ _ g => g)⟩
    have hs3 := O3.out.size
    clear g5 O3
    obtain ⟨L, hL⟩ : ∃ L, L = l.length := ⟨_, rfl⟩
    have HL : Hid (L = l.length) := hL
    rw [← hL] at G5
    rw [← hL]
    clear hL
    go_wp2
    go_ret
    have e1 : L = l.length := HL.out
    refine show ∃ ao' cap', _ ∧ Hid _ from ⟨ao, cap, by rw [e1]; rfl, ?_⟩
    rw [← e1]
    exact ⟨G5.out.1.lower hs3, G5.out.2.1, G5.out.2.2⟩
end Go.Proofs.YtmpfbjmaiddigaaGreatDoor
