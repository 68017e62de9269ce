/- Two rows one behind the other: slices.Concat. Values of any kind as the document's trees: how these lie in memory. A measure of a value, of an item; all of them. A measure of a list, of a quotation, of an item; of all. The measure of values: a list of two, a quotation of one. -/
import Derived.Test.YtbhpjakjlfkfiaaGreatDoorGae
import Derived.Test.YtbhpjakjlfkfiaaGreatDoorGaa
import Derived.Test.YtbhpjakjlfkfiaaGreatDoorGac
import Derived.Test.YtbhpjakjlfkfiaaGreatDoorGad
namespace Go.Proofs.YtbhpjakjlfkfiaaGreatDoor
open Go.RowKit Go.Lib
set_option linter.unusedSimpArgs false
set_option linter.unusedVariables false
theorem src_of {sT eT : TypeId} (hT : Tryz.prog.underlying sT = some (.slice eT)) {W : World} {n c : Nat} {a : Option Addr} {us : List Value} (hl : us.length = n) (hnil : a = none → us = []) (hu : ∀ ad, a = some ad → ∀ j u, us[j]? = some u → W.cell? (ad.add j) = some u) (h1 : ∀ u ∈ us, u.oneCell' = true) : Src Tryz.prog 1 sT (.slice a n c) n us W := by
  cases a with
  | none =>
    have e := hnil rfl
    subst e
    obtain rfl : n = 0 := by simpa using hl.symm
    exact Src.ofNil W hT c
  | some ad => exact Src.ofSlice W hT ad n c us (by omega) (hu ad rfl) h1
theorem ap_at {sT eT : TypeId} (hT : Tryz.prog.underlying sT = some (.slice eT)) (hI : (Tryz.prog.info? eT).map (fun i => (i.zero, i.size, i.bytes)) = some (some .nilIface, 1, 16)) {W : World} {g m n cap c : Nat} {a : Option Addr} {us : List Value} {cur : Array Value} (hl : us.length = n) (hnil : a = none → us = []) (hu : ∀ ad, a = some ad → ∀ j u, us[j]? = some u → W.cell? (ad.add j) = some u) (h1 : ∀ u ∈ us, u.oneCell' = true) (hg : W.heap[g]? = some (.cells cur eT)) (hr : m + n ≤ cap) (hc : cur.size = cap) (ty : TypeId) :
    (Builtin.append_ #[sT, sT] ty #[.slice (some ⟨g, 0, none⟩) m cap, .slice a n c]).run Tryz.prog W = .ok (.slice (some ⟨g, 0, none⟩) (m + n) cap) (W.setRow g (cur.toList.take m ++ us ++ cur.toList.drop (m + us.length)).toArray) := by
  obtain ⟨i0, hi, hz0, hz1, hz2⟩ := vinfo_parts hI
  have hs : Src Tryz.prog 1 sT (.slice a n c) n us W := src_of hT hl hnil hu h1
  have hst := run_storeCells_at Tryz.prog g m eT us 0 cur W hg (by omega) h1
  simp only [Nat.add_zero, Nat.zero_add] at hst
  rcases hs.kind with ⟨e', hk⟩ | hk <;> simp [Builtin.append_, run_underlying hT, run_underlying hk, sizeOf, typeInfo, hi, hs.len, hr, hs.cells, Addr.add_lit, hz1, hst]
theorem ap_none {sT eT : TypeId} (hT : Tryz.prog.underlying sT = some (.slice eT)) (hI : (Tryz.prog.info? eT).map (fun i => (i.zero, i.size, i.bytes)) = some (some .nilIface, 1, 16)) {W : World} {c : Nat} {a : Option Addr} (ty : TypeId) :
    (Builtin.append_ #[sT, sT] ty #[.slice none 0 0, .slice a 0 c]).run Tryz.prog W = .ok (.slice none 0 0) W := by
  obtain ⟨i0, hi, hz0, hz1, hz2⟩ := vinfo_parts hI
  have hs : Src Tryz.prog 1 sT (.slice a 0 c) 0 [] W := src_of hT rfl (fun _ => rfl) (fun ad _ j u hu => by simp at hu) (fun u hu => by cases hu)
  rcases hs.kind with ⟨e', hk⟩ | hk <;> simp [Builtin.append_, run_underlying hT, run_underlying hk, sizeOf, typeInfo, hi, hs.len, hs.cells, hz1]
/-- what Concat answers: the values us in a row of its own -/
def CcP (T : TypeId) (us : List Value) (w : World) (e : Ending) (w' : World) : Prop := ∃ v, e = .returned v ∧ (∃ ao cap, v = .slice ao us.length cap) ∧ w'.ownsRow w.heap.size T 1 v us.length us ∧ Only (fun _ => False) w w'
/-- the steps of Concat: where the new row is, and what the two appends make of it -/
def CcSValue (us1 us2 : List Value) (a1 a2 : Option Addr) (c1 c2 : Nat) (w : World) : Prop := ∃ V0 V1 V2 W0 W1 W2, Calls Tryz.prog 52 #[.slice none 0 0, .int .i64 ((us1.length : Int) + (us2.length : Int))] w (fun e w' => e = .returned V0 ∧ w' = W0) ∧
  (∀ ty, (Builtin.append_ #[25, 25] ty #[V0, .slice a1 us1.length c1]).run Tryz.prog W0 = .ok V1 W1) ∧ (∀ ty, (Builtin.append_ #[25, 25] ty #[V1, .slice a2 us2.length c2]).run Tryz.prog W1 = .ok V2 W2) ∧
  Only (fun _ => False) w W0 ∧ Only (fun _ => False) w W1 ∧ CcP 51 (us1 ++ us2) w (.returned V2) W2
theorem cc_stepsValue (us1 us2 : List Value) (a1 a2 : Option Addr) (c1 c2 : Nat) (w : World) (h1 : ∀ u ∈ us1, u.oneCell' = true) (h2 : ∀ u ∈ us2, u.oneCell' = true) (hn1 : us1.length ≤ 2513169434900) (hn2 : us2.length ≤ 2513169434900) (hc1 : ∀ ad, a1 = some ad → ∀ j u, us1[j]? = some u → w.cell? (ad.add j) = some u) (hc2 : ∀ ad, a2 = some ad → ∀ j u, us2[j]? = some u → w.cell? (ad.add j) = some u) (hl1 : a1 = none → us1 = []) (hl2 : a2 = none → us2 = []) : CcSValue us1 us2 a1 a2 c1 c2 w := by
  obtain ⟨i0, hi0, hz0, hz1, hz2⟩ := vinfo_parts vinfoV
  by_cases hz : us1.length + us2.length = 0
  · have e1 : us1 = [] := List.length_eq_zero_iff.1 (by omega)
    have e2 : us2 = [] := List.length_eq_zero_iff.1 (by omega)
    subst e1
    subst e2
    refine ⟨.slice none 0 0, .slice none 0 0, .slice none 0 0, w, w, w, ?_, fun ty => ap_none Tryz.underlying25 vinfoV ty, fun ty => ap_none Tryz.underlying25 vinfoV ty, Only.refl _ _, Only.refl _ _, ⟨_, rfl, ⟨_, _, rfl⟩, ⟨rfl, .inl ⟨rfl, rfl⟩⟩, Only.refl _ _⟩⟩
    exact Any8.slices_Grow_room Tryz.growV none 0 0 0 w (by omega) (by omega) (by omega) (by omega)
  · obtain ⟨n, hn⟩ : ∃ n, n = us1.length + us2.length := ⟨_, rfl⟩
    have hgr := Any8.slices_Grow_grow Tryz.growV i0 .nilIface hi0 hz0 (by omega) none 0 0 n [] w (by omega) (by omega) (by rw [hz2]; omega) (by omega) (by simp) (fun _ => rfl) (fun a ha => by cases ha)
    have hcap : n ≤ grownCap w (0 + n) 0 (Tryz.growV_ren.t 25) := by have := grownCap_ge w (0 + n) 0 (Tryz.growV_ren.t 25); omega
    have hmax := grownCap_le_maxLen w (0 + n) 0 (Tryz.growV_ren.t 25) (by unfold maxLen; omega)
    obtain ⟨cap, hcp⟩ : ∃ cap, cap = grownCap w (0 + n) 0 (Tryz.growV_ren.t 25) := ⟨_, rfl⟩
    obtain ⟨cur, hcur⟩ : ∃ cur : Array Value, cur = ([] : List Value).toArray ++ Builtin.zeroCells (Value.nilIface).cells (0 + n - 0) ++ Builtin.zeroCells (Value.nilIface).cells (grownCap w (0 + n) 0 (Tryz.growV_ren.t 25) - (0 + n)) := ⟨_, rfl⟩
    have hcs : cur.size = cap := by
      rw [hcur, hcp]
      have e1 : (Value.nilIface).cells.size = 1 := rfl
      simp only [Array.size_append, size_zeroCells, e1, List.size_toArray, List.length_nil]
      omega
    rw [← hcur] at hgr
    rw [← hcp] at hgr hcap hmax
    obtain ⟨W0, hW0⟩ : ∃ W0, W0 = w.drew.alloc (.cells cur 51) := ⟨_, rfl⟩
    have hb0 : W0.heap[w.heap.size]? = some (.cells cur 51) := by rw [hW0]; exact heap_alloc_new w.drew _
    have o0 : Only (fun _ => False) w W0 := by rw [hW0]; exact (Only.refl _ w).drew.alloc _
    have hap0 := fun ty => ap_at Tryz.underlying25 vinfoV (W := W0) (g := w.heap.size) (m := 0) (n := us1.length) (cap := cap) (c := c1) (a := a1) (us := us1) (cur := cur) rfl hl1 (fun ad e j u hu => o0.cell (hc1 ad e j u hu) (fun g => g)) h1 hb0 (by omega) hcs ty
    obtain ⟨cu1, hcu1⟩ : ∃ cu1, cu1 = (cur.toList.take 0 ++ us1 ++ cur.toList.drop (0 + us1.length)).toArray := ⟨_, rfl⟩
    have hcs1 : cu1.size = cap := by
      rw [hcu1]
      simp only [List.size_toArray, List.length_append, List.length_take, List.length_drop, Array.length_toList, hcs]
      omega
    have ht1 : cu1.toList.take us1.length = us1 := by
      rw [hcu1]
      simp
    rw [← hcu1] at hap0
    have hb1 : (W0.setRow w.heap.size cu1).heap[w.heap.size]? = some (.cells cu1 51) := setRow_heap W0 _ cur _ _ _ hb0
    have o1 : Only (fun _ => False) w (W0.setRow w.heap.size cu1) := o0.trans setRow_only (fun b hb e => by omega)
    have hap1 := fun ty => ap_at Tryz.underlying25 vinfoV (W := W0.setRow w.heap.size cu1) (g := w.heap.size) (m := 0 + us1.length) (n := us2.length) (cap := cap) (c := c2) (a := a2) (us := us2) (cur := cu1) rfl hl2 (fun ad e j u hu => o1.cell (hc2 ad e j u hu) (fun g => g)) h2 hb1 (by omega) hcs1 ty
    obtain ⟨cu2, hcu2⟩ : ∃ cu2, cu2 = (cu1.toList.take (0 + us1.length) ++ us2 ++ cu1.toList.drop (0 + us1.length + us2.length)).toArray := ⟨_, rfl⟩
    have hcs2 : cu2.size = cap := by
      rw [hcu2]
      simp only [List.size_toArray, List.length_append, List.length_take, List.length_drop, Array.length_toList, hcs1]
      omega
    have ht2 : cu2.toList.take ((us1 ++ us2).length * 1) = us1 ++ us2 := by
      rw [hcu2, Nat.zero_add, ht1, Nat.mul_one]
      exact List.take_left
    rw [← hcu2] at hap1
    have hb2 : ((W0.setRow w.heap.size cu1).setRow w.heap.size cu2).heap[w.heap.size]? = some (.cells cu2 51) := setRow_heap _ _ cu1 _ _ _ hb1
    have o2 : Only (fun _ => False) w ((W0.setRow w.heap.size cu1).setRow w.heap.size cu2) := o1.trans setRow_only (fun b hb e => by omega)
    have e12 : 0 + us1.length + us2.length = (us1 ++ us2).length := by simp
    refine ⟨_, _, _, _, _, _, ?_, hap0, hap1, o0, o1, ⟨_, rfl, ⟨_, _, by rw [e12]⟩, ⟨by simp, .inr ⟨w.heap.size, cap, cu2, by rw [e12], Nat.le_refl _, hb2, by rw [← e12]; omega, hmax, by omega, ht2⟩⟩, o2⟩⟩
    rw [show ((us1.length : Int) + (us2.length : Int)) = ((n : Nat) : Int) by omega, hW0]
    exact hgr
set_option maxRecDepth 100000 in
set_option maxHeartbeats 4000000 in
theorem concat_Value (us1 us2 : List Value) (a1 a2 : Option Addr) (c1 c2 R : Nat) (w : World) (h1 : ∀ u ∈ us1, u.oneCell' = true) (h2 : ∀ u ∈ us2, u.oneCell' = true) (hn1 : us1.length ≤ 2513169434900) (hn2 : us2.length ≤ 2513169434900) (hc1 : ∀ ad, a1 = some ad → ∀ j u, us1[j]? = some u → w.cell? (ad.add j) = some u) (hc2 : ∀ ad, a2 = some ad → ∀ j u, us2[j]? = some u → w.cell? (ad.add j) = some u) (hl1 : a1 = none → us1 = []) (hl2 : a2 = none → us2 = [])
    (hR0 : w.cell? ⟨R, 0, none⟩ = some (.slice a1 us1.length c1)) (hR1 : w.cell? ⟨R, 1, none⟩ = some (.slice a2 us2.length c2)) : Calls Tryz.prog 32 #[.slice (some ⟨R, 0, none⟩) 2 2] w fun e w' => CcP 51 (us1 ++ us2) w e w' := by
  obtain ⟨V0, V1, V2, W0, W1, W2, hg, hp0, hp1, o0, o1, hP⟩ := cc_stepsValue us1 us2 a1 a2 c1 c2 w h1 h2 hn1 hn2 hc1 hc2 hl1 hl2
  have HG : Hid _ := hg
  have HQ0 : Hid _ := hp0
  have HQ1 : Hid _ := hp1
  have HP : Hid (CcP 51 (us1 ++ us2) w (.returned V2) W2) := hP
  have HO : Hid (Only (fun _ => False) w W0 ∧ Only (fun _ => False) w W1) := ⟨o0, o1⟩
  obtain ⟨n1, e1⟩ : ∃ n, n = us1.length := ⟨_, rfl⟩
  obtain ⟨n2, e2⟩ : ∃ n, n = us2.length := ⟨_, rfl⟩
  rw [← e1] at HG HQ0 hR0 hn1
  rw [← e2] at HG HQ1 hR1 hn2
  have s2 : ¬ ((n1 : Int) < 0) := by omega
  have s3 : ¬ ((n1 : Int) + (n2 : Int) < 0) := by omega
  have r00 := hR0
  have r01 := hR1
  have k00 := o0.cell hR0 (fun g => g)
  have k01 := o1.cell hR1 (fun g => g)
  clear h1 h2 hc1 hc2 hl1 hl2 hg hp0 hp1 hP o0 o1 e1 e2 HO
  go_enter Tryz.func32, Tryz.ntmps32
  go_wp2
  go_loopw [11, 3] (fun r x wr => wr = w ∧ ((r = .int .i64 0 ∧ x = .int .i64 0) ∨ (r = .int .i64 1 ∧ x = .int .i64 (n1 : Int)) ∨ (r = .int .i64 2 ∧ x = .int .i64 ((n1 : Int) + (n2 : Int))))) (fun r _ _ => 2 - vuOf r)
  case atStart => exact ⟨rfl, .inl ⟨rfl, rfl⟩⟩
  case round =>
    obtain ⟨rfl, hr⟩ := hrel
    rcases hr with ⟨rfl, rfl⟩ | ⟨rfl, rfl⟩ | ⟨rfl, rfl⟩
    · go_wp2
      go_roundw
      case rel => exact ⟨trivial, .inr (.inl ⟨rfl, by go_num⟩)⟩
      case measure => decide
    · go_wp2
      go_roundw
      case rel => exact ⟨trivial, .inr (.inr ⟨rfl, by first | rfl | go_num⟩)⟩
      case measure => decide
    · go_wp2_with fail
      refine (show Calls Tryz.prog 52 _ _ _ from HG.out).mono ?_
      rintro e w2 ⟨rfl, hw2⟩
      obtain rfl := hw2.symm
      clear HG
      go_wp2
      go_loopw [27, 6] (fun r x wr => (r = .int .i64 0 ∧ x = V0 ∧ wr = W0) ∨ (r = .int .i64 1 ∧ x = V1 ∧ wr = W1) ∨ (r = .int .i64 2 ∧ x = V2 ∧ wr = W2)) (fun r _ _ => 2 - vuOf r)
      case atStart => exact .inl ⟨rfl, rfl, rfl⟩
      case round =>
        rcases hrel with ⟨rfl, rfl, hw⟩ | ⟨rfl, rfl, hw⟩ | ⟨rfl, rfl, hw⟩
        · obtain rfl := hw.symm
          go_wp2_with (at_builtin; refine vwpList_append_run rfl _ _ 25 rfl _ _ _ rfl rfl HQ0.out ?_)
          go_roundw
          case rel => exact .inr (.inl (by first | exact ⟨rfl, rfl, trivial⟩ | exact ⟨rfl, rfl, rfl⟩))
          case measure => decide
        · obtain rfl := hw.symm
          go_wp2_with (at_builtin; refine vwpList_append_run rfl _ _ 25 rfl _ _ _ rfl rfl HQ1.out ?_)
          go_roundw
          case rel => exact .inr (.inr (by first | exact ⟨rfl, rfl, trivial⟩ | exact ⟨rfl, rfl, rfl⟩))
          case measure => decide
        · obtain rfl := hw.symm
          go_wp2
          go_ret
          exact HP.out
/-- the steps of Concat: where the new row is, and what the two appends make of it -/
def CcSItem (us1 us2 : List Value) (a1 a2 : Option Addr) (c1 c2 : Nat) (w : World) : Prop := ∃ V0 V1 V2 W0 W1 W2, Calls Tryz.prog 126 #[.slice none 0 0, .int .i64 ((us1.length : Int) + (us2.length : Int))] w (fun e w' => e = .returned V0 ∧ w' = W0) ∧
  (∀ ty, (Builtin.append_ #[82, 82] ty #[V0, .slice a1 us1.length c1]).run Tryz.prog W0 = .ok V1 W1) ∧ (∀ ty, (Builtin.append_ #[82, 82] ty #[V1, .slice a2 us2.length c2]).run Tryz.prog W1 = .ok V2 W2) ∧
  Only (fun _ => False) w W0 ∧ Only (fun _ => False) w W1 ∧ CcP 112 (us1 ++ us2) w (.returned V2) W2
theorem cc_stepsItem (us1 us2 : List Value) (a1 a2 : Option Addr) (c1 c2 : Nat) (w : World) (h1 : ∀ u ∈ us1, u.oneCell' = true) (h2 : ∀ u ∈ us2, u.oneCell' = true) (hn1 : us1.length ≤ 2513169434900) (hn2 : us2.length ≤ 2513169434900) (hc1 : ∀ ad, a1 = some ad → ∀ j u, us1[j]? = some u → w.cell? (ad.add j) = some u) (hc2 : ∀ ad, a2 = some ad → ∀ j u, us2[j]? = some u → w.cell? (ad.add j) = some u) (hl1 : a1 = none → us1 = []) (hl2 : a2 = none → us2 = []) : CcSItem us1 us2 a1 a2 c1 c2 w := by
  obtain ⟨i0, hi0, hz0, hz1, hz2⟩ := vinfo_parts vinfoI
  by_cases hz : us1.length + us2.length = 0
  · have e1 : us1 = [] := List.length_eq_zero_iff.1 (by omega)
    have e2 : us2 = [] := List.length_eq_zero_iff.1 (by omega)
    subst e1
    subst e2
    refine ⟨.slice none 0 0, .slice none 0 0, .slice none 0 0, w, w, w, ?_, fun ty => ap_none Tryz.underlying82 vinfoI ty, fun ty => ap_none Tryz.underlying82 vinfoI ty, Only.refl _ _, Only.refl _ _, ⟨_, rfl, ⟨_, _, rfl⟩, ⟨rfl, .inl ⟨rfl, rfl⟩⟩, Only.refl _ _⟩⟩
    exact Any8.slices_Grow_room Tryz.growI none 0 0 0 w (by omega) (by omega) (by omega) (by omega)
  · obtain ⟨n, hn⟩ : ∃ n, n = us1.length + us2.length := ⟨_, rfl⟩
    have hgr := Any8.slices_Grow_grow Tryz.growI i0 .nilIface hi0 hz0 (by omega) none 0 0 n [] w (by omega) (by omega) (by rw [hz2]; omega) (by omega) (by simp) (fun _ => rfl) (fun a ha => by cases ha)
    have hcap : n ≤ grownCap w (0 + n) 0 (Tryz.growI_ren.t 25) := by have := grownCap_ge w (0 + n) 0 (Tryz.growI_ren.t 25); omega
    have hmax := grownCap_le_maxLen w (0 + n) 0 (Tryz.growI_ren.t 25) (by unfold maxLen; omega)
    obtain ⟨cap, hcp⟩ : ∃ cap, cap = grownCap w (0 + n) 0 (Tryz.growI_ren.t 25) := ⟨_, rfl⟩
    obtain ⟨cur, hcur⟩ : ∃ cur : Array Value, cur = ([] : List Value).toArray ++ Builtin.zeroCells (Value.nilIface).cells (0 + n - 0) ++ Builtin.zeroCells (Value.nilIface).cells (grownCap w (0 + n) 0 (Tryz.growI_ren.t 25) - (0 + n)) := ⟨_, rfl⟩
    have hcs : cur.size = cap := by
      rw [hcur, hcp]
      have e1 : (Value.nilIface).cells.size = 1 := rfl
      simp only [Array.size_append, size_zeroCells, e1, List.size_toArray, List.length_nil]
      omega
    rw [← hcur] at hgr
    rw [← hcp] at hgr hcap hmax
    obtain ⟨W0, hW0⟩ : ∃ W0, W0 = w.drew.alloc (.cells cur 112) := ⟨_, rfl⟩
    have hb0 : W0.heap[w.heap.size]? = some (.cells cur 112) := by rw [hW0]; exact heap_alloc_new w.drew _
    have o0 : Only (fun _ => False) w W0 := by rw [hW0]; exact (Only.refl _ w).drew.alloc _
    have hap0 := fun ty => ap_at Tryz.underlying82 vinfoI (W := W0) (g := w.heap.size) (m := 0) (n := us1.length) (cap := cap) (c := c1) (a := a1) (us := us1) (cur := cur) rfl hl1 (fun ad e j u hu => o0.cell (hc1 ad e j u hu) (fun g => g)) h1 hb0 (by omega) hcs ty
    obtain ⟨cu1, hcu1⟩ : ∃ cu1, cu1 = (cur.toList.take 0 ++ us1 ++ cur.toList.drop (0 + us1.length)).toArray := ⟨_, rfl⟩
    have hcs1 : cu1.size = cap := by
      rw [hcu1]
      simp only [List.size_toArray, List.length_append, List.length_take, List.length_drop, Array.length_toList, hcs]
      omega
    have ht1 : cu1.toList.take us1.length = us1 := by
      rw [hcu1]
      simp
    rw [← hcu1] at hap0
    have hb1 : (W0.setRow w.heap.size cu1).heap[w.heap.size]? = some (.cells cu1 112) := setRow_heap W0 _ cur _ _ _ hb0
    have o1 : Only (fun _ => False) w (W0.setRow w.heap.size cu1) := o0.trans setRow_only (fun b hb e => by omega)
    have hap1 := fun ty => ap_at Tryz.underlying82 vinfoI (W := W0.setRow w.heap.size cu1) (g := w.heap.size) (m := 0 + us1.length) (n := us2.length) (cap := cap) (c := c2) (a := a2) (us := us2) (cur := cu1) rfl hl2 (fun ad e j u hu => o1.cell (hc2 ad e j u hu) (fun g => g)) h2 hb1 (by omega) hcs1 ty
    obtain ⟨cu2, hcu2⟩ : ∃ cu2, cu2 = (cu1.toList.take (0 + us1.length) ++ us2 ++ cu1.toList.drop (0 + us1.length + us2.length)).toArray := ⟨_, rfl⟩
    have hcs2 : cu2.size = cap := by
      rw [hcu2]
      simp only [List.size_toArray, List.length_append, List.length_take, List.length_drop, Array.length_toList, hcs1]
      omega
    have ht2 : cu2.toList.take ((us1 ++ us2).length * 1) = us1 ++ us2 := by
      rw [hcu2, Nat.zero_add, ht1, Nat.mul_one]
      exact List.take_left
    rw [← hcu2] at hap1
    have hb2 : ((W0.setRow w.heap.size cu1).setRow w.heap.size cu2).heap[w.heap.size]? = some (.cells cu2 112) := setRow_heap _ _ cu1 _ _ _ hb1
    have o2 : Only (fun _ => False) w ((W0.setRow w.heap.size cu1).setRow w.heap.size cu2) := o1.trans setRow_only (fun b hb e => by omega)
    have e12 : 0 + us1.length + us2.length = (us1 ++ us2).length := by simp
    refine ⟨_, _, _, _, _, _, ?_, hap0, hap1, o0, o1, ⟨_, rfl, ⟨_, _, by rw [e12]⟩, ⟨by simp, .inr ⟨w.heap.size, cap, cu2, by rw [e12], Nat.le_refl _, hb2, by rw [← e12]; omega, hmax, by omega, ht2⟩⟩, o2⟩⟩
    rw [show ((us1.length : Int) + (us2.length : Int)) = ((n : Nat) : Int) by omega, hW0]
    exact hgr
set_option maxRecDepth 100000 in
set_option maxHeartbeats 4000000 in
theorem concat_Item (us1 us2 : List Value) (a1 a2 : Option Addr) (c1 c2 R : Nat) (w : World) (h1 : ∀ u ∈ us1, u.oneCell' = true) (h2 : ∀ u ∈ us2, u.oneCell' = true) (hn1 : us1.length ≤ 2513169434900) (hn2 : us2.length ≤ 2513169434900) (hc1 : ∀ ad, a1 = some ad → ∀ j u, us1[j]? = some u → w.cell? (ad.add j) = some u) (hc2 : ∀ ad, a2 = some ad → ∀ j u, us2[j]? = some u → w.cell? (ad.add j) = some u) (hl1 : a1 = none → us1 = []) (hl2 : a2 = none → us2 = [])
    (hR0 : w.cell? ⟨R, 0, none⟩ = some (.slice a1 us1.length c1)) (hR1 : w.cell? ⟨R, 1, none⟩ = some (.slice a2 us2.length c2)) : Calls Tryz.prog 102 #[.slice (some ⟨R, 0, none⟩) 2 2] w fun e w' => CcP 112 (us1 ++ us2) w e w' := by
  obtain ⟨V0, V1, V2, W0, W1, W2, hg, hp0, hp1, o0, o1, hP⟩ := cc_stepsItem us1 us2 a1 a2 c1 c2 w h1 h2 hn1 hn2 hc1 hc2 hl1 hl2
  have HG : Hid _ := hg
  have HQ0 : Hid _ := hp0
  have HQ1 : Hid _ := hp1
  have HP : Hid (CcP 112 (us1 ++ us2) w (.returned V2) W2) := hP
  have HO : Hid (Only (fun _ => False) w W0 ∧ Only (fun _ => False) w W1) := ⟨o0, o1⟩
  obtain ⟨n1, e1⟩ : ∃ n, n = us1.length := ⟨_, rfl⟩
  obtain ⟨n2, e2⟩ : ∃ n, n = us2.length := ⟨_, rfl⟩
  rw [← e1] at HG HQ0 hR0 hn1
  rw [← e2] at HG HQ1 hR1 hn2
  have s2 : ¬ ((n1 : Int) < 0) := by omega
  have s3 : ¬ ((n1 : Int) + (n2 : Int) < 0) := by omega
  have r00 := hR0
  have r01 := hR1
  have k00 := o0.cell hR0 (fun g => g)
  have k01 := o1.cell hR1 (fun g => g)
  clear h1 h2 hc1 hc2 hl1 hl2 hg hp0 hp1 hP o0 o1 e1 e2 HO
  go_enter Tryz.func102, Tryz.ntmps102
  go_wp2
  go_loopw [11, 3] (fun r x wr => wr = w ∧ ((r = .int .i64 0 ∧ x = .int .i64 0) ∨ (r = .int .i64 1 ∧ x = .int .i64 (n1 : Int)) ∨ (r = .int .i64 2 ∧ x = .int .i64 ((n1 : Int) + (n2 : Int))))) (fun r _ _ => 2 - vuOf r)
  case atStart => exact ⟨rfl, .inl ⟨rfl, rfl⟩⟩
  case round =>
    obtain ⟨rfl, hr⟩ := hrel
    rcases hr with ⟨rfl, rfl⟩ | ⟨rfl, rfl⟩ | ⟨rfl, rfl⟩
    · go_wp2
      go_roundw
      case rel => exact ⟨trivial, .inr (.inl ⟨rfl, by go_num⟩)⟩
      case measure => decide
    · go_wp2
      go_roundw
      case rel => exact ⟨trivial, .inr (.inr ⟨rfl, by first | rfl | go_num⟩)⟩
      case measure => decide
    · go_wp2_with fail
      refine (show Calls Tryz.prog 126 _ _ _ from HG.out).mono ?_
      rintro e w2 ⟨rfl, hw2⟩
      obtain rfl := hw2.symm
      clear HG
      go_wp2
      go_loopw [27, 6] (fun r x wr => (r = .int .i64 0 ∧ x = V0 ∧ wr = W0) ∨ (r = .int .i64 1 ∧ x = V1 ∧ wr = W1) ∨ (r = .int .i64 2 ∧ x = V2 ∧ wr = W2)) (fun r _ _ => 2 - vuOf r)
      case atStart => exact .inl ⟨rfl, rfl, rfl⟩
      case round =>
        rcases hrel with ⟨rfl, rfl, hw⟩ | ⟨rfl, rfl, hw⟩ | ⟨rfl, rfl, hw⟩
        · obtain rfl := hw.symm
          go_wp2_with (at_builtin; refine vwpList_append_run rfl _ _ 82 rfl _ _ _ rfl rfl HQ0.out ?_)
          go_roundw
          case rel => exact .inr (.inl (by first | exact ⟨rfl, rfl, trivial⟩ | exact ⟨rfl, rfl, rfl⟩))
          case measure => decide
        · obtain rfl := hw.symm
          go_wp2_with (at_builtin; refine vwpList_append_run rfl _ _ 82 rfl _ _ _ rfl rfl HQ1.out ?_)
          go_roundw
          case rel => exact .inr (.inr (by first | exact ⟨rfl, rfl, trivial⟩ | exact ⟨rfl, rfl, rfl⟩))
          case measure => decide
        · obtain rfl := hw.symm
          go_wp2
          go_ret
          exact HP.out
end Go.Proofs.YtbhpjakjlfkfiaaGreatDoor
namespace Go.Proofs.YtbhpjakjlfkfiaaGreatDoor
open Go.RowKit
set_option linter.unusedSimpArgs false
set_option linter.unusedVariables false
/-- the number and the text that a tree of its kind has -/
def vnn (t : Vt) : Int := if t.k = 1 ∨ t.k = 6 then t.n else if t.k = 3 then (if t.n != 0 then 1 else 0) else 0
def vss (t : Vt) : ByteArray := if t.k = 2 ∨ t.k = 7 then t.s else ⟨#[]⟩
/-- a tree as values have it: no number and no text but where its kind has one -/
def NfT : Nat → Vt → Prop
  | 0, _ => False
  | d + 1, t => t.l.length ≤ 2513169434900 ∧ (-9223372036854775808 ≤ t.n ∧ t.n ≤ 9223372036854775807) ∧ t.n = vnn t ∧ t.s = vss t ∧ ∀ x ∈ t.l, NfT d x
theorem NfT.mono : ∀ {d d' : Nat} {t : Vt}, d ≤ d' → NfT d t → NfT d' t
  | 0, _, _, _, h => h.elim
  | d + 1, 0, t, hd, h => by omega
  | d + 1, e + 1, t, hd, h => ⟨h.1, h.2.1, h.2.2.1, h.2.2.2.1, fun x hx => (h.2.2.2.2 x hx).mono (by omega)⟩
theorem nf8 {d : Nat} : NfT (d + 1) ⟨8, 0, ⟨#[]⟩, []⟩ := ⟨Nat.zero_le _, ⟨by decide, by decide⟩, rfl, rfl, fun x hx => by cases hx⟩
theorem nm_nf : ∀ (d : Nat) (i : Bool) (t : Vt), SmT d t → NfT d (nm d i t)
  | 0, _, _, h => h.elim
  | d + 1, i, t, h => by
    obtain ⟨k, n, s, l⟩ := t
    obtain ⟨h1, h2, h3, h4, h5⟩ := h
    dsimp only at h1 h2 h3 h4 h5
    unfold nm
    dsimp only
    have z0 : (-9223372036854775808 : Int) ≤ 0 ∧ (0 : Int) ≤ 9223372036854775807 := ⟨by decide, by decide⟩
    split
    · exact ⟨Nat.zero_le _, h4, rfl, rfl, fun x hx => by cases hx⟩
    split
    · exact ⟨Nat.zero_le _, z0, rfl, rfl, fun x hx => by cases hx⟩
    split
    · refine ⟨Nat.zero_le _, ?_, ?_, rfl, fun x hx => by cases hx⟩ <;> dsimp only [vnn] <;> cases n != 0 <;> decide
    split
    · refine ⟨by simpa using h2, z0, rfl, rfl, fun x hx => ?_⟩
      obtain ⟨y, hy, rfl⟩ := List.mem_map.1 hx
      exact nm_nf d false y (h5 y hy)
    split
    · refine ⟨by simpa using h2, z0, rfl, rfl, fun x hx => ?_⟩
      obtain ⟨y, hy, rfl⟩ := List.mem_map.1 hx
      exact nm_nf d true y (h5 y hy)
    split
    · exact ⟨Nat.zero_le _, h4, rfl, rfl, fun x hx => by cases hx⟩
    split
    · exact ⟨Nat.zero_le _, z0, rfl, rfl, fun x hx => by cases hx⟩
    · exact nf8
def NuAt (w : World) (B d : Nat) (t : Vt) (lv : Value) : Prop := ∃ S, VsAt w S d t.l lv ∧ ∀ b, S b → B ≤ b ∧ b < w.heap.size
theorem NuAt.only {w w' : World} {B d : Nat} {t : Vt} {lv : Value} {bs : Nat → Prop} (h : NuAt w B d t lv) (o : Only bs w w') (hb : ∀ b, B ≤ b → ¬ bs b) : NuAt w' B d t lv := by
  obtain ⟨S, ht, hS⟩ := h
  exact ⟨S, ht.step (fun _ g => g) (fun a u hs hc => o.cell hc (hb _ (hS _ hs).1)) (Nat.le_refl _), fun b hbS => ⟨(hS b hbS).1, Nat.lt_of_lt_of_le (hS b hbS).2 o.size⟩⟩
theorem NuAt.lower {w : World} {B C d : Nat} {t : Vt} {lv : Value} (h : NuAt w B d t lv) (hC : C ≤ B) : NuAt w C d t lv := by
  obtain ⟨S, ht, hS⟩ := h
  exact ⟨S, ht, fun b hbS => ⟨Nat.le_trans hC (hS b hbS).1, (hS b hbS).2⟩⟩
theorem NuAt.deep {w : World} {B d d' : Nat} {t : Vt} {lv : Value} (h : NuAt w B d t lv) (hd : d ≤ d') : NuAt w B d' t lv := by
  obtain ⟨S, ht, hS⟩ := h
  exact ⟨S, ht.step (fun _ g => g) (fun _ _ _ g => g) hd, hS⟩
theorem nu_nil {w : World} {B d : Nat} {t : Vt} (h : t.l = []) : NuAt w B (d + 1) t (.slice none 0 0) :=
  ⟨fun _ => False, ⟨none, 0, by rw [h]; rfl, by rw [h]; exact Nat.zero_le _, fun i x hx => by rw [h] at hx; simp at hx⟩, fun b h => h.elim⟩
theorem NuAt.form {w : World} {B d : Nat} {t : Vt} {lv : Value} (h : NuAt w B d t lv) : ∃ ao cap, lv = .slice ao t.l.length cap := by
  obtain ⟨S, ht, _⟩ := h
  cases d with
  | zero => exact ht.elim
  | succ d => obtain ⟨ao, cap, hv, _⟩ := ht; exact ⟨ao, cap, hv⟩
/-- a row of the document's trees that was made since block B -/
def UrAt (w : World) (B d : Nat) (v : Value) (l : List Vt) : Prop :=
  ∃ us S, w.ownsRow B 45 4 v l.length us ∧ (∀ (j : Nat) (x : Vt), l[j]? = some x → ∃ lx, (us[j * 4]? = some (.int .i64 x.k) ∧ us[j * 4 + 1]? = some (.int .i64 (x.n)) ∧ us[j * 4 + 2]? = some (.string (x.s)) ∧ us[j * 4 + 3]? = some lx) ∧ VsAt w S d x.l lx) ∧ ∀ b, S b → B ≤ b ∧ b < w.heap.size ∧ v.ownBlock ≠ some b
theorem ur_nil (w : World) (B d : Nat) : UrAt w B d (.slice none 0 0) [] :=
  ⟨[], fun _ => False, ⟨rfl, .inl ⟨rfl, rfl⟩⟩, fun j x h => by simp at h, fun b h => h.elim⟩
theorem UrAt.form {w : World} {B d : Nat} {v : Value} {l : List Vt} (h : UrAt w B d v l) : ∃ ao cap, v = .slice ao l.length cap := by
  obtain ⟨us, S, ho, _⟩ := h
  rcases ho.2 with ⟨h1, h2⟩ | ⟨g, cap, cur, h1, _⟩
  · exact ⟨_, _, by rw [h1, h2]⟩
  · exact ⟨_, _, h1⟩
theorem UrAt.only {w w' : World} {B d : Nat} {v : Value} {l : List Vt} {bs : Nat → Prop} (h : UrAt w B d v l) (o : Only bs w w') (hb : ∀ b, B ≤ b → ¬ bs b) : UrAt w' B d v l := by
  obtain ⟨us, S, ho, ht, hS⟩ := h
  refine ⟨us, S, o.owns ho (fun k hk => hb k (ho.lt k hk).1), fun j x hx => ?_, fun b hbS => ?_⟩
  · obtain ⟨lx, hu, h2⟩ := ht j x hx
    exact ⟨lx, hu, h2.step (fun _ g => g) (fun a u hs hc => o.cell hc (hb _ (hS _ hs).1)) (Nat.le_refl _)⟩
  · obtain ⟨h1, h2, h3⟩ := hS b hbS
    exact ⟨h1, Nat.lt_of_lt_of_le h2 o.size, h3⟩
theorem UrAt.snoc {w w' : World} {B C d : Nat} {v v' : Value} {l : List Vt} {t : Vt} {lv : Value} {us : List Value} {S : Nat → Prop} (hg : w.grownBy w' v.ownBlock) (ho : w.ownsRow B 45 4 v l.length us) (ht : ∀ (j : Nat) (x : Vt), l[j]? = some x → ∃ lx, (us[j * 4]? = some (.int .i64 x.k) ∧ us[j * 4 + 1]? = some (.int .i64 (x.n)) ∧ us[j * 4 + 2]? = some (.string (x.s)) ∧ us[j * 4 + 3]? = some lx) ∧ VsAt w S d x.l lx) (hS : ∀ b, S b → B ≤ b ∧ b < w.heap.size ∧ v.ownBlock ≠ some b)
    (hn : NuAt w C d t lv) (hC : B ≤ C) (hv : ∀ k, v.ownBlock = some k → k < C) (ho' : w'.ownsRow B 45 4 v' (l.length + 1) (us ++ [.int .i64 t.k, .int .i64 (t.n), .string (t.s), lv])) (hat : v'.ownBlock = v.ownBlock ∨ v'.ownBlock = some w.heap.size) : UrAt w' B d v' (l ++ [t]) := by
  obtain ⟨S1, t1, s1⟩ := hn
  have oo : Only (fun k => v.ownBlock = some k) w w' := (Only.refl _ w).grown hg (fun k e _ => e)
  have a1 : ∀ b, S b → ¬ v.ownBlock = some b := fun b h => (hS b h).2.2
  have a2 : ∀ b, S1 b → ¬ v.ownBlock = some b := fun b h e => by have := hv b e; have := (s1 b h).1; omega
  have hl : us.length = l.length * 4 := ho.1
  refine ⟨_, fun b => S b ∨ S1 b, by simpa using ho', fun j x hx => ?_, fun b hb => ?_⟩
  · by_cases hj : j < l.length
    · rw [List.getElem?_append_left hj] at hx
      obtain ⟨lx, ⟨h0, h1, h2, h3⟩, h6⟩ := ht j x hx
      have ap : ∀ i u, us[i]? = some u → (us ++ [.int .i64 t.k, .int .i64 (t.n), .string (t.s), lv])[i]? = some u := fun i u hu => by
        rw [List.getElem?_append_left (List.getElem?_eq_some_iff.1 hu).1]; exact hu
      exact ⟨lx, ⟨ap _ _ h0, ap _ _ h1, ap _ _ h2, ap _ _ h3⟩, h6.step (fun _ g => .inl g) (fun a y hs hc => oo.cell hc (a1 _ hs)) (Nat.le_refl _)⟩
    · have hj2 : j < (l ++ [t]).length := (List.getElem?_eq_some_iff.1 hx).1
      have hj3 : j = l.length := by simp at hj2; omega
      subst hj3
      simp at hx
      subst hx
      have ap : ∀ i, (us ++ [.int .i64 t.k, .int .i64 (t.n), .string (t.s), lv])[l.length * 4 + i]? = ([.int .i64 t.k, .int .i64 (t.n), .string (t.s), lv] : List Value)[i]? := fun i => by
        rw [List.getElem?_append_right (by omega)]
        congr 1
        omega
      exact ⟨lv, ⟨ap 0, ap 1, ap 2, ap 3⟩, t1.step (fun _ g => .inr g) (fun a y hs hc => oo.cell hc (a2 _ hs)) (Nat.le_refl _)⟩
  · have h1 : B ≤ b ∧ b < w.heap.size ∧ v.ownBlock ≠ some b := by
      rcases hb with h | h
      · exact hS b h
      · exact ⟨Nat.le_trans hC (s1 b h).1, (s1 b h).2, a2 b h⟩
    refine ⟨h1.1, Nat.lt_of_lt_of_le h1.2.1 oo.size, ?_⟩
    rcases hat with e | e <;> rw [e]
    · exact h1.2.2
    · intro e2
      injection e2 with e2
      have := h1.2.1
      omega
/-- a row as the parts of a tree -/
theorem UrAt.tree {w : World} {B d : Nat} {v : Value} {l : List Vt} {t : Vt} (h : UrAt w B d v l) (e : t.l = l) : NuAt w B (d + 1) t v := by
  subst e
  obtain ⟨us, S, ho, ht, hS⟩ := h
  refine ⟨fun b => S b ∨ v.ownBlock = some b, ?_, fun b hb => ?_⟩
  · rcases ho.2 with ⟨rfl, h2⟩ | ⟨g, cap, cur, hv, hB, hg, hn, hcm, hcs, htk⟩
    · exact ⟨none, 0, by rw [h2], by omega, fun i x hx => by have := (List.getElem?_eq_some_iff.1 hx).1; omega⟩
    · refine ⟨some ⟨g, 0, none⟩, cap, hv, hn, fun i x hx => ?_⟩
      obtain ⟨lx, ⟨h0, h1, h2, h3⟩, h4⟩ := ht i x hx
      have hc : ∀ j u, us[j]? = some u → w.cell? ⟨g, 0 + j, none⟩ = some u := fun j u hu => by
        have := ho.cells (g := g) (by rw [hv]; rfl) j u hu
        rwa [addr_ad, ← Nat.zero_add j] at this
      exact ⟨g, 0, lx, rfl, .inr (by rw [hv]; rfl), ⟨hc _ _ h0, hc _ _ h1, hc _ _ h2, hc _ _ h3⟩, h4.step (fun _ g => .inl g) (fun _ _ _ g => g) (Nat.le_refl _)⟩
  · rcases hb with h | h
    · exact ⟨(hS b h).1, (hS b h).2.1⟩
    · exact ho.lt b h
/-- what a type assertion with two values answers -/
theorem uas_hit (T xt : TypeId) (D : TypeDesc) (hD : Tryz.prog.underlying T = some D) (hn : ∀ m, D ≠ .interface m) (x : Value) (W : World) : (Instr.typeAssert (.iface T x) xt T true).run Tryz.prog W = .ok (.tuple #[x, .bool true]) W := by
  simp only [Instr.typeAssert, Sem.run_bind, run_underlying hD, Result.andThen_ok]
  cases D <;> simp_all
theorem uas_miss (T U xt : TypeId) (D : TypeDesc) (hD : Tryz.prog.underlying U = some D) (hn : ∀ m, D ≠ .interface m) (hT : T ≠ U) (z : Value) (hz : ∀ W : World, (zeroValue U).run Tryz.prog W = .ok z W) (x : Value) (W : World) : (Instr.typeAssert (.iface T x) xt U true).run Tryz.prog W = .ok (.tuple #[z, .bool false]) W := by
  simp only [Instr.typeAssert, Sem.run_bind, run_underlying hD, Result.andThen_ok]
  cases D <;> simp_all
theorem uas_nil (U xt : TypeId) (D : TypeDesc) (hD : Tryz.prog.underlying U = some D) (hn : ∀ m, D ≠ .interface m) (z : Value) (hz : ∀ W : World, (zeroValue U).run Tryz.prog W = .ok z W) (W : World) : (Instr.typeAssert .nilIface xt U true).run Tryz.prog W = .ok (.tuple #[z, .bool false]) W := by
  simp only [Instr.typeAssert, Sem.run_bind, run_underlying hD, Result.andThen_ok]
  cases D <;> simp_all
/-- trees in a slice of values or items -/
def QiAt (w : World) (S : Nat → Prop) (d : Nat) (i : Bool) (v : Value) (l : List Vt) : Prop := ∃ ao cap, v = .slice ao l.length cap ∧ l.length ≤ cap ∧ ∀ (j : Nat) (x : Vt), l[j]? = some x → ∃ g k u, ao = some ⟨g, k, none⟩ ∧ S g ∧ w.cell? ⟨g, k + j, none⟩ = some u ∧ TiAt w S d i x u
theorem QiAt.step {w w' : World} {S S' : Nat → Prop} (hS : ∀ b, S b → S' b) (hk : ∀ (a : Addr) u, S a.block → w.cell? a = some u → w'.cell? a = some u) {d d' : Nat} {i : Bool} {l : List Vt} {v : Value} (hd : d ≤ d') (h : QiAt w S d i v l) : QiAt w' S' d' i v l := by
  obtain ⟨ao, cap, hv, hc, hl⟩ := h
  refine ⟨ao, cap, hv, hc, fun j x hx => ?_⟩
  obtain ⟨g, k, u, ha, hg, hu, ht⟩ := hl j x hx
  exact ⟨g, k, u, ha, hS g hg, hk _ _ hg hu, ht.step hS hk hd⟩
end Go.Proofs.YtbhpjakjlfkfiaaGreatDoor
namespace Go.Proofs.YtbhpjakjlfkfiaaGreatDoor
open Go.RowKit Go.Lib
set_option linter.unusedSimpArgs false
set_option linter.unusedVariables false
theorem VmB.keep {w w' : World} {M : Nat} {k d : Int} (h : VmB w M k d) (o : Only (fun _ => False) w w') : VmB w' M k d := (o.block M (Array.getElem?_eq_some_iff.1 h).1 (fun g => g)).trans h
/-- what holds no others is no list and no quotation -/
def LqM (v : Value) : Prop := (∀ W : World, (Instr.typeAssert v 51 81 true).run Tryz.prog W = .ok (.tuple #[.agg #[.slice none 0 0], .bool false]) W) ∧ (∀ W : World, (Instr.typeAssert v 51 85 true).run Tryz.prog W = .ok (.tuple #[.agg #[.slice none 0 0], .bool false]) W)
theorem leaf_lq {S : Nat → Prop} {d : Nat} {t : Vt} {v : Value} {w : World} (h : TiAt w S (d + 1) false t v) (hk : ¬ (t.k = 4 ∨ t.k = 5)) : LqM v ∧ t.l = [] := by
  have m1 : ∀ T x, T ≠ 81 → T ≠ 85 → LqM (.iface T x) := fun T x h1 h2 => ⟨va_miss T 81 51 _ Tryz.underlying81 (by intro m h; cases h) h1 _ zL x, va_miss T 85 51 _ Tryz.underlying85 (by intro m h; cases h) h2 _ zQ x⟩
  rcases h with ⟨_, e, rfl⟩ | ⟨_, e, rfl⟩ | ⟨_, e, rfl⟩ | ⟨_, e, rfl⟩ | ⟨_, e, rfl⟩ | ⟨e, _⟩
  · exact ⟨m1 _ _ (by decide) (by decide), e⟩
  · exact ⟨m1 _ _ (by decide) (by decide), e⟩
  · exact ⟨m1 _ _ (by decide) (by decide), e⟩
  · exact ⟨m1 _ _ (by decide) (by decide), e⟩
  · exact ⟨⟨bad_nil.l, bad_nil.q⟩, e⟩
  · exact absurd e hk
theorem SmT.str {e : Nat} {t : Vt} (h : SmT e t) : t.s.size ≤ 140737488355328 := by
  cases e with
  | zero => exact h.elim
  | succ e => exact h.1
theorem SmT.len {e : Nat} {t : Vt} (h : SmT e t) : t.l.length ≤ 2513169434900 := by
  cases e with
  | zero => exact h.elim
  | succ e => exact h.2.1
theorem SmT.parts {e : Nat} {t : Vt} (h : SmT e t) : ∀ x ∈ t.l, ∃ e, SmT e x := by
  cases e with
  | zero => exact h.elim
  | succ e => exact fun x hx => ⟨e, h.2.2.2.2 x hx⟩
set_option maxRecDepth 100000 in
set_option maxHeartbeats 4000000 in
theorem mleaf (d : Nat) (t : Vt) (v : Value) (w : World) (S : Nat → Prop) (M k o : Nat) (dd : Int) (h : TiAt w S (d + 1) false t v) (hk4 : ¬ (t.k = 4 ∨ t.k = 5)) (hs : t.s.size ≤ 140737488355328) (hv : VmB w M k dd) (hk : k ≤ 1024) (hd1 : 0 ≤ dd) (hd2 : dd ≤ 1000) (ho : o ≤ 32) (hT : Tb w) (hg : Mg M) :
    Calls Tryz.prog 120 #[.pointer (some ⟨M, 0, none⟩), v, .int .i64 (o : Int)] w fun e w' => e = .returned (.bool (msB (d + 1) false t k o)) ∧ Hid (Only (fun b => b = M) w w' ∧ (msB (d + 1) false t k o = true → ∃ dd' : Int, VmB w' M ((k + sz (d + 1) false t : Nat) : Int) dd' ∧ 0 ≤ dd' ∧ dd' ≤ 1000)) := by
  obtain ⟨⟨hl, hq⟩, hnil⟩ := leaf_lq h hk4
  have hsz : sz (d + 1) false t = 1 := by unfold sz; rw [hnil]; rfl
  have hdp : dp (d + 1) false t = 0 := by unfold dp; rw [if_neg hk4]
  have hok : okV (d + 1) false t = alB t := by unfold okV; rw [if_neg hk4]
  have hms : msB (d + 1) false t k o = (alB t && decide (k + 1 ≤ 1024)) := by
    unfold msB
    rw [hok, hsz, hdp, decide_eq_true (show o + 0 ≤ 32 by omega), Bool.and_true]
  have HM : Hid _ := vcount_all M k dd w hv (by omega) (by omega)
  have HA : Hid (∀ w1, Only (fun b => b = M) w w1 → Calls Tryz.prog 148 #[v] w1 fun e w' => e = .returned (.bool (alB t)) ∧ Only (fun _ => False) w1 w') := fun w1 o1 => alone_any h hk4 hs w1 (hT.keep o1 hg.1 hg.2.1 hg.2.2)
  have HD : Hid (0 ≤ dd ∧ dd ≤ 1000) := ⟨hd1, hd2⟩
  rw [hms, hsz]
  obtain ⟨a, ha⟩ : ∃ a, a = alB t := ⟨_, rfl⟩
  rw [← ha] at HA ⊢
  clear h hk4 hs hv hd1 hd2 ho hT hg hsz hdp hok hms hnil ha
  by_cases h1 : k + 1 ≤ 1024
  · have e1 : decide ((k : Int) + 1 ≤ 1024) = true := decide_eq_true (by omega)
    rw [e1] at HM
    rw [decide_eq_true h1]
    clear e1
    go_enter Tryz.func120, Tryz.ntmps120
    go_wp2_with fail
    refine (show Calls Tryz.prog 143 _ _ _ from HM.out).mono ?_
    rintro e w1 ⟨rfl, o1, m1⟩
    have O1 : Hid (Only (fun b => b = M) w w1 ∧ VmB w1 M ((k : Int) + 1) dd) := ⟨o1, m1⟩
    clear HM o1 m1
    go_wp2_with fail
    refine (show Calls Tryz.prog 148 _ _ _ from HA.out _ (by repeat' first | exact O1.out.1 | apply Only.alloc)).mono ?_
    rintro e w2 ⟨rfl, o2⟩
    have o3 : Only (fun _ => False) w1 w2 := Only.trans (show Only (fun _ => False) w1 _ by repeat' first | exact (Only.refl _ _) | apply Only.alloc) o2 (fun _ _ g => g)
    have HF : Hid (Only (fun b => b = M) w w2 ∧ VmB w2 M ((k + 1 : Nat) : Int) dd) := ⟨O1.out.1.trans (o3.mono (bs' := fun b => b = M) (fun _ _ g => g.elim)) (fun _ _ g => g), by have := O1.out.2.keep o3; simpa using this⟩
    clear HA o2 o3 O1
    go_wp2
    go_ret
    exact ⟨by simp, HF.out.1, fun _ => ⟨dd, HF.out.2, HD.out.1, HD.out.2⟩⟩
  · have e1 : decide ((k : Int) + 1 ≤ 1024) = false := decide_eq_false (by omega)
    rw [e1] at HM
    rw [decide_eq_false h1]
    clear e1 HA
    go_enter Tryz.func120, Tryz.ntmps120
    go_wp2_with fail
    refine (show Calls Tryz.prog 143 _ _ _ from HM.out).mono ?_
    rintro e w1 ⟨rfl, o1, m1⟩
    have O1 : Hid (Only (fun b => b = M) w w1) := o1
    clear HM o1 m1
    go_wp2
    go_ret
    exact ⟨by simp, O1.out, fun h => by simp at h⟩
end Go.Proofs.YtbhpjakjlfkfiaaGreatDoor
namespace Go.Proofs.YtbhpjakjlfkfiaaGreatDoor
open Go.RowKit Go.Lib
set_option linter.unusedSimpArgs false
set_option linter.unusedVariables false
theorem ms_list (d : Nat) (t : Vt) (k o : Nat) (hk : t.k = 4 ∨ t.k = 5) : msB (d + 1) false t k o = (decide (k + 1 ≤ 1024) && decide (o + 1 ≤ 32) && evB d (decide (t.k = 5)) t.l (k + 1) (o + 1)) := by
  have h1 : okV (d + 1) false t = t.l.all (okV d (decide (t.k = 5))) := by unfold okV; rw [if_pos hk]
  have h2 : sz (d + 1) false t = 1 + (t.l.map (sz d (decide (t.k = 5)))).sum := by unfold sz; rfl
  have h3 : dp (d + 1) false t = 1 + ((t.l.map (dp d (decide (t.k = 5)))).foldl max 0) := by unfold dp; rw [if_pos hk]
  unfold msB
  rw [h1, h2, h3]
  by_cases a1 : k + 1 ≤ 1024
  · by_cases a2 : o + 1 ≤ 32
    · rw [evB_eq _ _ _ _ _ a1 a2, decide_eq_true a1, decide_eq_true a2]
      rw [show k + (1 + (t.l.map (sz d (decide (t.k = 5)))).sum) = k + 1 + (t.l.map (sz d (decide (t.k = 5)))).sum by omega, show o + (1 + (t.l.map (dp d (decide (t.k = 5)))).foldl max 0) = o + 1 + (t.l.map (dp d (decide (t.k = 5)))).foldl max 0 by omega]
      simp
    · rw [decide_eq_false a2, decide_eq_false (show ¬ o + (1 + (t.l.map (dp d (decide (t.k = 5)))).foldl max 0) ≤ 32 by omega)]
      simp
  · rw [decide_eq_false a1, decide_eq_false (show ¬ k + (1 + (t.l.map (sz d (decide (t.k = 5)))).sum) ≤ 1024 by omega)]
    simp
set_option maxRecDepth 100000 in
set_option maxHeartbeats 4000000 in
theorem mlist (d : Nat) (H : EvC d false 145 120) (t : Vt) (v : Value) (w : World) (S : Nat → Prop) (M k o : Nat) (dd : Int) (h : TiAt w S (d + 1) false t v) (hk4 : t.k = 4) (hM : ∀ b, S b → b ≠ M) (hsm : ∃ e, SmT e t) (hv : VmB w M k dd) (hk : k ≤ 1024) (hd1 : 0 ≤ dd) (hd2 : dd ≤ 1000) (ho : o ≤ 32) (hT : Tb w) (hg : Mg M) :
    Calls Tryz.prog 120 #[.pointer (some ⟨M, 0, none⟩), v, .int .i64 (o : Int)] w fun e w' => e = .returned (.bool (msB (d + 1) false t k o)) ∧ Hid (Only (fun b => b = M) w w' ∧ (msB (d + 1) false t k o = true → ∃ dd' : Int, VmB w' M ((k + sz (d + 1) false t : Nat) : Int) dd' ∧ 0 ≤ dd' ∧ dd' ≤ 1000)) := by
  have hk45 : t.k = 4 ∨ t.k = 5 := by omega
  obtain ⟨ao, cap, rfl, hcap, hel⟩ : ∃ ao cap, v = .iface 81 (.agg #[.slice ao t.l.length cap]) ∧ t.l.length ≤ cap ∧ ∀ i x, t.l[i]? = some x → ∃ g k u, ao = some ⟨g, k, none⟩ ∧ S g ∧ w.cell? ⟨g, k + i, none⟩ = some u ∧ TiAt w S d false x u := by
    rcases h with ⟨e, _⟩ | ⟨e, _⟩ | ⟨e, _⟩ | ⟨e, _⟩ | ⟨e, _⟩ | ⟨_, ao, cap, h1, h2, h3⟩
    · omega
    · omega
    · omega
    · omega
    · omega
    · rw [hk4] at h1 h3
      exact ⟨ao, cap, h1, h2, h3⟩
  have hms := ms_list d t k o hk45
  rw [show decide (t.k = 5) = false by rw [hk4]; rfl] at hms
  have hsz : sz (d + 1) false t = 1 + (t.l.map (sz d false)).sum := by unfold sz; rw [show decide (t.k = 5) = false by rw [hk4]; rfl]
  have HM : Hid _ := vcount_all M k dd w hv (by omega) (by omega)
  have HN : Hid (∀ w1 (k1 : Int), VmB w1 M k1 dd → Calls Tryz.prog 144 #[.pointer (some ⟨M, 0, none⟩), .int .i64 ((o : Int) + 1)] w1 fun e w' => e = .returned (.bool (decide ((o : Int) + 1 ≤ 32))) ∧ Only (fun b => b = M) w1 w' ∧ ∃ d', VmB w' M k1 d' ∧ 0 ≤ d' ∧ d' ≤ 1000) := fun w1 k1 hv1 => venter_all M k1 dd ((o : Int) + 1) w1 hv1 hd1 hd2 (by omega) (by omega)
  have HC : Hid (∀ w1 (dd1 : Int), Only (fun b => b = M) w w1 → VmB w1 M ((k + 1 : Nat) : Int) dd1 → k + 1 ≤ 1024 → o + 1 ≤ 32 → 0 ≤ dd1 → dd1 ≤ 1000 → Calls Tryz.prog 145 #[.slice ao t.l.length cap, .func (.func 120) #[.pointer (some ⟨M, 0, none⟩)] #[], .int .i64 ((o + 1 : Nat) : Int)] w1 fun e w' => e = .returned (.bool (evB d false t.l (k + 1) (o + 1))) ∧ Hid (Only (fun b => b = M) w1 w' ∧ (evB d false t.l (k + 1) (o + 1) = true → ∃ dd' : Int, VmB w' M ((k + 1 + (t.l.map (sz d false)).sum : Nat) : Int) dd' ∧ 0 ≤ dd' ∧ dd' ≤ 1000))) := by
    intro w1 dd1 o1 hv1 hk1 ho1 h1 h2
    refine H t.l ao cap w1 S M (k + 1) (o + 1) dd1 (fun j x hx => ?_) hM (by obtain ⟨e, he⟩ := hsm; exact he.parts) (by obtain ⟨e, he⟩ := hsm; exact he.len) hv1 hk1 h1 h2 ho1 (hT.keep o1 hg.1 hg.2.1 hg.2.2) hg
    obtain ⟨g, q, u, p1, p2, p3, p4⟩ := hel j x hx
    exact ⟨g, q, u, p1, p2, o1.cell p3 (hM g p2), p4.only o1 (fun b hb => hM b hb)⟩
  have HL : Hid (M < w.heap.size) := (Array.getElem?_eq_some_iff.1 hv).1
  have hHit := va_hit 81 51 _ Tryz.underlying81 (by intro m h; cases h)
  rw [hms, hsz]
  obtain ⟨L, hL⟩ : ∃ L, L = t.l.length := ⟨_, rfl⟩
  obtain ⟨Y, hY⟩ : ∃ Y, Y = (t.l.map (sz d false)).sum := ⟨_, rfl⟩
  obtain ⟨Z, hZ⟩ : ∃ Z, Z = evB d false t.l (k + 1) (o + 1) := ⟨_, rfl⟩
  rw [← hL, ← hY, ← hZ] at HC
  rw [← hL, ← hY, ← hZ]
  clear hL hY hZ h hk4 hM hsm hv hd1 hd2 hT hg hel hcap hms hsz H hk45
  by_cases h1 : k + 1 ≤ 1024
  · have e1 : decide ((k : Int) + 1 ≤ 1024) = true := decide_eq_true (by omega)
    rw [e1] at HM
    rw [decide_eq_true h1]
    clear e1
    by_cases h2 : o + 1 ≤ 32
    · have e2 : decide ((o : Int) + 1 ≤ 32) = true := decide_eq_true (by omega)
      rw [e2] at HN
      rw [decide_eq_true h2]
      have HB : Hid (k + 1 ≤ 1024 ∧ o + 1 ≤ 32) := ⟨h1, h2⟩
      clear e2 h1
      go_enter Tryz.func120, Tryz.ntmps120
      go_wp2_with fail
      refine (show Calls Tryz.prog 143 _ _ _ from HM.out).mono ?_
      rintro e w1 ⟨rfl, o1, m1⟩
      have O1 : Hid (Only (fun b => b = M) w w1 ∧ VmB w1 M ((k : Int) + 1) dd) := ⟨o1, m1⟩
      clear HM o1 m1
      go_wp2_with fail
      refine (show Calls Tryz.prog 144 _ _ _ from HN.out _ _ (O1.out.2.keep (by repeat' first | exact (Only.refl _ _) | apply Only.alloc))).mono ?_
      rintro e w2 ⟨rfl, o2, d2, m2, p2, q2⟩
      have O2 : Hid (Only (fun b => b = M) w w2 ∧ VmB w2 M ((k + 1 : Nat) : Int) d2 ∧ 0 ≤ d2 ∧ d2 ≤ 1000) := ⟨O1.out.1.trans (Only.trans (show Only (fun b => b = M) w1 _ by repeat' first | exact (Only.refl _ _) | apply Only.alloc) o2 (fun _ _ g => g)) (fun _ _ g => g), by simpa using m2, p2, q2⟩
      have hs1 := O1.out.1.size
      have x0 : w2.cell? ⟨w1.heap.size, 0, none⟩ = some (.slice ao L cap) := o2.cell (a := ⟨w1.heap.size, 0, none⟩) (by simp [go_sem]) (by have := HL.out; simp only; omega)
      have HC2 : Hid _ := HC.out w2 d2 O2.out.1 O2.out.2.1 HB.out.1 HB.out.2 p2 q2
      clear HN HC o2 m2 p2 q2 O1 hs1
      go_wp2_with fail
      refine (show Calls Tryz.prog 145 _ _ _ from HC2.out).mono ?_
      rintro e w3 ⟨rfl, G3⟩
      have HF : Hid (Only (fun b => b = M) w w3 ∧ (Z = true → ∃ dd' : Int, VmB w3 M ((k + (1 + Y) : Nat) : Int) dd' ∧ 0 ≤ dd' ∧ dd' ≤ 1000)) := ⟨O2.out.1.trans G3.out.1 (fun _ _ g => g), fun hz => by have := G3.out.2 hz; rwa [show k + (1 + Y) = k + 1 + Y by omega]⟩
      clear HC2 G3 O2 x0
      go_wp2
      go_ret
      exact ⟨by simp, HF.out.1, fun h => HF.out.2 (by simpa using h)⟩
    · have e2 : decide ((o : Int) + 1 ≤ 32) = false := decide_eq_false (by omega)
      rw [e2] at HN
      rw [decide_eq_false h2]
      clear e2 h1 HC
      go_enter Tryz.func120, Tryz.ntmps120
      go_wp2_with fail
      refine (show Calls Tryz.prog 143 _ _ _ from HM.out).mono ?_
      rintro e w1 ⟨rfl, o1, m1⟩
      have O1 : Hid (Only (fun b => b = M) w w1 ∧ VmB w1 M ((k : Int) + 1) dd) := ⟨o1, m1⟩
      clear HM o1 m1
      go_wp2_with fail
      refine (show Calls Tryz.prog 144 _ _ _ from HN.out _ _ (O1.out.2.keep (by repeat' first | exact (Only.refl _ _) | apply Only.alloc))).mono ?_
      rintro e w2 ⟨rfl, o2, d2, m2, p2, q2⟩
      have O2 : Hid (Only (fun b => b = M) w w2) := O1.out.1.trans (Only.trans (show Only (fun b => b = M) w1 _ by repeat' first | exact (Only.refl _ _) | apply Only.alloc) o2 (fun _ _ g => g)) (fun _ _ g => g)
      clear HN o2 m2 p2 q2 O1
      go_wp2
      go_ret
      exact ⟨by simp, O2.out, fun h => by simp at h⟩
  · have e1 : decide ((k : Int) + 1 ≤ 1024) = false := decide_eq_false (by omega)
    rw [e1] at HM
    rw [decide_eq_false h1]
    clear e1 HC HN
    go_enter Tryz.func120, Tryz.ntmps120
    go_wp2_with fail
    refine (show Calls Tryz.prog 143 _ _ _ from HM.out).mono ?_
    rintro e w1 ⟨rfl, o1, m1⟩
    have O1 : Hid (Only (fun b => b = M) w w1) := o1
    clear HM o1 m1
    go_wp2
    go_ret
    exact ⟨by simp, O1.out, fun h => by simp at h⟩
set_option maxRecDepth 100000 in
set_option maxHeartbeats 4000000 in
theorem mquot (d : Nat) (H : EvC d true 146 147) (t : Vt) (v : Value) (w : World) (S : Nat → Prop) (M k o : Nat) (dd : Int) (h : TiAt w S (d + 1) false t v) (hk4 : t.k = 5) (hM : ∀ b, S b → b ≠ M) (hsm : ∃ e, SmT e t) (hv : VmB w M k dd) (hk : k ≤ 1024) (hd1 : 0 ≤ dd) (hd2 : dd ≤ 1000) (ho : o ≤ 32) (hT : Tb w) (hg : Mg M) :
    Calls Tryz.prog 120 #[.pointer (some ⟨M, 0, none⟩), v, .int .i64 (o : Int)] w fun e w' => e = .returned (.bool (msB (d + 1) false t k o)) ∧ Hid (Only (fun b => b = M) w w' ∧ (msB (d + 1) false t k o = true → ∃ dd' : Int, VmB w' M ((k + sz (d + 1) false t : Nat) : Int) dd' ∧ 0 ≤ dd' ∧ dd' ≤ 1000)) := by
  have hk45 : t.k = 4 ∨ t.k = 5 := by omega
  obtain ⟨ao, cap, rfl, hcap, hel⟩ : ∃ ao cap, v = .iface 85 (.agg #[.slice ao t.l.length cap]) ∧ t.l.length ≤ cap ∧ ∀ i x, t.l[i]? = some x → ∃ g k u, ao = some ⟨g, k, none⟩ ∧ S g ∧ w.cell? ⟨g, k + i, none⟩ = some u ∧ TiAt w S d true x u := by
    rcases h with ⟨e, _⟩ | ⟨e, _⟩ | ⟨e, _⟩ | ⟨e, _⟩ | ⟨e, _⟩ | ⟨_, ao, cap, h1, h2, h3⟩
    · omega
    · omega
    · omega
    · omega
    · omega
    · rw [hk4] at h1 h3
      exact ⟨ao, cap, h1, h2, h3⟩
  have hms := ms_list d t k o hk45
  rw [show decide (t.k = 5) = true by rw [hk4]; rfl] at hms
  have hsz : sz (d + 1) false t = 1 + (t.l.map (sz d true)).sum := by unfold sz; rw [show decide (t.k = 5) = true by rw [hk4]; rfl]
  have HM : Hid _ := vcount_all M k dd w hv (by omega) (by omega)
  have HN : Hid (∀ w1 (k1 : Int), VmB w1 M k1 dd → Calls Tryz.prog 144 #[.pointer (some ⟨M, 0, none⟩), .int .i64 ((o : Int) + 1)] w1 fun e w' => e = .returned (.bool (decide ((o : Int) + 1 ≤ 32))) ∧ Only (fun b => b = M) w1 w' ∧ ∃ d', VmB w' M k1 d' ∧ 0 ≤ d' ∧ d' ≤ 1000) := fun w1 k1 hv1 => venter_all M k1 dd ((o : Int) + 1) w1 hv1 hd1 hd2 (by omega) (by omega)
  have HC : Hid (∀ w1 (dd1 : Int), Only (fun b => b = M) w w1 → VmB w1 M ((k + 1 : Nat) : Int) dd1 → k + 1 ≤ 1024 → o + 1 ≤ 32 → 0 ≤ dd1 → dd1 ≤ 1000 → Calls Tryz.prog 146 #[.slice ao t.l.length cap, .func (.func 147) #[.pointer (some ⟨M, 0, none⟩)] #[], .int .i64 ((o + 1 : Nat) : Int)] w1 fun e w' => e = .returned (.bool (evB d true t.l (k + 1) (o + 1))) ∧ Hid (Only (fun b => b = M) w1 w' ∧ (evB d true t.l (k + 1) (o + 1) = true → ∃ dd' : Int, VmB w' M ((k + 1 + (t.l.map (sz d true)).sum : Nat) : Int) dd' ∧ 0 ≤ dd' ∧ dd' ≤ 1000))) := by
    intro w1 dd1 o1 hv1 hk1 ho1 h1 h2
    refine H t.l ao cap w1 S M (k + 1) (o + 1) dd1 (fun j x hx => ?_) hM (by obtain ⟨e, he⟩ := hsm; exact he.parts) (by obtain ⟨e, he⟩ := hsm; exact he.len) hv1 hk1 h1 h2 ho1 (hT.keep o1 hg.1 hg.2.1 hg.2.2) hg
    obtain ⟨g, q, u, p1, p2, p3, p4⟩ := hel j x hx
    exact ⟨g, q, u, p1, p2, o1.cell p3 (hM g p2), p4.only o1 (fun b hb => hM b hb)⟩
  have HL : Hid (M < w.heap.size) := (Array.getElem?_eq_some_iff.1 hv).1
  have hMiss := va_miss 85 81 51 _ Tryz.underlying81 (by intro m h; cases h) (by decide) _ zL
  have hHit := va_hit 85 51 _ Tryz.underlying85 (by intro m h; cases h)
  rw [hms, hsz]
  obtain ⟨L, hL⟩ : ∃ L, L = t.l.length := ⟨_, rfl⟩
  obtain ⟨Y, hY⟩ : ∃ Y, Y = (t.l.map (sz d true)).sum := ⟨_, rfl⟩
  obtain ⟨Z, hZ⟩ : ∃ Z, Z = evB d true t.l (k + 1) (o + 1) := ⟨_, rfl⟩
  rw [← hL, ← hY, ← hZ] at HC
  rw [← hL, ← hY, ← hZ]
  clear hL hY hZ h hk4 hM hsm hv hd1 hd2 hT hg hel hcap hms hsz H hk45
  by_cases h1 : k + 1 ≤ 1024
  · have e1 : decide ((k : Int) + 1 ≤ 1024) = true := decide_eq_true (by omega)
    rw [e1] at HM
    rw [decide_eq_true h1]
    clear e1
    by_cases h2 : o + 1 ≤ 32
    · have e2 : decide ((o : Int) + 1 ≤ 32) = true := decide_eq_true (by omega)
      rw [e2] at HN
      rw [decide_eq_true h2]
      have HB : Hid (k + 1 ≤ 1024 ∧ o + 1 ≤ 32) := ⟨h1, h2⟩
      clear e2 h1
      go_enter Tryz.func120, Tryz.ntmps120
      go_wp2_with fail
      refine (show Calls Tryz.prog 143 _ _ _ from HM.out).mono ?_
      rintro e w1 ⟨rfl, o1, m1⟩
      have O1 : Hid (Only (fun b => b = M) w w1 ∧ VmB w1 M ((k : Int) + 1) dd) := ⟨o1, m1⟩
      clear HM o1 m1
      go_wp2_with fail
      refine (show Calls Tryz.prog 144 _ _ _ from HN.out _ _ (O1.out.2.keep (by repeat' first | exact (Only.refl _ _) | apply Only.alloc))).mono ?_
      rintro e w2 ⟨rfl, o2, d2, m2, p2, q2⟩
      have O2 : Hid (Only (fun b => b = M) w w2 ∧ VmB w2 M ((k + 1 : Nat) : Int) d2 ∧ 0 ≤ d2 ∧ d2 ≤ 1000) := ⟨O1.out.1.trans (Only.trans (show Only (fun b => b = M) w1 _ by repeat' first | exact (Only.refl _ _) | apply Only.alloc) o2 (fun _ _ g => g)) (fun _ _ g => g), by simpa using m2, p2, q2⟩
      have hs1 := O1.out.1.size
      have x0 : w2.cell? ⟨w1.heap.size + 1, 0, none⟩ = some (.slice ao L cap) := o2.cell (a := ⟨w1.heap.size + 1, 0, none⟩) (by simp [go_sem]) (by have := HL.out; simp only; omega)
      have HC2 : Hid _ := HC.out w2 d2 O2.out.1 O2.out.2.1 HB.out.1 HB.out.2 p2 q2
      clear HN HC o2 m2 p2 q2 O1 hs1
      go_wp2_with fail
      refine (show Calls Tryz.prog 146 _ _ _ from HC2.out).mono ?_
      rintro e w3 ⟨rfl, G3⟩
      have HF : Hid (Only (fun b => b = M) w w3 ∧ (Z = true → ∃ dd' : Int, VmB w3 M ((k + (1 + Y) : Nat) : Int) dd' ∧ 0 ≤ dd' ∧ dd' ≤ 1000)) := ⟨O2.out.1.trans G3.out.1 (fun _ _ g => g), fun hz => by have := G3.out.2 hz; rwa [show k + (1 + Y) = k + 1 + Y by omega]⟩
      clear HC2 G3 O2 x0
      go_wp2
      go_ret
      exact ⟨by simp, HF.out.1, fun h => HF.out.2 (by simpa using h)⟩
    · have e2 : decide ((o : Int) + 1 ≤ 32) = false := decide_eq_false (by omega)
      rw [e2] at HN
      rw [decide_eq_false h2]
      clear e2 h1 HC
      go_enter Tryz.func120, Tryz.ntmps120
      go_wp2_with fail
      refine (show Calls Tryz.prog 143 _ _ _ from HM.out).mono ?_
      rintro e w1 ⟨rfl, o1, m1⟩
      have O1 : Hid (Only (fun b => b = M) w w1 ∧ VmB w1 M ((k : Int) + 1) dd) := ⟨o1, m1⟩
      clear HM o1 m1
      go_wp2_with fail
      refine (show Calls Tryz.prog 144 _ _ _ from HN.out _ _ (O1.out.2.keep (by repeat' first | exact (Only.refl _ _) | apply Only.alloc))).mono ?_
      rintro e w2 ⟨rfl, o2, d2, m2, p2, q2⟩
      have O2 : Hid (Only (fun b => b = M) w w2) := O1.out.1.trans (Only.trans (show Only (fun b => b = M) w1 _ by repeat' first | exact (Only.refl _ _) | apply Only.alloc) o2 (fun _ _ g => g)) (fun _ _ g => g)
      clear HN o2 m2 p2 q2 O1
      go_wp2
      go_ret
      exact ⟨by simp, O2.out, fun h => by simp at h⟩
  · have e1 : decide ((k : Int) + 1 ≤ 1024) = false := decide_eq_false (by omega)
    rw [e1] at HM
    rw [decide_eq_false h1]
    clear e1 HC HN
    go_enter Tryz.func120, Tryz.ntmps120
    go_wp2_with fail
    refine (show Calls Tryz.prog 143 _ _ _ from HM.out).mono ?_
    rintro e w1 ⟨rfl, o1, m1⟩
    have O1 : Hid (Only (fun b => b = M) w w1) := o1
    clear HM o1 m1
    go_wp2
    go_ret
    exact ⟨by simp, O1.out, fun h => by simp at h⟩
end Go.Proofs.YtbhpjakjlfkfiaaGreatDoor
namespace Go.Proofs.YtbhpjakjlfkfiaaGreatDoor
open Go.RowKit Go.Lib
set_option linter.unusedSimpArgs false
set_option linter.unusedVariables false
abbrev i1v : Value := .iface 55 (.agg #[.int .i64 1])
set_option maxRecDepth 100000 in
theorem vevery_bad (v : Value) (hv : BadV v) (M g : Nat) (k d : Int) (w : World) (h : VmB w M k d) (h1 : 0 ≤ k) (h2 : k < 900) (hgM : g ≠ M) (hg0 : w.cell? ⟨g, 0, none⟩ = some i1v) (hg1 : w.cell? ⟨g, 1, none⟩ = some v) : Calls Tryz.prog 145 #[.slice (some ⟨g, 0, none⟩) 2 2, .func (.func 120) #[.pointer (some ⟨M, 0, none⟩)] #[], .int .i64 1] w fun e w' => e = .returned (.bool false) ∧ Only (fun b => b = M) w w' := by
  have HI : Hid (∀ w1 k d, VmB w1 M k d → 0 ≤ k → k < 1000 → Calls Tryz.prog 120 #[.pointer (some ⟨M, 0, none⟩), i1v, .int .i64 1] w1 fun e w' => e = .returned (.bool true) ∧ Only (fun b => b = M) w1 w' ∧ VmB w' M (k + 1) d) := fun w1 k d => vval_int 1 (by omega) (by omega) M k d 1 w1
  have HV : Hid (∀ w1 k d, VmB w1 M k d → 0 ≤ k → k < 1000 → Calls Tryz.prog 120 #[.pointer (some ⟨M, 0, none⟩), v, .int .i64 1] w1 fun e w' => e = .returned (.bool false) ∧ Only (fun b => b = M) w1 w') := fun w1 k d => vval_bad v hv M k d 1 w1
  have HM : Hid (VmB w M k d) := h
  clear h hv
  go_enter Tryz.func145, Tryz.ntmps145
  go_wp2
  go_loopw [11] (fun r wr => ∃ i : Int, r = .int .i64 i ∧ ((i = 0 ∧ Hid (wr = w)) ∨ (i = 1 ∧ Hid (Only (fun b => b = M) w wr ∧ VmB wr M (k + 1) d)))) (fun r _ => 1 - uOf r)
  case atStart => exact ⟨0, rfl, .inl ⟨rfl, rfl⟩⟩
  case round =>
    obtain ⟨i, rfl, hi⟩ := hrel
    rcases hi with ⟨rfl, HW⟩ | ⟨rfl, HO⟩
    · obtain rfl := HW.out
      go_wp2_with fail
      refine (show Calls Tryz.prog 120 _ _ _ from HI.out _ _ _ HM.out h1 (by omega)).mono ?_
      rintro e w2 ⟨rfl, o2⟩
      have O2 : Hid (Only (fun b => b = M) wr w2 ∧ VmB w2 M (k + 1) d) := o2
      clear HI o2 HV HM hg0 hg1 HW
      go_wp2
      go_roundw
      case rel => exact ⟨1, rfl, .inr ⟨rfl, O2⟩⟩
      case measure => simp [uOf]
    · have hg2 := HO.out.1.cell hg1 (fun h => hgM h)
      have i2 : (0 : Int) ≤ k + 1 := by omega
      have i3 : k + 1 < 1000 := by omega
      clear hg0 hg1
      go_wp2_with fail
      refine (show Calls Tryz.prog 120 _ _ _ from HV.out _ _ _ HO.out.2 i2 i3).mono ?_
      rintro e w2 ⟨rfl, o2⟩
      have O2 : Hid (Only (fun b => b = M) w w2) := HO.out.1.trans o2 (fun _ _ g => g)
      clear o2 HI HV HM
      go_wp2
      go_ret
      exact ⟨rfl, O2.out⟩
end Go.Proofs.YtbhpjakjlfkfiaaGreatDoor
