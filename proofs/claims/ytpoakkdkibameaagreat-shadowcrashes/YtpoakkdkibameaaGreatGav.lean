/- What SameBytes and same answer of any two. A commit on a disk that may die, a crash, and Open: the calls. -/
import Derived.Test.YtpoakkdkibameaaGreatGau
namespace Go.Proofs.YtpoakkdkibameaaGreat
open Go.RowKit Go.Maps Go.Shelf
set_option linter.unusedSimpArgs false
set_option linter.unusedVariables false

set_option maxRecDepth 100000 in
set_option maxHeartbeats 1000000 in
theorem sameb_any (v1 v2 : Value) (z1 z2 : List Nat) (w : World) (h1 : BytesAt w v1 z1) (h2 : BytesAt w v2 z2) :
    Calls Tryz.prog 12 #[v1, v2] w fun e w' => ∃ b, e = .returned (.bool b) ∧ Hid (b = decide (z1 = z2)) ∧ Only (fun _ => False) w w' := by
  obtain ⟨a1, c1, rfl, _, f1⟩ := h1.form
  obtain ⟨a2, c2, rfl, _, f2⟩ := h2.form
  obtain ⟨m, hm⟩ : ∃ m, m = z1.length := ⟨_, rfl⟩
  obtain ⟨m2, hm'⟩ : ∃ m2, m2 = z2.length := ⟨_, rfl⟩
  have hm2 : m ≤ 140737488355328 := hm ▸ h1.2.1
  have HM : Hid (m = z1.length ∧ m2 = z2.length) := ⟨hm, hm'⟩
  rw [← hm, ← hm']
  rw [← hm] at f1
  rw [← hm'] at f2
  clear h1 h2 hm hm'
  by_cases hl : m = m2
  · subst hl
    go_enter Tryz.func12, Tryz.ntmps12
    go_wp2
    go_loopw [5] (fun t wr => ∃ k : Nat, k ≤ m ∧ t = .int .i64 k ∧ Only (fun _ => False) w wr ∧ ∀ j, j < k → z1.getD j 0 = z2.getD j 0) (fun t _ => m - (intOf t).toNat)
    case atStart => exact ⟨0, Nat.zero_le _, rfl, Only.refl _ _, fun j hj => by omega⟩
    case round =>
      obtain ⟨k, hk, rfl, ho, heq⟩ := hrel
      have HEQ : Hid (∀ j, j < k → z1.getD j 0 = z2.getD j 0) := heq
      clear heq
      by_cases hlt : k < m
      · obtain ⟨g1, o1, rfl, x1⟩ := f1 k hlt
        obtain ⟨g2, o2, rfl, x2⟩ := f2 k hlt
        have y1 := ho.cell x1 (fun e => e)
        have y2 := ho.cell x2 (fun e => e)
        have k0 : (0 : Int) ≤ (k : Int) := Int.natCast_nonneg _
        have k1 : (k : Int) < (m : Int) := by omega
        obtain ⟨u1, hu1⟩ : ∃ z, z = z1.getD k 0 := ⟨_, rfl⟩
        obtain ⟨u2, hu2⟩ : ∃ z, z = z2.getD k 0 := ⟨_, rfl⟩
        rw [← hu1] at y1
        rw [← hu2] at y2
        have HU : Hid (u1 = z1.getD k 0 ∧ u2 = z2.getD k 0) := ⟨hu1, hu2⟩
        have HO : Hid (Only (fun _ => False) w wr) := ho
        clear f1 f2 x1 x2 ho hu1 hu2
        by_cases hu : u1 = u2
        · subst hu
          go_wp2_with fail
          go_region_held3 (fun w' => w'.cell? ⟨g1, o1 + k, none⟩ = some (.int .u8 (u1 : Nat)) ∧ w'.cell? ⟨g2, o2 + k, none⟩ = some (.int .u8 (u1 : Nat))) (go_keep) (fail)
          go_wp2
          go_roundw
          case rel => exact ⟨k + 1, by omega, by go_num, HO.out.drew, fun j hj => by
            by_cases e : j = k
            · rw [e, ← HU.out.1, ← HU.out.2]
            · exact HEQ.out j (by omega)⟩
          case measure => simp [intOf]; omega
        · have hne : ((u1 : Int) != (u2 : Int)) = true := by simp; omega
          have HNE : Hid (¬ u1 = u2) := hu
          clear hu
          go_wp2_with fail
          go_region_held3 (fun w' => w'.cell? ⟨g1, o1 + k, none⟩ = some (.int .u8 (u1 : Nat)) ∧ w'.cell? ⟨g2, o2 + k, none⟩ = some (.int .u8 (u2 : Nat))) (go_keep) (fail)
          go_wp2
          go_ret
          exact ⟨_, rfl, (by rw [decide_eq_false]; intro e; apply HNE.out; rw [HU.out.1, HU.out.2, e] : _ = _), HO.out.drew⟩
      · obtain rfl : k = m := by omega
        have HO : Hid (Only (fun _ => False) w wr) := ho
        clear f1 f2 ho
        go_wp2
        go_ret
        refine ⟨_, rfl, (?_ : _ = _), HO.out⟩
        rw [decide_eq_true]
        apply List.ext_getElem
        · have := HM.out; omega
        · intro j q1 q2
          have := HEQ.out j (by have := HM.out; omega)
          simpa [List.getD, q1, q2] using this
  · have hne : ((m : Int) != (m2 : Int)) = true := by simp; omega
    have HNE : Hid (¬ m = m2) := hl
    clear hl f1 f2
    go_enter Tryz.func12, Tryz.ntmps12
    go_wp2
    go_ret
    exact ⟨_, rfl, (by rw [decide_eq_false]; intro e; apply HNE.out; rw [HM.out.1, HM.out.2, e] : _ = _), Only.refl _ _⟩
set_option maxRecDepth 100000 in
set_option maxHeartbeats 2000000 in
theorem same_gen {w : World} {B1 B2 : Nat} {v1 v2 : Value} {rs1 rs2 : List (Int × Value)} {l1 l2 : List (Int × List Nat)} (h1 : TdAt w B1 v1 rs1 l1) (h2 : TdAt w B2 v2 rs2 l2) (hl1 : l1.length ≤ 1000) :
    Calls Tryz.prog 21 #[v1, v2] w fun e w' => ∃ b, e = .returned (.bool b) ∧ Hid ((l1 = l2 → b = true) ∧ Only (fun _ => False) w w') := by
  obtain ⟨a1, c1, rfl, f1⟩ := h1.cells
  obtain ⟨a2, c2, rfl, f2⟩ := h2.cells
  obtain ⟨n, hn⟩ : ∃ n, n = l1.length := ⟨_, rfl⟩
  obtain ⟨n2, hn2⟩ : ∃ n2, n2 = l2.length := ⟨_, rfl⟩
  have HN : Hid (n = l1.length ∧ n2 = l2.length) := ⟨hn, hn2⟩
  have HF1 : Hid (∀ k (hk : k < l1.length), ∃ g u, a1 = some ⟨g, 0, none⟩ ∧ w.cell? ⟨g, k * 2, none⟩ = some (.int .i64 l1[k].1) ∧ w.cell? ⟨g, k * 2 + 1, none⟩ = some u ∧ BytesAt w u l1[k].2) := f1
  have HF2 : Hid (∀ k (hk : k < l2.length), ∃ g u, a2 = some ⟨g, 0, none⟩ ∧ w.cell? ⟨g, k * 2, none⟩ = some (.int .i64 l2[k].1) ∧ w.cell? ⟨g, k * 2 + 1, none⟩ = some u ∧ BytesAt w u l2[k].2) := f2
  have HL1 : Hid (n ≤ 1000) := hn ▸ hl1
  rw [← hn, ← hn2]
  clear h1 h2 f1 f2 hn hn2 hl1
  by_cases hl : n = n2
  · subst hl
    go_enter Tryz.func21, Tryz.ntmps21
    go_wp2
    go_loopw [5] (fun t W => ∃ k : Nat, k ≤ n ∧ t = .int .i64 k ∧ Only (fun _ => False) w W) (fun t _ => n - (intOf t).toNat)
    case atStart => exact ⟨0, Nat.zero_le _, rfl, Only.refl _ _⟩
    case round =>
      obtain ⟨k, hk, rfl, ho⟩ := hrel
      obtain ⟨W, rfl⟩ : ∃ W, W = wr := ⟨_, rfl⟩
      by_cases hlt : k < n
      · have hkl : k < l1.length := by have := HN.out; omega
        have hkl2 : k < l2.length := by have := HN.out; omega
        obtain ⟨g1, u1, rfl, x1, x2, x3⟩ := HF1.out k hkl
        obtain ⟨g2, u2, rfl, y1, y2, y3⟩ := HF2.out k hkl2
        obtain ⟨i, hi⟩ : ∃ i, i = l1[k].1 := ⟨_, rfl⟩
        obtain ⟨i2, hi2⟩ : ∃ i, i = l2[k].1 := ⟨_, rfl⟩
        have HI : Hid (i = l1[k].1 ∧ i2 = l2[k].1) := ⟨hi, hi2⟩
        rw [← hi] at x1
        rw [← hi2] at y1
        have k0 : (0 : Int) ≤ (k : Int) := by omega
        have k1 : (k : Int) < (n : Int) := by omega
        have hnn : n ≤ 1000 := HL1.out
        have HO : Hid (Only (fun _ => False) w W) := ho
        have HSS : Hid (∀ (W' : World), Only (fun _ => False) w W' → W'.cell? ⟨g1, k * 2, none⟩ = some (.int .i64 i) ∧ W'.cell? ⟨g1, k * 2 + 1, none⟩ = some u1 ∧ W'.cell? ⟨g2, k * 2, none⟩ = some (.int .i64 i2) ∧ W'.cell? ⟨g2, k * 2 + 1, none⟩ = some u2) := fun W' ho' => ⟨ho'.cell x1 (fun e => e), ho'.cell x2 (fun e => e), ho'.cell y1 (fun e => e), ho'.cell y2 (fun e => e)⟩
        have od : Only (fun _ => False) w W.drew := ho.drew
        have HSa : Hid (Calls Tryz.prog 12 #[u1, u2] W.drew fun e W2 => ∃ b, e = .returned (.bool b) ∧ Hid (b = decide (l1[k].2 = l2[k].2)) ∧ Hid (Only (fun _ => False) w W2)) := by
          refine (sameb_any u1 u2 l1[k].2 l2[k].2 W.drew (x3.frame od) (y3.frame od)).mono ?_
          rintro e W2 ⟨b, rfl, hb, q⟩
          exact ⟨b, rfl, hb, od.trans q (fun _ _ e => e)⟩
        have HOD : Hid (Only (fun _ => False) w W.drew) := od
        obtain ⟨a1', n1', c1', hu1⟩ := bytes_slice x3
        obtain ⟨a2', n2', c2', hu2⟩ := bytes_slice y3
        have HGE : Hid (l1 = l2 → i = i2 ∧ l1[k].2 = l2[k].2) := fun e => by subst e; exact ⟨hi.trans hi2.symm, rfl⟩
        clear x1 x2 x3 y1 y2 y3 hi hi2 ho od HI
        subst hu1 hu2
        by_cases hii : i = i2
        · subst hii
          go_wp2_with fail
          refine wp_region_held_drew (S := fun W' => W'.cell? ⟨g1, k * 2, none⟩ = some (.int .i64 i) ∧ W'.cell? ⟨g1, k * 2 + 1, none⟩ = some (.slice a1' n1' c1') ∧ W'.cell? ⟨g2, k * 2, none⟩ = some (.int .i64 i) ∧ W'.cell? ⟨g2, k * 2 + 1, none⟩ = some (.slice a2' n2' c2')) (by kernel_rfl) (HSS.out _ HOD.out) (fun hHeld => ?_)
          refine wpAnyH_take (i := 0) (v := .slice (some ⟨g1, 0, none⟩) n c1) rfl (by kernel_rfl) (by kernel_rfl) (by kernel_rfl) (fun _ _ _ h => h) (Or.inl ⟨by rfl, fun wx hSw => by go_simp⟩) hHeld ?_
          simp only [Act.put, List.setIfInBounds_toArray, List.set_cons_zero, List.set_cons_succ, List.getElem_toArray, List.getElem_cons_zero, List.getElem_cons_succ]
          refine wpAnyH_take (i := 1) (v := .int .i64 (k : Nat)) rfl (by kernel_rfl) (by kernel_rfl) (by kernel_rfl) (fun _ _ _ h => h) (Or.inl ⟨by rfl, fun wx hSw => by go_simp⟩) hHeld ?_
          simp only [Act.put, List.setIfInBounds_toArray, List.set_cons_zero, List.set_cons_succ, List.getElem_toArray, List.getElem_cons_zero, List.getElem_cons_succ]
          refine wpAnyH_take (i := 2) (v := .pointer (some ⟨g1, k * 2, none⟩)) rfl (by kernel_rfl) (by kernel_rfl) (by kernel_rfl) (fun _ _ _ h => h) (Or.inl ⟨by rfl, fun wx hSw => by go_simp⟩) hHeld ?_
          simp only [Act.put, List.setIfInBounds_toArray, List.set_cons_zero, List.set_cons_succ, List.getElem_toArray, List.getElem_cons_zero, List.getElem_cons_succ]
          refine wpAnyH_take (i := 3) (v := .pointer (some ⟨g1, k * 2, none⟩)) rfl (by kernel_rfl) (by kernel_rfl) (by kernel_rfl) (fun _ _ _ h => h) (Or.inl ⟨by rfl, fun wx hSw => by go_simp⟩) hHeld ?_
          simp only [Act.put, List.setIfInBounds_toArray, List.set_cons_zero, List.set_cons_succ, List.getElem_toArray, List.getElem_cons_zero, List.getElem_cons_succ]
          refine wpAnyH_take (i := 4) (v := .int .i64 i) rfl (by kernel_rfl) (by kernel_rfl) (by kernel_rfl) (fun _ _ _ h => h) (Or.inl ⟨by rfl, fun wx hSw => by go_simp⟩) hHeld ?_
          simp only [Act.put, List.setIfInBounds_toArray, List.set_cons_zero, List.set_cons_succ, List.getElem_toArray, List.getElem_cons_zero, List.getElem_cons_succ]
          refine wpAnyH_take (i := 5) (v := .slice (some ⟨g2, 0, none⟩) n c2) rfl (by kernel_rfl) (by kernel_rfl) (by kernel_rfl) (fun _ _ _ h => h) (Or.inl ⟨by rfl, fun wx hSw => by go_simp⟩) hHeld ?_
          simp only [Act.put, List.setIfInBounds_toArray, List.set_cons_zero, List.set_cons_succ, List.getElem_toArray, List.getElem_cons_zero, List.getElem_cons_succ]
          refine wpAnyH_take (i := 6) (v := .int .i64 (k : Nat)) rfl (by kernel_rfl) (by kernel_rfl) (by kernel_rfl) (fun _ _ _ h => h) (Or.inl ⟨by rfl, fun wx hSw => by go_simp⟩) hHeld ?_
          simp only [Act.put, List.setIfInBounds_toArray, List.set_cons_zero, List.set_cons_succ, List.getElem_toArray, List.getElem_cons_zero, List.getElem_cons_succ]
          refine wpAnyH_take (i := 7) (v := .pointer (some ⟨g2, k * 2, none⟩)) rfl (by kernel_rfl) (by kernel_rfl) (by kernel_rfl) (fun _ _ _ h => h) (Or.inl ⟨by rfl, fun wx hSw => by go_simp⟩) hHeld ?_
          simp only [Act.put, List.setIfInBounds_toArray, List.set_cons_zero, List.set_cons_succ, List.getElem_toArray, List.getElem_cons_zero, List.getElem_cons_succ]
          refine wpAnyH_take (i := 8) (v := .pointer (some ⟨g2, k * 2, none⟩)) rfl (by kernel_rfl) (by kernel_rfl) (by kernel_rfl) (fun _ _ _ h => h) (Or.inl ⟨by rfl, fun wx hSw => by go_simp⟩) hHeld ?_
          simp only [Act.put, List.setIfInBounds_toArray, List.set_cons_zero, List.set_cons_succ, List.getElem_toArray, List.getElem_cons_zero, List.getElem_cons_succ]
          refine wpAnyH_take (i := 9) (v := .int .i64 i) rfl (by kernel_rfl) (by kernel_rfl) (by kernel_rfl) (fun _ _ _ h => h) (Or.inl ⟨by rfl, fun wx hSw => by go_simp⟩) hHeld ?_
          simp only [Act.put, List.setIfInBounds_toArray, List.set_cons_zero, List.set_cons_succ, List.getElem_toArray, List.getElem_cons_zero, List.getElem_cons_succ]
          refine wpAnyH_take (i := 10) (v := .bool false) rfl (by kernel_rfl) (by kernel_rfl) (by kernel_rfl) (fun _ _ _ h => h) (Or.inl ⟨by rfl, fun wx hSw => by go_simp⟩) hHeld ?_
          simp only [Act.put, List.setIfInBounds_toArray, List.set_cons_zero, List.set_cons_succ, List.getElem_toArray, List.getElem_cons_zero, List.getElem_cons_succ]
          refine wpAnyH_take (i := 11) (v := .bool false) rfl (by kernel_rfl) (by kernel_rfl) (by kernel_rfl) (fun _ _ _ h => h) (Or.inl ⟨by rfl, fun wx hSw => by go_simp⟩) hHeld ?_
          simp only [Act.put, List.setIfInBounds_toArray, List.set_cons_zero, List.set_cons_succ, List.getElem_toArray, List.getElem_cons_zero, List.getElem_cons_succ]
          refine wpAnyH_take (i := 12) (v := .slice (some ⟨g1, 0, none⟩) n c1) rfl (by kernel_rfl) (by kernel_rfl) (by kernel_rfl) (fun _ _ _ h => h) (Or.inl ⟨by rfl, fun wx hSw => by go_simp⟩) hHeld ?_
          simp only [Act.put, List.setIfInBounds_toArray, List.set_cons_zero, List.set_cons_succ, List.getElem_toArray, List.getElem_cons_zero, List.getElem_cons_succ]
          refine wpAnyH_take (i := 13) (v := .int .i64 (k : Nat)) rfl (by kernel_rfl) (by kernel_rfl) (by kernel_rfl) (fun _ _ _ h => h) (Or.inl ⟨by rfl, fun wx hSw => by go_simp⟩) hHeld ?_
          simp only [Act.put, List.setIfInBounds_toArray, List.set_cons_zero, List.set_cons_succ, List.getElem_toArray, List.getElem_cons_zero, List.getElem_cons_succ]
          refine wpAnyH_take (i := 14) (v := .pointer (some ⟨g1, k * 2, none⟩)) rfl (by kernel_rfl) (by kernel_rfl) (by kernel_rfl) (fun _ _ _ h => h) (Or.inl ⟨by rfl, fun wx hSw => by go_simp⟩) hHeld ?_
          simp only [Act.put, List.setIfInBounds_toArray, List.set_cons_zero, List.set_cons_succ, List.getElem_toArray, List.getElem_cons_zero, List.getElem_cons_succ]
          refine wpAnyH_take (i := 15) (v := .pointer (some ⟨g1, k * 2 + 1, none⟩)) rfl (by kernel_rfl) (by kernel_rfl) (by kernel_rfl) (fun _ _ _ h => h) (Or.inl ⟨by rfl, fun wx hSw => by go_simp⟩) hHeld ?_
          simp only [Act.put, List.setIfInBounds_toArray, List.set_cons_zero, List.set_cons_succ, List.getElem_toArray, List.getElem_cons_zero, List.getElem_cons_succ]
          refine wpAnyH_take (i := 16) (v := .slice a1' n1' c1') rfl (by kernel_rfl) (by kernel_rfl) (by kernel_rfl) (fun _ _ _ h => h) (Or.inl ⟨by rfl, fun wx hSw => by go_simp⟩) hHeld ?_
          simp only [Act.put, List.setIfInBounds_toArray, List.set_cons_zero, List.set_cons_succ, List.getElem_toArray, List.getElem_cons_zero, List.getElem_cons_succ]
          refine wpAnyH_take (i := 17) (v := .slice (some ⟨g2, 0, none⟩) n c2) rfl (by kernel_rfl) (by kernel_rfl) (by kernel_rfl) (fun _ _ _ h => h) (Or.inl ⟨by rfl, fun wx hSw => by go_simp⟩) hHeld ?_
          simp only [Act.put, List.setIfInBounds_toArray, List.set_cons_zero, List.set_cons_succ, List.getElem_toArray, List.getElem_cons_zero, List.getElem_cons_succ]
          refine wpAnyH_take (i := 18) (v := .int .i64 (k : Nat)) rfl (by kernel_rfl) (by kernel_rfl) (by kernel_rfl) (fun _ _ _ h => h) (Or.inl ⟨by rfl, fun wx hSw => by go_simp⟩) hHeld ?_
          simp only [Act.put, List.setIfInBounds_toArray, List.set_cons_zero, List.set_cons_succ, List.getElem_toArray, List.getElem_cons_zero, List.getElem_cons_succ]
          refine wpAnyH_take (i := 19) (v := .pointer (some ⟨g2, k * 2, none⟩)) rfl (by kernel_rfl) (by kernel_rfl) (by kernel_rfl) (fun _ _ _ h => h) (Or.inl ⟨by rfl, fun wx hSw => by go_simp⟩) hHeld ?_
          simp only [Act.put, List.setIfInBounds_toArray, List.set_cons_zero, List.set_cons_succ, List.getElem_toArray, List.getElem_cons_zero, List.getElem_cons_succ]
          refine wpAnyH_take (i := 20) (v := .pointer (some ⟨g2, k * 2 + 1, none⟩)) rfl (by kernel_rfl) (by kernel_rfl) (by kernel_rfl) (fun _ _ _ h => h) (Or.inl ⟨by rfl, fun wx hSw => by go_simp⟩) hHeld ?_
          simp only [Act.put, List.setIfInBounds_toArray, List.set_cons_zero, List.set_cons_succ, List.getElem_toArray, List.getElem_cons_zero, List.getElem_cons_succ]
          refine wpAnyH_take (i := 21) (v := .slice a2' n2' c2') rfl (by kernel_rfl) (by kernel_rfl) (by kernel_rfl) (fun _ _ _ h => h) (Or.inl ⟨by rfl, fun wx hSw => by go_simp⟩) hHeld ?_
          simp only [Act.put, List.setIfInBounds_toArray, List.set_cons_zero, List.set_cons_succ, List.getElem_toArray, List.getElem_cons_zero, List.getElem_cons_succ]
          refine wpAnyH_ready (rs := [22]) (by kernel_rfl) (by simp) ?_
          refine AllReadyH.cons rfl (fun K hK => ?_) AllReadyH.nil
          rw [if_pos (by rfl)]
          refine wp_call_func #[.tmp 33, .tmp 38] #[37, 37] rfl #[.slice a1' n1' c1', .slice a2' n2' c2'] (by simp [Act.eval]) (enters_of Tryz.func12 (by kernel_rfl) rfl) (show Calls Tryz.prog 12 _ _ _ from HSa.out) (fun e W2 he => ?_)
          obtain ⟨b, rfl, HB, HO2⟩ := he
          refine ⟨_, rfl, hK _ _ (HSS.out W2 HO2.out) (fun hHeld => ?_)⟩
          clear hK K HSa
          simp only [Act.put, List.setIfInBounds_toArray, List.set_cons_zero, List.set_cons_succ, List.getElem_toArray, List.getElem_cons_zero, List.getElem_cons_succ]
          cases b with
          | true =>
            refine wpAnyH_take (i := 23) (v := .bool false) rfl (by kernel_rfl) (by kernel_rfl) (by kernel_rfl) (fun _ _ _ h => h) (Or.inl ⟨by rfl, fun wx hSw => by go_simp⟩) hHeld ?_
            simp only [Act.put, List.setIfInBounds_toArray, List.set_cons_zero, List.set_cons_succ, List.getElem_toArray, List.getElem_cons_zero, List.getElem_cons_succ]
            refine wpAnyH_take (i := 24) (v := .bool false) rfl (by kernel_rfl) (by kernel_rfl) (by kernel_rfl) (fun _ _ _ h => h) (Or.inl ⟨by rfl, fun wx hSw => by go_simp⟩) hHeld ?_
            simp only [Act.put, List.setIfInBounds_toArray, List.set_cons_zero, List.set_cons_succ, List.getElem_toArray, List.getElem_cons_zero, List.getElem_cons_succ]
            refine wpAnyH_done (by kernel_rfl) ?_ _
            clear hHeld HSS HOD
            go_wp2
            go_roundw
            case rel => exact ⟨k + 1, by omega, by go_num, HO2.out⟩
            case measure => simp [intOf]; omega
          | false =>
            refine wpAnyH_take (i := 23) (v := .bool true) rfl (by kernel_rfl) (by kernel_rfl) (by kernel_rfl) (fun _ _ _ h => h) (Or.inl ⟨by rfl, fun wx hSw => by go_simp⟩) hHeld ?_
            simp only [Act.put, List.setIfInBounds_toArray, List.set_cons_zero, List.set_cons_succ, List.getElem_toArray, List.getElem_cons_zero, List.getElem_cons_succ]
            refine wpAnyH_take (i := 24) (v := .bool true) rfl (by kernel_rfl) (by kernel_rfl) (by kernel_rfl) (fun _ _ _ h => h) (Or.inl ⟨by rfl, fun wx hSw => by go_simp⟩) hHeld ?_
            simp only [Act.put, List.setIfInBounds_toArray, List.set_cons_zero, List.set_cons_succ, List.getElem_toArray, List.getElem_cons_zero, List.getElem_cons_succ]
            refine wpAnyH_done (by kernel_rfl) ?_ _
            clear hHeld HSS HOD
            go_wp2
            go_ret
            exact ⟨_, rfl, fun e => (by have h9 := HB.out; rw [decide_eq_true (HGE.out e).2] at h9; cases h9), HO2.out⟩
        · have hne : (i != i2) = true := by simpa using hii
          have HNE : Hid (¬ i = i2) := hii
          clear hii HSa
          go_wp2_with fail
          refine wp_region_held_drew (S := fun W' => W'.cell? ⟨g1, k * 2, none⟩ = some (.int .i64 i) ∧ W'.cell? ⟨g1, k * 2 + 1, none⟩ = some (.slice a1' n1' c1') ∧ W'.cell? ⟨g2, k * 2, none⟩ = some (.int .i64 i2) ∧ W'.cell? ⟨g2, k * 2 + 1, none⟩ = some (.slice a2' n2' c2')) (by kernel_rfl) (HSS.out _ HOD.out) (fun hHeld => ?_)
          refine wpAnyH_take (i := 0) (v := .slice (some ⟨g1, 0, none⟩) n c1) rfl (by kernel_rfl) (by kernel_rfl) (by kernel_rfl) (fun _ _ _ h => h) (Or.inl ⟨by rfl, fun wx hSw => by go_simp⟩) hHeld ?_
          simp only [Act.put, List.setIfInBounds_toArray, List.set_cons_zero, List.set_cons_succ, List.getElem_toArray, List.getElem_cons_zero, List.getElem_cons_succ]
          refine wpAnyH_take (i := 1) (v := .int .i64 (k : Nat)) rfl (by kernel_rfl) (by kernel_rfl) (by kernel_rfl) (fun _ _ _ h => h) (Or.inl ⟨by rfl, fun wx hSw => by go_simp⟩) hHeld ?_
          simp only [Act.put, List.setIfInBounds_toArray, List.set_cons_zero, List.set_cons_succ, List.getElem_toArray, List.getElem_cons_zero, List.getElem_cons_succ]
          refine wpAnyH_take (i := 2) (v := .pointer (some ⟨g1, k * 2, none⟩)) rfl (by kernel_rfl) (by kernel_rfl) (by kernel_rfl) (fun _ _ _ h => h) (Or.inl ⟨by rfl, fun wx hSw => by go_simp⟩) hHeld ?_
          simp only [Act.put, List.setIfInBounds_toArray, List.set_cons_zero, List.set_cons_succ, List.getElem_toArray, List.getElem_cons_zero, List.getElem_cons_succ]
          refine wpAnyH_take (i := 3) (v := .pointer (some ⟨g1, k * 2, none⟩)) rfl (by kernel_rfl) (by kernel_rfl) (by kernel_rfl) (fun _ _ _ h => h) (Or.inl ⟨by rfl, fun wx hSw => by go_simp⟩) hHeld ?_
          simp only [Act.put, List.setIfInBounds_toArray, List.set_cons_zero, List.set_cons_succ, List.getElem_toArray, List.getElem_cons_zero, List.getElem_cons_succ]
          refine wpAnyH_take (i := 4) (v := .int .i64 i) rfl (by kernel_rfl) (by kernel_rfl) (by kernel_rfl) (fun _ _ _ h => h) (Or.inl ⟨by rfl, fun wx hSw => by go_simp⟩) hHeld ?_
          simp only [Act.put, List.setIfInBounds_toArray, List.set_cons_zero, List.set_cons_succ, List.getElem_toArray, List.getElem_cons_zero, List.getElem_cons_succ]
          refine wpAnyH_take (i := 5) (v := .slice (some ⟨g2, 0, none⟩) n c2) rfl (by kernel_rfl) (by kernel_rfl) (by kernel_rfl) (fun _ _ _ h => h) (Or.inl ⟨by rfl, fun wx hSw => by go_simp⟩) hHeld ?_
          simp only [Act.put, List.setIfInBounds_toArray, List.set_cons_zero, List.set_cons_succ, List.getElem_toArray, List.getElem_cons_zero, List.getElem_cons_succ]
          refine wpAnyH_take (i := 6) (v := .int .i64 (k : Nat)) rfl (by kernel_rfl) (by kernel_rfl) (by kernel_rfl) (fun _ _ _ h => h) (Or.inl ⟨by rfl, fun wx hSw => by go_simp⟩) hHeld ?_
          simp only [Act.put, List.setIfInBounds_toArray, List.set_cons_zero, List.set_cons_succ, List.getElem_toArray, List.getElem_cons_zero, List.getElem_cons_succ]
          refine wpAnyH_take (i := 7) (v := .pointer (some ⟨g2, k * 2, none⟩)) rfl (by kernel_rfl) (by kernel_rfl) (by kernel_rfl) (fun _ _ _ h => h) (Or.inl ⟨by rfl, fun wx hSw => by go_simp⟩) hHeld ?_
          simp only [Act.put, List.setIfInBounds_toArray, List.set_cons_zero, List.set_cons_succ, List.getElem_toArray, List.getElem_cons_zero, List.getElem_cons_succ]
          refine wpAnyH_take (i := 8) (v := .pointer (some ⟨g2, k * 2, none⟩)) rfl (by kernel_rfl) (by kernel_rfl) (by kernel_rfl) (fun _ _ _ h => h) (Or.inl ⟨by rfl, fun wx hSw => by go_simp⟩) hHeld ?_
          simp only [Act.put, List.setIfInBounds_toArray, List.set_cons_zero, List.set_cons_succ, List.getElem_toArray, List.getElem_cons_zero, List.getElem_cons_succ]
          refine wpAnyH_take (i := 9) (v := .int .i64 i2) rfl (by kernel_rfl) (by kernel_rfl) (by kernel_rfl) (fun _ _ _ h => h) (Or.inl ⟨by rfl, fun wx hSw => by go_simp⟩) hHeld ?_
          simp only [Act.put, List.setIfInBounds_toArray, List.set_cons_zero, List.set_cons_succ, List.getElem_toArray, List.getElem_cons_zero, List.getElem_cons_succ]
          refine wpAnyH_take (i := 10) (v := .bool true) rfl (by kernel_rfl) (by kernel_rfl) (by kernel_rfl) (fun _ _ _ h => h) (Or.inl ⟨by rfl, fun wx hSw => by go_simp⟩) hHeld ?_
          simp only [Act.put, List.setIfInBounds_toArray, List.set_cons_zero, List.set_cons_succ, List.getElem_toArray, List.getElem_cons_zero, List.getElem_cons_succ]
          refine wpAnyH_take (i := 11) (v := .bool true) rfl (by kernel_rfl) (by kernel_rfl) (by kernel_rfl) (fun _ _ _ h => h) (Or.inl ⟨by rfl, fun wx hSw => by go_simp⟩) hHeld ?_
          simp only [Act.put, List.setIfInBounds_toArray, List.set_cons_zero, List.set_cons_succ, List.getElem_toArray, List.getElem_cons_zero, List.getElem_cons_succ]
          refine wpAnyH_take (i := 12) (v := undef) rfl (by kernel_rfl) (by kernel_rfl) (by kernel_rfl) (fun _ _ _ h => h) (Or.inr ⟨by rfl, rfl⟩) hHeld ?_
          simp only [Act.put, List.setIfInBounds_toArray, List.set_cons_zero, List.set_cons_succ, List.getElem_toArray, List.getElem_cons_zero, List.getElem_cons_succ]
          refine wpAnyH_take (i := 13) (v := undef) rfl (by kernel_rfl) (by kernel_rfl) (by kernel_rfl) (fun _ _ _ h => h) (Or.inr ⟨by rfl, rfl⟩) hHeld ?_
          simp only [Act.put, List.setIfInBounds_toArray, List.set_cons_zero, List.set_cons_succ, List.getElem_toArray, List.getElem_cons_zero, List.getElem_cons_succ]
          refine wpAnyH_take (i := 14) (v := undef) rfl (by kernel_rfl) (by kernel_rfl) (by kernel_rfl) (fun _ _ _ h => h) (Or.inr ⟨by rfl, rfl⟩) hHeld ?_
          simp only [Act.put, List.setIfInBounds_toArray, List.set_cons_zero, List.set_cons_succ, List.getElem_toArray, List.getElem_cons_zero, List.getElem_cons_succ]
          refine wpAnyH_take (i := 15) (v := undef) rfl (by kernel_rfl) (by kernel_rfl) (by kernel_rfl) (fun _ _ _ h => h) (Or.inr ⟨by rfl, rfl⟩) hHeld ?_
          simp only [Act.put, List.setIfInBounds_toArray, List.set_cons_zero, List.set_cons_succ, List.getElem_toArray, List.getElem_cons_zero, List.getElem_cons_succ]
          refine wpAnyH_take (i := 16) (v := undef) rfl (by kernel_rfl) (by kernel_rfl) (by kernel_rfl) (fun _ _ _ h => h) (Or.inr ⟨by rfl, rfl⟩) hHeld ?_
          simp only [Act.put, List.setIfInBounds_toArray, List.set_cons_zero, List.set_cons_succ, List.getElem_toArray, List.getElem_cons_zero, List.getElem_cons_succ]
          refine wpAnyH_take (i := 17) (v := undef) rfl (by kernel_rfl) (by kernel_rfl) (by kernel_rfl) (fun _ _ _ h => h) (Or.inr ⟨by rfl, rfl⟩) hHeld ?_
          simp only [Act.put, List.setIfInBounds_toArray, List.set_cons_zero, List.set_cons_succ, List.getElem_toArray, List.getElem_cons_zero, List.getElem_cons_succ]
          refine wpAnyH_take (i := 18) (v := undef) rfl (by kernel_rfl) (by kernel_rfl) (by kernel_rfl) (fun _ _ _ h => h) (Or.inr ⟨by rfl, rfl⟩) hHeld ?_
          simp only [Act.put, List.setIfInBounds_toArray, List.set_cons_zero, List.set_cons_succ, List.getElem_toArray, List.getElem_cons_zero, List.getElem_cons_succ]
          refine wpAnyH_take (i := 19) (v := undef) rfl (by kernel_rfl) (by kernel_rfl) (by kernel_rfl) (fun _ _ _ h => h) (Or.inr ⟨by rfl, rfl⟩) hHeld ?_
          simp only [Act.put, List.setIfInBounds_toArray, List.set_cons_zero, List.set_cons_succ, List.getElem_toArray, List.getElem_cons_zero, List.getElem_cons_succ]
          refine wpAnyH_take (i := 20) (v := undef) rfl (by kernel_rfl) (by kernel_rfl) (by kernel_rfl) (fun _ _ _ h => h) (Or.inr ⟨by rfl, rfl⟩) hHeld ?_
          simp only [Act.put, List.setIfInBounds_toArray, List.set_cons_zero, List.set_cons_succ, List.getElem_toArray, List.getElem_cons_zero, List.getElem_cons_succ]
          refine wpAnyH_take (i := 21) (v := undef) rfl (by kernel_rfl) (by kernel_rfl) (by kernel_rfl) (fun _ _ _ h => h) (Or.inr ⟨by rfl, rfl⟩) hHeld ?_
          simp only [Act.put, List.setIfInBounds_toArray, List.set_cons_zero, List.set_cons_succ, List.getElem_toArray, List.getElem_cons_zero, List.getElem_cons_succ]
          refine wpAnyH_take (i := 22) (v := undef) rfl (by kernel_rfl) (by kernel_rfl) (by kernel_rfl) (fun _ _ _ h => h) (Or.inr ⟨by rfl, rfl⟩) hHeld ?_
          simp only [Act.put, List.setIfInBounds_toArray, List.set_cons_zero, List.set_cons_succ, List.getElem_toArray, List.getElem_cons_zero, List.getElem_cons_succ]
          refine wpAnyH_take (i := 23) (v := undef) rfl (by kernel_rfl) (by kernel_rfl) (by kernel_rfl) (fun _ _ _ h => h) (Or.inr ⟨by rfl, rfl⟩) hHeld ?_
          simp only [Act.put, List.setIfInBounds_toArray, List.set_cons_zero, List.set_cons_succ, List.getElem_toArray, List.getElem_cons_zero, List.getElem_cons_succ]
          refine wpAnyH_take (i := 24) (v := .bool true) rfl (by kernel_rfl) (by kernel_rfl) (by kernel_rfl) (fun _ _ _ h => h) (Or.inl ⟨by rfl, fun wx hSw => by go_simp⟩) hHeld ?_
          simp only [Act.put, List.setIfInBounds_toArray, List.set_cons_zero, List.set_cons_succ, List.getElem_toArray, List.getElem_cons_zero, List.getElem_cons_succ]
          refine wpAnyH_done (by kernel_rfl) ?_ _
          clear hHeld HSS
          go_wp2
          go_ret
          exact ⟨_, rfl, fun e => absurd (HGE.out e).1 HNE.out, HOD.out⟩
      · have HO : Hid (Only (fun _ => False) w W) := ho
        clear ho
        go_wp2
        go_ret
        exact ⟨_, rfl, fun _ => rfl, HO.out⟩
  · have hne : ((n : Int) != (n2 : Int)) = true := by simp; omega
    have HNE : Hid (¬ n = n2) := hl
    clear hl
    go_enter Tryz.func21, Tryz.ntmps21
    go_wp2
    go_ret
    exact ⟨_, rfl, fun e => (by exfalso; apply HNE.out; rw [HN.out.1, HN.out.2, e]), Only.refl _ _⟩
end Go.Proofs.YtpoakkdkibameaaGreat
namespace Go.Proofs.YtpoakkdkibameaaGreat
open Go.RowKit Go.Maps Go.Shelf
set_option linter.unusedSimpArgs false
set_option linter.unusedVariables false

theorem wrsR_byte : ∀ (l : List (Nat × Nat × List Nat)) (r : Int × DS), (∀ q ∈ l, ∀ z ∈ q.2.2, z < 256) → ByteD r.2 → Good r.2 → ByteD (wrsR l r).2 ∧ Good (wrsR l r).2 ∧ (wrsR l r).2.n = r.2.n
  | [], r, _, h1, h2 => ⟨h1, h2, rfl⟩
  | q :: l, r, hz, h1, h2 => by
    have key : ByteD (wrsS r q).2 ∧ Good (wrsS r q).2 ∧ (wrsS r q).2.n = r.2.n := by
      unfold wrsS
      split
      · exact ⟨h1, h2, rfl⟩
      · have := wpage_facts (d := r.2) (q.1 : Int) q.2.1 q.2.2 (hz q (List.mem_cons_self ..)) h1 h2
        exact ⟨this.1, this.2.1, this.2.2.1⟩
    obtain ⟨i1, i2, i3⟩ := wrsR_byte l (wrsS r q) (fun s hs => hz s (List.mem_cons_of_mem _ hs)) key.1 key.2.1
    exact ⟨i1, i2, i3.trans key.2.2⟩
theorem allW_byte {x : SS} (hr : Rise x.now) (hb : ∀ p ∈ x.now, ∀ z ∈ p.2.2, z < 256) : ∀ q ∈ allW x, ∀ z ∈ q.2.2, z < 256 := by
  have hLr : Rise (laid x) := layP_rise hr _
  have hLz : ∀ i y, getL (laid x) i = some y → ∀ z ∈ y.2, z < 256 := fun i y e z hz => by
    have hm := (getL_mem hLr i y).1 e
    have : (i, y.2) ∈ (laid x).map (fun p => (p.1, p.2.2)) := List.mem_map.2 ⟨_, hm, rfl⟩
    unfold laid layP at this
    rw [layK_data] at this
    obtain ⟨q, hq, e2⟩ := List.mem_map.1 this
    injection e2 with _ e2
    rw [← e2] at hz
    exact hb q hq z hz
  intro q hq z hz
  rcases List.mem_append.1 hq with hq | hq
  · obtain ⟨i, hi, rfl⟩ := List.mem_map.1 hq
    simp only [pgAt] at hz
    cases e : getL (laid x) (i : Int) with
    | none => rw [e] at hz; cases hz
    | some y => rw [e] at hz; exact hLz _ y e z hz
  · obtain ⟨j, hj, rfl⟩ := List.mem_map.1 hq
    simp only at hz
    rcases List.mem_append.1 hz with hz | hz
    · exact layB_lt _ _ z hz
    · exact tabB_byte _ z (List.mem_of_mem_drop (List.mem_of_mem_take hz))
theorem write_byte {d : DS} {k : Int} {f : Nat → Int} (h : ByteD d) (hf : Byt f) : ByteD (d.write k f 32).2 ∧ (d.write k f 32).2.n = d.n := by
  unfold DS.write
  rw [if_neg (by simp)]
  split
  · exact ⟨h, rfl⟩
  · split
    · exact ⟨h, rfl⟩
    · refine ⟨⟨byt_upd h.sec _ _ hf, fun x hx => ?_, fun x hx => ?_⟩, rfl⟩
      · rcases List.mem_append.1 hx with hx | hx
        · exact h.bef x hx
        · rw [List.mem_singleton] at hx; rw [hx]; exact h.sec _
      · rcases List.mem_append.1 hx with hx | hx
        · exact h.aft x hx
        · rw [List.mem_singleton] at hx; rw [hx]; exact hf
theorem barrier_byte {d : DS} (h : ByteD d) : ByteD d.barrier.2 ∧ d.barrier.2.n = d.n := by
  unfold DS.barrier
  split
  · exact ⟨h, rfl⟩
  · exact ⟨⟨h.sec, fun x hx => (by cases hx), fun x hx => (by cases hx)⟩, rfl⟩
theorem cm_byte {x : SS} {d : DS} (hfit : needN x ≤ freeN x x.size) (hr : Rise x.now) (hb : ∀ p ∈ x.now, ∀ z ∈ p.2.2, z < 256) (h : ByteD d) (hg : Good d) : ByteD (cmX x d).2 ∧ (cmX x d).2.n = d.n := by
  rw [cm_eq hfit]
  obtain ⟨h1, h2, h3⟩ := wrsR_byte (allW x) (0, d) (allW_byte hr hb) h hg
  obtain ⟨b1, b2⟩ := barrier_byte h1
  split
  · exact ⟨h1, h3⟩
  · split
    · exact ⟨b1, b2.trans h3⟩
    · unfold DS.keep
      obtain ⟨c1, c2⟩ := write_byte (k := ((4 - x.sector : Nat) : Int)) (f := byF (rootB ((x.epoch + 1) % 18446744073709551616) ((tbs x).getD 0 0) (tbs x).length)) b1 (byF_byt (rootB_lt _ _ _))
      split
      · exact ⟨c1, c2.trans (b2.trans h3)⟩
      · obtain ⟨e1, e2⟩ := barrier_byte c1
        exact ⟨e1, e2.trans (c2.trans (b2.trans h3))⟩
/-- On a dead disk a commit is not carried out. -/
theorem cm_dead {x : SS} {d : DS} (hfit : needN x ≤ freeN x x.size) (hl : d.life = 0) : (cmX x d).1 ≠ 0 := by
  have hw4 : ∀ P Z k, (d.wr4 P Z k).2 = d := fun P Z k => by
    induction k with
    | zero => rfl
    | succ k ih =>
      simp only [DS.wr4]
      split
      · rw [ih]; unfold DS.write; rw [if_neg (by simp), if_pos hl]
      · exact ih
  have hp : ∀ (P : Int) id D, (d.wpage P id D).2 = d := fun P id D => by
    unfold DS.wpage
    split
    · rfl
    · split
      · rfl
      · exact hw4 _ _ _
  have hR : ∀ (l : List (Nat × Nat × List Nat)) (c : Int), (wrsR l (c, d)).2 = d := fun l => by
    induction l with
    | nil => intro c; rfl
    | cons q l ih =>
      intro c
      show (wrsR l (wrsS (c, d) q)).2 = d
      have : wrsS (c, d) q = ((wrsS (c, d) q).1, d) := by
        refine Prod.ext rfl ?_
        unfold wrsS
        split
        · rfl
        · exact hp _ _ _
      rw [this]
      exact ih _
  rw [cm_eq hfit]
  split
  · assumption
  · have hb : (wrsR (allW x) (0, d)).2.barrier = (3, d) := by
      rw [hR]
      unfold DS.barrier
      rw [if_pos hl]
    rw [hb, if_pos (by simp)]
    simp
/-- A store with its disk, which has a life; the blocks that calls turn are K's, and older than m. -/
structure LiveAt (w : World) (K : Nat → Prop) (m s p S : Nat) (x : SS) (d : DS) : Prop where
  all : ∃ pv mc mn tv B, DiskAt w B p S pv d ∧ B ≤ w.heap.size ∧ StAt w (diskB p S pv) s p mc mn tv x ∧ ∀ k, mutB (diskB p S pv) s mc mn k → K k ∧ k < m
/-- Live, of a store's disk. -/
theorem pairk_live {w0 w : World} {K : Nat → Prop} {s p S : Nat} {x : SS} {d : DS} (h : PairK w0 K s p S x d) (ho : Only (fun _ => False) w0 w) (L : Int) (h1 : -1 ≤ L) (h2 : L ≤ 9223372036854775807) :
    Calls Tryz.prog 17 #[.pointer (some ⟨p, 0, none⟩), .int .i64 L] w fun e w' => e = .returned (.int .i64 0) ∧ Hid (LiveAt w' K w0.heap.size s p S x { d with life := L } ∧ Only (fun k => K k ∧ k < w0.heap.size) w w') := by
  obtain ⟨pv, mc, mn, tv, B, q1, q2, q3, q4⟩ := h.all
  have q1' : DiskAt w B p S pv d := q1.frame ho (fun _ _ e => e)
  have q3' := q3.still ho
  have hlt : ∀ k, mutB (diskB p S pv) s mc mn k → K k ∧ k < w0.heap.size := fun k e => ⟨q4 k e, by
    rcases e with e | e | e | e
    · rw [e]; exact q3.lt
    · rw [e]; exact q3.com.lt
    · rw [e]; exact q3.now.lt
    · exact (q1.lt k e).2⟩
  refine (live_any p S B pv d L w q1' h1 h2).mono ?_
  rintro e w' ⟨rfl, r1, r2⟩
  refine ⟨rfl, ⟨pv, mc, mn, tv, B, r1, Nat.le_trans q2 (Nat.le_trans ho.size r2.size), q3'.frame r2 (fun k _ e => ?_) (fun _ _ e => e), hlt⟩, r2.mono (fun k _ e => ?_)⟩
  · rw [e]; exact .inl rfl
  · rw [e]; exact hlt p (.inr (.inr (.inr (.inl rfl))))
/-- What a crash and Open make of a disk. -/
structure CrAt (w : World) (K : Nat → Prop) (m p S : Nat) (T1 T2 : List (Int × List Nat)) (r : Int) (n : Nat) : Prop where
  all : ∃ pv B d, DiskAt w B p S pv d ∧ ByteD d ∧ d.n = n ∧ (K p ∧ p < m) ∧ (K S ∧ S < m) ∧ ∀ ks torn cut, ¬ (cut < 0 ∨ 32 < cut) → ∃ y, openR (d.crash ks torn cut).2 = some y ∧ (tells y = T1 ∧ r ≠ 0 ∨ tells y = T2 ∧ r ≠ 7)
/-- A commit on a disk that has a life. -/
theorem commit_cr {w : World} {K : Nat → Prop} {m s p S : Nat} {x x0 : SS} {d : DS} {L : Int} (h : LiveAt w K m s p S x { d with life := L }) (hx : ∃ l, x = { x0 with now := l }) (hx0 : x0.now = x0.com) (hi : Inv x) (hH : Hold x0 d) (hO : Oth x0 d) (hep : x0.epoch + 1 < 18446744073709551616) (hbd : ByteD d) (hp : d.pend = []) (hn : d.n / 4 = x.size) (hb : ∀ p ∈ x.now, ∀ z ∈ p.2.2, z < 256) :
    Calls Tryz.prog 18 #[.pointer (some ⟨s, 0, none⟩)] w fun e w' => ∃ r, e = .returned (.int .i64 r) ∧ Hid (CrAt w' K m p S (tells x0) (tells x) r d.n ∧ Only (fun k => K k ∧ k < m) w w') ∧ Hid ((r = 7 ∧ freeN x x.size < needN x) ∨ (r = 3 ∧ needN x ≤ freeN x x.size) ∨ (r = 0 ∧ L ≠ 0 ∧ needN x ≤ freeN x x.size)) := by
  obtain ⟨l, rfl⟩ := hx
  obtain ⟨x, hxx⟩ : ∃ x, x = { x0 with now := l } := ⟨_, rfl⟩
  rw [← hxx] at h hi hn hb ⊢
  obtain ⟨pv, mc, mn, tv, B, q1, q2, q3, q4⟩ := h.all
  have hw := q3.wf
  have hr := q3.now.rise
  have hcr := q3.com.rise
  have eT : tells { x with now := x.com } = tells x0 := by
    rw [hxx]
    unfold tells
    rw [hx0]
  have hH' : Hold x { d with life := L } := by rw [hxx]; exact ⟨hH.root, hH.tabs, hH.tab, hH.page, hH.pos⟩
  have hO' : Oth x { d with life := L } := by rw [hxx]; exact hO
  have hbd' : ByteD { d with life := L } := ⟨hbd.sec, hbd.bef, hbd.aft⟩
  have hep' : x.epoch + 1 < 18446744073709551616 := by rw [hxx]; exact hep
  have hg : Good { d with life := L } := by unfold Good; simp only; rw [hp]; rfl
  have hn' : ({ d with life := L } : DS).n / 4 = x.size := hn
  have hkp := q4 p (.inr (.inr (.inr (.inl rfl))))
  have hkS := q4 S (.inr (.inr (.inr (.inr (.inl rfl)))))
  have hlt := fun k (e : diskB p S pv k ∨ k = s) => (show K k ∧ k < m from by
    rcases e with e | e
    · exact q4 k (.inr (.inr (.inr e)))
    · exact q4 k (.inl e))
  have op1 : ∀ d2 : DS, d2.n = d.n → Hold x d2 → Low x d2 → openR d2 = some { x with now := x.com } := fun d2 e1 e2 e3 => open_back hw hcr (by rw [e1]; exact hn) hi.1 e2 e3
  refine (commit_any q3 q1 q2 hbd' hg (by simp only; rw [hp]; simp)).mono ?_
  intro e w' hh
  rcases hh.out with ⟨c1, rfl, c2⟩ | ⟨c1, c2, rfl, pv', c3, c4, c5, c6⟩ | ⟨c1, c2, rfl, pv', mc', mn', tv', c3, c4, c5, c6, c7, c8⟩
  · refine ⟨7, rfl, ⟨⟨pv, B, _, q1.frame c2 (fun _ _ e => e), hbd', rfl, hkp, hkS, fun ks torn cut hc => ⟨_, op1 _ ?_ ?_ ?_, .inl ⟨eT, by simp⟩⟩⟩, c2.mono (fun _ _ e => e.elim)⟩, .inl ⟨rfl, c1⟩⟩
    · rw [crash_eq _ ks torn cut hc]
    · have := crash_nil { d with life := L } hp ks torn cut hc
      exact hold_safe hw (fun i _ _ => by rw [this]) hH'
    · have := crash_nil { d with life := L } hp ks torn cut hc
      unfold Low
      rw [this]
      exact hO'.low
  · have hnw := next_wf hw c1
    have cb := cm_byte c1 hr hb hbd' hg
    have op2 : ∀ d2 : DS, d2.n = d.n → Hold x.next d2 → Low x.next d2 → openR d2 = some x.next := fun d2 e1 e2 e3 => open_back hnw (layP_rise hr _) (by rw [e1]; exact hn) (next_nodup hw hr c1 hi) e2 e3
    refine ⟨3, rfl, ⟨⟨pv', B, _, c3, cb.1, cb.2, hkp, hkS, fun ks torn cut hc => ?_⟩, c5.mono (fun k _ e => hlt k e)⟩, .inr (.inl ⟨rfl, c1⟩)⟩
    have hcn : ((cmX x { d with life := L }).2.crash ks torn cut).2.n = d.n := by rw [crash_eq _ ks torn cut hc]; exact cb.2
    rcases (cm_crash hw c1 hn' hr hi hb hep' hH' hO' hbd' hp ks torn cut hc).1 c2 with ⟨e1, e2⟩ | ⟨e1, e2⟩
    · exact ⟨_, op1 _ hcn e1 e2, .inl ⟨eT, by simp⟩⟩
    · exact ⟨_, op2 _ hcn e1 e2, .inr ⟨tells_next x, by simp⟩⟩
  · have hnw := next_wf hw c1
    have cb := cm_byte c1 hr hb hbd' hg
    have op2 : ∀ d2 : DS, d2.n = d.n → Hold x.next d2 → Low x.next d2 → openR d2 = some x.next := fun d2 e1 e2 e3 => open_back hnw (layP_rise hr _) (by rw [e1]; exact hn) (next_nodup hw hr c1 hi) e2 e3
    refine ⟨0, rfl, ⟨⟨pv', B, _, c3, cb.1, cb.2, hkp, hkS, fun ks torn cut hc => ?_⟩, c5.mono (fun k _ e => hlt k e)⟩, .inr (.inr ⟨rfl, fun hL => cm_dead (d := { d with life := L }) c1 hL c2, c1⟩)⟩
    have hcn : ((cmX x { d with life := L }).2.crash ks torn cut).2.n = d.n := by rw [crash_eq _ ks torn cut hc]; exact cb.2
    obtain ⟨e1, e2⟩ := (cm_crash hw c1 hn' hr hi hb hep' hH' hO' hbd' hp ks torn cut hc).2 c2
    exact ⟨_, op2 _ hcn e1 e2, .inr ⟨tells_next x, by simp⟩⟩
/-- The disk behind the crash. -/
def OpAt (w : World) (p S : Nat) (T1 T2 : List (Int × List Nat)) (r : Int) (n : Nat) : Prop := ∃ pv B d, DiskAt w B p S pv d ∧ ByteD d ∧ d.n = n ∧ d.life ≠ 0 ∧ ∃ y, openR d = some y ∧ (tells y = T1 ∧ r ≠ 0 ∨ tells y = T2 ∧ r ≠ 7)
theorem crash_cr {w : World} {K : Nat → Prop} {m p S : Nat} {T1 T2 : List (Int × List Nat)} {r : Int} {n : Nat} (h : CrAt w K m p S T1 T2 r n) (kv : Value) (ks : List Bool) (torn cut : Int) (hc : ¬ (cut < 0 ∨ 32 < cut)) {w2 : World} (ho : Only (fun _ => False) w w2) (hk : DFlags w2 kv ks.length (fun j => ks.getD j false) S) :
    Calls Tryz.prog 19 #[.pointer (some ⟨p, 0, none⟩), kv, .int .i64 torn, .int .i64 cut] w2 fun e w' => e = .returned (.int .i64 0) ∧ Hid (OpAt w' p S T1 T2 r n ∧ Only (fun k => K k ∧ k < m) w2 w') := by
  obtain ⟨pv, B, d, q1, q2, q3, q4, q5, q6⟩ := h.all
  refine (crash_all p S B pv kv d ks torn cut w2 (q1.frame ho (fun _ _ e => e)) hk).mono ?_
  rintro e w' ⟨rfl, pv', r1, r2, r3⟩
  refine ⟨by rw [crash_eq d ks torn cut hc], ⟨pv', B, _, r1, crash_byte q2 ks torn cut hc, by rw [crash_eq d ks torn cut hc]; exact q3, by rw [crash_eq d ks torn cut hc]; simp, q6 ks torn cut hc⟩, r2.mono (fun k _ e => ?_)⟩
  rcases e with e | e
  · rw [e]; exact q4
  · rw [e]; exact q5
/-- Open behind the crash, and what it tells. -/
theorem open_cr {w : World} {p S : Nat} {T1 T2 : List (Int × List Nat)} {r : Int} {n : Nat} (h : OpAt w p S T1 T2 r n) (hn : 3 ≤ n / 4) :
    Calls Tryz.prog 20 #[.pointer (some ⟨p, 0, none⟩)] w fun e w' => ∃ s', e = .returned (.tuple #[.pointer (some ⟨s', 0, none⟩), .int .i64 0]) ∧ Hid (Only (fun _ => False) w w' ∧ ∃ dk mc mn tv y, StAt w' dk s' p mc mn tv y ∧ (tells y = T1 ∧ r ≠ 0 ∨ tells y = T2 ∧ r ≠ 7)) := by
  obtain ⟨pv, B, d, q1, q2, q3, q4, y, q5, q6⟩ := h
  refine (open_any p S B pv d w q1 q4 q2 (by rw [q3]; exact hn) (fun k => k < w.heap.size) (fun _ e => e)).mono ?_
  intro e w' hh
  rw [q5] at hh
  obtain ⟨r1, s', mc, mn, tv, rfl, r2, r3, r4, r5⟩ := hh.out
  exact ⟨s', rfl, r1, _, mc, mn, tv, y, r2, q6⟩
end Go.Proofs.YtpoakkdkibameaaGreat
