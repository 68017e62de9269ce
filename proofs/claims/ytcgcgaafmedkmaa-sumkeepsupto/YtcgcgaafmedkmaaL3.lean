/- What Join and the document's Join answer. -/
import Derived.Test.YtcgcgaafmedkmaaL2
namespace Go.Proofs.Ytcgcgaafmedkmaa
open Go.RowKit
set_option linter.unusedSimpArgs false
set_option linter.unusedVariables false

/-- append(v, u...) where v was made since B. -/
theorem app_fresh {w : World} {B : Nat} {v u : Value} {zs ys : List Nat} (h : Fresh w B v zs) (hu : BytesAt w u ys) (hB : B ≤ w.heap.size) (hl : zs.length + ys.length ≤ 140737488355328) :
    ∃ a cap w', (∀ ty, (Builtin.append_ #[22, 22] ty #[v, u]).run Try.prog w = .ok (.slice a (zs.length + ys.length) cap) w') ∧ Fresh w' B (.slice a (zs.length + ys.length) cap) (zs ++ ys) ∧ w.grownBy w' v.ownBlock := by
  obtain ⟨i0, hi0, hz0, hz1, hz2⟩ := info_parts info5
  rcases hu.1 with ⟨rfl, h0⟩ | ⟨ad, c, rfl, hkc, hc⟩
  · obtain rfl : ys = [] := List.eq_nil_of_length_eq_zero h0
    obtain ⟨a, cap, rfl⟩ := h.form
    refine ⟨a, cap, w, fun ty => run_append_owned_none _ B 22 ty 5 i0 1 Try.underlying22 hi0 _ zs.length (BL zs) h.1, by simpa using h, ⟨rfl, rfl, rfl, Nat.le_refl _, fun _ _ _ => rfl⟩⟩
  · have hnews : ∀ j x, (BL ys)[j]? = some x → w.cell? (ad.add j) = some x := fun j x hx => by
      have hj : j < ys.length := by have := (List.getElem?_eq_some_iff.1 hx).1; rwa [BL_length] at this
      rw [hc j (by omega)]
      rw [BL_get _ _ hj] at hx
      rw [← hx]
      simp [List.getD, hj]
    have key := fun ty => run_append_own_at (P := Try.prog) w B 22 ty 5 i0 _ 1 1 Try.underlying22 hi0 hz0 hz1 hz2 rfl (by omega) v zs.length (BL zs) h.1 ad ys.length c (BL ys) (by rw [BL_length]; omega) hnews (BL_one ys) (by unfold maxLen; omega) (by omega) hB
    obtain ⟨v', w', hr, own', hg, _, _⟩ := key 0
    obtain ⟨a, cap, rfl⟩ := ownsRow_slice own'
    exact ⟨a, cap, w', fun ty => by rw [← hr]; rfl, Fresh.more own' hl h.2.2 hu.2.2, hg⟩

/-- The lists as bytes. -/
def parts (L : List (List Nat)) : List Nat := L.flatMap fun z => num z.length ++ z
def join (L : List (List Nat)) : List Nat := num L.length ++ parts L
theorem parts_snoc (L : List (List Nat)) (z : List Nat) : parts (L ++ [z]) = parts L ++ (num z.length ++ z) := by simp [parts]
theorem parts_take (L : List (List Nat)) (k : Nat) (h : k < L.length) : parts (L.take (k + 1)) = parts (L.take k) ++ (num (L.getD k []).length ++ L.getD k []) := by
  rw [List.take_succ_eq_append_getElem h, parts_snoc]
  simp [List.getD, h]
theorem parts_len (L : List (List Nat)) (h : ∀ z ∈ L, z.length < 9223372036854775808) : (parts L).length ≤ 9 * L.length + total L := by
  induction L with
  | nil => simp [parts, total]
  | cons z r ih =>
    have h1 := ih (fun y hy => h y (List.mem_cons_of_mem _ hy))
    have h2 := num_nine (h z List.mem_cons_self)
    simp only [parts, total, List.flatMap_cons, List.length_append, List.map_cons, List.sum_cons, List.length_cons] at h1 ⊢
    omega
theorem LL.byte {w : World} {v : Value} {L : List (List Nat)} (h : LL w v L) : ∀ z ∈ L, (∀ y ∈ z, y < 256) ∧ z.length ≤ 140737488355328 := by
  obtain ⟨us, h1, h2, h3⟩ := h
  intro z hz
  obtain ⟨j, hj, rfl⟩ := List.getElem_of_mem hz
  have := h3 j hj
  simp only [List.getD, List.getElem?_eq_getElem hj, Option.getD_some] at this
  exact ⟨this.2.2, this.2.1⟩
theorem cell_len {u : Value} {w : World} {zs : List Nat} (h : BytesAt w u zs) : ∃ a c, u = .slice a zs.length c := by
  obtain ⟨a, c, hv, _⟩ := h.form
  exact ⟨a, c, hv⟩

set_option maxRecDepth 100000 in
set_option maxHeartbeats 2000000 in
theorem join_any (v : Value) (L : List (List Nat)) (w : World) (h : LL w v L) (hL : L.length ≤ 1048576) (ht : total L ≤ 1048576) :
    Calls Try.prog 18 #[v] w fun e w' => ∃ u, e = .returned u ∧ Fresh w' w.heap.size u (join L) ∧ Only (fun _ => False) w w' := by
  have hby := h.byte
  have hpl : ∀ k, (num L.length ++ parts (L.take k)).length ≤ 11000000 := fun k => by
    have h1 := parts_len (L.take k) (fun z hz => by have := (hby z (List.mem_of_mem_take hz)).2; omega)
    have h2 := num_nine (n := L.length) (by omega)
    have h3 := total_take_le L k
    rw [List.length_append]
    rw [List.length_take] at h1
    omega
  obtain ⟨a, c, rfl, hc⟩ := h.form
  have HC : Hid _ := hc
  have HPL : Hid _ := hpl
  have HT : Hid (total L ≤ 1048576) := ht
  obtain ⟨n, hn⟩ : ∃ n, n = L.length := ⟨_, rfl⟩
  have HN : Hid (n = L.length) := hn
  rw [← hn]
  rw [← hn] at hL
  have hmod : n % 9223372036854775808 = n := by omega
  have HMOD : Hid (n % 9223372036854775808 = n) := hmod
  clear h hc hn hpl hby ht hmod
  go_enter Try.func18, Try.ntmps18
  go_wp2_with fail
  refine (number_any n w (by omega)).mono ?_
  rintro e w1 ⟨u0, rfl, hf, ho⟩
  rw [HMOD.out, HN.out] at hf
  have HF1 : Hid (Fresh w1 w.heap.size u0 (num L.length)) := hf
  have HO1 : Hid (Only (fun _ => False) w w1) := ho
  clear hf ho HMOD
  go_wp2_with fail
  go_loopw [3, 12] (fun b t wr => ∃ (k : Nat), k ≤ n ∧ t = .int .i64 k ∧ Fresh wr w.heap.size b (num L.length ++ parts (L.take k)) ∧ Only (fun _ => False) w wr) (fun _ t _ => n - (intOf t).toNat)
  case atStart => exact ⟨0, Nat.zero_le _, rfl, by simpa [parts] using HF1.out, HO1.out⟩
  case round =>
    obtain ⟨k, hk, rfl, hfr, ho⟩ := hrel
    obtain ⟨w2, rfl⟩ : ∃ w2, w2 = wr := ⟨_, rfl⟩
    obtain ⟨b, rfl⟩ : ∃ x, x = u3 := ⟨_, rfl⟩
    have HF : Hid (Fresh w2 w.heap.size b (num L.length ++ parts (L.take k))) := hfr
    have HO : Hid (Only (fun _ => False) w w2) := ho
    have hsz : w.heap.size ≤ w2.heap.size := ho.size
    clear hfr
    by_cases hlt : k < n
    · have k0 : (0 : Int) ≤ (k : Int) := Int.natCast_nonneg _
      have k1 : (k : Int) < (n : Int) := by omega
      obtain ⟨g, o, u, rfl, hcell, hby⟩ := HC.out k (by have := HN.out; omega)
      have x1 := ho.cell hcell (fun e => e)
      have hby2 := hby.frame ho
      obtain ⟨a2, c2, hu⟩ := cell_len hby2
      obtain ⟨m2, hm2⟩ : ∃ m, m = (L.getD k []).length := ⟨_, rfl⟩
      rw [← hm2] at hu
      subst hu
      have HBY : Hid (BytesAt w (.slice a2 m2 c2) (L.getD k [])) := hby
      have hm3 : m2 ≤ 140737488355328 := hm2 ▸ hby2.2.1
      have HM2 : Hid (m2 = (L.getD k []).length) := hm2
      have HL1 : Hid ((num L.length ++ parts (L.take k)).length ≤ 11000000) := HPL.out k
      have HL2 : Hid (((num L.length ++ parts (L.take k)) ++ (num m2 ++ L.getD k [])).length ≤ 11000000) := by
        have := HPL.out (k + 1)
        rw [parts_take L k (by have := HN.out; omega), ← hm2, ← List.append_assoc] at this
        exact this
      have HMO : Hid (m2 % 9223372036854775808 = m2) := by show _ = _; omega
      clear ho hcell hby hby2 hm2
      go_wp2_with fail
      refine (appnum_any b _ w.heap.size m2 w2 HF.out hsz (by omega) (by have := HL1.out; omega)).mono ?_
      rintro e w3 ⟨u4, rfl, hf, ho3⟩
      rw [HMO.out] at hf
      have ho4 : Only (fun _ => False) w w3 := HO.out.trans ho3 (fun i hi e => by omega)
      have HO4 : Hid _ := ho4
      obtain ⟨a5, c5, w5, hr, hf5, hg5⟩ := app_fresh hf (HBY.out.frame ho4) (by have := ho4.size; omega) (by have := HL2.out; rw [← List.append_assoc, List.length_append] at this; omega)
      have HO5 : Hid (Only (fun _ => False) w w5) := ho4.grown hg5 (fun q e hq => by have := (own_lt hf q e).1; omega)
      have HF5 : Hid (Fresh w5 w.heap.size (.slice a5 (((num L.length ++ parts (L.take k)) ++ num m2).length + (L.getD k []).length) c5) (num L.length ++ parts (L.take (k + 1)))) := by
        have e : num L.length ++ parts (L.take (k + 1)) = ((num L.length ++ parts (L.take k)) ++ num m2) ++ L.getD k [] := by
          rw [parts_take L k (by have := HN.out; omega), ← HM2.out]
          simp only [List.append_assoc]
        rw [e]
        exact hf5
      obtain ⟨q5, hq5⟩ : ∃ q, q = ((num L.length ++ parts (L.take k)) ++ num m2).length + (L.getD k []).length := ⟨_, rfl⟩
      rw [← hq5] at hr HF5
      have HR : Hid _ := hr
      clear hr hf5 hg5 hf ho3 ho4 hq5 x1
      go_wp2_with (at_builtin; refine wpList_append_run rfl _ _ 22 rfl _ _ (.slice a5 q5 c5) rfl rfl HR.out ?_)
      go_roundw
      case rel => exact ⟨k + 1, by omega, by go_num, HF5.out, HO5.out⟩
      case measure => simp [intOf]; omega
    · obtain rfl : k = n := by omega
      clear ho
      go_wp2
      go_ret
      refine ⟨b, rfl, ?_, HO.out⟩
      have := HF.out
      rwa [HN.out, List.take_length] at this

set_option maxRecDepth 100000 in
set_option maxHeartbeats 2000000 in
theorem rjoin_any (v : Value) (L : List (List Nat)) (w : World) (h : LL w v L) (hL : L.length ≤ 1048576) (ht : total L ≤ 1048576) :
    Calls Try.prog 20 #[v] w fun e w' => ∃ u, e = .returned u ∧ Fresh w' w.heap.size u (join L) ∧ Only (fun _ => False) w w' := by
  have hby := h.byte
  have hpl : ∀ k, (num L.length ++ parts (L.take k)).length ≤ 11000000 := fun k => by
    have h1 := parts_len (L.take k) (fun z hz => by have := (hby z (List.mem_of_mem_take hz)).2; omega)
    have h2 := num_nine (n := L.length) (by omega)
    have h3 := total_take_le L k
    rw [List.length_append]
    rw [List.length_take] at h1
    omega
  obtain ⟨a, c, rfl, hc⟩ := h.form
  have HC : Hid _ := hc
  have HPL : Hid _ := hpl
  have HT : Hid (total L ≤ 1048576) := ht
  obtain ⟨n, hn⟩ : ∃ n, n = L.length := ⟨_, rfl⟩
  have HN : Hid (n = L.length) := hn
  rw [← hn]
  rw [← hn] at hL
  have hmod : n % 9223372036854775808 = n := by omega
  have HMOD : Hid (n % 9223372036854775808 = n) := hmod
  clear h hc hn hpl hby ht hmod
  go_enter Try.func20, Try.ntmps20
  go_wp2_with fail
  refine (rnumber_any n w (by omega)).mono ?_
  rintro e w1 ⟨u0, rfl, hf, ho⟩
  rw [HMOD.out, HN.out] at hf
  have HF1 : Hid (Fresh w1 w.heap.size u0 (num L.length)) := hf
  have HO1 : Hid (Only (fun _ => False) w w1) := ho
  clear hf ho HMOD
  go_wp2_with fail
  go_loopw [3, 4] (fun b t wr => ∃ (k : Nat), k ≤ n ∧ t = .int .i64 k ∧ Fresh wr w.heap.size b (num L.length ++ parts (L.take k)) ∧ Only (fun _ => False) w wr) (fun _ t _ => n - (intOf t).toNat)
  case atStart => exact ⟨0, Nat.zero_le _, rfl, by simpa [parts] using HF1.out, HO1.out⟩
  case round =>
    obtain ⟨k, hk, rfl, hfr, ho⟩ := hrel
    obtain ⟨w2, rfl⟩ : ∃ w2, w2 = wr := ⟨_, rfl⟩
    obtain ⟨b, rfl⟩ : ∃ x, x = u3 := ⟨_, rfl⟩
    have HF : Hid (Fresh w2 w.heap.size b (num L.length ++ parts (L.take k))) := hfr
    have HO : Hid (Only (fun _ => False) w w2) := ho
    have hsz : w.heap.size ≤ w2.heap.size := ho.size
    clear hfr
    by_cases hlt : k < n
    · have k0 : (0 : Int) ≤ (k : Int) := Int.natCast_nonneg _
      have k1 : (k : Int) < (n : Int) := by omega
      obtain ⟨g, o, u, rfl, hcell, hby⟩ := HC.out k (by have := HN.out; omega)
      have x1 := ho.cell hcell (fun e => e)
      have HCELL : Hid (w.cell? ⟨g, o + k, none⟩ = some u) := hcell
      obtain ⟨a2, c2, hu⟩ := cell_len hby
      obtain ⟨m2, hm2⟩ : ∃ m, m = (L.getD k []).length := ⟨_, rfl⟩
      rw [← hm2] at hu
      subst hu
      have HBY : Hid (BytesAt w (.slice a2 m2 c2) (L.getD k [])) := hby
      have hm3 : m2 ≤ 140737488355328 := hm2 ▸ hby.2.1
      have HM2 : Hid (m2 = (L.getD k []).length) := hm2
      have HL2 : Hid (((num L.length ++ parts (L.take k)) ++ (num m2 ++ L.getD k [])).length ≤ 11000000) := by
        have := HPL.out (k + 1)
        rw [parts_take L k (by have := HN.out; omega), ← hm2, ← List.append_assoc] at this
        exact this
      have HMO : Hid (m2 % 9223372036854775808 = m2) := by show _ = _; omega
      clear ho hcell hby hm2
      go_wp2_with fail
      refine (rnumber_any m2 w2 (by omega)).mono ?_
      rintro e w3 ⟨u4, rfl, hf, ho3⟩
      rw [HMO.out] at hf
      have hb3 : Fresh w3 w.heap.size b (num L.length ++ parts (L.take k)) := HF.out.frame ho3
      have ho4 : Only (fun _ => False) w w3 := HO.out.trans ho3 (fun i hi e => e)
      have hll := HL2.out
      simp only [List.length_append] at hll
      obtain ⟨a4, c4, w4, hr4, hf4, hg4⟩ := app_fresh hb3 hf.bytes ho4.size (by simp only [List.length_append]; omega)
      have ho5 : Only (fun _ => False) w w4 := ho4.grown hg4 (fun q e hq => by have := (own_lt hb3 q e).1; omega)
      obtain ⟨q4, hq4⟩ : ∃ q, q = (num L.length ++ parts (L.take k)).length + (num m2).length := ⟨_, rfl⟩
      rw [← hq4] at hr4 hf4
      have HR4 : Hid _ := hr4
      have x4 := ho5.cell HCELL.out (fun e => e)
      obtain ⟨a5, c5, w5, hr, hf5, hg5⟩ := app_fresh hf4 (HBY.out.frame ho5) ho5.size (by simp only [List.length_append]; omega)
      have HO5 : Hid (Only (fun _ => False) w w5) := ho5.grown hg5 (fun q e hq => by have := (own_lt hf4 q e).1; omega)
      have HF5 : Hid (Fresh w5 w.heap.size (.slice a5 (((num L.length ++ parts (L.take k)) ++ num m2).length + (L.getD k []).length) c5) (num L.length ++ parts (L.take (k + 1)))) := by
        have e : num L.length ++ parts (L.take (k + 1)) = ((num L.length ++ parts (L.take k)) ++ num m2) ++ L.getD k [] := by
          rw [parts_take L k (by have := HN.out; omega), ← HM2.out]
          simp only [List.append_assoc]
        rw [e]
        exact hf5
      obtain ⟨q5, hq5⟩ : ∃ q, q = ((num L.length ++ parts (L.take k)) ++ num m2).length + (L.getD k []).length := ⟨_, rfl⟩
      rw [← hq5] at hr HF5
      have HR : Hid _ := hr
      clear hr hf5 hg5 hf ho3 ho4 hq5 x1 hr4 hf4 hg4 hq4 ho5 hll hb3
      go_wp2_with (at_builtin; first | (refine wpList_append_run rfl _ _ 22 rfl _ _ (.slice a4 q4 c4) rfl rfl HR4.out ?_) | (refine wpList_append_run rfl _ _ 22 rfl _ _ (.slice a5 q5 c5) rfl rfl HR.out ?_))
      go_roundw
      case rel => exact ⟨k + 1, by omega, by go_num, HF5.out, HO5.out⟩
      case measure => simp [intOf]; omega
    · obtain rfl : k = n := by omega
      clear ho
      go_wp2
      go_ret
      refine ⟨b, rfl, ?_, HO.out⟩
      have := HF.out
      rwa [HN.out, List.take_length] at this
end Go.Proofs.Ytcgcgaafmedkmaa
