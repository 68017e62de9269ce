/- The walk of PagesBack. -/
import Derived.Test.YtdcflnfdaijpdaaP7
import Derived.Test.YtdcflnfdaijpdaaNil
namespace Go.Proofs.Ytdcflnfdaijpdaa
open Go.RowKit
set_option linter.unusedSimpArgs false
set_option linter.unusedVariables false

theorem u32_bounds {z : Int} (h : (Lit.int .u32 z).wf = true) : 0 ≤ z ∧ z ≤ 4294967295 := by
  have h' : IntKind.u32.min ≤ z ∧ z ≤ IntKind.u32.max := by simpa [Lit.wf] using h
  exact h'
theorem Blk.set {w : World} {g : Nat} {zs : List Nat} (h : Blk w g zs) (k z : Nat) (hk : k < zs.length) (hz : z < 256) : BytesAt (w.setCell ⟨g, k, none⟩ (.int .u8 (z : Int))) (.slice (some ⟨g, 0, none⟩) zs.length zs.length) (zs.set k z) := by
  have hl : (zs.set k z).length = zs.length := List.length_set ..
  refine ⟨.inr ⟨⟨g, 0, none⟩, zs.length, by rw [hl], by rw [hl]; exact Nat.le_refl _, fun j hj => ?_⟩, by rw [hl]; exact h.2.1, fun y hy => ?_⟩
  · rw [hl, Nat.mul_one] at hj
    rw [Addr.add_mid, Nat.zero_add]
    by_cases e : j = k
    · subst e
      rw [World.cell?_setCell_same _ _ _ (h.cell j hj)]
      simp [List.getD, hj]
    · rw [World.cell?_setCell_other _ _ _ _ (fun h => e (by injection h with h1 h2; exact h2.symm)), h.cell j hj]
      simp only [List.getD]
      rw [List.getElem?_set_ne (by omega)]
  · rcases List.mem_or_eq_of_mem_set hy with hy | rfl
    · exact h.2.2 y hy
    · exact hz

set_option maxRecDepth 100000 in
set_option maxHeartbeats 2000000 in
theorem back_any (id at_ x : Int) (v : Value) (D : List Nat) (w : World) (h : BytesAt w v D) (hid : (Lit.int .u32 id).wf = true) (hat : (Lit.int .u8 at_).wf = true) (hx : (Lit.int .u8 x).wf = true) :
    Calls Try.prog 5 #[.int .u32 id, v, .int .u8 at_, .int .u8 x] w fun e w' => e = .returned (.bool true) ∧ Below w.heap.size w w' := by
  have b1 := u32_bounds hid
  have b2 := u8_bounds hat
  have b3 := u8_bounds hx
  obtain ⟨i, rfl⟩ : ∃ i : Nat, id = i := ⟨id.toNat, by omega⟩
  obtain ⟨t, rfl⟩ : ∃ i : Nat, at_ = i := ⟨at_.toNat, by omega⟩
  obtain ⟨x, rfl⟩ : ∃ i : Nat, x = i := ⟨x.toNat, by omega⟩
  have hi : i < 4294967296 := by omega
  have ht : t < 256 := by omega
  have hx8 : x < 256 := by omega
  obtain ⟨a, c, rfl, hcap, hc⟩ := h.form
  have HBY : Hid (BytesAt w (.slice a D.length c) D) := h
  obtain ⟨n, hn⟩ : ∃ m, m = D.length := ⟨_, rfl⟩
  have HN : Hid (n = D.length) := hn
  rw [← hn] at HBY
  rw [← hn]
  clear hid hat hx b1 b2 b3 h hcap hc hn
  go_enter Try.func5, Try.ntmps5
  go_wp2_with fail
  refine (awake_any w).mono ?_
  rintro e w1 ⟨rfl, ho⟩
  have HO1 : Hid (Only (fun _ => False) w w1) := ho
  clear ho
  go_wp2_with fail
  refine (own_any _ D w1 (HBY.out.frame HO1.out)).mono ?_
  rintro e w2 ⟨u2, rfl, hf, ho⟩
  have HO2 : Hid (Only (fun _ => False) w w2) := HO1.out.trans ho (fun _ _ e => e)
  obtain ⟨a2, c2, rfl⟩ := hf.form
  have hf2 := hf
  rw [← HN.out] at hf2
  rw [← HN.out]
  have HF2 : Hid (Fresh w2 w1.heap.size (.slice a2 n c2) D) := hf2
  clear ho HO1 hf hf2
  by_cases hlg : 116 < n
  · have n1 : (116 : Int) < (n : Int) := by omega
    go_wp2_with fail
    refine (pack_large i a2 n c2 w2 hlg).mono ?_
    rintro e w3 ⟨rfl, rfl⟩
    go_wp2
    go_ret
    exact ⟨rfl, HO2.out.below (fun _ h => h.elim) (Nat.le_refl _)⟩
  · have hDl : D.length ≤ 116 := by have := HN.out; omega
    go_wp2_with fail
    refine (pack_ok i _ D w2 HF2.out.bytes hDl hi).mono ?_
    rintro e w3 ⟨rfl, hb3, ho3⟩
    obtain ⟨g, hg⟩ : ∃ g, g = w2.heap.size := ⟨_, rfl⟩
    rw [← hg] at hb3
    rw [← hg]
    have hgw : w.heap.size ≤ g := by rw [hg]; exact HO2.out.size
    have HB3 : Hid (Blk w3 g (page i D)) := hb3
    have HO3 : Hid (Only (fun _ => False) w w3) := HO2.out.trans ho3 (fun _ _ e => e)
    have hpl := page_length i D hDl
    have hall := hb3.all 128 hpl.symm
    have HPL : Hid ((page i D).length = 128) := hpl
    have HU : Hid (unp (page i D) = some (i, D)) := unp_page i D hDl hi HBY.out.2.2
    have HV : Hid (val4 (page i D) 0 = sumN ((page i D).drop 4)) := (page_vals i D hDl hi HBY.out.2.2).1
    clear hb3 ho3 hg HO2 HF2
    go_wp2_with fail
    refine (own_any _ _ w3 hall).mono ?_
    rintro e w4 ⟨u4, rfl, hf4, ho4⟩
    have HO4 : Hid (Only (fun _ => False) w3 w4) := ho4
    have HF4 : Hid _ := hf4
    clear hf4 ho4 hall
    go_wp2_with fail
    refine (unpack_any u4 (page i D) w4 (Fresh.bytes HF4.out) HPL.out).mono ?_
    intro e w5 hU
    rw [HU.out] at hU
    obtain ⟨u5, rfl, hf5, ho5⟩ := hU
    have HO5 : Hid (Only (fun _ => False) w3 w5) := HO4.out.trans ho5 (fun _ _ e => e)
    have HF5 : Hid (Fresh w5 w4.heap.size u5 D) := hf5
    clear hf5 ho5 HF4 HO4
    go_wp2_with fail
    refine (same_any u5 _ D w5 HF5.out.bytes (HBY.out.frame (HO3.out.trans HO5.out (fun _ _ e => e)))).mono ?_
    rintro e w6 ⟨rfl, ho6⟩
    have ho36 : Only (fun _ => False) w3 w6 := HO5.out.trans ho6 (fun _ _ e => e)
    have HB6 : Hid (Blk w6 g (page i D)) := HB3.out.frame ho36 (fun e => e)
    have HO6 : Hid (Only (fun _ => False) w w6) := HO3.out.trans ho36 (fun _ _ e => e)
    obtain ⟨k, hk⟩ : ∃ k, k = t % 128 := ⟨_, rfl⟩
    have hk128 : k < 128 := by omega
    have hki : (t : Int) % 128 = (k : Int) := by omega
    have k0 : (0 : Int) ≤ (k : Int) := by omega
    have k1 : (k : Int) < 128 := by omega
    have hcell := HB6.out.cell k (by have := HPL.out; omega)
    have hfr := HB6.out.frozen k
    have hz := getD_byte HB6.out.2.2 k
    have hset := fun z hz => HB6.out.set k z (by have := HPL.out; omega) hz
    have HT : Hid _ := unp_turned (page i D) k x HPL.out HB6.out.2.2 hk128 hx8
    obtain ⟨z, hzz⟩ : ∃ z, z = (page i D).getD k 0 := ⟨_, rfl⟩
    rw [← hzz] at hcell hz HT
    have hxo := bx8 z x hz hx8
    obtain ⟨y, hy⟩ : ∃ y, y = z ^^^ x := ⟨_, rfl⟩
    have hy8 : y < 256 := by rw [hy]; exact Nat.xor_lt_two_pow (n := 8) hz hx8
    rw [← hy] at hxo HT
    have HS : Hid (BytesAt (w6.setCell ⟨g, k, none⟩ (.int .u8 (y : Int))) (.slice (some ⟨g, 0, none⟩) 128 128) ((page i D).set k y)) := by
      have := hset y hy8
      rwa [HPL.out] at this
    have HZ0 : Hid (x = 0 → (page i D).set k y = page i D) := fun h0 => by
      rw [hy, h0, Nat.xor_zero, hzz]
      simp only [List.getD]
      rw [List.getElem?_eq_getElem (by have := HPL.out; omega)]
      simp
    have HO7 : Hid (Only (fun i => i = g) w6 (w6.setCell ⟨g, k, none⟩ (.int .u8 (y : Int)))) := (Only.refl _ w6).setCell _ _ (fun _ => rfl)
    have HSL : Hid (((page i D).set k y).length = 128) := by have := HPL.out; show _ = _; rw [List.length_set]; exact this
    clear ho6 ho36 hset hzz hy hz hy8 HB3 HO3 HO5 HF5 HB6 hk
    go_wp2_with fail
    refine (unpack_any _ _ _ HS.out HSL.out).mono ?_
    intro e w8 hU
    by_cases hx0 : x = 0
    · rw [HZ0.out hx0, HU.out] at hU
      obtain ⟨u8, rfl, hf8, ho8⟩ := hU
      have HE : Hid (Only (fun _ => False) w w8) := HO6.out.trans (HO7.out.trans ho8 (fun _ _ e => e.elim)) (fun i hi e => by omega)
      have hxi : ((x : Int) == 0) = true := by simp [hx0]
      clear hf8 ho8 hx0
      go_wp2
      go_ret
      exact ⟨rfl, HE.out.below (fun _ h => h.elim) (Nat.le_refl _)⟩
    · rw [HT.out hx0 HV.out] at hU
      obtain ⟨rfl, ho8⟩ := hU
      have HE : Hid (Only (fun _ => False) w w8) := HO6.out.trans (HO7.out.trans ho8 (fun _ _ e => e.elim)) (fun i hi e => by omega)
      have hxi : ((x : Int) == 0) = false := by simp [hx0]
      clear ho8 hx0
      go_wp2
      go_ret
      exact ⟨rfl, HE.out.below (fun _ h => h.elim) (Nat.le_refl _)⟩
end Go.Proofs.Ytdcflnfdaijpdaa
