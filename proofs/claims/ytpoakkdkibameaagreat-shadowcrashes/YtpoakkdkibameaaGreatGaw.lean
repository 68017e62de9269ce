/- The walk of ShadowCrashes. -/
import Derived.Test.YtpoakkdkibameaaGreatGav
namespace Go.Proofs.YtpoakkdkibameaaGreat
open Go.RowKit Go.Maps Go.Shelf
set_option linter.unusedSimpArgs false
set_option linter.unusedVariables false

section
variable {H : Type} {enc : TypeId × Value → H} {w : World} {base : Nat} {held : Bool} {fuel : Nat}
def FlagsIn (W : World) (v : Value) (ks : List Bool) : Prop := RowAt W v ks.length 1 (fun j => .bool (ks.getD j false)) ∧ ks.length ≤ 140737488351232
theorem cells4 : Tryz.prog.cellsOf 4 = 1 := by kernel_rfl
theorem bytes4 : Tryz.prog.bytesOf 4 = 1 := by kernel_rfl
theorem read_flags {v : Value} {x : DataW H × List MemPlace} (h : DataW.trod enc Tryz.prog w base (fun _ => true) held fuel 38 [v] = some x) (hw : ∀ n ∈ x.1.weights Tryz.prog 38, n ≤ reachBytes) : ∃ ks, FlagsIn w v ks := by
  rcases Deep.open_bools Tryz.underlying38 Tryz.underlying4 cells4 h with ⟨hcs, _⟩ | ⟨a, len, cap, B, hcs, _, hl, hm, hx, hcell⟩
  · simp at hcs
    exact ⟨[], .inl ⟨hcs, rfl⟩, Nat.zero_le _⟩
  · simp at hcs
    have hb := hw _ (by rw [hx]; simp only [Deep.boolRow, DataW.weights, Tryz.underlying38]; exact List.mem_cons_self ..)
    rw [bytes4] at hb
    simp only [List.length_map, List.length_range, reachBytes] at hb
    refine ⟨(List.range len).map B, .inr ⟨a, cap, by simpa using hcs, by simpa using hl, fun j hj => ?_⟩, by simp; omega⟩
    simp at hj
    rw [hcell j (by omega)]
    simp [hj]
end
theorem emptyF (w : World) : (Instr.buildSlice 38 0 #[]).run Tryz.prog w = .ok (.slice (some ⟨w.heap.size, 0, none⟩) 0 0) (w.alloc (.cells #[] 4)) := by kernel_rfl
/-- append([]bool{}, keep...) -/
theorem app_flags (w : World) (v : Value) (ks : List Bool) (hv : FlagsIn w v ks) (S : Nat) (hS : S < w.heap.size) : ∃ a cap w', (∀ ty, (Builtin.append_ #[38, 38] ty #[.slice (some ⟨w.heap.size, 0, none⟩) 0 0, v]).run Tryz.prog (w.alloc (.cells #[] 4)) = .ok (.slice a ks.length cap) w') ∧ DFlags w' (.slice a ks.length cap) ks.length (fun j => ks.getD j false) S ∧ Only (fun _ => False) w w' := by
  obtain ⟨i4, hi4, hz0, hz1, hz2⟩ := info_parts info4
  obtain ⟨a, cap, w', hr, own, o⟩ := app_copy 38 4 i4 _ 1 Tryz.underlying38 hi4 hz0 hz1 hz2 rfl rfl w v ks.length _ hv.1 (fun j => rfl) (by have := hv.2; omega)
  exact ⟨a, cap, w', hr, flags_own own (by have := hv.2; unfold maxLen; omega) hS, o⟩

/-- All that the end of ShadowCrashes wants of the store at its start. -/
structure CrashAt (w2 w3 : World) (x : SS) (d : DS) (vk : Value) (rs : List (Int × Value)) : Prop where
  wf : x.Wf
  rise : Rise x.com
  inv : Inv x
  hold : Hold x d
  oth : Oth x d
  now : x.now = x.com
  kept : TdAt w3 w2.heap.size vk rs (tells x)
  len : (tells x).length ≤ 1000
  few : x.epoch + 1 < 18446744073709551616
set_option maxRecDepth 100000 in
set_option maxHeartbeats 4000000 in
theorem crashes_walk (n L torn cut : Int) (hL : 0 ≤ L ∧ L < 256) (hcut : ¬ (cut < 0 ∨ 32 < cut)) (v1 v2 vf : Value) (os ms : List OpS) (ks : List Bool) (w : World) (hsc : ScriptAt w v1 os) (hsm : ScriptAt w v2 ms) (hfl : FlagsIn w vf ks) :
    Calls Tryz.prog 4 #[.int .i64 n, v1, v2, .int .u8 L, vf, .int .i64 torn, .int .i64 cut] w fun e w' => e = .returned (.bool true) ∧ Below w.heap.size w w' := by
  have HFL : Hid (FlagsIn w vf ks) := hfl
  have HCU : Hid (¬ (cut < 0 ∨ 32 < cut)) := hcut
  have hc0 : decide (cut < 0) = false := by simp; omega
  have hc1 : decide (32 < cut) = false := by simp; omega
  have hc2 : ¬ cut < 0 := by omega
  have hc3 : ¬ 32 < cut := by omega
  obtain ⟨af, cf, hvf⟩ : ∃ a c, vf = .slice a ks.length c := by
    rcases hfl.1 with ⟨h1, h2⟩ | ⟨ad, c, h1, _⟩
    · exact ⟨none, 0, by rw [h1, h2]⟩
    · exact ⟨_, _, h1⟩
  have HLN : Hid (os.length ≤ 140737488351232) := hsc.2.1
  obtain ⟨fl, hfl'⟩ : ∃ fl, fl = ks.length := ⟨_, rfl⟩
  rw [← hfl'] at hvf
  have HFQ : Hid (fl = ks.length) := hfl'
  subst hvf
  clear hfl hcut hfl'
  have hN := secsN_ge n
  have HG : Hid (Calls Tryz.prog 13 _ _ _) := grownN stable_kj (secsN n) hN (kj_new _ hN.1) n rfl v1 os w hsc
  obtain ⟨a2, c2, rfl⟩ := hsm.form
  have HSM : Hid (ScriptAt w (.slice a2 ms.length c2) ms) := hsm
  have hml := hsm.2.1
  obtain ⟨m, hm⟩ : ∃ m, m = ms.length := ⟨_, rfl⟩
  have HM : Hid (m = ms.length) := hm
  obtain ⟨N, hNe⟩ : ∃ N, N = secsN n := ⟨_, rfl⟩
  rw [← hm] at hml ⊢
  rw [← hNe] at HG hN
  clear hsc hsm hm hNe
  go_enter Tryz.func4, Tryz.ntmps4
  go_wp2_with fail
  refine (show Calls Tryz.prog 13 _ _ _ from HG.out).mono ?_
  rintro e w1 ⟨p, s, S, rfl, HW1⟩
  clear HG
  go_wp2_with fail
  refine (awake_any w1).mono ?_
  rintro e w2 ⟨rfl, ho2⟩
  obtain ⟨⟨x, d, hp, hx, hn, ho, hc⟩, _⟩ := HW1.out
  have HP2 : Hid (PairK w2 (fun k => w.heap.size ≤ k) s p S x d ∧ KJ (os.length + 2) x d ∧ d.n = N ∧ x.now = x.com ∧ Only (fun k => w.heap.size ≤ k) w w2) := ⟨hp.still ho2, hx, hn, hc, ho.trans ho2 (fun _ _ e => e.elim)⟩
  have HTk : Hid (Calls Tryz.prog 14 _ _ _) := pairk_told HP2.out.1
  clear HW1 ho2 hp hx hn ho hc
  go_wp2_with fail
  refine (show Calls Tryz.prog 14 _ _ _ from HTk.out).mono ?_
  rintro e w3 ⟨ak, nk, ck, rsk, rfl, hnk, HT3⟩
  clear HTk hnk
  have HBK : Hid (CrashAt w2 w3 x d (.slice ak nk ck) rsk) := by
    obtain ⟨q1, q2, q3, q4, q5⟩ := HP2.out
    obtain ⟨dk, mc, mn, tv, h3, hd⟩ := q1.st
    exact ⟨h3.wf, h3.com.rise, q2.inv, q2.hold, q2.oth, q4, HT3.out.1, by unfold tells; rw [List.length_map]; have := st_len h3; omega, by have := q2.few; have := HLN.out; omega⟩
  have HZ : Hid (w.heap.size ≤ w2.heap.size ∧ w2.heap.size ≤ w3.heap.size ∧ Only (fun k => w.heap.size ≤ k) w w3) := ⟨HP2.out.2.2.2.2.size, HT3.out.2.size, HP2.out.2.2.2.2.trans HT3.out.2 (fun _ _ e => e.elim)⟩
  obtain ⟨K, hK⟩ : ∃ K : Nat → Prop, K = fun k => w.heap.size ≤ k ∧ ¬ (w2.heap.size ≤ k ∧ k < w3.heap.size) := ⟨_, rfl⟩
  have HK : Hid (K = fun k => w.heap.size ≤ k ∧ ¬ (w2.heap.size ≤ k ∧ k < w3.heap.size)) := hK
  have HI3 : Hid (WkN (MJ x d) 0 w3 K s p S N w3) := by
    obtain ⟨q1, q2, q3, q4, q5⟩ := HP2.out
    refine ⟨x, d, ?_, ⟨rfl, ⟨x.now, rfl⟩, q2.inv⟩, q3, Only.refl _ _⟩
    rw [hK]
    exact (q1.mono (fun k hk e => ⟨e, fun h => by omega⟩)).still HT3.out.2
  have HK0 : Hid (∀ k, k < w.heap.size → ¬ K k) := fun k hk e => by rw [hK] at e; omega
  have HK1 : Hid (∀ k, w3.heap.size ≤ k → K k) := fun k hk => by rw [hK]; have := HZ.out; exact ⟨by omega, fun h => by omega⟩
  have HK2 : Hid (∀ k, K k → w.heap.size ≤ k) := fun k e => by rw [hK] at e; exact e.1
  have HK3 : Hid (∀ k, w2.heap.size ≤ k → k < w3.heap.size → ¬ K k) := fun k h1 h2 e => by rw [hK] at e; exact e.2 ⟨h1, h2⟩
  clear HP2 HT3 hK HK
  go_wp2
  go_loopw [19] (fun t W => ∃ k : Nat, k ≤ m ∧ t = .int .i64 k ∧ WkN (MJ x d) 0 w3 K s p S N W) (fun t _ => m - (intOf t).toNat)
  case atStart => exact ⟨0, Nat.zero_le _, rfl, HI3.out⟩
  case round =>
    clear HI3
    obtain ⟨k, hk, rfl, hI⟩ := hrel
    obtain ⟨W, rfl⟩ : ∃ W, W = wr := ⟨_, rfl⟩
    by_cases hlt : k < m
    · have hkl : k < ms.length := by have := HM.out; omega
      obtain ⟨g, o, c', hv, hrg, hcap⟩ := HSM.out.get k hkl
      injection hv with hv hv1 hv2
      clear hv1
      subst hv hv2
      have h1 := HSM.out.one k hkl
      obtain ⟨kd, hkd⟩ : ∃ kd, kd = (ms[k]).kind := ⟨_, rfl⟩
      have how : Only (fun b => w.heap.size ≤ b) w W := by obtain ⟨x, d, _, _, _, ho⟩ := hI; exact HZ.out.2.2.trans ho (fun k _ e => HK2.out k e)
      have y0 : W.cell? ⟨g, o + k * 6, none⟩ = some (.int .i64 kd) := by
        have h9 := hrg 0 _ rfl
        rw [hkd]
        exact how.cell h9 (by have := World.block_lt_of_cell? w _ h9; simp at this ⊢; omega)
      have k0 : (0 : Int) ≤ (k : Int) := by omega
      have k1 : (k : Int) < (m : Int) := by omega
      have hsl := slice_one g o m c2 k hlt (by have := HM.out; omega) hml
      have HI : Hid (WkN (MJ x d) 0 w3 K s p S N W) := hI
      have HKD : Hid (kd = (ms[k]).kind) := hkd
      have HWo : Hid (kd ≠ 3 → Calls Tryz.prog 15 #[.pointer (some ⟨s, 0, none⟩), .slice (some ⟨g, o + k * 6, none⟩) 1 (c2 - k)] W fun e W2 => e = .returned (.tuple #[]) ∧ Hid (WkN (MJ x d) 0 w3 K s p S N W2)) := by
        intro hne
        obtain ⟨x', d', hp, hx, hn, ho⟩ := hI
        refine (workN_any (stable_mj x d) (cn := 0) _ [ms[k]] w h1 HK0.out (fun k hk => HK1.out k (Nat.le_trans ho.size hk)) ((HZ.out.2.2.mono (fun k _ e => ?_)).trans ho (fun _ _ e => e)) ⟨x', d', hp, hx, hn, Only.refl _ _⟩ (by simp) (fun o ho e => ?_)).mono ?_
        · exact absurd e (by omega)
        · simp only [List.mem_singleton] at ho
          subst ho
          exact absurd (HKD.out.trans e) hne
        · rintro e W2 ⟨rfl, x2, d2, hp2, hx2, hn2, ho2⟩
          exact ⟨rfl, x2, d2, hp2, hx2, hn2, ho.trans ho2 (fun _ _ e => e)⟩
      have e1 : IntKind.i64.wrap ((k : Int) + 1) = (k : Int) + 1 := by rw [IntKind.wrap_i64]; omega
      clear hI h1 how hrg hkd hcap HKD
      by_cases hk3 : kd = 3
      · subst hk3
        go_wp2
        go_roundw
        case rel => exact ⟨k + 1, by omega, by go_num, HI.out⟩
        case measure => simp [intOf]; omega
      · have hk3' : (kd == 3) = false := by simpa using hk3
        go_wp2_with fail
        refine (show Calls Tryz.prog 15 _ _ _ from HWo.out hk3).mono ?_
        rintro e W2 ⟨rfl, HW2⟩
        clear HWo hsl
        go_wp2
        go_roundw
        case rel => exact ⟨k + 1, by omega, by go_num, HW2.out⟩
        case measure => simp [intOf]; omega
    · obtain ⟨x', d', hp, ⟨hd', hx', hinv⟩, hn, ho⟩ := hI
      subst hd'
      have HP : Hid (PairK W K s p S x' d' ∧ Only K w3 W ∧ (∃ l, x' = { x with now := l }) ∧ Inv x' ∧ d'.n = N) := ⟨hp, ho, hx', hinv, hn⟩
      have HTb : Hid (Calls Tryz.prog 14 _ _ _) := pairk_told hp
      have HKW : Hid (∀ k, W.heap.size ≤ k → K k) := fun k hk => HK1.out k (Nat.le_trans ho.size hk)
      clear hp hx' hinv hn ho
      go_wp2_with fail
      refine (show Calls Tryz.prog 14 _ _ _ from HTb.out).mono ?_
      rintro e w4 ⟨ab, nb, cb, rsb, rfl, hnb, HT4⟩
      clear HTb hnb
      obtain ⟨f0, hf0⟩ : ∃ q, q = freeN x' x'.size := ⟨_, rfl⟩
      obtain ⟨n0, hn0⟩ : ∃ q, q = needN x' := ⟨_, rfl⟩
      have HFN : Hid (f0 = freeN x' x'.size ∧ n0 = needN x') := ⟨hf0, hn0⟩
      have HR : Hid (Calls Tryz.prog 16 #[.pointer (some ⟨s, 0, none⟩)] w4 fun e w' => e = .returned (.tuple #[.int .i64 (f0 : Nat), .int .i64 (n0 : Nat)]) ∧ Hid (Only (fun _ => False) w4 w')) := by
        obtain ⟨dk, mc, mn, tv, h3, hd⟩ := (HP.out.1.still HT4.out.2).st
        rw [hf0, hn0]
        exact (room_any h3 hd).mono (fun e w' ⟨a, b⟩ => ⟨a, b⟩)
      clear hf0 hn0
      go_wp2_with fail
      refine (show Calls Tryz.prog 16 _ _ _ from HR.out).mono ?_
      rintro e w5 ⟨rfl, HO5⟩
      clear HR
      have O5 : Hid (Only (fun _ => False) W w5) := HT4.out.2.trans HO5.out (fun _ _ e => e)
      have HLv : Hid (Calls Tryz.prog 17 _ _ _) := pairk_live HP.out.1 O5.out L (by omega) (by omega)
      have wL : IntKind.i64.wrap L = L := by rw [IntKind.wrap_i64]; omega
      go_wp2_with fail
      refine (show Calls Tryz.prog 17 _ _ _ from HLv.out).mono ?_
      rintro e w6 ⟨rfl, HL6⟩
      clear HLv
      have HCm : Hid (Calls Tryz.prog 18 _ _ _) := commit_cr HL6.out.1 HP.out.2.2.1 HBK.out.now HP.out.2.2.2.1 HBK.out.hold HBK.out.oth HBK.out.few HP.out.1.byte HP.out.1.pend HP.out.1.size HP.out.1.bytes
      go_wp2_with fail
      refine (show Calls Tryz.prog 18 _ _ _ from HCm.out).mono ?_
      rintro e w7 ⟨r, rfl, HC7, HR7⟩
      clear HCm
      have HE7 : Hid (Only (fun k => w.heap.size ≤ k) w w7) := by
        have o1 := HZ.out.2.2.trans HP.out.2.1 (fun k _ e => HK2.out k e)
        have o2 := o1.trans O5.out (fun _ _ e => e.elim)
        have o3 := o2.trans HL6.out.2 (fun k _ e => HK2.out k e.1)
        exact o3.trans HC7.out.2 (fun k _ e => HK2.out k e.1)
      have HMB : Hid (Only (fun k => K k ∧ k < W.heap.size) w5 w7) := HL6.out.2.trans HC7.out.2 (fun _ _ e => e)
      by_cases hL0 : L = 0
      · have hL0' : (L == 0) = true := by simpa using hL0
        have HL0 : Hid (L = 0) := hL0
        have hr : r = 7 ∨ r = 3 := by
          rcases HR7.out with ⟨e, _⟩ | ⟨e, _⟩ | ⟨_, e, _⟩
          · exact .inl e
          · exact .inr e
          · exact absurd hL0 e
        clear hL0 HR7 HC7
        rcases hr with rfl | rfl
        · go_wp2
          go_ret
          exact ⟨rfl, HE7.out.below (fun _ e => e) (Nat.le_refl _)⟩
        · go_wp2
          go_ret
          exact ⟨rfl, HE7.out.below (fun _ e => e) (Nat.le_refl _)⟩
      · have hL0' : (L == 0) = false := by simpa using hL0
        clear hL0
        have HFl : Hid (FlagsIn w7 (.slice af fl cf) ks) := ⟨HFL.out.1.older (HE7.out), HFL.out.2⟩
        have hSl : S < w7.heap.size := by
          obtain ⟨pv, B, d7, q1, _⟩ := HC7.out.1.all
          exact (q1.lt S (.inr (.inl rfl))).2
        obtain ⟨aF, capF, w8, hrF, hdf, o8⟩ := app_flags w7 (.slice af fl cf) ks HFl.out S hSl
        have HCr : Hid (Calls Tryz.prog 19 _ _ _) := crash_cr HC7.out.1 _ ks torn cut HCU.out o8 hdf
        rw [← HFQ.out] at hrF HCr
        have HRF : Hid _ := hrF
        have O8 : Hid (Only (fun _ => False) w7 w8) := o8
        have hem := emptyF
        clear hrF hdf o8 hSl HFl
        have HRR : Hid ((r = 7 ∧ f0 < n0) ∨ (r = 3 ∧ n0 ≤ f0) ∨ (r = 0 ∧ n0 ≤ f0)) := by
          rcases HR7.out with ⟨e, e1⟩ | ⟨e, e1⟩ | ⟨e, _, e1⟩
          · exact .inl ⟨e, by rw [HFN.out.1, HFN.out.2]; exact e1⟩
          · exact .inr (.inl ⟨e, by rw [HFN.out.1, HFN.out.2]; exact e1⟩)
          · exact .inr (.inr ⟨e, by rw [HFN.out.1, HFN.out.2]; exact e1⟩)
        have HEND : Hid (∀ (w9 w10 : World) (s' : Nat), Only (fun k => K k ∧ k < W.heap.size) w8 w9 → OpAt w9 p S (tells x) (tells x') r N → True) := fun _ _ _ _ _ => trivial
        clear HR7 HEND
        have HOp : Hid (∀ w9, OpAt w9 p S (tells x) (tells x') r d'.n → Calls Tryz.prog 20 #[.pointer (some ⟨p, 0, none⟩)] w9 fun e w' => ∃ s', e = .returned (.tuple #[.pointer (some ⟨s', 0, none⟩), .int .i64 0]) ∧ Hid (Only (fun _ => False) w9 w' ∧ ∃ dk mc mn tv y, StAt w' dk s' p mc mn tv y ∧ (tells y = tells x ∧ r ≠ 0 ∨ tells y = tells x' ∧ r ≠ 7))) := fun w9 h9 => open_cr h9 (by rw [HP.out.2.2.2.2]; omega)
        have HBB : Hid (∀ wz, Only (fun k => K k ∧ k < W.heap.size) w5 wz → TdAt wz w2.heap.size (.slice ak nk ck) rsk (tells x) ∧ TdAt wz W.heap.size (.slice ab nb cb) rsb (tells x') ∧ (tells x').length ≤ 1000) := fun wz oz => by
          refine ⟨?_, ?_, ?_⟩
          · have o1 : Only K w3 wz := (HP.out.2.1.trans O5.out (fun _ _ e => e.elim)).trans oz (fun _ _ e => e.1)
            exact HBK.out.kept.frame o1 (fun k h1 h2 e => HK3.out k h1 h2 e)
          · exact (HT4.out.1.frame HO5.out (fun _ _ _ e => e)).frame oz (fun k h1 h2 e => by have := e.2; omega)
          · obtain ⟨dk, mc, mn, tv, h3, hd⟩ := HP.out.1.st
            unfold tells
            rw [List.length_map]
            have := st_len h3
            omega
        have hpart : (r = 7 ∧ (r == 7) = true ∧ decide (f0 < n0) = true) ∨ (r = 3 ∧ (r == 7) = false ∧ decide (f0 < n0) = false) ∨ (r = 0 ∧ (r == 7) = false ∧ decide (f0 < n0) = false) := by
          rcases HRR.out with ⟨e, e1⟩ | ⟨e, e1⟩ | ⟨e, e1⟩
          · exact .inl ⟨e, by rw [e]; rfl, by simpa using e1⟩
          · exact .inr (.inl ⟨e, by rw [e]; rfl, by simpa using e1⟩)
          · exact .inr (.inr ⟨e, by rw [e]; rfl, by simpa using e1⟩)
        clear HRR
        rcases hpart with ⟨rfl, -, hd0⟩ | ⟨rfl, -, hd0⟩ | ⟨rfl, -, hd0⟩
        · have hfn : decide ((f0 : Int) < (n0 : Int)) = true := by simpa using hd0
          have hfn' : (f0 : Int) < (n0 : Int) := by simpa using hfn
          clear hd0
          go_wp2_with (first | (refine wpList_append_runG _ _ 38 rfl rfl _ _ (.slice aF fl capF) rfl rfl HRF.out ?_))
          refine (show Calls Tryz.prog 19 _ _ _ from HCr.out).mono ?_
          rintro e w9 ⟨rfl, HC9⟩
          clear HCr HRF
          have HOpn : Hid (Calls Tryz.prog 20 _ _ _) := HOp.out w9 HC9.out.1
          clear HOp
          go_wp2_with fail
          refine (show Calls Tryz.prog 20 _ _ _ from HOpn.out).mono ?_
          rintro e w10 ⟨s', rfl, HO10⟩
          clear HOpn
          obtain ⟨T, hT⟩ : ∃ T : List (Int × List Nat), (T = tells x ∧ (7 : Int) ≠ 0 ∨ T = tells x' ∧ (7 : Int) ≠ 7) ∧ ∃ dk mc mn tv y, StAt w10 dk s' p mc mn tv y ∧ tells y = T := by
            obtain ⟨_, dk, mc, mn, tv, y, h3, h4⟩ := HO10.out
            exact ⟨tells y, h4, dk, mc, mn, tv, y, h3, rfl⟩
          have HT : Hid (T = tells x ∧ (7 : Int) ≠ 0 ∨ T = tells x' ∧ (7 : Int) ≠ 7) := hT.1
          have HTn : Hid (Calls Tryz.prog 14 #[.pointer (some ⟨s', 0, none⟩)] w10 fun e w' => ∃ a n c rs, e = .returned (.tuple #[.slice a n c, .bool true]) ∧ Hid (TdAt w' w10.heap.size (.slice a n c) rs T ∧ Only (fun _ => False) w10 w' ∧ T.length ≤ 1000)) := by
            obtain ⟨_, dk, mc, mn, tv, y, h3, h4⟩ := hT
            refine (st_told h3).mono ?_
            rintro e w' ⟨a, n, c, rs, rfl, _, hh⟩
            rw [h4] at hh
            exact ⟨a, n, c, rs, rfl, hh.out.1, hh.out.2, by rw [← h4]; unfold tells; rw [List.length_map]; have := st_len h3; omega⟩
          clear hT
          go_wp2_with fail
          refine (show Calls Tryz.prog 14 _ _ _ from HTn.out).mono ?_
          rintro e w11 ⟨an, nn, cn, rsn, rfl, HT11⟩
          clear HTn
          have O11 : Hid (Only (fun k => K k ∧ k < W.heap.size) w5 w11) := (((HMB.out.trans O8.out (fun _ _ e => e.elim)).trans HC9.out.2 (fun _ _ e => e)).trans HO10.out.1 (fun _ _ e => e.elim)).trans HT11.out.2.1 (fun _ _ e => e.elim)
          have E11 : Hid (Only (fun k => w.heap.size ≤ k) w w11) := (((HE7.out.trans O8.out (fun _ _ e => e.elim)).trans HC9.out.2 (fun k _ e => HK2.out k e.1)).trans HO10.out.1 (fun _ _ e => e.elim)).trans HT11.out.2.1 (fun _ _ e => e.elim)
          clear HC9 HO10
          have HBz : Hid (∀ wz, Only (fun _ => False) w11 wz → Calls Tryz.prog 21 #[.slice an nn cn, .slice ak nk ck] wz fun e w' => ∃ b, e = .returned (.bool b) ∧ Hid ((T = tells x → b = true) ∧ Only (fun _ => False) wz w')) := fun wz oz => same_gen (HT11.out.1.frame oz (fun _ _ _ e => e)) ((HBB.out _ O11.out).1.frame oz (fun _ _ _ e => e)) HT11.out.2.2
          have HAz : Hid (∀ wz, Only (fun _ => False) w11 wz → Calls Tryz.prog 21 #[.slice an nn cn, .slice ab nb cb] wz fun e w' => ∃ b, e = .returned (.bool b) ∧ Hid ((T = tells x' → b = true) ∧ Only (fun _ => False) wz w')) := fun wz oz => same_gen (HT11.out.1.frame oz (fun _ _ _ e => e)) ((HBB.out _ O11.out).2.1.frame oz (fun _ _ _ e => e)) HT11.out.2.2
          have HS : Hid (Calls Tryz.prog 21 _ _ _) := HBz.out w11 (Only.refl _ _)
          clear HBz
          go_wp2_with fail
          refine (show Calls Tryz.prog 21 _ _ _ from HS.out).mono ?_
          rintro e w12 ⟨b, rfl, HB⟩
          clear HS
          cases b with
          | true =>
            go_wp2
            go_ret
            exact ⟨rfl, (E11.out.trans HB.out.2 (fun _ _ e => e.elim)).below (fun _ e => e) (Nat.le_refl _)⟩
          | false =>
            exfalso
            rcases HT.out with ⟨e, _⟩ | ⟨_, e⟩
            · have := HB.out.1 e
              cases this
            · exact e rfl
        · have hfn : decide ((f0 : Int) < (n0 : Int)) = false := by simpa using hd0
          have hfn' : ¬ (f0 : Int) < (n0 : Int) := by simpa using hfn
          clear hd0
          go_wp2_with (first | (refine wpList_append_runG _ _ 38 rfl rfl _ _ (.slice aF fl capF) rfl rfl HRF.out ?_))
          refine (show Calls Tryz.prog 19 _ _ _ from HCr.out).mono ?_
          rintro e w9 ⟨rfl, HC9⟩
          clear HCr HRF
          have HOpn : Hid (Calls Tryz.prog 20 _ _ _) := HOp.out w9 HC9.out.1
          clear HOp
          go_wp2_with fail
          refine (show Calls Tryz.prog 20 _ _ _ from HOpn.out).mono ?_
          rintro e w10 ⟨s', rfl, HO10⟩
          clear HOpn
          obtain ⟨T, hT⟩ : ∃ T : List (Int × List Nat), (T = tells x ∧ (3 : Int) ≠ 0 ∨ T = tells x' ∧ (3 : Int) ≠ 7) ∧ ∃ dk mc mn tv y, StAt w10 dk s' p mc mn tv y ∧ tells y = T := by
            obtain ⟨_, dk, mc, mn, tv, y, h3, h4⟩ := HO10.out
            exact ⟨tells y, h4, dk, mc, mn, tv, y, h3, rfl⟩
          have HT : Hid (T = tells x ∧ (3 : Int) ≠ 0 ∨ T = tells x' ∧ (3 : Int) ≠ 7) := hT.1
          have HTn : Hid (Calls Tryz.prog 14 #[.pointer (some ⟨s', 0, none⟩)] w10 fun e w' => ∃ a n c rs, e = .returned (.tuple #[.slice a n c, .bool true]) ∧ Hid (TdAt w' w10.heap.size (.slice a n c) rs T ∧ Only (fun _ => False) w10 w' ∧ T.length ≤ 1000)) := by
            obtain ⟨_, dk, mc, mn, tv, y, h3, h4⟩ := hT
            refine (st_told h3).mono ?_
            rintro e w' ⟨a, n, c, rs, rfl, _, hh⟩
            rw [h4] at hh
            exact ⟨a, n, c, rs, rfl, hh.out.1, hh.out.2, by rw [← h4]; unfold tells; rw [List.length_map]; have := st_len h3; omega⟩
          clear hT
          go_wp2_with fail
          refine (show Calls Tryz.prog 14 _ _ _ from HTn.out).mono ?_
          rintro e w11 ⟨an, nn, cn, rsn, rfl, HT11⟩
          clear HTn
          have O11 : Hid (Only (fun k => K k ∧ k < W.heap.size) w5 w11) := (((HMB.out.trans O8.out (fun _ _ e => e.elim)).trans HC9.out.2 (fun _ _ e => e)).trans HO10.out.1 (fun _ _ e => e.elim)).trans HT11.out.2.1 (fun _ _ e => e.elim)
          have E11 : Hid (Only (fun k => w.heap.size ≤ k) w w11) := (((HE7.out.trans O8.out (fun _ _ e => e.elim)).trans HC9.out.2 (fun k _ e => HK2.out k e.1)).trans HO10.out.1 (fun _ _ e => e.elim)).trans HT11.out.2.1 (fun _ _ e => e.elim)
          clear HC9 HO10
          have HBz : Hid (∀ wz, Only (fun _ => False) w11 wz → Calls Tryz.prog 21 #[.slice an nn cn, .slice ak nk ck] wz fun e w' => ∃ b, e = .returned (.bool b) ∧ Hid ((T = tells x → b = true) ∧ Only (fun _ => False) wz w')) := fun wz oz => same_gen (HT11.out.1.frame oz (fun _ _ _ e => e)) ((HBB.out _ O11.out).1.frame oz (fun _ _ _ e => e)) HT11.out.2.2
          have HAz : Hid (∀ wz, Only (fun _ => False) w11 wz → Calls Tryz.prog 21 #[.slice an nn cn, .slice ab nb cb] wz fun e w' => ∃ b, e = .returned (.bool b) ∧ Hid ((T = tells x' → b = true) ∧ Only (fun _ => False) wz w')) := fun wz oz => same_gen (HT11.out.1.frame oz (fun _ _ _ e => e)) ((HBB.out _ O11.out).2.1.frame oz (fun _ _ _ e => e)) HT11.out.2.2
          have HS : Hid (Calls Tryz.prog 21 _ _ _) := HBz.out w11 (Only.refl _ _)
          clear HBz
          go_wp2_with fail
          refine (show Calls Tryz.prog 21 _ _ _ from HS.out).mono ?_
          rintro e w12 ⟨b, rfl, HB⟩
          clear HS
          cases b with
          | true =>
            go_wp2
            go_ret
            exact ⟨rfl, (E11.out.trans HB.out.2 (fun _ _ e => e.elim)).below (fun _ e => e) (Nat.le_refl _)⟩
          | false =>
            have hTx : T = tells x' := by
              rcases HT.out with ⟨e, _⟩ | ⟨e, _⟩
              · have := HB.out.1 e
                cases this
              · exact e
            have HTx : Hid (T = tells x') := hTx
            have HS : Hid (Calls Tryz.prog 21 _ _ _) := HAz.out w12 HB.out.2
            clear HAz hTx
            go_wp2_with fail
            refine (show Calls Tryz.prog 21 _ _ _ from HS.out).mono ?_
            rintro e w13 ⟨b, rfl, HB2⟩
            clear HS
            have hb : b = true := HB2.out.1 HTx.out
            subst hb
            go_wp2
            go_ret
            exact ⟨rfl, ((E11.out.trans HB.out.2 (fun _ _ e => e.elim)).trans HB2.out.2 (fun _ _ e => e.elim)).below (fun _ e => e) (Nat.le_refl _)⟩
        · have hfn : decide ((f0 : Int) < (n0 : Int)) = false := by simpa using hd0
          have hfn' : ¬ (f0 : Int) < (n0 : Int) := by simpa using hfn
          clear hd0
          go_wp2_with (first | (refine wpList_append_runG _ _ 38 rfl rfl _ _ (.slice aF fl capF) rfl rfl HRF.out ?_))
          refine (show Calls Tryz.prog 19 _ _ _ from HCr.out).mono ?_
          rintro e w9 ⟨rfl, HC9⟩
          clear HCr HRF
          have HOpn : Hid (Calls Tryz.prog 20 _ _ _) := HOp.out w9 HC9.out.1
          clear HOp
          go_wp2_with fail
          refine (show Calls Tryz.prog 20 _ _ _ from HOpn.out).mono ?_
          rintro e w10 ⟨s', rfl, HO10⟩
          clear HOpn
          obtain ⟨T, hT⟩ : ∃ T : List (Int × List Nat), (T = tells x ∧ (0 : Int) ≠ 0 ∨ T = tells x' ∧ (0 : Int) ≠ 7) ∧ ∃ dk mc mn tv y, StAt w10 dk s' p mc mn tv y ∧ tells y = T := by
            obtain ⟨_, dk, mc, mn, tv, y, h3, h4⟩ := HO10.out
            exact ⟨tells y, h4, dk, mc, mn, tv, y, h3, rfl⟩
          have HT : Hid (T = tells x ∧ (0 : Int) ≠ 0 ∨ T = tells x' ∧ (0 : Int) ≠ 7) := hT.1
          have HTn : Hid (Calls Tryz.prog 14 #[.pointer (some ⟨s', 0, none⟩)] w10 fun e w' => ∃ a n c rs, e = .returned (.tuple #[.slice a n c, .bool true]) ∧ Hid (TdAt w' w10.heap.size (.slice a n c) rs T ∧ Only (fun _ => False) w10 w' ∧ T.length ≤ 1000)) := by
            obtain ⟨_, dk, mc, mn, tv, y, h3, h4⟩ := hT
            refine (st_told h3).mono ?_
            rintro e w' ⟨a, n, c, rs, rfl, _, hh⟩
            rw [h4] at hh
            exact ⟨a, n, c, rs, rfl, hh.out.1, hh.out.2, by rw [← h4]; unfold tells; rw [List.length_map]; have := st_len h3; omega⟩
          clear hT
          go_wp2_with fail
          refine (show Calls Tryz.prog 14 _ _ _ from HTn.out).mono ?_
          rintro e w11 ⟨an, nn, cn, rsn, rfl, HT11⟩
          clear HTn
          have O11 : Hid (Only (fun k => K k ∧ k < W.heap.size) w5 w11) := (((HMB.out.trans O8.out (fun _ _ e => e.elim)).trans HC9.out.2 (fun _ _ e => e)).trans HO10.out.1 (fun _ _ e => e.elim)).trans HT11.out.2.1 (fun _ _ e => e.elim)
          have E11 : Hid (Only (fun k => w.heap.size ≤ k) w w11) := (((HE7.out.trans O8.out (fun _ _ e => e.elim)).trans HC9.out.2 (fun k _ e => HK2.out k e.1)).trans HO10.out.1 (fun _ _ e => e.elim)).trans HT11.out.2.1 (fun _ _ e => e.elim)
          clear HC9 HO10
          have HBz : Hid (∀ wz, Only (fun _ => False) w11 wz → Calls Tryz.prog 21 #[.slice an nn cn, .slice ak nk ck] wz fun e w' => ∃ b, e = .returned (.bool b) ∧ Hid ((T = tells x → b = true) ∧ Only (fun _ => False) wz w')) := fun wz oz => same_gen (HT11.out.1.frame oz (fun _ _ _ e => e)) ((HBB.out _ O11.out).1.frame oz (fun _ _ _ e => e)) HT11.out.2.2
          have HAz : Hid (∀ wz, Only (fun _ => False) w11 wz → Calls Tryz.prog 21 #[.slice an nn cn, .slice ab nb cb] wz fun e w' => ∃ b, e = .returned (.bool b) ∧ Hid ((T = tells x' → b = true) ∧ Only (fun _ => False) wz w')) := fun wz oz => same_gen (HT11.out.1.frame oz (fun _ _ _ e => e)) ((HBB.out _ O11.out).2.1.frame oz (fun _ _ _ e => e)) HT11.out.2.2
          have HS : Hid (Calls Tryz.prog 21 _ _ _) := HAz.out w11 (Only.refl _ _)
          clear HAz HBz
          go_wp2_with fail
          refine (show Calls Tryz.prog 21 _ _ _ from HS.out).mono ?_
          rintro e w12 ⟨b, rfl, HB⟩
          clear HS
          have hb : b = true := HB.out.1 (by
            rcases HT.out with ⟨_, e⟩ | ⟨e, _⟩
            · exact absurd rfl e
            · exact e)
          subst hb
          go_wp2
          go_ret
          exact ⟨rfl, (E11.out.trans HB.out.2 (fun _ _ e => e.elim)).below (fun _ e => e) (Nat.le_refl _)⟩
set_option maxRecDepth 100000 in
set_option maxHeartbeats 4000000 in
theorem crashes_law (n L torn cut : Int) (hL : 0 ≤ L ∧ L < 256) (v1 v2 vf : Value) (os ms : List OpS) (ks : List Bool) (w : World) (hsc : ScriptAt w v1 os) (hsm : ScriptAt w v2 ms) (hfl : FlagsIn w vf ks) :
    Calls Tryz.prog 4 #[.int .i64 n, v1, v2, .int .u8 L, vf, .int .i64 torn, .int .i64 cut] w fun e w' => e = .returned (.bool true) ∧ Below w.heap.size w w' := by
  by_cases hcut : cut < 0 ∨ 32 < cut
  · have hN := secsN_ge n
    have HG : Hid (Calls Tryz.prog 13 _ _ _) := grownN stable_kj (secsN n) hN (kj_new _ hN.1) n rfl v1 os w hsc
    obtain ⟨a2, c2, rfl⟩ := hsm.form
    obtain ⟨af, cf, rfl⟩ : ∃ a c, vf = .slice a ks.length c := by
      rcases hfl.1 with ⟨h1, h2⟩ | ⟨ad, c, h1, _⟩
      · exact ⟨none, 0, by rw [h1, h2]⟩
      · exact ⟨_, _, h1⟩
    clear hsc hsm hfl
    have hb : decide (cut < 0) = true ∨ (decide (cut < 0) = false ∧ decide (32 < cut) = true) := by
      rcases hcut with h | h
      · exact .inl (by simpa using h)
      · by_cases h2 : cut < 0
        · exact .inl (by simpa using h2)
        · exact .inr ⟨by simpa using h2, by simpa using h⟩
    clear hcut
    go_enter Tryz.func4, Tryz.ntmps4
    go_wp2_with fail
    refine (show Calls Tryz.prog 13 _ _ _ from HG.out).mono ?_
    rintro e w1 ⟨p, s, S, rfl, HW1⟩
    clear HG
    have HO1 : Hid (Only (fun k => w.heap.size ≤ k) w w1) := by
      obtain ⟨⟨x, d, hp, hx, hn, ho, hc⟩, _⟩ := HW1.out
      exact ho
    clear HW1
    go_wp2_with fail
    refine (awake_any w1).mono ?_
    rintro e w2 ⟨rfl, ho2⟩
    have HO2 : Hid (Only (fun k => w.heap.size ≤ k) w w2) := HO1.out.trans ho2 (fun _ _ e => e.elim)
    clear HO1 ho2
    rcases hb with hb | ⟨hb, hb2⟩
    · have hb' : cut < 0 := by simpa using hb
      go_wp2_with fail
      refine (awake_any w2).mono ?_
      rintro e w3 ⟨rfl, ho3⟩
      have HO3 : Hid (Only (fun k => w.heap.size ≤ k) w w3) := HO2.out.trans ho3 (fun _ _ e => e.elim)
      clear ho3
      go_wp2
      go_ret
      exact ⟨rfl, HO3.out.below (fun _ e => e) (Nat.le_refl _)⟩
    · have hb' : ¬ cut < 0 := by simpa using hb
      have hb2' : 32 < cut := by simpa using hb2
      go_wp2_with fail
      refine (awake_any w2).mono ?_
      rintro e w3 ⟨rfl, ho3⟩
      have HO3 : Hid (Only (fun k => w.heap.size ≤ k) w w3) := HO2.out.trans ho3 (fun _ _ e => e.elim)
      clear ho3
      go_wp2
      go_ret
      exact ⟨rfl, HO3.out.below (fun _ e => e) (Nat.le_refl _)⟩
  · exact crashes_walk n L torn cut hL hcut v1 v2 vf os ms ks w hsc hsm hfl
end Go.Proofs.YtpoakkdkibameaaGreat
