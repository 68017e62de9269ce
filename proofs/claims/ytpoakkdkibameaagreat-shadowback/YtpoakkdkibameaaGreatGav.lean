/- The walk of ShadowBack. -/
import Derived.Test.YtpoakkdkibameaaGreatGau
namespace Go.Proofs.YtpoakkdkibameaaGreat
open Go.RowKit Go.Maps Go.Shelf
set_option linter.unusedSimpArgs false
set_option linter.unusedVariables false

/-- All that the end of ShadowBack wants of the store at its start. -/
structure BackAt (w2 w3 : World) (x : SS) (d : DS) (vk : Value) (rs : List (Int × Value)) : Prop where
  wf : x.Wf
  rise : Rise x.com
  inv : Inv x
  hold : Hold x d
  low : Low x d
  now : x.now = x.com
  kept : TdAt w3 w2.heap.size vk rs (tells x)
  len : (tells x).length ≤ 1000
set_option maxRecDepth 100000 in
set_option maxHeartbeats 2000000 in
theorem back_law (n : Int) (v1 v2 : Value) (os ms : List OpS) (w : World) (hsc : ScriptAt w v1 os) (hsm : ScriptAt w v2 ms) :
    Calls Tryz.prog 5 #[.int .i64 n, v1, v2] w fun e w' => e = .returned (.bool true) ∧ Below w.heap.size w w' := by
  have hN := secsN_ge n
  have HG : Hid (Calls Tryz.prog 13 _ _ _) := grownN stable_kj (secsN n) hN (kj_new _ hN.1) n rfl v1 os w hsc
  obtain ⟨a2, c2, rfl⟩ := hsm.form
  have HSM : Hid (ScriptAt w (.slice a2 ms.length c2) ms) := hsm
  have hml := hsm.2.1
  obtain ⟨m, hm⟩ : ∃ m, m = ms.length := ⟨_, rfl⟩
  have HM : Hid (m = ms.length) := hm
  obtain ⟨N, hNe⟩ : ∃ N, N = secsN n := ⟨_, rfl⟩
  rw [← hm] at hml ⊢
  rw [← hNe] at HG hN
  clear hsc hsm hm hNe
  go_enter Tryz.func5, Tryz.ntmps5
  go_wp2_with fail
  refine (show Calls Tryz.prog 13 _ _ _ from HG.out).mono ?_
  rintro e w1 ⟨p, s, S, rfl, HW1⟩
  clear HG
  go_wp2_with fail
  refine (awake_any w1).mono ?_
  rintro e w2 ⟨rfl, ho2⟩
  obtain ⟨⟨x, d, hp, hx, hn, ho, hc⟩, _⟩ := HW1.out
  have HP2 : Hid (PairK w2 (fun k => w.heap.size ≤ k) s p S x d ∧ KJ (os.length + 2) x d ∧ d.n = N ∧ x.now = x.com ∧ Only (fun k => w.heap.size ≤ k) w w2) := ⟨hp.still ho2, hx, hn, hc, ho.trans ho2 (fun _ _ e => e.elim)⟩
  have HTk : Hid (Calls Tryz.prog 14 _ _ _) := pairk_told HP2.out.1
  clear HW1 ho2 hp hx hn ho hc
  go_wp2_with fail
  refine (show Calls Tryz.prog 14 _ _ _ from HTk.out).mono ?_
  rintro e w3 ⟨ak, nk, ck, rsk, rfl, hnk, HT3⟩
  clear HTk hnk
  have HBK : Hid (BackAt w2 w3 x d (.slice ak nk ck) rsk) := by
    obtain ⟨q1, q2, q3, q4, q5⟩ := HP2.out
    obtain ⟨dk, mc, mn, tv, h3, hd⟩ := q1.st
    exact ⟨h3.wf, h3.com.rise, q2.inv, q2.hold, q2.oth.low, q4, HT3.out.1, by unfold tells; rw [List.length_map]; have := st_len h3; omega⟩
  have HZ : Hid (w.heap.size ≤ w2.heap.size ∧ w2.heap.size ≤ w3.heap.size ∧ Only (fun k => w.heap.size ≤ k) w w3) := ⟨HP2.out.2.2.2.2.size, HT3.out.2.size, HP2.out.2.2.2.2.trans HT3.out.2 (fun _ _ e => e.elim)⟩
  obtain ⟨K, hK⟩ : ∃ K : Nat → Prop, K = fun k => w.heap.size ≤ k ∧ ¬ (w2.heap.size ≤ k ∧ k < w3.heap.size) := ⟨_, rfl⟩
  have HK : Hid (K = fun k => w.heap.size ≤ k ∧ ¬ (w2.heap.size ≤ k ∧ k < w3.heap.size)) := hK
  have HI3 : Hid (WkN (MJ x d) 0 w3 K s p S N w3) := by
    obtain ⟨q1, q2, q3, q4, q5⟩ := HP2.out
    refine ⟨x, d, ?_, ⟨rfl, ⟨x.now, rfl⟩, q2.inv⟩, q3, Only.refl _ _⟩
    rw [hK]
    exact (q1.mono (fun k hk e => ⟨e, fun h => by omega⟩)).still HT3.out.2
  have HK0 : Hid (∀ k, k < w.heap.size → ¬ K k) := fun k hk e => by rw [hK] at e; omega
  have HK1 : Hid (∀ k, w3.heap.size ≤ k → K k) := fun k hk => by rw [hK]; have := HZ.out; exact ⟨by omega, fun h => by omega⟩
  have HK2 : Hid (∀ k, K k → w.heap.size ≤ k) := fun k e => by rw [hK] at e; exact e.1
  have HK3 : Hid (∀ k, w2.heap.size ≤ k → k < w3.heap.size → ¬ K k) := fun k h1 h2 e => by rw [hK] at e; exact e.2 ⟨h1, h2⟩
  clear HP2 HT3 hK HK
  go_wp2
  go_loopw [11] (fun t W => ∃ k : Nat, k ≤ m ∧ t = .int .i64 k ∧ WkN (MJ x d) 0 w3 K s p S N W) (fun t _ => m - (intOf t).toNat)
  case atStart => exact ⟨0, Nat.zero_le _, rfl, HI3.out⟩
  case round =>
    clear HI3
    obtain ⟨k, hk, rfl, hI⟩ := hrel
    obtain ⟨W, rfl⟩ : ∃ W, W = wr := ⟨_, rfl⟩
    by_cases hlt : k < m
    · have hkl : k < ms.length := by have := HM.out; omega
      obtain ⟨g, o, c', hv, hrg, hcap⟩ := HSM.out.get k hkl
      injection hv with hv hv1 hv2
      clear hv1
      subst hv hv2
      have h1 := HSM.out.one k hkl
      obtain ⟨kd, hkd⟩ : ∃ kd, kd = (ms[k]).kind := ⟨_, rfl⟩
      have how : Only (fun b => w.heap.size ≤ b) w W := by obtain ⟨x, d, _, _, _, ho⟩ := hI; exact HZ.out.2.2.trans ho (fun k _ e => HK2.out k e)
      have y0 : W.cell? ⟨g, o + k * 6, none⟩ = some (.int .i64 kd) := by
        have h9 := hrg 0 _ rfl
        rw [hkd]
        exact how.cell h9 (by have := World.block_lt_of_cell? w _ h9; simp at this ⊢; omega)
      have k0 : (0 : Int) ≤ (k : Int) := by omega
      have k1 : (k : Int) < (m : Int) := by omega
      have hsl := slice_one g o m c2 k hlt (by have := HM.out; omega) hml
      have HI : Hid (WkN (MJ x d) 0 w3 K s p S N W) := hI
      have HKD : Hid (kd = (ms[k]).kind) := hkd
      have HWo : Hid (kd ≠ 3 → Calls Tryz.prog 15 #[.pointer (some ⟨s, 0, none⟩), .slice (some ⟨g, o + k * 6, none⟩) 1 (c2 - k)] W fun e W2 => e = .returned (.tuple #[]) ∧ Hid (WkN (MJ x d) 0 w3 K s p S N W2)) := by
        intro hne
        obtain ⟨x', d', hp, hx, hn, ho⟩ := hI
        refine (workN_any (stable_mj x d) (cn := 0) _ [ms[k]] w h1 HK0.out (fun k hk => HK1.out k (Nat.le_trans ho.size hk)) ((HZ.out.2.2.mono (fun k _ e => ?_)).trans ho (fun _ _ e => e)) ⟨x', d', hp, hx, hn, Only.refl _ _⟩ (by simp) (fun o ho e => ?_)).mono ?_
        · exact absurd e (by omega)
        · simp only [List.mem_singleton] at ho
          subst ho
          exact absurd (HKD.out.trans e) hne
        · rintro e W2 ⟨rfl, x2, d2, hp2, hx2, hn2, ho2⟩
          exact ⟨rfl, x2, d2, hp2, hx2, hn2, ho.trans ho2 (fun _ _ e => e)⟩
      have e1 : IntKind.i64.wrap ((k : Int) + 1) = (k : Int) + 1 := by rw [IntKind.wrap_i64]; omega
      clear hI h1 how hrg hkd hcap HKD
      by_cases hk3 : kd = 3
      · subst hk3
        go_wp2
        go_roundw
        case rel => exact ⟨k + 1, by omega, by go_num, HI.out⟩
        case measure => simp [intOf]; omega
      · have hk3' : (kd == 3) = false := by simpa using hk3
        go_wp2_with fail
        refine (show Calls Tryz.prog 15 _ _ _ from HWo.out hk3).mono ?_
        rintro e W2 ⟨rfl, HW2⟩
        clear HWo hsl
        go_wp2
        go_roundw
        case rel => exact ⟨k + 1, by omega, by go_num, HW2.out⟩
        case measure => simp [intOf]; omega
    · obtain ⟨x', d', hp, ⟨hd', ⟨l, hx'⟩, hinv⟩, hn, ho⟩ := hI
      subst hd'
      have HP : Hid (PairK W K s p S x' d' ∧ Only K w3 W) := ⟨hp, ho⟩
      have HX : Hid (x' = { x with now := l }) := hx'
      have HOp : Hid (Calls Tryz.prog 20 _ _ _) := open_pair hp HBK.out.wf HBK.out.rise (by rw [hx']) ⟨HBK.out.inv, HBK.out.hold, HBK.out.low⟩ HBK.out.now
      clear hp hx' hinv hn ho
      go_wp2_with fail
      refine (show Calls Tryz.prog 20 _ _ _ from HOp.out).mono ?_
      rintro e w4 ⟨s', rfl, HO4⟩
      clear HOp
      obtain ⟨E, hE⟩ : ∃ E, E = x.epoch := ⟨_, rfl⟩
      have HEp : Hid (∀ q : Nat, q = s ∨ q = s' → Calls Tryz.prog 22 #[.pointer (some ⟨q, 0, none⟩)] w4 fun e w' => e = .returned (.int .u64 (E : Nat)) ∧ w' = w4) := by
        obtain ⟨o4, mc, mn, tv, st4⟩ := HO4.out
        rintro q (rfl | rfl)
        · obtain ⟨dk, mc, mn, tv, h3, hd⟩ := (HP.out.1.still o4).st
          have := epoch_ok h3
          rw [HX.out] at this
          rw [hE]
          exact this
        · rw [hE]
          exact epoch_ok st4
      have HRo : Hid (Calls Tryz.prog 23 #[.pointer (some ⟨s, 0, none⟩)] w4 fun e w' => e = .returned (.int .i64 0) ∧ Hid (∃ dk mc mn tv, StAt w' dk s p mc mn tv { x with now := x.com } ∧ Only (fun k => k = s) w4 w' ∧ s < W.heap.size ∧ K s)) := by
        obtain ⟨pv, mc, mn, tv, B, h1, h2, h3, h4⟩ := (HP.out.1.still HO4.out.1).all
        have hsl : s < W.heap.size := by obtain ⟨dk, mc, mn, tv, h3, hd⟩ := HP.out.1.st; exact h3.lt
        refine (rollback_ok h3 (fun k hk => (h1.lt k hk).2)).mono ?_
        rintro e w' ⟨mn', rfl, hh⟩
        obtain ⟨r1, r2, r3⟩ := hh.out
        rw [HX.out] at r1
        exact ⟨rfl, _, _, _, _, r1, r2, hsl, h4 s (.inl rfl)⟩
      clear hE
      go_wp2_with (first | (go_at_call 22; refine (show Calls Tryz.prog 22 _ _ _ from HEp.out _ (by first | exact .inl rfl | exact .inr rfl)).mono ?_; rintro e wy ⟨rfl, hwy⟩; rw [hwy]; clear hwy))
      refine (show Calls Tryz.prog 23 _ _ _ from HRo.out).mono ?_
      rintro e w5 ⟨rfl, HR5⟩
      clear HRo HEp
      have HTa : Hid (Calls Tryz.prog 14 #[.pointer (some ⟨s', 0, none⟩)] w5 fun e w' => ∃ a n c rs, e = .returned (.tuple #[.slice a n c, .bool true]) ∧ n = x.now.length ∧ Hid (TdAt w' w5.heap.size (.slice a n c) rs (tells x) ∧ Only (fun _ => False) w5 w')) := by
        obtain ⟨o4, mc, mn, tv, st4⟩ := HO4.out
        obtain ⟨dk, mc5, mn5, tv5, st5, o5, hsl, _⟩ := HR5.out
        exact st_told (st4.frame (dk' := fun k => k < W.heap.size) o5 (fun k _ e => by rw [e]; exact hsl) (fun _ _ e => e))
      go_wp2_with fail
      refine (show Calls Tryz.prog 14 _ _ _ from HTa.out).mono ?_
      rintro e w6 ⟨aa, na, ca, rsa, rfl, hna, HT6⟩
      clear HTa hna
      have HTb : Hid (Calls Tryz.prog 14 #[.pointer (some ⟨s, 0, none⟩)] w6 fun e w' => ∃ a n c rs, e = .returned (.tuple #[.slice a n c, .bool true]) ∧ Hid (TdAt w' w6.heap.size (.slice a n c) rs (tells x) ∧ Only (fun _ => False) w6 w')) := by
        obtain ⟨dk, mc5, mn5, tv5, st5, o5, hsl, _⟩ := HR5.out
        refine (st_told (st5.still HT6.out.2)).mono ?_
        rintro e w' ⟨a, n, c, rs, rfl, _, hh⟩
        refine ⟨a, n, c, rs, rfl, ?_, hh.out.2⟩
        have et : tells { x with now := x.com } = tells x := by unfold tells; rw [HBK.out.now]
        rw [← et]
        exact hh.out.1
      go_wp2_with fail
      refine (show Calls Tryz.prog 14 _ _ _ from HTb.out).mono ?_
      rintro e w7 ⟨ab, nb, cb, rsb, rfl, HT7⟩
      clear HTb
      have HTK : Hid (TdAt w7 w2.heap.size (.slice ak nk ck) rsk (tells x)) := by
        obtain ⟨dk, mc5, mn5, tv5, st5, o5, hsl, hks⟩ := HR5.out
        have o34 : Only K w3 w4 := HP.out.2.trans HO4.out.1 (fun _ _ e => e.elim)
        have o35 : Only K w3 w5 := o34.trans o5 (fun k _ e => by rw [e]; exact hks)
        have o37 : Only K w3 w7 := (o35.trans HT6.out.2 (fun _ _ e => e.elim)).trans HT7.out.2 (fun _ _ e => e.elim)
        exact HBK.out.kept.frame o37 (fun k h1 h2 e => HK3.out k h1 h2 e)
      have HEnd : Hid (Only (fun k => w.heap.size ≤ k) w w7) := by
        obtain ⟨dk, mc5, mn5, tv5, st5, o5, hsl, hks⟩ := HR5.out
        have o34 : Only K w3 w4 := HP.out.2.trans HO4.out.1 (fun _ _ e => e.elim)
        have o35 : Only K w3 w5 := o34.trans o5 (fun k _ e => by rw [e]; exact hks)
        have o37 : Only K w3 w7 := (o35.trans HT6.out.2 (fun _ _ e => e.elim)).trans HT7.out.2 (fun _ _ e => e.elim)
        exact HZ.out.2.2.trans o37 (fun k _ e => HK2.out k e)
      have HS1 : Hid (∀ wz, Only (fun _ => False) w7 wz → Calls Tryz.prog 21 #[.slice aa na ca, .slice ak nk ck] wz fun e w' => e = .returned (.bool true) ∧ Only (fun _ => False) wz w') := fun wz oz => same_td ((HT6.out.1.frame HT7.out.2 (fun _ _ _ e => e)).frame oz (fun _ _ _ e => e)) (HTK.out.frame oz (fun _ _ _ e => e)) HBK.out.len
      have HS2 : Hid (∀ wz, Only (fun _ => False) w7 wz → Calls Tryz.prog 21 #[.slice ab nb cb, .slice ak nk ck] wz fun e w' => e = .returned (.bool true) ∧ Only (fun _ => False) wz w') := fun wz oz => same_td (HT7.out.1.frame oz (fun _ _ _ e => e)) (HTK.out.frame oz (fun _ _ _ e => e)) HBK.out.len
      have HS1' : Hid (Calls Tryz.prog 21 _ _ _) := HS1.out w7 (Only.refl _ _)
      clear HS1
      go_wp2_with fail
      refine (show Calls Tryz.prog 21 _ _ _ from HS1'.out).mono ?_
      rintro e w8 ⟨rfl, ho8⟩
      have HS2' : Hid (Calls Tryz.prog 21 _ _ _) := HS2.out w8 ho8
      have HE8 : Hid (Only (fun k => w.heap.size ≤ k) w w8) := HEnd.out.trans ho8 (fun _ _ e => e.elim)
      clear HS1' HS2 ho8
      go_wp2_with fail
      refine (show Calls Tryz.prog 21 _ _ _ from HS2'.out).mono ?_
      rintro e w9 ⟨rfl, ho9⟩
      have HE9 : Hid (Only (fun k => w.heap.size ≤ k) w w9) := HE8.out.trans ho9 (fun _ _ e => e.elim)
      clear HS2' ho9
      go_wp2
      go_ret
      exact ⟨rfl, HE9.out.below (fun _ e => e) (Nat.le_refl _)⟩
end Go.Proofs.YtpoakkdkibameaaGreat
