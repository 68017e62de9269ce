/- The walk of ShadowRoom. The walk of ShadowRoom. -/
import Derived.Test.YtpoakkdkibameaaGan
namespace Go.Proofs.Ytpoakkdkibameaa
open Go.RowKit Go.Maps Go.Shelf
set_option linter.unusedSimpArgs false
set_option linter.unusedVariables false

/-- more[k:k+1] -/
theorem slice_one (g o m c k : Nat) (hk : k < m) (hc : m ≤ c) (hm : m ≤ 140737488351232) (w : World) : (Instr.slice 22 (.slice (some ⟨g, o, none⟩) m c) (some (.int .i64 (k : Nat))) (some (.int .i64 ((k : Int) + 1))) none).run Try.prog w = .ok (.slice (some ⟨g, o + k * 6, none⟩) 1 (c - k)) w := by
  have k0 : (0 : Int) ≤ (k : Int) := by omega
  have k1 : (0 : Int) ≤ (k : Int) + 1 := by omega
  have k2 : (k : Int) + 1 ≤ (c : Int) := by omega
  have k3 : (k : Int) ≤ (k : Int) + 1 := by omega
  have k4 : ((k : Int) + 1 - (k : Int)).toNat = 1 := by omega
  have k5 : ((c : Int) - (k : Int)).toNat = c - k := by omega
  have k6 : ¬ c - k = 0 := by omega
  have k7 : (k : Int) ≤ (c : Int) := by omega
  have k8 : ¬ c = k := by omega
  go_simp
theorem ScriptAt.one {W : World} {g o c : Nat} {os : List OpS} (h : ScriptAt W (.slice (some ⟨g, o, none⟩) os.length c) os) (k : Nat) (hk : k < os.length) : ScriptAt W (.slice (some ⟨g, o + k * 6, none⟩) 1 (c - k)) [os[k]] := by
  obtain ⟨g', o', c', hv, hr, hcap⟩ := h.get k hk
  injection hv with hv _ hc
  injection hv with hv
  injection hv with hg ho _
  subst hg ho hc
  refine ⟨.inr ⟨⟨g, o + k * 6, none⟩, c - k, rfl, by simp; omega, fun i hi j v hv => ?_⟩, by simp, fun x hx => ?_⟩
  · have hi0 : i = 0 := by simp at hi; omega
    subst hi0
    have := hr j v (by simpa using hv)
    rw [Addr.add_mid]
    simpa using this
  · simp at hx
    rw [hx]
    exact h.2.2 _ (List.getElem_mem hk)
theorem tells_next (x : SS) : tells x.next = tells x := layK_data _ _ _
theorem inv_new (N : Nat) : Inv (SS.new N) := ⟨by simp [SS.new], fun p hp => by cases hp⟩
/-- Commit, and what it turns. -/
theorem pair_commit2 {w0 w : World} {B0 s p S : Nat} {x : SS} {d : DS} (h : PairAt w0 B0 s p S x d) (ho : Only (fun _ => False) w0 w) (hB0 : B0 ≤ w.heap.size) :
    Calls Try.prog 12 #[.pointer (some ⟨s, 0, none⟩)] w fun e w' =>
      (freeN x x.size < needN x ∧ e = .returned (.int .i64 7) ∧ Hid (PairAt w' B0 s p S x d ∧ Only (fun _ => False) w w')) ∨
      (needN x ≤ freeN x x.size ∧ e = .returned (.int .i64 0) ∧ Hid (PairAt w' B0 s p S x.next (cmX x d).2 ∧ Only (fun k => B0 ≤ k ∧ k < w0.heap.size) w w')) := by
  obtain ⟨pv, mc, mn, tv, B, h1, h2, h3, h4⟩ := h.all
  have h' := h.still ho
  have h1' : DiskAt w B p S pv d := h1.frame ho (fun _ _ e => e)
  have h3' := h3.still ho
  refine (commit_any h3' h1' (Nat.le_trans h2 ho.size) h.byte h.good (by rw [h.pend]; simp)).mono ?_
  rintro e w' hh
  rcases hh.out with ⟨q1, rfl, q2⟩ | ⟨q1, q2, _⟩ | ⟨q1, q2, rfl, pv', mc', mn', tv', q3, q4, q5, q6, q7, q8⟩
  · exact .inl ⟨q1, rfl, h'.still q2, q2⟩
  · exact absurd (cm_live h3.wf q1 h.life h.size h.byte h.good h3.now.rise h.bytes).1 q2
  · obtain ⟨_, r2, r3, r4, r5⟩ := cm_live h3.wf q1 h.life h.size h.byte h.good h3.now.rise h.bytes
    refine .inr ⟨q1, rfl, { all := ⟨pv', mc', mn', tv', B, q3, Nat.le_trans h2 (Nat.le_trans ho.size q5.size), q4, ?_⟩, byte := r5, good := ?_, pend := r4, life := r2, size := by rw [r3]; exact h.size }, q5.mono (fun k _ e => ?_)⟩
    · rintro k (e | e | e | e)
      · exact h4 k (.inl e)
      · omega
      · omega
      · rcases e with e | e | e
        · exact h4 k (.inr (.inr (.inr (.inl e))))
        · exact h4 k (.inr (.inr (.inr (.inr (.inl e)))))
        · rcases q6 k e with e | e
          · exact h4 k (.inr (.inr (.inr (.inr (.inr e)))))
          · omega
    · unfold Good
      rw [r4]
      rfl
    · rcases e with e | e
      · exact ⟨h4 k (.inr (.inr (.inr e))), (h1.lt k e).2⟩
      · exact ⟨h4 k (.inl e), by rw [e]; exact h3.lt⟩
theorem PairAt.st {w : World} {B0 s p S : Nat} {x : SS} {d : DS} (h : PairAt w B0 s p S x d) : ∃ dk mc mn tv, StAt w dk s p mc mn tv x ∧ ∀ k, dk k → k < w.heap.size := by
  obtain ⟨pv, mc, mn, tv, B, h1, h2, h3, h4⟩ := h.all
  exact ⟨_, mc, mn, tv, h3, fun k hk => (h1.lt k hk).2⟩
theorem pair_room {w : World} {B0 s p S : Nat} {x : SS} {d : DS} (h : PairAt w B0 s p S x d) : Calls Try.prog 9 #[.pointer (some ⟨s, 0, none⟩)] w fun e w' => e = .returned (.tuple #[.int .i64 (freeN x x.size : Nat), .int .i64 (needN x : Nat)]) ∧ Hid (Only (fun _ => False) w w') := by
  obtain ⟨dk, mc, mn, tv, h3, hd⟩ := h.st
  exact (room_any h3 hd).mono (fun e w' ⟨a, b⟩ => ⟨a, b⟩)
theorem pair_told {w : World} {B0 s p S : Nat} {x : SS} {d : DS} (h : PairAt w B0 s p S x d) : Calls Try.prog 10 #[.pointer (some ⟨s, 0, none⟩)] w fun e w' => ∃ a n c rs, e = .returned (.tuple #[.slice a n c, .bool true]) ∧ n = x.now.length ∧ Hid (TdAt w' w.heap.size (.slice a n c) rs (tells x) ∧ Only (fun _ => False) w w') := by
  obtain ⟨dk, mc, mn, tv, h3, hd⟩ := h.st
  refine (told_any h3).mono ?_
  rintro e w' ⟨v, rs, rfl, hh⟩
  obtain ⟨a, c, rfl⟩ := ownsRow_slice hh.out.1.own
  exact ⟨a, rs.length, c, rs, rfl, by rw [hh.out.1.len]; simp [tells], hh.out⟩
theorem pair_epoch {w : World} {B0 s p S : Nat} {x : SS} {d : DS} (h : PairAt w B0 s p S x d) : Calls Try.prog 11 #[.pointer (some ⟨s, 0, none⟩)] w fun e w' => e = .returned (.int .u64 (x.epoch : Nat)) ∧ w' = w := by
  obtain ⟨dk, mc, mn, tv, h3, hd⟩ := h.st
  exact epoch_ok h3
theorem pair_len {w : World} {B0 s p S : Nat} {x : SS} {d : DS} (h : PairAt w B0 s p S x d) : Calls Try.prog 14 #[.pointer (some ⟨p, 0, none⟩)] w fun e w' => e = .returned (.int .i64 (d.n : Nat)) ∧ w' = w := by
  obtain ⟨pv, mc, mn, tv, B, h1, h2, h3, h4⟩ := h.all
  obtain ⟨c, hc⟩ := h1.c0
  exact len_any p S d.n c w hc
end Go.Proofs.Ytpoakkdkibameaa
namespace Go.Proofs.Ytpoakkdkibameaa
open Go.RowKit Go.Maps Go.Shelf
set_option linter.unusedSimpArgs false
set_option linter.unusedVariables false

set_option maxRecDepth 100000 in
set_option maxHeartbeats 2000000 in
theorem room_law (n : Int) (v1 v2 : Value) (os ms : List OpS) (w : World) (hsc : ScriptAt w v1 os) (hsm : ScriptAt w v2 ms) :
    Calls Try.prog 3 #[.int .i64 n, v1, v2] w fun e w' => e = .returned (.bool true) ∧ Below w.heap.size w w' := by
  have hN := secsN_ge n
  have HG : Hid (Calls Try.prog 6 _ _ _) := grown_core stable_inv (secsN n) hN (inv_new _) n rfl v1 os w hsc
  obtain ⟨a2, c2, rfl⟩ := hsm.form
  have HSM : Hid (ScriptAt w (.slice a2 ms.length c2) ms) := hsm
  have hml := hsm.2.1
  obtain ⟨m, hm⟩ : ∃ m, m = ms.length := ⟨_, rfl⟩
  have HM : Hid (m = ms.length) := hm
  obtain ⟨N, hNe⟩ : ∃ N, N = secsN n := ⟨_, rfl⟩
  rw [← hm] at hml ⊢
  rw [← hNe] at HG hN
  clear hsc hsm hm hNe
  go_enter Try.func3, Try.ntmps3
  go_wp2_with fail
  refine (show Calls Try.prog 6 _ _ _ from HG.out).mono ?_
  rintro e w1 ⟨p, s, S, rfl, HW1⟩
  clear HG
  go_wp2_with fail
  refine (awake_any w1).mono ?_
  rintro e w2 ⟨rfl, ho2⟩
  have HW2 : Hid (WkI (fun x _ => Inv x) w w.heap.size s p S N w2) := by
    obtain ⟨⟨x, d, hp, hx, hn, ho⟩, _⟩ := HW1.out
    exact ⟨x, d, hp.still ho2, hx, hn, ho.trans ho2 (fun _ _ e => e.elim)⟩
  clear HW1 ho2
  go_wp2
  go_loopw [9] (fun t W => ∃ k : Nat, k ≤ m ∧ t = .int .i64 k ∧ WkI (fun x _ => Inv x) w w.heap.size s p S N W) (fun t _ => m - (intOf t).toNat)
  case atStart => exact ⟨0, Nat.zero_le _, rfl, HW2.out⟩
  case round =>
    clear HW2
    obtain ⟨k, hk, rfl, hI⟩ := hrel
    obtain ⟨W, rfl⟩ : ∃ W, W = wr := ⟨_, rfl⟩
    by_cases hlt : k < m
    · have hkl : k < ms.length := by have := HM.out; omega
      obtain ⟨g, o, c', hv, hrg, hcap⟩ := HSM.out.get k hkl
      injection hv with hv hv1 hv2
      clear hv1
      subst hv hv2
      have h1 := HSM.out.one k hkl
      obtain ⟨kd, hkd⟩ : ∃ kd, kd = (ms[k]).kind := ⟨_, rfl⟩
      have how : Only (fun b => w.heap.size ≤ b) w W := by obtain ⟨x, d, _, _, _, ho⟩ := hI; exact ho
      have y0 : W.cell? ⟨g, o + k * 6, none⟩ = some (.int .i64 kd) := by
        have h9 := hrg 0 _ rfl
        rw [hkd]
        exact how.cell h9 (by have := World.block_lt_of_cell? w _ h9; simp at this ⊢; omega)
      have k0 : (0 : Int) ≤ (k : Int) := by omega
      have k1 : (k : Int) < (m : Int) := by omega
      have hsl := slice_one g o m c2 k hlt (by have := HM.out; omega) hml
      have HI : Hid (WkI (fun x _ => Inv x) w w.heap.size s p S N W) := hI
      have HWo : Hid (Calls Try.prog 8 #[.pointer (some ⟨s, 0, none⟩), .slice (some ⟨g, o + k * 6, none⟩) 1 (c2 - k)] W fun e W2 => e = .returned (.tuple #[]) ∧ Hid (WkI (fun x _ => Inv x) w w.heap.size s p S N W2)) := by
        obtain ⟨x, d, hp, hx, hn, ho⟩ := hI
        refine (work_any stable_inv _ [ms[k]] w h1 rfl ho ⟨x, d, hp, hx, hn, Only.refl _ _⟩).mono ?_
        rintro e W2 ⟨rfl, x2, d2, hp2, hx2, hn2, ho2⟩
        exact ⟨rfl, x2, d2, hp2, hx2, hn2, ho.trans ho2 (fun _ _ e => e)⟩
      have e1 : IntKind.i64.wrap ((k : Int) + 1) = (k : Int) + 1 := by rw [IntKind.wrap_i64]; omega
      clear hI h1 how hrg hkd hcap
      by_cases hk3 : kd = 3
      · subst hk3
        go_wp2
        go_roundw
        case rel => exact ⟨k + 1, by omega, by go_num, HI.out⟩
        case measure => simp [intOf]; omega
      · have hk3' : (kd == 3) = false := by simpa using hk3
        go_wp2_with fail
        refine (show Calls Try.prog 8 _ _ _ from HWo.out).mono ?_
        rintro e W2 ⟨rfl, HW2⟩
        clear HWo hsl
        go_wp2
        go_roundw
        case rel => exact ⟨k + 1, by omega, by go_num, HW2.out⟩
        case measure => simp [intOf]; omega
    · obtain ⟨x, d, hp, hx, hn, ho⟩ := hI
      have HP : Hid (PairAt W w.heap.size s p S x d ∧ Inv x ∧ d.n = N ∧ Only (fun k => w.heap.size ≤ k) w W) := ⟨hp, hx, hn, ho⟩
      have HR : Hid (Calls Try.prog 9 _ _ _) := pair_room hp
      obtain ⟨f0, hf0⟩ : ∃ q, q = freeN x x.size := ⟨_, rfl⟩
      obtain ⟨n0, hn0⟩ : ∃ q, q = needN x := ⟨_, rfl⟩
      have HFN : Hid (f0 = freeN x x.size ∧ n0 = needN x) := ⟨hf0, hn0⟩
      rw [← hf0, ← hn0] at HR
      clear hp hx hn ho hf0 hn0
      go_wp2_with fail
      refine (show Calls Try.prog 9 _ _ _ from HR.out).mono ?_
      rintro e w3 ⟨rfl, HO3⟩
      clear HR
      have HTb : Hid (Calls Try.prog 10 _ _ _) := pair_told (HP.out.1.still HO3.out)
      go_wp2_with fail
      refine (show Calls Try.prog 10 _ _ _ from HTb.out).mono ?_
      rintro e w4 ⟨ab, nb, cb, rsb, rfl, hnb, HT4⟩
      clear HTb hnb
      have O4 : Hid (Only (fun _ => False) W w4) := HO3.out.trans HT4.out.2 (fun _ _ e => e)
      have hnl : x.now.length ≤ 728 := by obtain ⟨dk, mc, mn, tv, h3, hd⟩ := HP.out.1.st; exact st_len h3
      have hwf : x.Wf := by obtain ⟨dk, mc, mn, tv, h3, hd⟩ := HP.out.1.st; exact h3.wf
      have HEp : Hid (Calls Try.prog 11 _ _ _) := pair_epoch (HP.out.1.still O4.out)
      have HCm : Hid (Calls Try.prog 12 _ _ _) := pair_commit2 HP.out.1 O4.out (by have := HP.out.2.2.2.size; have := O4.out.size; omega)
      obtain ⟨ep, hep⟩ : ∃ q, q = x.epoch := ⟨_, rfl⟩
      have HEQ : Hid (ep = x.epoch) := hep
      rw [← hep] at HEp
      clear hep
      go_wp2_with (go_at_call 11; refine (show Calls Try.prog 11 _ _ _ from HEp.out).mono ?_; rintro e wz ⟨rfl, rfl⟩)
      refine (show Calls Try.prog 12 _ _ _ from HCm.out).mono ?_
      clear HCm HEp
      rintro e w5 (⟨hfit, rfl, HC5⟩ | ⟨hfit, rfl, HC5⟩)
      · have hle : ¬ (n0 : Int) ≤ (f0 : Int) := by have := HFN.out; omega
        have HTa : Hid (Calls Try.prog 10 _ _ _) := pair_told HC5.out.1
        go_wp2_with fail
        refine (show Calls Try.prog 10 _ _ _ from HTa.out).mono ?_
        rintro e w6 ⟨aa, na, ca, rsa, rfl, hna, HT6⟩
        have HNA : Hid _ := hna
        clear HTa hna
        have HSa : Hid (Calls Try.prog 13 _ _ _) := same_td ((HT4.out.1.frame HC5.out.2 (fun _ _ _ e => e)).frame HT6.out.2 (fun _ _ _ e => e)) HT6.out.1 (by unfold tells; rw [List.length_map]; omega)
        go_wp2_with fail
        refine (show Calls Try.prog 13 _ _ _ from HSa.out).mono ?_
        rintro e w7 ⟨rfl, ho7⟩
        clear HSa
        have HEp : Hid (Calls Try.prog 11 _ _ _) := pair_epoch ((HC5.out.1.still HT6.out.2).still ho7)
        rw [← HEQ.out] at HEp
        have HEnd : Hid (Only (fun k => w.heap.size ≤ k) w w7) := HP.out.2.2.2.trans ((((O4.out.trans HC5.out.2 (fun _ _ e => e)).trans HT6.out.2 (fun _ _ e => e)).trans ho7 (fun _ _ e => e))) (fun _ _ e => e.elim)
        clear ho7
        go_wp2_with (go_at_call 11; refine (show Calls Try.prog 11 _ _ _ from HEp.out).mono ?_; rintro e wy ⟨rfl, rfl⟩)
        go_ret
        exact ⟨rfl, HEnd.out.below (fun _ e => e) (Nat.le_refl _)⟩
      · have hle : (n0 : Int) ≤ (f0 : Int) := by have := HFN.out; omega
        have HTa : Hid (Calls Try.prog 10 _ _ _) := pair_told HC5.out.1
        go_wp2_with fail
        refine (show Calls Try.prog 10 _ _ _ from HTa.out).mono ?_
        rintro e w6 ⟨aa, na, ca, rsa, rfl, hna, HT6⟩
        have HNA : Hid _ := hna
        clear HTa hna
        have HSa : Hid (Calls Try.prog 13 _ _ _) := same_td ((HT4.out.1.frame HC5.out.2 (fun k h1 _ e => by have := HO3.out.size; omega)).frame HT6.out.2 (fun _ _ _ e => e)) (by rw [← tells_next]; exact HT6.out.1) (by unfold tells; rw [List.length_map]; omega)
        go_wp2_with fail
        refine (show Calls Try.prog 13 _ _ _ from HSa.out).mono ?_
        rintro e w7 ⟨rfl, ho7⟩
        clear HSa
        have HP7 : Hid (PairAt w7 w.heap.size s p S x.next (cmX x d).2) := (HC5.out.1.still HT6.out.2).still ho7
        have HE7 : Hid (Only (fun k => w.heap.size ≤ k) w w7) := (((HP.out.2.2.2.trans O4.out (fun _ _ e => e.elim)).trans HC5.out.2 (fun _ _ e => e.1)).trans HT6.out.2 (fun _ _ e => e.elim)).trans ho7 (fun _ _ e => e.elim)
        have HR7 : Hid (Calls Try.prog 9 _ _ _) := pair_room HP7.out
        obtain ⟨f1, hf1⟩ : ∃ q, q = freeN x.next x.next.size := ⟨_, rfl⟩
        obtain ⟨n1, hn1⟩ : ∃ q, q = needN x.next := ⟨_, rfl⟩
        have hcount : f1 + n1 + na + 2 = N / 4 := by
          have hnw := next_wf hwf hfit
          have h1 := room_count hnw (next_nodup hwf (by obtain ⟨dk, mc, mn, tv, h3, hd⟩ := HP.out.1.st; exact h3.now.rise) hfit HP.out.2.1)
          have h2 := next_need hwf hfit
          have hna := HNA.out
          have h3 : x.next.com.length = x.next.now.length := rfl
          have h4 : x.next.tabs.length = (tbs x).length := rfl
          have h5 : x.next.size = x.size := rfl
          have h6 := HP.out.1.size
          have h7 := HP.out.2.2.1
          rw [h7] at h6
          omega
        rw [← hf1, ← hn1] at HR7
        clear hf1 hn1 ho7
        go_wp2_with fail
        refine (show Calls Try.prog 9 _ _ _ from HR7.out).mono ?_
        rintro e w8 ⟨rfl, HO8⟩
        clear HR7
        have HP8 : Hid (PairAt w8 w.heap.size s p S x.next (cmX x d).2) := HP7.out.still HO8.out
        obtain ⟨E, hE⟩ : ∃ E, E = (ep + 1) % 18446744073709551616 := ⟨_, rfl⟩
        have HEp : Hid (Calls Try.prog 11 #[.pointer (some ⟨s, 0, none⟩)] w8 fun e w' => e = .returned (.int .u64 (E : Nat)) ∧ w' = w8) := by
          have := pair_epoch HP8.out
          have e1 : x.next.epoch = E := by rw [hE, HEQ.out]; rfl
          rw [e1] at this
          exact this
        have HLn : Hid (Calls Try.prog 14 #[.pointer (some ⟨p, 0, none⟩)] w8 fun e w' => e = .returned (.int .i64 (N : Nat)) ∧ w' = w8) := by
          have := pair_len HP8.out
          rw [cm_n HP.out.1 hfit, HP.out.2.2.1] at this
          exact this
        have hep : ep < 18446744073709551616 := by rw [HEQ.out]; exact hwf.epoch
        have eE : IntKind.u64.wrap ((ep : Int) + 1) = (E : Int) := by rw [IntKind.wrap_u64, hE]; omega
        have s1 : IntKind.i64.wrap ((f1 : Int) + (n1 : Int)) = ((f1 + n1 : Nat) : Int) := by rw [IntKind.wrap_i64]; omega
        have s2 : IntKind.i64.wrap (((f1 + n1 : Nat) : Int) + (na : Int)) = ((f1 + n1 + na : Nat) : Int) := by rw [IntKind.wrap_i64]; omega
        have s3 : IntKind.i64.wrap (((f1 + n1 + na : Nat) : Int) + 2) = ((N / 4 : Nat) : Int) := by rw [IntKind.wrap_i64]; omega
        have s4 : Int.tdiv (N : Int) 4 = ((N / 4 : Nat) : Int) := by rw [Int.tdiv_eq_ediv_of_nonneg (by omega)]; omega
        have s5 : IntKind.i64.wrap ((N / 4 : Nat) : Int) = ((N / 4 : Nat) : Int) := by rw [IntKind.wrap_i64]; omega
        have hbb : ((f1 : Int) + (n1 : Int) + (na : Int) + 2 == (N : Int) / 4) = true := by simp only [beq_iff_eq]; omega
        have HEnd : Hid (Only (fun k => w.heap.size ≤ k) w w8) := HE7.out.trans HO8.out (fun _ _ e => e.elim)
        clear hE
        go_wp2_with (first | (go_at_call 11; refine (show Calls Try.prog 11 _ _ _ from HEp.out).mono ?_; rintro e wy ⟨rfl, rfl⟩) | (go_at_call 14; refine (show Calls Try.prog 14 _ _ _ from HLn.out).mono ?_; rintro e wy ⟨rfl, rfl⟩))
        go_ret
        exact ⟨by first | rfl | (simp only [hbb]; rfl), HEnd.out.below (fun _ e => e) (Nat.le_refl _)⟩
end Go.Proofs.Ytpoakkdkibameaa
