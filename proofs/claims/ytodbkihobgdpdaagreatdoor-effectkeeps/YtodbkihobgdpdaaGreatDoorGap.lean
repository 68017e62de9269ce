/- Words that call quotations: if. One item. -/
import Derived.Test.YtodbkihobgdpdaaGreatDoorGao
namespace Go.Proofs.YtodbkihobgdpdaaGreatDoor
open Go.RowKit Go.Lib
set_option linter.unusedSimpArgs false
set_option linter.unusedVariables false
theorem InV.setNew {w w1 : World} {S : Nat → Prop} {d F M s N : Nat} {W : ByteArray → Option (Nat × Nat)} {v v1 : Value} {t : Ist} (h : InV w w1 S d F M W s v v1 t) (he : Env S F M s) (hN : w.heap.size ≤ N) (hs : s < N) (hv : v1.ownBlock ≠ some N) (i : Nat) (u : Value) : InV w (w1.setCell ⟨N, i, none⟩ u) S d F M W s v v1 t := by
  have o : Only (fun b => b = N) w1 (w1.setCell ⟨N, i, none⟩ u) := (Only.refl _ _).setCell _ _ (fun _ => rfl)
  refine ⟨h.1.only o (by have := he.1; omega) (by have := he.2.1; omega), h.2.1.only o (by omega) (fun k hk e => hv (e ▸ hk)) (fun b hb e => by have := (he.2.2.2 b hb).1; omega), h.2.2.1, h.2.2.2.trans o (fun k hk e => by omega)⟩
set_option maxRecDepth 100000 in
set_option maxHeartbeats 1000000 in
theorem ct_choose {W : ByteArray → Option (Nat × Nat)} {S : Nat → Prop} {d F M n : Nat} (hW : WdOk W) (TH : ThC W S d F M n) {s : Nat} {v0 : Value} {t0 : Ist} {w0 : World} (he : Env S F M s) (hev : EvAt w0 F M W t0.a) (hes : EsV w0 S d s t0.st t0.tk v0) (hp : potE t0 + 32 ≤ 900000) (ha : t0.a < n) :
    Calls Tryz.prog 63 #[.pointer (some ⟨F, 0, none⟩), .pointer (some ⟨s, 0, none⟩)] w0 (TrP S d F M W s v0 (ctlE (thrE W n) 4 t0) w0) := by
  have HE : Hid (Env S F M s ∧ WdOk W ∧ ThC W S d F M n ∧ potE t0 + 32 ≤ 900000 ∧ t0.a < n) := ⟨he, hW, TH, hp, ha⟩
  have I0 : Hid (InV w0 w0 S d F M W s v0 v0 t0 ∧ potE t0 ≤ potE t0 ∧ t0.a ≤ t0.a) := ⟨InV.refl hev hes, Nat.le_refl _, Nat.le_refl _⟩
  obtain ⟨R, hR0⟩ : ∃ R, R = ctlE (thrE W n) 4 t0 := ⟨_, rfl⟩
  rw [← hR0]
  have HR : Hid (R = ctlE (thrE W n) 4 t0) := hR0
  have HFN : Hid (∀ w, Calls Tryz.prog 77 #[.bool false] w fun e w' => e = gupE 12 ∧ w' = w) := fit_no
  have HFY : Hid (∀ w, Calls Tryz.prog 77 #[.bool true] w fun e w' => e = .returned (.tuple #[]) ∧ w' = w) := fit_yes
  clear he hW TH hp ha hev hes hR0
  go_enter Tryz.func63, Tryz.ntmps63
  obtain ⟨Z0, hZ0⟩ : ∃ Z, Z = quoE t0 := ⟨_, rfl⟩
  have HC : Hid (Calls Tryz.prog 75 #[.pointer (some ⟨s, 0, none⟩)] w0 (QuP S d s v0 Z0 w0)) := by rw [hZ0]; exact quotation_any t0.a I0.out.1.2.1 (fun b hb => (HE.out.1.2.2.2 b hb).1) (by have h1 := I0.out.2.1; have h2 := HE.out.2.2.2.1; show potE t0 ≤ 1000000; omega)
  have HZ0 : Hid (Z0 = quoE t0) := hZ0
  clear hZ0
  go_wp2_with fail
  refine (show Calls Tryz.prog 75 _ _ _ from HC.out).mono ?_
  clear HC
  intro e0 w1 G
  rcases Z0 with k0 | ⟨l1, t1⟩
  · obtain ⟨rfl, o1⟩ := G
    have hR : R = .error k0 := by rw [HR.out]; simp [ctlE, bdE, ← HZ0.out]
    have OO : Hid (Only (BsF F s v0) w0 w1) := I0.out.1.wide (o1.mono (fun _ _ e => .inr (.inl e)))
    clear HR
    subst hR
    unfold gupE
    go_wp2
    exact ⟨rfl, rfl, OO.out⟩
  obtain ⟨ao1, cap1, rfl, G⟩ := G
  obtain ⟨q1, q2, q3, q4⟩ := G.out
  have hq := quoE_pot HZ0.out.symm
  have hqa : t1.a = t0.a := hq.1
  have hqp : potE t1 + 1 ≤ potE t0 := hq.2
  obtain ⟨v1, iv⟩ := I0.out.1.eso HE.out.1 q4
  have I1 : Hid (InV w0 w1 S d F M W s v0 v1 t1 ∧ potE t1 ≤ potE t0 + 0 ∧ t1.a ≤ t0.a) := by
    have e9 : (⟨t0.a, t1.st, t1.tk⟩ : Ist) = t1 := by rw [← hqa]
    have h1 := I0.out.2
    simp only at iv
    rw [e9] at iv
    exact ⟨iv, by omega, by omega⟩
  have LLl1_1 : Hid (l1.length ≤ cap1 ∧ SmL l1 ∧ QsAt w1 S d l1 ao1) := ⟨q1, q2, q3⟩
  clear G q1 q2 q3 q4 hq hqa hqp iv
  obtain ⟨Z1, hZ1⟩ : ∃ Z, Z = quoE t1 := ⟨_, rfl⟩
  have HC : Hid (Calls Tryz.prog 75 #[.pointer (some ⟨s, 0, none⟩)] w1 (QuP S d s v1 Z1 w1)) := by rw [hZ1]; exact quotation_any t1.a I1.out.1.2.1 (fun b hb => (HE.out.1.2.2.2 b hb).1) (by have h1 := I1.out.2.1; have h2 := HE.out.2.2.2.1; show potE t1 ≤ 1000000; omega)
  have HZ1 : Hid (Z1 = quoE t1) := hZ1
  clear hZ1
  go_wp2_with fail
  refine (show Calls Tryz.prog 75 _ _ _ from HC.out).mono ?_
  clear HC
  intro e1 w2 G
  rcases Z1 with k1 | ⟨l2, t2⟩
  · obtain ⟨rfl, o1⟩ := G
    have hR : R = .error k1 := by rw [HR.out]; simp [ctlE, bdE, ← HZ0.out, ← HZ1.out]
    have OO : Hid (Only (BsF F s v0) w0 w2) := I1.out.1.wide (o1.mono (fun _ _ e => .inr (.inl e)))
    clear HR
    subst hR
    unfold gupE
    go_wp2
    exact ⟨rfl, rfl, OO.out⟩
  obtain ⟨ao2, cap2, rfl, G⟩ := G
  obtain ⟨q1, q2, q3, q4⟩ := G.out
  have hq := quoE_pot HZ1.out.symm
  have hqa : t2.a = t1.a := hq.1
  have hqp : potE t2 + 1 ≤ potE t1 := hq.2
  obtain ⟨v2, iv⟩ := I1.out.1.eso HE.out.1 q4
  have I2 : Hid (InV w0 w2 S d F M W s v0 v2 t2 ∧ potE t2 ≤ potE t0 + 0 ∧ t2.a ≤ t0.a) := by
    have e9 : (⟨t1.a, t2.st, t2.tk⟩ : Ist) = t2 := by rw [← hqa]
    have h1 := I1.out.2
    simp only at iv
    rw [e9] at iv
    exact ⟨iv, by omega, by omega⟩
  have LLl1_2 : Hid (l1.length ≤ cap1 ∧ SmL l1 ∧ QsAt w2 S d l1 ao1) := ⟨LLl1_1.out.1, LLl1_1.out.2.1, LLl1_1.out.2.2.in I1.out.1.2.1 HE.out.1 (q4.2.mono (fun _ _ e => .inr e))⟩
  have LLl2_2 : Hid (l2.length ≤ cap2 ∧ SmL l2 ∧ QsAt w2 S d l2 ao2) := ⟨q1, q2, q3⟩
  clear G q1 q2 q3 q4 hq hqa hqp iv
  obtain ⟨P2, hP2⟩ : ∃ P, P = popE t2 := ⟨_, rfl⟩
  have HC : Hid (Calls Tryz.prog 76 #[.pointer (some ⟨s, 0, none⟩)] w2 (PoV S d s v2 P2.1 P2.2.st P2.2.tk w2)) := by rw [hP2]; exact pop_v t2.a I2.out.1.2.1 (fun b hb => (HE.out.1.2.2.2 b hb).1) (by have h1 := I2.out.2.1; have h2 := HE.out.2.2.2.1; show potE t2 ≤ 1000000; omega)
  have HP2 : Hid (P2 = popE t2) := hP2
  clear hP2
  go_wp2_with fail
  refine (show Calls Tryz.prog 76 _ _ _ from HC.out).mono ?_
  clear HC
  rintro e2 w3 ⟨b3, ao3, m3, cap3, rfl, G⟩
  obtain ⟨x3, t3⟩ := P2
  obtain ⟨g1, ⟨v', g2, g5⟩, g3⟩ := G.out
  have hpa : t3.a = t2.a := by have := popE_a t2; rw [← HP2.out] at this; exact this
  have hpp : potE t3 ≤ potE t2 + 1 := by have := popE_pot t2; rw [← HP2.out] at this; exact this
  have eo : EsO w2 w3 S d s v2 t3.st t3.tk := ⟨⟨v', g2, .inl g5⟩, g3.mono (fun _ _ e => .inl e)⟩
  obtain ⟨v3, iv⟩ := I2.out.1.eso HE.out.1 eo
  have I3 : Hid (InV w0 w3 S d F M W s v0 v3 t3 ∧ potE t3 ≤ potE t0 + 1 ∧ t3.a ≤ t0.a) := by
    have e9 : (⟨t2.a, t3.st, t3.tk⟩ : Ist) = t3 := by rw [← hpa]
    have h1 := I2.out.2
    rw [e9] at iv
    exact ⟨iv, by omega, by omega⟩
  have X3_3 : Hid (EnAt w3 S d x3 b3 ao3 m3 cap3) := g1
  have LLl1_3 : Hid (l1.length ≤ cap1 ∧ SmL l1 ∧ QsAt w3 S d l1 ao1) := ⟨LLl1_2.out.1, LLl1_2.out.2.1, LLl1_2.out.2.2.in I2.out.1.2.1 HE.out.1 (eo.2.mono (fun _ _ e => .inr e))⟩
  have LLl2_3 : Hid (l2.length ≤ cap2 ∧ SmL l2 ∧ QsAt w3 S d l2 ao2) := ⟨LLl2_2.out.1, LLl2_2.out.2.1, LLl2_2.out.2.2.in I2.out.1.2.1 HE.out.1 (eo.2.mono (fun _ _ e => .inr e))⟩
  clear G g1 g2 g5 g3 hpa hpp iv eo
  obtain ⟨Z3, hZ3⟩ : ∃ Z, Z = thrE W n l2 ⟨t3.a, [], 0⟩ := ⟨_, rfl⟩
  have HC : Hid (Calls Tryz.prog 34 #[.pointer (some ⟨F, 0, none⟩), .slice ao2 l2.length cap2] w3 (OwP F M W Z3 w3)) := by
    rw [hZ3]
    have h1 := EsAt.lt ⟨v3, I3.out.1.2.1⟩
    have h2 := HE.out.1
    have h3 := I3.out.2
    have h4 := HE.out.2.2.2
    have h5 : potE t3 = t3.st.length + t3.tk + 32 * t3.a := rfl
    exact own_of HE.out.2.2.1 (by have := h2.1; omega) (by have := h2.2.1; omega) h2.2.2.1 (fun b hb => ⟨by have := (h2.2.2.2 b hb).1; omega, (h2.2.2.2 b hb).2⟩) I3.out.1.1 LLl2_3.out.2.2 LLl2_3.out.1 LLl2_3.out.2.1 (by omega) (by omega)
  have HZ3 : Hid (Z3 = thrE W n l2 ⟨t3.a, [], 0⟩) := hZ3
  clear hZ3
  go_wp2_with fail
  refine (show Calls Tryz.prog 34 _ _ _ from HC.out).mono ?_
  clear HC
  intro e3 w4 G
  rcases Z3 with k3 | y4
  · obtain ⟨rfl, o1⟩ := G
    have hR : R = .error k3 := by rw [HR.out]; simp [ctlE, bdE, ← HZ0.out, ← HZ1.out, ← HP2.out, ← HZ3.out]
    have OO : Hid (Only (BsF F s v0) w0 w4) := I3.out.1.wide (o1.mono (fun _ _ e => .inl e))
    clear HR
    subst hR
    unfold gupE
    go_wp2
    exact ⟨rfl, rfl, OO.out⟩
  obtain ⟨rfl, G⟩ := G
  obtain ⟨g1, oF⟩ := G.out
  have iv := I3.out.1.own HE.out.1 oF g1
  have hpt := thrE_pot HE.out.2.1 n l2 ⟨t3.a, [], 0⟩ y4 HZ3.out.symm
  obtain ⟨t4, ht4⟩ : ∃ X, X = (⟨y4.a, t3.st, t3.tk⟩ : Ist) := ⟨_, rfl⟩
  obtain ⟨v4, hv4⟩ : ∃ X, X = v3 := ⟨_, rfl⟩
  have I4 : Hid (InV w0 w4 S d F M W s v0 v4 t4 ∧ potE t4 ≤ potE t0 + 1 ∧ t4.a ≤ t0.a) := by
    have h1 := I3.out.2
    have h2 : potE ⟨t3.a, [], 0⟩ = 32 * t3.a := by simp [potE]
    have h3 : potE y4 = y4.st.length + y4.tk + 32 * y4.a := rfl
    have h4 : potE t4 = t3.st.length + t3.tk + 32 * y4.a := by rw [ht4]; rfl
    have h5 : potE t3 = t3.st.length + t3.tk + 32 * t3.a := rfl
    have h6 : t4.a = y4.a := by rw [ht4]
    have h7 : y4.a ≤ t3.a := hpt.1
    refine ⟨by rw [ht4, hv4]; exact iv, by omega, by omega⟩
  have PB4 : Hid (potE t4 + (y4.st.length + y4.tk) ≤ potE t3) := by
    have h2 : potE ⟨t3.a, [], 0⟩ = 32 * t3.a := by simp [potE]
    have h3 : potE y4 = y4.st.length + y4.tk + 32 * y4.a := rfl
    have h4 : potE t4 = t3.st.length + t3.tk + 32 * y4.a := by rw [ht4]; rfl
    have h5 : potE t3 = t3.st.length + t3.tk + 32 * t3.a := rfl
    have h8 := hpt.2
    show potE t4 + (y4.st.length + y4.tk) ≤ potE t3
    omega
  have HT4 : Hid (t4 = ⟨y4.a, t3.st, t3.tk⟩) := ht4
  have LLl1_4 : Hid (l1.length ≤ cap1 ∧ SmL l1 ∧ QsAt w4 S d l1 ao1) := ⟨LLl1_3.out.1, LLl1_3.out.2.1, LLl1_3.out.2.2.only oF (fun b hb e => (HE.out.1.2.2.2 b hb).2 e)⟩
  have LLl2_4 : Hid (l2.length ≤ cap2 ∧ SmL l2 ∧ QsAt w4 S d l2 ao2) := ⟨LLl2_3.out.1, LLl2_3.out.2.1, LLl2_3.out.2.2.only oF (fun b hb e => (HE.out.1.2.2.2 b hb).2 e)⟩
  clear G g1 oF iv hpt ht4 hv4
  obtain ⟨Z4, hZ4⟩ : ∃ Z, Z = thrE W n l1 ⟨t4.a, [], 0⟩ := ⟨_, rfl⟩
  have HC : Hid (Calls Tryz.prog 34 #[.pointer (some ⟨F, 0, none⟩), .slice ao1 l1.length cap1] w4 (OwP F M W Z4 w4)) := by
    rw [hZ4]
    have h1 := EsAt.lt ⟨v4, I4.out.1.2.1⟩
    have h2 := HE.out.1
    have h3 := I4.out.2
    have h4 := HE.out.2.2.2
    have h5 : potE t4 = t4.st.length + t4.tk + 32 * t4.a := rfl
    exact own_of HE.out.2.2.1 (by have := h2.1; omega) (by have := h2.2.1; omega) h2.2.2.1 (fun b hb => ⟨by have := (h2.2.2.2 b hb).1; omega, (h2.2.2.2 b hb).2⟩) I4.out.1.1 LLl1_4.out.2.2 LLl1_4.out.1 LLl1_4.out.2.1 (by omega) (by omega)
  have HZ4 : Hid (Z4 = thrE W n l1 ⟨t4.a, [], 0⟩) := hZ4
  clear hZ4
  go_wp2_with fail
  refine (show Calls Tryz.prog 34 _ _ _ from HC.out).mono ?_
  clear HC
  have HY4 : Hid (Z4 = thrE W n l1 ⟨y4.a, [], 0⟩) := by
    have h1 : t4.a = y4.a := by rw [HT4.out]
    rw [← h1]
    exact HZ4.out
  intro e4 w5 G
  rcases Z4 with k4 | y5
  · obtain ⟨rfl, o1⟩ := G
    have hR : R = .error k4 := by rw [HR.out]; simp [ctlE, bdE, ← HZ0.out, ← HZ1.out, ← HP2.out, ← HZ3.out, ← HT4.out, ← HY4.out, ← HZ4.out]
    have OO : Hid (Only (BsF F s v0) w0 w5) := I4.out.1.wide (o1.mono (fun _ _ e => .inl e))
    clear HR
    subst hR
    unfold gupE
    go_wp2
    exact ⟨rfl, rfl, OO.out⟩
  obtain ⟨rfl, G⟩ := G
  obtain ⟨g1, oF⟩ := G.out
  have iv := I4.out.1.own HE.out.1 oF g1
  have hpt := thrE_pot HE.out.2.1 n l1 ⟨t4.a, [], 0⟩ y5 HZ4.out.symm
  obtain ⟨t5, ht5⟩ : ∃ X, X = (⟨y5.a, t4.st, t4.tk⟩ : Ist) := ⟨_, rfl⟩
  obtain ⟨v5, hv5⟩ : ∃ X, X = v4 := ⟨_, rfl⟩
  have I5 : Hid (InV w0 w5 S d F M W s v0 v5 t5 ∧ potE t5 ≤ potE t0 + 1 ∧ t5.a ≤ t0.a) := by
    have h1 := I4.out.2
    have h2 : potE ⟨t4.a, [], 0⟩ = 32 * t4.a := by simp [potE]
    have h3 : potE y5 = y5.st.length + y5.tk + 32 * y5.a := rfl
    have h4 : potE t5 = t4.st.length + t4.tk + 32 * y5.a := by rw [ht5]; rfl
    have h5 : potE t4 = t4.st.length + t4.tk + 32 * t4.a := rfl
    have h6 : t5.a = y5.a := by rw [ht5]
    have h7 : y5.a ≤ t4.a := hpt.1
    refine ⟨by rw [ht5, hv5]; exact iv, by omega, by omega⟩
  have PB5 : Hid (potE t5 + (y5.st.length + y5.tk) ≤ potE t4) := by
    have h2 : potE ⟨t4.a, [], 0⟩ = 32 * t4.a := by simp [potE]
    have h3 : potE y5 = y5.st.length + y5.tk + 32 * y5.a := rfl
    have h4 : potE t5 = t4.st.length + t4.tk + 32 * y5.a := by rw [ht5]; rfl
    have h5 : potE t4 = t4.st.length + t4.tk + 32 * t4.a := rfl
    have h8 := hpt.2
    show potE t5 + (y5.st.length + y5.tk) ≤ potE t4
    omega
  have HT5 : Hid (t5 = ⟨y5.a, t4.st, t4.tk⟩) := ht5
  have LLl1_5 : Hid (l1.length ≤ cap1 ∧ SmL l1 ∧ QsAt w5 S d l1 ao1) := ⟨LLl1_4.out.1, LLl1_4.out.2.1, LLl1_4.out.2.2.only oF (fun b hb e => (HE.out.1.2.2.2 b hb).2 e)⟩
  have LLl2_5 : Hid (l2.length ≤ cap2 ∧ SmL l2 ∧ QsAt w5 S d l2 ao2) := ⟨LLl2_4.out.1, LLl2_4.out.2.1, LLl2_4.out.2.2.only oF (fun b hb e => (HE.out.1.2.2.2 b hb).2 e)⟩
  clear G g1 oF iv hpt ht5 hv5
  have hyb : y4.st.length + y4.tk + (y5.st.length + y5.tk) + potE t5 ≤ 900000 := by have h0 := PB4.out; have h1 := PB5.out; have h2 := I3.out.2.1; have h3 := HE.out.2.2.2.1; omega
  have HYB : Hid (y4.st.length + y4.tk + (y5.st.length + y5.tk) + potE t5 ≤ 900000) := hyb
  have wr1 : IntKind.i64.wrap ((y4.st.length : Int) - (y4.tk : Int)) = (y4.st.length : Int) - (y4.tk : Int) := by rw [IntKind.wrap_i64]; omega
  have wr2 : IntKind.i64.wrap ((y5.st.length : Int) - (y5.tk : Int)) = (y5.st.length : Int) - (y5.tk : Int) := by rw [IntKind.wrap_i64]; omega
  clear hyb
  obtain ⟨w6, hw6⟩ : ∃ X, X = w5.alloc (.cells #[.int .i64 (y4.tk : Int), .int .i64 (y4.st.length : Int)] 30) := ⟨_, rfl⟩
  obtain ⟨w7, hw7⟩ : ∃ X, X = w6.alloc (.cells #[.int .i64 (y5.tk : Int), .int .i64 (y5.st.length : Int)] 30) := ⟨_, rfl⟩
  obtain ⟨N, hN⟩ : ∃ X, X = w5.heap.size := ⟨_, rfl⟩
  have oa : Only (fun _ => False) w5 w7 := by rw [hw7, hw6]; exact ((Only.refl _ _).alloc _).alloc _
  have bX : w7.heap[N]? = some (.cells #[.int .i64 (y4.tk : Int), .int .i64 (y4.st.length : Int)] 30) := by rw [hw7]; exact alloc_old (by rw [hw6]; exact ealloc_at _ _ _ hN)
  have bY : w7.heap[N + 1]? = some (.cells #[.int .i64 (y5.tk : Int), .int .i64 (y5.st.length : Int)] 30) := by rw [hw7]; exact ealloc_at _ _ _ (by rw [hw6, hN]; simp)
  have I7 : Hid (InV w0 w7 S d F M W s v0 v5 t5 ∧ w0.heap.size ≤ N ∧ s < N ∧ v5.ownBlock ≠ some N) := by
    have h1 := EsAt.lt ⟨v5, I5.out.1.2.1⟩
    have h2 := I5.out.1.2.2.2.size
    refine ⟨I5.out.1.only oa, by omega, by omega, fun e => ?_⟩
    have := (I5.out.1.2.1.own N e).2
    omega
  obtain ⟨x0, x1, xf0, xf1⟩ := wr2_cell bX
  obtain ⟨z0, z1, -, -⟩ := wr2_cell bY
  have HB : Hid (w7.heap[N]? = some (.cells #[.int .i64 (y4.tk : Int), .int .i64 (y4.st.length : Int)] 30) ∧ w7.heap[N + 1]? = some (.cells #[.int .i64 (y5.tk : Int), .int .i64 (y5.st.length : Int)] 30)) := ⟨bX, bY⟩
  have HWN : Hid (w7 = (w5.alloc (.cells #[.int .i64 (y4.tk : Int), .int .i64 (y4.st.length : Int)] 30)).alloc (.cells #[.int .i64 (y5.tk : Int), .int .i64 (y5.st.length : Int)] 30) ∧ N = w5.heap.size) := ⟨by rw [hw7, hw6], hN⟩
  clear oa bX bY hw7 hw6 hN
  by_cases hf : ((y4.st.length : Int) - (y4.tk : Int) = (y5.st.length : Int) - (y5.tk : Int))
  rotate_left
  · have c1 : (((y4.st.length : Int) - (y4.tk : Int)) == ((y5.st.length : Int) - (y5.tk : Int))) = false := by simp; omega
    have HF9 : Hid (¬ ((y4.st.length : Int) - (y4.tk : Int) = (y5.st.length : Int) - (y5.tk : Int))) := hf
    clear hf
    go_wp2_with fail
    rw [← HWN.out.1, ← HWN.out.2]
    refine (show Calls Tryz.prog 77 _ _ _ from HFN.out _).mono ?_
    rintro e9 w9 ⟨rfl, rfl⟩
    have hR : R = .error 12 := by rw [HR.out]; simp [ctlE, bdE, ← HZ0.out, ← HZ1.out, ← HP2.out, ← HZ3.out, ← HT4.out, ← HY4.out, ← HZ4.out, ← HT5.out, HF9.out]
    have OO : Hid (Only (BsF F s v0) w0 w9) := I7.out.1.2.2.2
    clear HR c1
    subst hR
    unfold gupE
    go_wp2
    exact ⟨rfl, rfl, OO.out⟩
  have c1 : (((y4.st.length : Int) - (y4.tk : Int)) == ((y5.st.length : Int) - (y5.tk : Int))) = true := by simp; omega
  have HF9 : Hid ((y4.st.length : Int) - (y4.tk : Int) = (y5.st.length : Int) - (y5.tk : Int)) := hf
  clear hf
  go_wp2_with fail
  rw [← HWN.out.1, ← HWN.out.2]
  refine (show Calls Tryz.prog 77 _ _ _ from HFY.out _).mono ?_
  rintro e9 w9 ⟨rfl, rfl⟩
  clear c1
  by_cases hlt : y4.tk < y5.tk
  · have HLT : Hid (y4.tk < y5.tk) := hlt
    have i1 : (y4.tk : Int) < (y5.tk : Int) := by omega
    clear hlt
    have e5 : t5 = ⟨y5.a, t3.st, t3.tk⟩ := by rw [HT5.out, HT4.out]
    have hR : R = .ok (appE (y5.tk) (y5.st.length) t5) := by rw [HR.out, e5]; simp [ctlE, bdE, ← HZ0.out, ← HZ1.out, ← HP2.out, ← HZ3.out, ← HT4.out, ← HY4.out, ← HZ4.out, ← HT5.out, HF9.out, HLT.out]
    clear e5
    clear HR
    subst hR
    have ne : ∀ (W : World) (i q : Nat) (u : Value), i ≠ q → (W.setCell ⟨N, i, none⟩ u).cell? ⟨N, q, none⟩ = W.cell? ⟨N, q, none⟩ := fun W i q u g => by apply World.cell?_setCell_other; intro e; exact g (by injection e)
    have Q := fset2 HB.out.1 (.int .i64 (y5.tk : Int)) (.int .i64 (y5.st.length : Int))
    obtain ⟨Q0, Q1⟩ := Q
    clear ne
    have iw : InV w0 ((w9.setCell ⟨N, 0, none⟩ (.int .i64 (y5.tk : Int))).setCell ⟨N, 1, none⟩ (.int .i64 (y5.st.length : Int))) S d F M W s v0 v5 t5 := (I7.out.1.setNew HE.out.1 I7.out.2.1 I7.out.2.2.1 I7.out.2.2.2 0 _).setNew HE.out.1 I7.out.2.1 I7.out.2.2.1 I7.out.2.2.2 1 _
    have HIW : Hid (InV w0 ((w9.setCell ⟨N, 0, none⟩ (.int .i64 (y5.tk : Int))).setCell ⟨N, 1, none⟩ (.int .i64 (y5.st.length : Int))) S d F M W s v0 v5 t5) := iw
    have HC : Hid _ := apply_any t5.a (y5.tk) (y5.st.length) iw.2.1 (fun b hb => (HE.out.1.2.2.2 b hb).1) (by have h1 := HYB.out; show potE t5 + (y5.tk) + (y5.st.length) ≤ 1000000; omega)
    clear iw
    go_wp2_with fail
    refine (show Calls Tryz.prog 72 _ _ _ from HC.out).mono ?_
    clear HC
    rintro e9 w8 ⟨rfl, G⟩
    obtain ⟨v8, iv⟩ := HIW.out.eso HE.out.1 G.out
    have F9 : Hid (∃ v', InV w0 w8 S d F M W s v0 v' (appE (y5.tk) (y5.st.length) t5)) := by
      refine ⟨v8, ?_⟩
      have e8 : (⟨t5.a, (appE (y5.tk) (y5.st.length) t5).st, (appE (y5.tk) (y5.st.length) t5).tk⟩ : Ist) = appE (y5.tk) (y5.st.length) t5 := by rw [← (appE_pot (y5.tk) (y5.st.length) t5).1]
      rw [← e8]
      exact iv
    clear G iv
    go_wp2
    first | (refine bodyPost_ret (results_none rfl _ _ _) rfl ?_; exact ⟨rfl, F9.out⟩) | (refine ⟨_, results_none rfl _ _ _, rfl, F9.out⟩) | (refine ⟨rfl, _, results_none rfl _ _ _, rfl, F9.out⟩)
  · have HLT : Hid (¬ y4.tk < y5.tk) := hlt
    have i1 : ¬ (y4.tk : Int) < (y5.tk : Int) := by omega
    clear hlt
    have e5 : t5 = ⟨y5.a, t3.st, t3.tk⟩ := by rw [HT5.out, HT4.out]
    have hR : R = .ok (appE (y4.tk) (y4.st.length) t5) := by rw [HR.out, e5]; simp [ctlE, bdE, ← HZ0.out, ← HZ1.out, ← HP2.out, ← HZ3.out, ← HT4.out, ← HY4.out, ← HZ4.out, ← HT5.out, HF9.out, HLT.out]
    clear e5
    clear HR
    subst hR
    have iw : InV w0 w9 S d F M W s v0 v5 t5 := I7.out.1
    have HIW : Hid (InV w0 w9 S d F M W s v0 v5 t5) := iw
    have HC : Hid _ := apply_any t5.a (y4.tk) (y4.st.length) iw.2.1 (fun b hb => (HE.out.1.2.2.2 b hb).1) (by have h1 := HYB.out; show potE t5 + (y4.tk) + (y4.st.length) ≤ 1000000; omega)
    clear iw
    go_wp2_with fail
    refine (show Calls Tryz.prog 72 _ _ _ from HC.out).mono ?_
    clear HC
    rintro e9 w8 ⟨rfl, G⟩
    obtain ⟨v8, iv⟩ := HIW.out.eso HE.out.1 G.out
    have F9 : Hid (∃ v', InV w0 w8 S d F M W s v0 v' (appE (y4.tk) (y4.st.length) t5)) := by
      refine ⟨v8, ?_⟩
      have e8 : (⟨t5.a, (appE (y4.tk) (y4.st.length) t5).st, (appE (y4.tk) (y4.st.length) t5).tk⟩ : Ist) = appE (y4.tk) (y4.st.length) t5 := by rw [← (appE_pot (y4.tk) (y4.st.length) t5).1]
      rw [← e8]
      exact iv
    clear G iv
    go_wp2
    first | (refine bodyPost_ret (results_none rfl _ _ _) rfl ?_; exact ⟨rfl, F9.out⟩) | (refine ⟨_, results_none rfl _ _ _, rfl, F9.out⟩) | (refine ⟨rfl, _, results_none rfl _ _ _, rfl, F9.out⟩)
end Go.Proofs.YtodbkihobgdpdaaGreatDoor
namespace Go.Proofs.YtodbkihobgdpdaaGreatDoor
open Go.RowKit Go.Lib
set_option linter.unusedSimpArgs false
set_option linter.unusedVariables false
/-- one item does what the account says -/
def ItC (W : ByteArray → Option (Nat × Nat)) (S : Nat → Prop) (d F M n : Nat) : Prop := ∀ (x : Vt) (u : Value) (s : Nat) (v : Value) (t : Ist) (w : World), Env S F M s → EvAt w F M W t.a → EsV w S d s t.st t.tk v → TiAt w S d true x u → (∃ e, SmT e x) → potE t ≤ 900000 → t.a < n →
  Calls Tryz.prog 46 #[.pointer (some ⟨F, 0, none⟩), u, .pointer (some ⟨s, 0, none⟩)] w (TrP S d F M W s v (itmE W n x t) w)
theorem InV.cnt {w w1 w2 : World} {S : Nat → Prop} {d F M s : Nat} {W : ByteArray → Option (Nat × Nat)} {v v1 : Value} {t t2 : Ist} (h : InV w w1 S d F M W s v v1 t) (he : Env S F M s) (hc : cntE t = .ok t2) (g : IfAt w2 F M t2.a) (o : Only (fun b => b = F) w1 w2) : InV w w2 S d F M W s v v1 t2 := by
  have h1 := cntE_ok hc
  have g2 : EvAt w2 F M W t2.a := by
    obtain ⟨_, ob, h2, h3⟩ := h.1
    exact ⟨g, ob, (o.block M (Array.getElem?_eq_some_iff.1 h2).1 he.2.2.1).trans h2, h3⟩
  have := h.own he o g2
  rw [← h1.2.2.1, ← h1.2.2.2] at this
  exact this
set_option maxRecDepth 100000 in
theorem move_f {W : ByteArray → Option (Nat × Nat)} {S : Nat → Prop} {d F M s : Nat} {v : Value} {t : Ist} {w : World} (X Z : Nat) (i o : Nat) (ps : List Nat) (pa : Option Addr) (pc : Nat) (h : EsV w S d s t.st t.tk v) (hS : ∀ b, S b → b < s) (hX : w.heap[X]? = some (.cells #[.int .i64 (i : Int), .int .i64 (o : Int)] 30)) (hZ : w.heap[Z]? = some (.cells #[.slice pa ps.length pc] 76)) (hp : PlAt w s v ps pa) (hi : 1 ≤ i ∧ i ≤ 3) (hps : ∀ p ∈ ps, p < i) (hl3 : ps.length ≤ 3) (hl : potE t + i + ps.length ≤ 1000000) :
    Calls Tryz.prog 69 #[.pointer (some ⟨s, 0, none⟩), .pointer (some ⟨X, 0, none⟩), .pointer (some ⟨Z, 0, none⟩)] w fun e w' => e = .returned (.tuple #[]) ∧ Hid (EsO w w' S d s v (movE i ps t).st (movE i ps t).tk) := by
  have HC : Hid _ := move_any t.a i ps h hS hi hps hl3 pa pc hp hl
  obtain ⟨c0, -, -, -⟩ := wr2_cell hX
  have c1 : w.cell? ⟨Z, 0, none⟩ = some (.slice pa ps.length pc) := (vblk_cells hZ 0).trans rfl
  clear h hS hX hZ hp hi hps hl3 hl
  go_enter Tryz.func69, Tryz.ntmps69
  go_wp2_with fail
  refine (show Calls Tryz.prog 70 _ _ _ from HC.out).mono ?_
  rintro e w1 ⟨rfl, G⟩
  clear HC c0 c1
  go_wp2
  first | (refine bodyPost_ret (results_none rfl _ _ _) rfl ?_; exact ⟨rfl, G.out⟩) | (refine ⟨_, results_none rfl _ _ _, rfl, G.out⟩) | (refine ⟨rfl, _, results_none rfl _ _ _, rfl, G.out⟩)
set_option maxRecDepth 100000 in
theorem apply_f {W : ByteArray → Option (Nat × Nat)} {S : Nat → Prop} {d F M s : Nat} {v : Value} {t : Ist} {w : World} (X : Nat) (i o : Nat) (h : EsV w S d s t.st t.tk v) (hS : ∀ b, S b → b < s) (hX : w.heap[X]? = some (.cells #[.int .i64 (i : Int), .int .i64 (o : Int)] 30)) (hl : potE t + i + o ≤ 1000000) :
    Calls Tryz.prog 71 #[.pointer (some ⟨s, 0, none⟩), .pointer (some ⟨X, 0, none⟩)] w fun e w' => e = .returned (.tuple #[]) ∧ Hid (EsO w w' S d s v (appE i o t).st (appE i o t).tk) := by
  have HC : Hid _ := apply_any t.a i o h hS hl
  obtain ⟨c0, c1, -, -⟩ := wr2_cell hX
  clear h hS hX hl
  go_enter Tryz.func71, Tryz.ntmps71
  go_wp2_with fail
  refine (show Calls Tryz.prog 72 _ _ _ from HC.out).mono ?_
  rintro e w1 ⟨rfl, G⟩
  clear HC c0 c1
  go_wp2
  first | (refine bodyPost_ret (results_none rfl _ _ _) rfl ?_; exact ⟨rfl, G.out⟩) | (refine ⟨_, results_none rfl _ _ _, rfl, G.out⟩) | (refine ⟨rfl, _, results_none rfl _ _ _, rfl, G.out⟩)
set_option maxRecDepth 100000 in
set_option maxHeartbeats 1000000 in
theorem it_0 {W : ByteArray → Option (Nat × Nat)} {S : Nat → Prop} {d F M n s : Nat} (hW : WdOk W) (TH : ThC W S d F M n) {v : Value} {t : Ist} {w : World} (he : Env S F M s) (hev : EvAt w F M W t.a) (hes : EsV w S d s t.st t.tk v) (hp : potE t ≤ 900000) (ha : t.a < n + 1) :
    Calls Tryz.prog 46 #[.pointer (some ⟨F, 0, none⟩), .iface 40 (.agg #[.string ⟨#[99, 97, 108, 108]⟩]), .pointer (some ⟨s, 0, none⟩)] w (TrP S d F M W s v (bdE (cntE t) fun t => ctlE (thrE W n) 1 t) w) := by
  have HE : Hid (Env S F M s ∧ WdOk W ∧ ThC W S d F M n ∧ potE t ≤ 900000 ∧ t.a < n + 1 ∧ InV w w S d F M W s v v t) := ⟨he, hW, TH, hp, ha, InV.refl hev hes⟩
  have mP := va_miss 40 70 37 _ Tryz.underlying70 (by intro m h; cases h) (by decide) _ vzero_Push (.agg #[.string ⟨#[99, 97, 108, 108]⟩])
  have hC := va_hit 40 37 _ Tryz.underlying40 (by intro m h; cases h) (.agg #[.string ⟨#[99, 97, 108, 108]⟩])
  obtain ⟨R, hR0⟩ : ∃ R, R = bdE (cntE t) fun t => ctlE (thrE W n) 1 t := ⟨_, rfl⟩
  rw [← hR0]
  have HR : Hid (R = bdE (cntE t) fun t => ctlE (thrE W n) 1 t) := hR0
  have HWd : Hid (∀ w, Calls Tryz.prog 57 #[.pointer (some ⟨F, 0, none⟩), .string ⟨#[99, 97, 108, 108]⟩] w fun e w' => e = .returned (.func (.func 60) #[.pointer (some ⟨F, 0, none⟩)] #[]) ∧ w' = w) := wo_0 F
  have HCn : Hid (∀ w1, InV w w1 S d F M W s v v t → Calls Tryz.prog 54 #[.pointer (some ⟨F, 0, none⟩)] w1 (CnE F M t w1)) := fun w1 i1 => icount_any t i1.1.1 (by have : potE t = t.st.length + t.tk + 32 * t.a := rfl; omega)
  clear he hev hes hp ha hW TH hR0
  go_enter Tryz.func46, Tryz.ntmps46
  go_wp2_with fail
  refine (show Calls Tryz.prog 57 _ _ _ from HWd.out _).mono ?_
  rintro e w1 ⟨rfl, hw1⟩
  have I1 : Hid (InV w w1 S d F M W s v v t) := by
    have := HE.out.2.2.2.2.2
    rw [hw1]
    exact this.only (by repeat' first | exact Only.refl _ _ | apply Only.alloc)
  clear HWd hw1 mP hC
  have HC : Hid _ := HCn.out w1 I1.out
  clear HCn
  go_wp2_with fail
  refine (show Calls Tryz.prog 54 _ _ _ from HC.out).mono ?_
  clear HC
  intro e w2 G
  obtain ⟨Z, hZ⟩ : ∃ Z, Z = cntE t := ⟨_, rfl⟩
  unfold CnE at G
  rw [← hZ] at G
  have HZ : Hid (Z = cntE t) := hZ
  clear hZ
  rcases Z with k | t1
  · obtain ⟨rfl, rfl⟩ := G
    have hR : R = .error k := by rw [HR.out, ← HZ.out]; rfl
    have OO : Hid (Only (BsF F s v) w w2) := I1.out.2.2.2
    clear HR
    subst hR
    unfold gupE
    go_wp2
    exact ⟨rfl, rfl, OO.out⟩
  obtain ⟨rfl, G⟩ := G
  have iv := I1.out.cnt HE.out.1 HZ.out.symm G.out.1 G.out.2
  have hR : R = ctlE (thrE W n) 1 t1 := by rw [HR.out, ← HZ.out]; rfl
  have I2 : Hid (InV w w2 S d F M W s v v t1) := iv
  have hct := cntE_ok HZ.out.symm
  have HC : Hid _ := ct_call HE.out.2.1 HE.out.2.2.1 HE.out.1 iv.1 iv.2.1 (by have := HE.out.2.2.2.1; omega) (by have := HE.out.2.2.2.2.1; omega)
  rw [← hR] at HC
  clear HR G iv hR hct I1
  go_wp2_with fail
  refine (show Calls Tryz.prog 60 _ _ _ from HC.out).mono ?_
  clear HC
  intro e w3 G
  have G2 : Hid (TrP S d F M W s v R w e w3) := TrP.step I2.out G
  clear G
  rcases R with k | t9
  · obtain ⟨rfl, o9⟩ := G2.out
    have OO : Hid _ := o9
    clear o9 G2
    unfold gupE
    go_wp2
    exact ⟨rfl, rfl, OO.out⟩
  · obtain ⟨rfl, o9⟩ := G2.out
    clear G2
    go_wp2
    first | (refine bodyPost_ret (results_none rfl _ _ _) rfl ?_; exact ⟨rfl, o9⟩) | (refine ⟨_, results_none rfl _ _ _, rfl, o9⟩) | (refine ⟨rfl, _, results_none rfl _ _ _, rfl, o9⟩)
set_option maxRecDepth 100000 in
set_option maxHeartbeats 1000000 in
theorem it_1 {W : ByteArray → Option (Nat × Nat)} {S : Nat → Prop} {d F M n s : Nat} (hW : WdOk W) (TH : ThC W S d F M n) {v : Value} {t : Ist} {w : World} (he : Env S F M s) (hev : EvAt w F M W t.a) (hes : EsV w S d s t.st t.tk v) (hp : potE t ≤ 900000) (ha : t.a < n + 1) :
    Calls Tryz.prog 46 #[.pointer (some ⟨F, 0, none⟩), .iface 40 (.agg #[.string ⟨#[100, 105, 112]⟩]), .pointer (some ⟨s, 0, none⟩)] w (TrP S d F M W s v (bdE (cntE t) fun t => ctlE (thrE W n) 2 t) w) := by
  have HE : Hid (Env S F M s ∧ WdOk W ∧ ThC W S d F M n ∧ potE t ≤ 900000 ∧ t.a < n + 1 ∧ InV w w S d F M W s v v t) := ⟨he, hW, TH, hp, ha, InV.refl hev hes⟩
  have mP := va_miss 40 70 37 _ Tryz.underlying70 (by intro m h; cases h) (by decide) _ vzero_Push (.agg #[.string ⟨#[100, 105, 112]⟩])
  have hC := va_hit 40 37 _ Tryz.underlying40 (by intro m h; cases h) (.agg #[.string ⟨#[100, 105, 112]⟩])
  obtain ⟨R, hR0⟩ : ∃ R, R = bdE (cntE t) fun t => ctlE (thrE W n) 2 t := ⟨_, rfl⟩
  rw [← hR0]
  have HR : Hid (R = bdE (cntE t) fun t => ctlE (thrE W n) 2 t) := hR0
  have HWd : Hid (∀ w, Calls Tryz.prog 57 #[.pointer (some ⟨F, 0, none⟩), .string ⟨#[100, 105, 112]⟩] w fun e w' => e = .returned (.func (.func 61) #[.pointer (some ⟨F, 0, none⟩)] #[]) ∧ w' = w) := wo_1 F
  have HCn : Hid (∀ w1, InV w w1 S d F M W s v v t → Calls Tryz.prog 54 #[.pointer (some ⟨F, 0, none⟩)] w1 (CnE F M t w1)) := fun w1 i1 => icount_any t i1.1.1 (by have : potE t = t.st.length + t.tk + 32 * t.a := rfl; omega)
  clear he hev hes hp ha hW TH hR0
  go_enter Tryz.func46, Tryz.ntmps46
  go_wp2_with fail
  refine (show Calls Tryz.prog 57 _ _ _ from HWd.out _).mono ?_
  rintro e w1 ⟨rfl, hw1⟩
  have I1 : Hid (InV w w1 S d F M W s v v t) := by
    have := HE.out.2.2.2.2.2
    rw [hw1]
    exact this.only (by repeat' first | exact Only.refl _ _ | apply Only.alloc)
  clear HWd hw1 mP hC
  have HC : Hid _ := HCn.out w1 I1.out
  clear HCn
  go_wp2_with fail
  refine (show Calls Tryz.prog 54 _ _ _ from HC.out).mono ?_
  clear HC
  intro e w2 G
  obtain ⟨Z, hZ⟩ : ∃ Z, Z = cntE t := ⟨_, rfl⟩
  unfold CnE at G
  rw [← hZ] at G
  have HZ : Hid (Z = cntE t) := hZ
  clear hZ
  rcases Z with k | t1
  · obtain ⟨rfl, rfl⟩ := G
    have hR : R = .error k := by rw [HR.out, ← HZ.out]; rfl
    have OO : Hid (Only (BsF F s v) w w2) := I1.out.2.2.2
    clear HR
    subst hR
    unfold gupE
    go_wp2
    exact ⟨rfl, rfl, OO.out⟩
  obtain ⟨rfl, G⟩ := G
  have iv := I1.out.cnt HE.out.1 HZ.out.symm G.out.1 G.out.2
  have hR : R = ctlE (thrE W n) 2 t1 := by rw [HR.out, ← HZ.out]; rfl
  have I2 : Hid (InV w w2 S d F M W s v v t1) := iv
  have hct := cntE_ok HZ.out.symm
  have HC : Hid _ := ct_dip HE.out.2.1 HE.out.2.2.1 HE.out.1 iv.1 iv.2.1 (by have := HE.out.2.2.2.1; omega) (by have := HE.out.2.2.2.2.1; omega)
  rw [← hR] at HC
  clear HR G iv hR hct I1
  go_wp2_with fail
  refine (show Calls Tryz.prog 61 _ _ _ from HC.out).mono ?_
  clear HC
  intro e w3 G
  have G2 : Hid (TrP S d F M W s v R w e w3) := TrP.step I2.out G
  clear G
  rcases R with k | t9
  · obtain ⟨rfl, o9⟩ := G2.out
    have OO : Hid _ := o9
    clear o9 G2
    unfold gupE
    go_wp2
    exact ⟨rfl, rfl, OO.out⟩
  · obtain ⟨rfl, o9⟩ := G2.out
    clear G2
    go_wp2
    first | (refine bodyPost_ret (results_none rfl _ _ _) rfl ?_; exact ⟨rfl, o9⟩) | (refine ⟨_, results_none rfl _ _ _, rfl, o9⟩) | (refine ⟨rfl, _, results_none rfl _ _ _, rfl, o9⟩)
set_option maxRecDepth 100000 in
set_option maxHeartbeats 1000000 in
theorem it_2 {W : ByteArray → Option (Nat × Nat)} {S : Nat → Prop} {d F M n s : Nat} (hW : WdOk W) (TH : ThC W S d F M n) {v : Value} {t : Ist} {w : World} (he : Env S F M s) (hev : EvAt w F M W t.a) (hes : EsV w S d s t.st t.tk v) (hp : potE t ≤ 900000) (ha : t.a < n + 1) :
    Calls Tryz.prog 46 #[.pointer (some ⟨F, 0, none⟩), .iface 40 (.agg #[.string ⟨#[107, 101, 101, 112]⟩]), .pointer (some ⟨s, 0, none⟩)] w (TrP S d F M W s v (bdE (cntE t) fun t => ctlE (thrE W n) 3 t) w) := by
  have HE : Hid (Env S F M s ∧ WdOk W ∧ ThC W S d F M n ∧ potE t ≤ 900000 ∧ t.a < n + 1 ∧ InV w w S d F M W s v v t) := ⟨he, hW, TH, hp, ha, InV.refl hev hes⟩
  have mP := va_miss 40 70 37 _ Tryz.underlying70 (by intro m h; cases h) (by decide) _ vzero_Push (.agg #[.string ⟨#[107, 101, 101, 112]⟩])
  have hC := va_hit 40 37 _ Tryz.underlying40 (by intro m h; cases h) (.agg #[.string ⟨#[107, 101, 101, 112]⟩])
  obtain ⟨R, hR0⟩ : ∃ R, R = bdE (cntE t) fun t => ctlE (thrE W n) 3 t := ⟨_, rfl⟩
  rw [← hR0]
  have HR : Hid (R = bdE (cntE t) fun t => ctlE (thrE W n) 3 t) := hR0
  have HWd : Hid (∀ w, Calls Tryz.prog 57 #[.pointer (some ⟨F, 0, none⟩), .string ⟨#[107, 101, 101, 112]⟩] w fun e w' => e = .returned (.func (.func 62) #[.pointer (some ⟨F, 0, none⟩)] #[]) ∧ w' = w) := wo_2 F
  have HCn : Hid (∀ w1, InV w w1 S d F M W s v v t → Calls Tryz.prog 54 #[.pointer (some ⟨F, 0, none⟩)] w1 (CnE F M t w1)) := fun w1 i1 => icount_any t i1.1.1 (by have : potE t = t.st.length + t.tk + 32 * t.a := rfl; omega)
  clear he hev hes hp ha hW TH hR0
  go_enter Tryz.func46, Tryz.ntmps46
  go_wp2_with fail
  refine (show Calls Tryz.prog 57 _ _ _ from HWd.out _).mono ?_
  rintro e w1 ⟨rfl, hw1⟩
  have I1 : Hid (InV w w1 S d F M W s v v t) := by
    have := HE.out.2.2.2.2.2
    rw [hw1]
    exact this.only (by repeat' first | exact Only.refl _ _ | apply Only.alloc)
  clear HWd hw1 mP hC
  have HC : Hid _ := HCn.out w1 I1.out
  clear HCn
  go_wp2_with fail
  refine (show Calls Tryz.prog 54 _ _ _ from HC.out).mono ?_
  clear HC
  intro e w2 G
  obtain ⟨Z, hZ⟩ : ∃ Z, Z = cntE t := ⟨_, rfl⟩
  unfold CnE at G
  rw [← hZ] at G
  have HZ : Hid (Z = cntE t) := hZ
  clear hZ
  rcases Z with k | t1
  · obtain ⟨rfl, rfl⟩ := G
    have hR : R = .error k := by rw [HR.out, ← HZ.out]; rfl
    have OO : Hid (Only (BsF F s v) w w2) := I1.out.2.2.2
    clear HR
    subst hR
    unfold gupE
    go_wp2
    exact ⟨rfl, rfl, OO.out⟩
  obtain ⟨rfl, G⟩ := G
  have iv := I1.out.cnt HE.out.1 HZ.out.symm G.out.1 G.out.2
  have hR : R = ctlE (thrE W n) 3 t1 := by rw [HR.out, ← HZ.out]; rfl
  have I2 : Hid (InV w w2 S d F M W s v v t1) := iv
  have hct := cntE_ok HZ.out.symm
  have HC : Hid _ := ct_keep HE.out.2.1 HE.out.2.2.1 HE.out.1 iv.1 iv.2.1 (by have := HE.out.2.2.2.1; omega) (by have := HE.out.2.2.2.2.1; omega)
  rw [← hR] at HC
  clear HR G iv hR hct I1
  go_wp2_with fail
  refine (show Calls Tryz.prog 62 _ _ _ from HC.out).mono ?_
  clear HC
  intro e w3 G
  have G2 : Hid (TrP S d F M W s v R w e w3) := TrP.step I2.out G
  clear G
  rcases R with k | t9
  · obtain ⟨rfl, o9⟩ := G2.out
    have OO : Hid _ := o9
    clear o9 G2
    unfold gupE
    go_wp2
    exact ⟨rfl, rfl, OO.out⟩
  · obtain ⟨rfl, o9⟩ := G2.out
    clear G2
    go_wp2
    first | (refine bodyPost_ret (results_none rfl _ _ _) rfl ?_; exact ⟨rfl, o9⟩) | (refine ⟨_, results_none rfl _ _ _, rfl, o9⟩) | (refine ⟨rfl, _, results_none rfl _ _ _, rfl, o9⟩)
set_option maxRecDepth 100000 in
set_option maxHeartbeats 1000000 in
theorem it_3 {W : ByteArray → Option (Nat × Nat)} {S : Nat → Prop} {d F M n s : Nat} (hW : WdOk W) (TH : ThC W S d F M n) {v : Value} {t : Ist} {w : World} (he : Env S F M s) (hev : EvAt w F M W t.a) (hes : EsV w S d s t.st t.tk v) (hp : potE t ≤ 900000) (ha : t.a < n + 1) :
    Calls Tryz.prog 46 #[.pointer (some ⟨F, 0, none⟩), .iface 40 (.agg #[.string ⟨#[105, 102]⟩]), .pointer (some ⟨s, 0, none⟩)] w (TrP S d F M W s v (bdE (cntE t) fun t => ctlE (thrE W n) 4 t) w) := by
  have HE : Hid (Env S F M s ∧ WdOk W ∧ ThC W S d F M n ∧ potE t ≤ 900000 ∧ t.a < n + 1 ∧ InV w w S d F M W s v v t) := ⟨he, hW, TH, hp, ha, InV.refl hev hes⟩
  have mP := va_miss 40 70 37 _ Tryz.underlying70 (by intro m h; cases h) (by decide) _ vzero_Push (.agg #[.string ⟨#[105, 102]⟩])
  have hC := va_hit 40 37 _ Tryz.underlying40 (by intro m h; cases h) (.agg #[.string ⟨#[105, 102]⟩])
  obtain ⟨R, hR0⟩ : ∃ R, R = bdE (cntE t) fun t => ctlE (thrE W n) 4 t := ⟨_, rfl⟩
  rw [← hR0]
  have HR : Hid (R = bdE (cntE t) fun t => ctlE (thrE W n) 4 t) := hR0
  have HWd : Hid (∀ w, Calls Tryz.prog 57 #[.pointer (some ⟨F, 0, none⟩), .string ⟨#[105, 102]⟩] w fun e w' => e = .returned (.func (.func 63) #[.pointer (some ⟨F, 0, none⟩)] #[]) ∧ w' = w) := wo_3 F
  have HCn : Hid (∀ w1, InV w w1 S d F M W s v v t → Calls Tryz.prog 54 #[.pointer (some ⟨F, 0, none⟩)] w1 (CnE F M t w1)) := fun w1 i1 => icount_any t i1.1.1 (by have : potE t = t.st.length + t.tk + 32 * t.a := rfl; omega)
  clear he hev hes hp ha hW TH hR0
  go_enter Tryz.func46, Tryz.ntmps46
  go_wp2_with fail
  refine (show Calls Tryz.prog 57 _ _ _ from HWd.out _).mono ?_
  rintro e w1 ⟨rfl, hw1⟩
  have I1 : Hid (InV w w1 S d F M W s v v t) := by
    have := HE.out.2.2.2.2.2
    rw [hw1]
    exact this.only (by repeat' first | exact Only.refl _ _ | apply Only.alloc)
  clear HWd hw1 mP hC
  have HC : Hid _ := HCn.out w1 I1.out
  clear HCn
  go_wp2_with fail
  refine (show Calls Tryz.prog 54 _ _ _ from HC.out).mono ?_
  clear HC
  intro e w2 G
  obtain ⟨Z, hZ⟩ : ∃ Z, Z = cntE t := ⟨_, rfl⟩
  unfold CnE at G
  rw [← hZ] at G
  have HZ : Hid (Z = cntE t) := hZ
  clear hZ
  rcases Z with k | t1
  · obtain ⟨rfl, rfl⟩ := G
    have hR : R = .error k := by rw [HR.out, ← HZ.out]; rfl
    have OO : Hid (Only (BsF F s v) w w2) := I1.out.2.2.2
    clear HR
    subst hR
    unfold gupE
    go_wp2
    exact ⟨rfl, rfl, OO.out⟩
  obtain ⟨rfl, G⟩ := G
  have iv := I1.out.cnt HE.out.1 HZ.out.symm G.out.1 G.out.2
  have hR : R = ctlE (thrE W n) 4 t1 := by rw [HR.out, ← HZ.out]; rfl
  have I2 : Hid (InV w w2 S d F M W s v v t1) := iv
  have hct := cntE_ok HZ.out.symm
  have HC : Hid _ := ct_choose HE.out.2.1 HE.out.2.2.1 HE.out.1 iv.1 iv.2.1 (by have := HE.out.2.2.2.1; omega) (by have := HE.out.2.2.2.2.1; omega)
  rw [← hR] at HC
  clear HR G iv hR hct I1
  go_wp2_with fail
  refine (show Calls Tryz.prog 63 _ _ _ from HC.out).mono ?_
  clear HC
  intro e w3 G
  have G2 : Hid (TrP S d F M W s v R w e w3) := TrP.step I2.out G
  clear G
  rcases R with k | t9
  · obtain ⟨rfl, o9⟩ := G2.out
    have OO : Hid _ := o9
    clear o9 G2
    unfold gupE
    go_wp2
    exact ⟨rfl, rfl, OO.out⟩
  · obtain ⟨rfl, o9⟩ := G2.out
    clear G2
    go_wp2
    first | (refine bodyPost_ret (results_none rfl _ _ _) rfl ?_; exact ⟨rfl, o9⟩) | (refine ⟨_, results_none rfl _ _ _, rfl, o9⟩) | (refine ⟨rfl, _, results_none rfl _ _ _, rfl, o9⟩)
set_option maxRecDepth 100000 in
set_option maxHeartbeats 1000000 in
theorem it_4 {W : ByteArray → Option (Nat × Nat)} {S : Nat → Prop} {d F M n s : Nat} (hW : WdOk W) (TH : ThC W S d F M n) {v : Value} {t : Ist} {w : World} (he : Env S F M s) (hev : EvAt w F M W t.a) (hes : EsV w S d s t.st t.tk v) (hp : potE t ≤ 900000) (ha : t.a < n + 1) :
    Calls Tryz.prog 46 #[.pointer (some ⟨F, 0, none⟩), .iface 40 (.agg #[.string ⟨#[119, 104, 101, 110]⟩]), .pointer (some ⟨s, 0, none⟩)] w (TrP S d F M W s v (bdE (cntE t) fun t => ctlE (thrE W n) 5 t) w) := by
  have HE : Hid (Env S F M s ∧ WdOk W ∧ ThC W S d F M n ∧ potE t ≤ 900000 ∧ t.a < n + 1 ∧ InV w w S d F M W s v v t) := ⟨he, hW, TH, hp, ha, InV.refl hev hes⟩
  have mP := va_miss 40 70 37 _ Tryz.underlying70 (by intro m h; cases h) (by decide) _ vzero_Push (.agg #[.string ⟨#[119, 104, 101, 110]⟩])
  have hC := va_hit 40 37 _ Tryz.underlying40 (by intro m h; cases h) (.agg #[.string ⟨#[119, 104, 101, 110]⟩])
  obtain ⟨R, hR0⟩ : ∃ R, R = bdE (cntE t) fun t => ctlE (thrE W n) 5 t := ⟨_, rfl⟩
  rw [← hR0]
  have HR : Hid (R = bdE (cntE t) fun t => ctlE (thrE W n) 5 t) := hR0
  have HWd : Hid (∀ w, Calls Tryz.prog 57 #[.pointer (some ⟨F, 0, none⟩), .string ⟨#[119, 104, 101, 110]⟩] w fun e w' => e = .returned (.func (.func 64) #[.pointer (some ⟨F, 0, none⟩)] #[]) ∧ w' = w) := wo_4 F
  have HCn : Hid (∀ w1, InV w w1 S d F M W s v v t → Calls Tryz.prog 54 #[.pointer (some ⟨F, 0, none⟩)] w1 (CnE F M t w1)) := fun w1 i1 => icount_any t i1.1.1 (by have : potE t = t.st.length + t.tk + 32 * t.a := rfl; omega)
  clear he hev hes hp ha hW TH hR0
  go_enter Tryz.func46, Tryz.ntmps46
  go_wp2_with fail
  refine (show Calls Tryz.prog 57 _ _ _ from HWd.out _).mono ?_
  rintro e w1 ⟨rfl, hw1⟩
  have I1 : Hid (InV w w1 S d F M W s v v t) := by
    have := HE.out.2.2.2.2.2
    rw [hw1]
    exact this.only (by repeat' first | exact Only.refl _ _ | apply Only.alloc)
  clear HWd hw1 mP hC
  have HC : Hid _ := HCn.out w1 I1.out
  clear HCn
  go_wp2_with fail
  refine (show Calls Tryz.prog 54 _ _ _ from HC.out).mono ?_
  clear HC
  intro e w2 G
  obtain ⟨Z, hZ⟩ : ∃ Z, Z = cntE t := ⟨_, rfl⟩
  unfold CnE at G
  rw [← hZ] at G
  have HZ : Hid (Z = cntE t) := hZ
  clear hZ
  rcases Z with k | t1
  · obtain ⟨rfl, rfl⟩ := G
    have hR : R = .error k := by rw [HR.out, ← HZ.out]; rfl
    have OO : Hid (Only (BsF F s v) w w2) := I1.out.2.2.2
    clear HR
    subst hR
    unfold gupE
    go_wp2
    exact ⟨rfl, rfl, OO.out⟩
  obtain ⟨rfl, G⟩ := G
  have iv := I1.out.cnt HE.out.1 HZ.out.symm G.out.1 G.out.2
  have hR : R = ctlE (thrE W n) 5 t1 := by rw [HR.out, ← HZ.out]; rfl
  have I2 : Hid (InV w w2 S d F M W s v v t1) := iv
  have hct := cntE_ok HZ.out.symm
  have HC : Hid _ := ct_repeat HE.out.2.1 HE.out.2.2.1 HE.out.1 iv.1 iv.2.1 (by have := HE.out.2.2.2.1; omega) (by have := HE.out.2.2.2.2.1; omega)
  rw [← hR] at HC
  clear HR G iv hR hct I1
  go_wp2_with fail
  refine (show Calls Tryz.prog 64 _ _ _ from HC.out).mono ?_
  clear HC
  intro e w3 G
  have G2 : Hid (TrP S d F M W s v R w e w3) := TrP.step I2.out G
  clear G
  rcases R with k | t9
  · obtain ⟨rfl, o9⟩ := G2.out
    have OO : Hid _ := o9
    clear o9 G2
    unfold gupE
    go_wp2
    exact ⟨rfl, rfl, OO.out⟩
  · obtain ⟨rfl, o9⟩ := G2.out
    clear G2
    go_wp2
    first | (refine bodyPost_ret (results_none rfl _ _ _) rfl ?_; exact ⟨rfl, o9⟩) | (refine ⟨_, results_none rfl _ _ _, rfl, o9⟩) | (refine ⟨rfl, _, results_none rfl _ _ _, rfl, o9⟩)
set_option maxRecDepth 100000 in
set_option maxHeartbeats 1000000 in
theorem it_5 {W : ByteArray → Option (Nat × Nat)} {S : Nat → Prop} {d F M n s : Nat} (hW : WdOk W) (TH : ThC W S d F M n) {v : Value} {t : Ist} {w : World} (he : Env S F M s) (hev : EvAt w F M W t.a) (hes : EsV w S d s t.st t.tk v) (hp : potE t ≤ 900000) (ha : t.a < n + 1) :
    Calls Tryz.prog 46 #[.pointer (some ⟨F, 0, none⟩), .iface 40 (.agg #[.string ⟨#[116, 105, 109, 101, 115]⟩]), .pointer (some ⟨s, 0, none⟩)] w (TrP S d F M W s v (bdE (cntE t) fun t => ctlE (thrE W n) 5 t) w) := by
  have HE : Hid (Env S F M s ∧ WdOk W ∧ ThC W S d F M n ∧ potE t ≤ 900000 ∧ t.a < n + 1 ∧ InV w w S d F M W s v v t) := ⟨he, hW, TH, hp, ha, InV.refl hev hes⟩
  have mP := va_miss 40 70 37 _ Tryz.underlying70 (by intro m h; cases h) (by decide) _ vzero_Push (.agg #[.string ⟨#[116, 105, 109, 101, 115]⟩])
  have hC := va_hit 40 37 _ Tryz.underlying40 (by intro m h; cases h) (.agg #[.string ⟨#[116, 105, 109, 101, 115]⟩])
  obtain ⟨R, hR0⟩ : ∃ R, R = bdE (cntE t) fun t => ctlE (thrE W n) 5 t := ⟨_, rfl⟩
  rw [← hR0]
  have HR : Hid (R = bdE (cntE t) fun t => ctlE (thrE W n) 5 t) := hR0
  have HWd : Hid (∀ w, Calls Tryz.prog 57 #[.pointer (some ⟨F, 0, none⟩), .string ⟨#[116, 105, 109, 101, 115]⟩] w fun e w' => e = .returned (.func (.func 64) #[.pointer (some ⟨F, 0, none⟩)] #[]) ∧ w' = w) := wo_5 F
  have HCn : Hid (∀ w1, InV w w1 S d F M W s v v t → Calls Tryz.prog 54 #[.pointer (some ⟨F, 0, none⟩)] w1 (CnE F M t w1)) := fun w1 i1 => icount_any t i1.1.1 (by have : potE t = t.st.length + t.tk + 32 * t.a := rfl; omega)
  clear he hev hes hp ha hW TH hR0
  go_enter Tryz.func46, Tryz.ntmps46
  go_wp2_with fail
  refine (show Calls Tryz.prog 57 _ _ _ from HWd.out _).mono ?_
  rintro e w1 ⟨rfl, hw1⟩
  have I1 : Hid (InV w w1 S d F M W s v v t) := by
    have := HE.out.2.2.2.2.2
    rw [hw1]
    exact this.only (by repeat' first | exact Only.refl _ _ | apply Only.alloc)
  clear HWd hw1 mP hC
  have HC : Hid _ := HCn.out w1 I1.out
  clear HCn
  go_wp2_with fail
  refine (show Calls Tryz.prog 54 _ _ _ from HC.out).mono ?_
  clear HC
  intro e w2 G
  obtain ⟨Z, hZ⟩ : ∃ Z, Z = cntE t := ⟨_, rfl⟩
  unfold CnE at G
  rw [← hZ] at G
  have HZ : Hid (Z = cntE t) := hZ
  clear hZ
  rcases Z with k | t1
  · obtain ⟨rfl, rfl⟩ := G
    have hR : R = .error k := by rw [HR.out, ← HZ.out]; rfl
    have OO : Hid (Only (BsF F s v) w w2) := I1.out.2.2.2
    clear HR
    subst hR
    unfold gupE
    go_wp2
    exact ⟨rfl, rfl, OO.out⟩
  obtain ⟨rfl, G⟩ := G
  have iv := I1.out.cnt HE.out.1 HZ.out.symm G.out.1 G.out.2
  have hR : R = ctlE (thrE W n) 5 t1 := by rw [HR.out, ← HZ.out]; rfl
  have I2 : Hid (InV w w2 S d F M W s v v t1) := iv
  have hct := cntE_ok HZ.out.symm
  have HC : Hid _ := ct_repeat HE.out.2.1 HE.out.2.2.1 HE.out.1 iv.1 iv.2.1 (by have := HE.out.2.2.2.1; omega) (by have := HE.out.2.2.2.2.1; omega)
  rw [← hR] at HC
  clear HR G iv hR hct I1
  go_wp2_with fail
  refine (show Calls Tryz.prog 64 _ _ _ from HC.out).mono ?_
  clear HC
  intro e w3 G
  have G2 : Hid (TrP S d F M W s v R w e w3) := TrP.step I2.out G
  clear G
  rcases R with k | t9
  · obtain ⟨rfl, o9⟩ := G2.out
    have OO : Hid _ := o9
    clear o9 G2
    unfold gupE
    go_wp2
    exact ⟨rfl, rfl, OO.out⟩
  · obtain ⟨rfl, o9⟩ := G2.out
    clear G2
    go_wp2
    first | (refine bodyPost_ret (results_none rfl _ _ _) rfl ?_; exact ⟨rfl, o9⟩) | (refine ⟨_, results_none rfl _ _ _, rfl, o9⟩) | (refine ⟨rfl, _, results_none rfl _ _ _, rfl, o9⟩)
set_option maxRecDepth 100000 in
set_option maxHeartbeats 1000000 in
theorem it_6 {W : ByteArray → Option (Nat × Nat)} {S : Nat → Prop} {d F M n s : Nat} (hW : WdOk W) (TH : ThC W S d F M n) {v : Value} {t : Ist} {w : World} (he : Env S F M s) (hev : EvAt w F M W t.a) (hes : EsV w S d s t.st t.tk v) (hp : potE t ≤ 900000) (ha : t.a < n + 1) :
    Calls Tryz.prog 46 #[.pointer (some ⟨F, 0, none⟩), .iface 40 (.agg #[.string ⟨#[108, 111, 111, 112]⟩]), .pointer (some ⟨s, 0, none⟩)] w (TrP S d F M W s v (bdE (cntE t) fun t => ctlE (thrE W n) 6 t) w) := by
  have HE : Hid (Env S F M s ∧ WdOk W ∧ ThC W S d F M n ∧ potE t ≤ 900000 ∧ t.a < n + 1 ∧ InV w w S d F M W s v v t) := ⟨he, hW, TH, hp, ha, InV.refl hev hes⟩
  have mP := va_miss 40 70 37 _ Tryz.underlying70 (by intro m h; cases h) (by decide) _ vzero_Push (.agg #[.string ⟨#[108, 111, 111, 112]⟩])
  have hC := va_hit 40 37 _ Tryz.underlying40 (by intro m h; cases h) (.agg #[.string ⟨#[108, 111, 111, 112]⟩])
  obtain ⟨R, hR0⟩ : ∃ R, R = bdE (cntE t) fun t => ctlE (thrE W n) 6 t := ⟨_, rfl⟩
  rw [← hR0]
  have HR : Hid (R = bdE (cntE t) fun t => ctlE (thrE W n) 6 t) := hR0
  have HWd : Hid (∀ w, Calls Tryz.prog 57 #[.pointer (some ⟨F, 0, none⟩), .string ⟨#[108, 111, 111, 112]⟩] w fun e w' => e = .returned (.func (.func 65) #[.pointer (some ⟨F, 0, none⟩)] #[]) ∧ w' = w) := wo_6 F
  have HCn : Hid (∀ w1, InV w w1 S d F M W s v v t → Calls Tryz.prog 54 #[.pointer (some ⟨F, 0, none⟩)] w1 (CnE F M t w1)) := fun w1 i1 => icount_any t i1.1.1 (by have : potE t = t.st.length + t.tk + 32 * t.a := rfl; omega)
  clear he hev hes hp ha hW TH hR0
  go_enter Tryz.func46, Tryz.ntmps46
  go_wp2_with fail
  refine (show Calls Tryz.prog 57 _ _ _ from HWd.out _).mono ?_
  rintro e w1 ⟨rfl, hw1⟩
  have I1 : Hid (InV w w1 S d F M W s v v t) := by
    have := HE.out.2.2.2.2.2
    rw [hw1]
    exact this.only (by repeat' first | exact Only.refl _ _ | apply Only.alloc)
  clear HWd hw1 mP hC
  have HC : Hid _ := HCn.out w1 I1.out
  clear HCn
  go_wp2_with fail
  refine (show Calls Tryz.prog 54 _ _ _ from HC.out).mono ?_
  clear HC
  intro e w2 G
  obtain ⟨Z, hZ⟩ : ∃ Z, Z = cntE t := ⟨_, rfl⟩
  unfold CnE at G
  rw [← hZ] at G
  have HZ : Hid (Z = cntE t) := hZ
  clear hZ
  rcases Z with k | t1
  · obtain ⟨rfl, rfl⟩ := G
    have hR : R = .error k := by rw [HR.out, ← HZ.out]; rfl
    have OO : Hid (Only (BsF F s v) w w2) := I1.out.2.2.2
    clear HR
    subst hR
    unfold gupE
    go_wp2
    exact ⟨rfl, rfl, OO.out⟩
  obtain ⟨rfl, G⟩ := G
  have iv := I1.out.cnt HE.out.1 HZ.out.symm G.out.1 G.out.2
  have hR : R = ctlE (thrE W n) 6 t1 := by rw [HR.out, ← HZ.out]; rfl
  have I2 : Hid (InV w w2 S d F M W s v v t1) := iv
  have hct := cntE_ok HZ.out.symm
  have HC : Hid _ := ct_loop HE.out.2.1 HE.out.2.2.1 HE.out.1 iv.1 iv.2.1 (by have := HE.out.2.2.2.1; omega) (by have := HE.out.2.2.2.2.1; omega)
  rw [← hR] at HC
  clear HR G iv hR hct I1
  go_wp2_with fail
  refine (show Calls Tryz.prog 65 _ _ _ from HC.out).mono ?_
  clear HC
  intro e w3 G
  have G2 : Hid (TrP S d F M W s v R w e w3) := TrP.step I2.out G
  clear G
  rcases R with k | t9
  · obtain ⟨rfl, o9⟩ := G2.out
    have OO : Hid _ := o9
    clear o9 G2
    unfold gupE
    go_wp2
    exact ⟨rfl, rfl, OO.out⟩
  · obtain ⟨rfl, o9⟩ := G2.out
    clear G2
    go_wp2
    first | (refine bodyPost_ret (results_none rfl _ _ _) rfl ?_; exact ⟨rfl, o9⟩) | (refine ⟨_, results_none rfl _ _ _, rfl, o9⟩) | (refine ⟨rfl, _, results_none rfl _ _ _, rfl, o9⟩)
set_option maxRecDepth 100000 in
set_option maxHeartbeats 1000000 in
theorem it_7 {W : ByteArray → Option (Nat × Nat)} {S : Nat → Prop} {d F M n s : Nat} (hW : WdOk W) (TH : ThC W S d F M n) {v : Value} {t : Ist} {w : World} (he : Env S F M s) (hev : EvAt w F M W t.a) (hes : EsV w S d s t.st t.tk v) (hp : potE t ≤ 900000) (ha : t.a < n + 1) :
    Calls Tryz.prog 46 #[.pointer (some ⟨F, 0, none⟩), .iface 40 (.agg #[.string ⟨#[101, 97, 99, 104]⟩]), .pointer (some ⟨s, 0, none⟩)] w (TrP S d F M W s v (bdE (cntE t) fun t => ctlE (thrE W n) 7 t) w) := by
  have HE : Hid (Env S F M s ∧ WdOk W ∧ ThC W S d F M n ∧ potE t ≤ 900000 ∧ t.a < n + 1 ∧ InV w w S d F M W s v v t) := ⟨he, hW, TH, hp, ha, InV.refl hev hes⟩
  have mP := va_miss 40 70 37 _ Tryz.underlying70 (by intro m h; cases h) (by decide) _ vzero_Push (.agg #[.string ⟨#[101, 97, 99, 104]⟩])
  have hC := va_hit 40 37 _ Tryz.underlying40 (by intro m h; cases h) (.agg #[.string ⟨#[101, 97, 99, 104]⟩])
  obtain ⟨R, hR0⟩ : ∃ R, R = bdE (cntE t) fun t => ctlE (thrE W n) 7 t := ⟨_, rfl⟩
  rw [← hR0]
  have HR : Hid (R = bdE (cntE t) fun t => ctlE (thrE W n) 7 t) := hR0
  have HWd : Hid (∀ w, Calls Tryz.prog 57 #[.pointer (some ⟨F, 0, none⟩), .string ⟨#[101, 97, 99, 104]⟩] w fun e w' => e = .returned (.func (.func 66) #[.pointer (some ⟨F, 0, none⟩)] #[]) ∧ w' = w) := wo_7 F
  have HCn : Hid (∀ w1, InV w w1 S d F M W s v v t → Calls Tryz.prog 54 #[.pointer (some ⟨F, 0, none⟩)] w1 (CnE F M t w1)) := fun w1 i1 => icount_any t i1.1.1 (by have : potE t = t.st.length + t.tk + 32 * t.a := rfl; omega)
  clear he hev hes hp ha hW TH hR0
  go_enter Tryz.func46, Tryz.ntmps46
  go_wp2_with fail
  refine (show Calls Tryz.prog 57 _ _ _ from HWd.out _).mono ?_
  rintro e w1 ⟨rfl, hw1⟩
  have I1 : Hid (InV w w1 S d F M W s v v t) := by
    have := HE.out.2.2.2.2.2
    rw [hw1]
    exact this.only (by repeat' first | exact Only.refl _ _ | apply Only.alloc)
  clear HWd hw1 mP hC
  have HC : Hid _ := HCn.out w1 I1.out
  clear HCn
  go_wp2_with fail
  refine (show Calls Tryz.prog 54 _ _ _ from HC.out).mono ?_
  clear HC
  intro e w2 G
  obtain ⟨Z, hZ⟩ : ∃ Z, Z = cntE t := ⟨_, rfl⟩
  unfold CnE at G
  rw [← hZ] at G
  have HZ : Hid (Z = cntE t) := hZ
  clear hZ
  rcases Z with k | t1
  · obtain ⟨rfl, rfl⟩ := G
    have hR : R = .error k := by rw [HR.out, ← HZ.out]; rfl
    have OO : Hid (Only (BsF F s v) w w2) := I1.out.2.2.2
    clear HR
    subst hR
    unfold gupE
    go_wp2
    exact ⟨rfl, rfl, OO.out⟩
  obtain ⟨rfl, G⟩ := G
  have iv := I1.out.cnt HE.out.1 HZ.out.symm G.out.1 G.out.2
  have hR : R = ctlE (thrE W n) 7 t1 := by rw [HR.out, ← HZ.out]; rfl
  have I2 : Hid (InV w w2 S d F M W s v v t1) := iv
  have hct := cntE_ok HZ.out.symm
  have HC : Hid _ := ct_each HE.out.2.1 HE.out.2.2.1 HE.out.1 iv.1 iv.2.1 (by have := HE.out.2.2.2.1; omega) (by have := HE.out.2.2.2.2.1; omega)
  rw [← hR] at HC
  clear HR G iv hR hct I1
  go_wp2_with fail
  refine (show Calls Tryz.prog 66 _ _ _ from HC.out).mono ?_
  clear HC
  intro e w3 G
  have G2 : Hid (TrP S d F M W s v R w e w3) := TrP.step I2.out G
  clear G
  rcases R with k | t9
  · obtain ⟨rfl, o9⟩ := G2.out
    have OO : Hid _ := o9
    clear o9 G2
    unfold gupE
    go_wp2
    exact ⟨rfl, rfl, OO.out⟩
  · obtain ⟨rfl, o9⟩ := G2.out
    clear G2
    go_wp2
    first | (refine bodyPost_ret (results_none rfl _ _ _) rfl ?_; exact ⟨rfl, o9⟩) | (refine ⟨_, results_none rfl _ _ _, rfl, o9⟩) | (refine ⟨rfl, _, results_none rfl _ _ _, rfl, o9⟩)
end Go.Proofs.YtodbkihobgdpdaaGreatDoor
