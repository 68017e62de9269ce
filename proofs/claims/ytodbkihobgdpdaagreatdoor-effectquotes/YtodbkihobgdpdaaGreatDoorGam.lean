/- Words that call quotations: repeat, loop, each. Words that call quotations: if. -/
import Derived.Test.YtodbkihobgdpdaaGreatDoorGal
namespace Go.Proofs.YtodbkihobgdpdaaGreatDoor
open Go.RowKit Go.Lib
set_option linter.unusedSimpArgs false
set_option linter.unusedVariables false
set_option maxRecDepth 100000 in
set_option maxHeartbeats 1000000 in
theorem ct_repeat {W : ByteArray → Option (Nat × Nat)} {S : Nat → Prop} {d F M n : Nat} (hW : WdOk W) (TH : ThC W S d F M n) {s : Nat} {v0 : Value} {t0 : Ist} {w0 : World} (he : Env S F M s) (hev : EvAt w0 F M W t0.a) (hes : EsV w0 S d s t0.st t0.tk v0) (hp : potE t0 + 32 ≤ 900000) (ha : t0.a < n) :
    Calls Tryz.prog 64 #[.pointer (some ⟨F, 0, none⟩), .pointer (some ⟨s, 0, none⟩)] w0 (TrP S d F M W s v0 (ctlE (thrE W n) 5 t0) w0) := by
  have HE : Hid (Env S F M s ∧ WdOk W ∧ ThC W S d F M n ∧ potE t0 + 32 ≤ 900000 ∧ t0.a < n) := ⟨he, hW, TH, hp, ha⟩
  have I0 : Hid (InV w0 w0 S d F M W s v0 v0 t0 ∧ potE t0 ≤ potE t0 ∧ t0.a ≤ t0.a) := ⟨InV.refl hev hes, Nat.le_refl _, Nat.le_refl _⟩
  obtain ⟨R, hR0⟩ : ∃ R, R = ctlE (thrE W n) 5 t0 := ⟨_, rfl⟩
  rw [← hR0]
  have HR : Hid (R = ctlE (thrE W n) 5 t0) := hR0
  have HFN : Hid (∀ w, Calls Tryz.prog 77 #[.bool false] w fun e w' => e = gupE 12 ∧ w' = w) := fit_no
  have HFY : Hid (∀ w, Calls Tryz.prog 77 #[.bool true] w fun e w' => e = .returned (.tuple #[]) ∧ w' = w) := fit_yes
  clear he hW TH hp ha hev hes hR0
  go_enter Tryz.func64, Tryz.ntmps64
  obtain ⟨Z0, hZ0⟩ : ∃ Z, Z = quoE t0 := ⟨_, rfl⟩
  have HC : Hid (Calls Tryz.prog 75 #[.pointer (some ⟨s, 0, none⟩)] w0 (QuP S d s v0 Z0 w0)) := by rw [hZ0]; exact quotation_any t0.a I0.out.1.2.1 (fun b hb => (HE.out.1.2.2.2 b hb).1) (by have h1 := I0.out.2.1; have h2 := HE.out.2.2.2.1; show potE t0 ≤ 1000000; omega)
  have HZ0 : Hid (Z0 = quoE t0) := hZ0
  clear hZ0
  go_wp2_with fail
  refine (show Calls Tryz.prog 75 _ _ _ from HC.out).mono ?_
  clear HC
  intro e0 w1 G
  rcases Z0 with k0 | ⟨l1, t1⟩
  · obtain ⟨rfl, o1⟩ := G
    have hR : R = .error k0 := by rw [HR.out]; simp [ctlE, bdE, ← HZ0.out]
    have OO : Hid (Only (BsF F s v0) w0 w1) := I0.out.1.wide (o1.mono (fun _ _ e => .inr (.inl e)))
    clear HR
    subst hR
    unfold gupE
    go_wp2
    exact ⟨rfl, rfl, OO.out⟩
  obtain ⟨ao1, cap1, rfl, G⟩ := G
  obtain ⟨q1, q2, q3, q4⟩ := G.out
  have hq := quoE_pot HZ0.out.symm
  have hqa : t1.a = t0.a := hq.1
  have hqp : potE t1 + 1 ≤ potE t0 := hq.2
  obtain ⟨v1, iv⟩ := I0.out.1.eso HE.out.1 q4
  have I1 : Hid (InV w0 w1 S d F M W s v0 v1 t1 ∧ potE t1 ≤ potE t0 + 0 ∧ t1.a ≤ t0.a) := by
    have e9 : (⟨t0.a, t1.st, t1.tk⟩ : Ist) = t1 := by rw [← hqa]
    have h1 := I0.out.2
    simp only at iv
    rw [e9] at iv
    exact ⟨iv, by omega, by omega⟩
  have LLl1_1 : Hid (l1.length ≤ cap1 ∧ SmL l1 ∧ QsAt w1 S d l1 ao1) := ⟨q1, q2, q3⟩
  clear G q1 q2 q3 q4 hq hqa hqp iv
  obtain ⟨P1, hP1⟩ : ∃ P, P = popE t1 := ⟨_, rfl⟩
  have HC : Hid (Calls Tryz.prog 76 #[.pointer (some ⟨s, 0, none⟩)] w1 (PoV S d s v1 P1.1 P1.2.st P1.2.tk w1)) := by rw [hP1]; exact pop_v t1.a I1.out.1.2.1 (fun b hb => (HE.out.1.2.2.2 b hb).1) (by have h1 := I1.out.2.1; have h2 := HE.out.2.2.2.1; show potE t1 ≤ 1000000; omega)
  have HP1 : Hid (P1 = popE t1) := hP1
  clear hP1
  go_wp2_with fail
  refine (show Calls Tryz.prog 76 _ _ _ from HC.out).mono ?_
  clear HC
  rintro e1 w2 ⟨b2, ao2, m2, cap2, rfl, G⟩
  obtain ⟨x2, t2⟩ := P1
  obtain ⟨g1, ⟨v', g2, g5⟩, g3⟩ := G.out
  have hpa : t2.a = t1.a := by have := popE_a t1; rw [← HP1.out] at this; exact this
  have hpp : potE t2 ≤ potE t1 + 1 := by have := popE_pot t1; rw [← HP1.out] at this; exact this
  have eo : EsO w1 w2 S d s v1 t2.st t2.tk := ⟨⟨v', g2, .inl g5⟩, g3.mono (fun _ _ e => .inl e)⟩
  obtain ⟨v2, iv⟩ := I1.out.1.eso HE.out.1 eo
  have I2 : Hid (InV w0 w2 S d F M W s v0 v2 t2 ∧ potE t2 ≤ potE t0 + 1 ∧ t2.a ≤ t0.a) := by
    have e9 : (⟨t1.a, t2.st, t2.tk⟩ : Ist) = t2 := by rw [← hpa]
    have h1 := I1.out.2
    rw [e9] at iv
    exact ⟨iv, by omega, by omega⟩
  have X2_2 : Hid (EnAt w2 S d x2 b2 ao2 m2 cap2) := g1
  have LLl1_2 : Hid (l1.length ≤ cap1 ∧ SmL l1 ∧ QsAt w2 S d l1 ao1) := ⟨LLl1_1.out.1, LLl1_1.out.2.1, LLl1_1.out.2.2.in I1.out.1.2.1 HE.out.1 (eo.2.mono (fun _ _ e => .inr e))⟩
  clear G g1 g2 g5 g3 hpa hpp iv eo
  obtain ⟨Z2, hZ2⟩ : ∃ Z, Z = thrE W n l1 ⟨t2.a, [], 0⟩ := ⟨_, rfl⟩
  have HC : Hid (Calls Tryz.prog 34 #[.pointer (some ⟨F, 0, none⟩), .slice ao1 l1.length cap1] w2 (OwP F M W Z2 w2)) := by
    rw [hZ2]
    have h1 := EsAt.lt ⟨v2, I2.out.1.2.1⟩
    have h2 := HE.out.1
    have h3 := I2.out.2
    have h4 := HE.out.2.2.2
    have h5 : potE t2 = t2.st.length + t2.tk + 32 * t2.a := rfl
    exact own_of HE.out.2.2.1 (by have := h2.1; omega) (by have := h2.2.1; omega) h2.2.2.1 (fun b hb => ⟨by have := (h2.2.2.2 b hb).1; omega, (h2.2.2.2 b hb).2⟩) I2.out.1.1 LLl1_2.out.2.2 LLl1_2.out.1 LLl1_2.out.2.1 (by omega) (by omega)
  have HZ2 : Hid (Z2 = thrE W n l1 ⟨t2.a, [], 0⟩) := hZ2
  clear hZ2
  go_wp2_with fail
  refine (show Calls Tryz.prog 34 _ _ _ from HC.out).mono ?_
  clear HC
  intro e2 w3 G
  rcases Z2 with k2 | y3
  · obtain ⟨rfl, o1⟩ := G
    have hR : R = .error k2 := by rw [HR.out]; simp [ctlE, bdE, ← HZ0.out, ← HP1.out, ← HZ2.out]
    have OO : Hid (Only (BsF F s v0) w0 w3) := I2.out.1.wide (o1.mono (fun _ _ e => .inl e))
    clear HR
    subst hR
    unfold gupE
    go_wp2
    exact ⟨rfl, rfl, OO.out⟩
  obtain ⟨rfl, G⟩ := G
  obtain ⟨g1, oF⟩ := G.out
  have iv := I2.out.1.own HE.out.1 oF g1
  have hpt := thrE_pot HE.out.2.1 n l1 ⟨t2.a, [], 0⟩ y3 HZ2.out.symm
  obtain ⟨t3, ht3⟩ : ∃ X, X = (⟨y3.a, t2.st, t2.tk⟩ : Ist) := ⟨_, rfl⟩
  obtain ⟨v3, hv3⟩ : ∃ X, X = v2 := ⟨_, rfl⟩
  have I3 : Hid (InV w0 w3 S d F M W s v0 v3 t3 ∧ potE t3 ≤ potE t0 + 1 ∧ t3.a ≤ t0.a) := by
    have h1 := I2.out.2
    have h2 : potE ⟨t2.a, [], 0⟩ = 32 * t2.a := by simp [potE]
    have h3 : potE y3 = y3.st.length + y3.tk + 32 * y3.a := rfl
    have h4 : potE t3 = t2.st.length + t2.tk + 32 * y3.a := by rw [ht3]; rfl
    have h5 : potE t2 = t2.st.length + t2.tk + 32 * t2.a := rfl
    have h6 : t3.a = y3.a := by rw [ht3]
    have h7 : y3.a ≤ t2.a := hpt.1
    refine ⟨by rw [ht3, hv3]; exact iv, by omega, by omega⟩
  have PB3 : Hid (potE t3 + (y3.st.length + y3.tk) ≤ potE t2) := by
    have h2 : potE ⟨t2.a, [], 0⟩ = 32 * t2.a := by simp [potE]
    have h3 : potE y3 = y3.st.length + y3.tk + 32 * y3.a := rfl
    have h4 : potE t3 = t2.st.length + t2.tk + 32 * y3.a := by rw [ht3]; rfl
    have h5 : potE t2 = t2.st.length + t2.tk + 32 * t2.a := rfl
    have h8 := hpt.2
    show potE t3 + (y3.st.length + y3.tk) ≤ potE t2
    omega
  have HT3 : Hid (t3 = ⟨y3.a, t2.st, t2.tk⟩) := ht3
  have LLl1_3 : Hid (l1.length ≤ cap1 ∧ SmL l1 ∧ QsAt w3 S d l1 ao1) := ⟨LLl1_2.out.1, LLl1_2.out.2.1, LLl1_2.out.2.2.only oF (fun b hb e => (HE.out.1.2.2.2 b hb).2 e)⟩
  clear G g1 oF iv hpt ht3 hv3
  have hyb : y3.st.length ≤ 900000 ∧ y3.tk ≤ 900000 := by have h1 := PB3.out; have h2 := I2.out.2.1; have h3 := HE.out.2.2.2.1; omega
  have HYB : Hid (y3.st.length ≤ 900000 ∧ y3.tk ≤ 900000) := hyb
  clear hyb
  by_cases hf : y3.st.length = y3.tk
  rotate_left
  · have c1 : ((y3.st.length : Int) == (y3.tk : Int)) = false := by simp; omega
    have HF9 : Hid (¬ (y3.st.length = y3.tk)) := hf
    clear hf
    go_wp2_with fail
    obtain ⟨w4, hw4⟩ : ∃ X, X = w3.alloc (.cells #[.int .i64 (y3.tk : Int), .int .i64 (y3.st.length : Int)] 30) := ⟨_, rfl⟩
    obtain ⟨v4, hv4⟩ : ∃ X, X = v3 := ⟨_, rfl⟩
    obtain ⟨t4, ht4⟩ : ∃ X, X = t3 := ⟨_, rfl⟩
    obtain ⟨N4, hN4⟩ : ∃ X, X = w3.heap.size := ⟨_, rfl⟩
    have oa4 : Only (fun _ => False) w3 w4 := by rw [hw4]; exact (Only.refl _ _).alloc _
    have I4 : Hid (InV w0 w4 S d F M W s v0 v4 t4 ∧ potE t4 ≤ potE t0 + 1 ∧ t4.a ≤ t0.a) := by
      rw [hv4, ht4]
      exact ⟨I3.out.1.only oa4, I3.out.2⟩
    have B4_4 : Hid (w4.heap[N4]? = some (.cells #[.int .i64 (y3.tk : Int), .int .i64 (y3.st.length : Int)] 30) ∧ N4 ≠ s ∧ N4 ≠ F ∧ v4.ownBlock ≠ some N4) := by
      have h1 := EsAt.lt ⟨v3, I3.out.1.2.1⟩
      have h2 := HE.out.1.1
      refine ⟨by rw [hw4]; exact ealloc_at _ _ _ hN4, by omega, by omega, fun e => ?_⟩
      rw [hv4] at e
      have := (I3.out.1.2.1.own N4 e).2
      omega
    have LLl1_4 : Hid (l1.length ≤ cap1 ∧ SmL l1 ∧ QsAt w4 S d l1 ao1) := ⟨LLl1_3.out.1, LLl1_3.out.2.1, LLl1_3.out.2.2.only oa4 (fun _ _ e => e)⟩
    rw [← hw4, ← hN4]
    have HT4 : Hid (t4 = t3) := ht4
    clear oa4 hw4 hv4 ht4 hN4
    refine (show Calls Tryz.prog 77 _ _ _ from HFN.out _).mono ?_
    rintro e9 w9 ⟨rfl, rfl⟩
    have hR : R = .error 12 := by rw [HR.out]; simp [ctlE, bdE, ← HZ0.out, ← HP1.out, ← HZ2.out, ← HT3.out, ← HT4.out, HF9.out]
    have OO : Hid (Only (BsF F s v0) w0 w9) := I4.out.1.2.2.2
    clear HR c1
    subst hR
    unfold gupE
    go_wp2
    exact ⟨rfl, rfl, OO.out⟩
  have c1 : ((y3.st.length : Int) == (y3.tk : Int)) = true := by simp; omega
  have HF9 : Hid (y3.st.length = y3.tk) := hf
  clear hf
  go_wp2_with fail
  obtain ⟨w4, hw4⟩ : ∃ X, X = w3.alloc (.cells #[.int .i64 (y3.tk : Int), .int .i64 (y3.st.length : Int)] 30) := ⟨_, rfl⟩
  obtain ⟨v4, hv4⟩ : ∃ X, X = v3 := ⟨_, rfl⟩
  obtain ⟨t4, ht4⟩ : ∃ X, X = t3 := ⟨_, rfl⟩
  obtain ⟨N4, hN4⟩ : ∃ X, X = w3.heap.size := ⟨_, rfl⟩
  have oa4 : Only (fun _ => False) w3 w4 := by rw [hw4]; exact (Only.refl _ _).alloc _
  have I4 : Hid (InV w0 w4 S d F M W s v0 v4 t4 ∧ potE t4 ≤ potE t0 + 1 ∧ t4.a ≤ t0.a) := by
    rw [hv4, ht4]
    exact ⟨I3.out.1.only oa4, I3.out.2⟩
  have B4_4 : Hid (w4.heap[N4]? = some (.cells #[.int .i64 (y3.tk : Int), .int .i64 (y3.st.length : Int)] 30) ∧ N4 ≠ s ∧ N4 ≠ F ∧ v4.ownBlock ≠ some N4) := by
    have h1 := EsAt.lt ⟨v3, I3.out.1.2.1⟩
    have h2 := HE.out.1.1
    refine ⟨by rw [hw4]; exact ealloc_at _ _ _ hN4, by omega, by omega, fun e => ?_⟩
    rw [hv4] at e
    have := (I3.out.1.2.1.own N4 e).2
    omega
  have LLl1_4 : Hid (l1.length ≤ cap1 ∧ SmL l1 ∧ QsAt w4 S d l1 ao1) := ⟨LLl1_3.out.1, LLl1_3.out.2.1, LLl1_3.out.2.2.only oa4 (fun _ _ e => e)⟩
  rw [← hw4, ← hN4]
  have HT4 : Hid (t4 = t3) := ht4
  clear oa4 hw4 hv4 ht4 hN4
  refine (show Calls Tryz.prog 77 _ _ _ from HFY.out _).mono ?_
  rintro e9 w9 ⟨rfl, rfl⟩
  obtain ⟨u9, -, -, -⟩ := B4_4.out
  obtain ⟨y9a, y9b, -, -⟩ := wr2_cell u9
  clear u9 c1
  have HC : Hid _ := apply_any t4.a (y3.tk) (y3.st.length) I4.out.1.2.1 (fun b hb => (HE.out.1.2.2.2 b hb).1) (by have h1 := PB3.out; have h2 := I2.out.2.1; have h3 := HE.out.2.2.2.1; have h4 := HT4.out; have h5 := HF9.out; show potE t4 + (y3.tk) + (y3.st.length) ≤ 1000000; rw [h4]; omega)
  go_wp2_with fail
  refine (show Calls Tryz.prog 72 _ _ _ from HC.out).mono ?_
  clear HC
  rintro e9 w8 ⟨rfl, G⟩
  obtain ⟨v8, iv⟩ := I4.out.1.eso HE.out.1 G.out
  have hR : R = .ok (appE (y3.tk) (y3.st.length) t4) := by rw [HR.out]; simp [ctlE, bdE, ← HZ0.out, ← HP1.out, ← HZ2.out, ← HT3.out, ← HT4.out, HF9.out]
  have F9 : Hid (∃ v', InV w0 w8 S d F M W s v0 v' (appE (y3.tk) (y3.st.length) t4)) := by
    refine ⟨v8, ?_⟩
    have e8 : (⟨t4.a, (appE (y3.tk) (y3.st.length) t4).st, (appE (y3.tk) (y3.st.length) t4).tk⟩ : Ist) = appE (y3.tk) (y3.st.length) t4 := by rw [← (appE_pot (y3.tk) (y3.st.length) t4).1]
    rw [← e8]
    exact iv
  clear HR G iv y9a y9b
  subst hR
  go_wp2
  first | (refine bodyPost_ret (results_none rfl _ _ _) rfl ?_; exact ⟨rfl, F9.out⟩) | (refine ⟨_, results_none rfl _ _ _, rfl, F9.out⟩) | (refine ⟨rfl, _, results_none rfl _ _ _, rfl, F9.out⟩)
set_option maxRecDepth 100000 in
set_option maxHeartbeats 1000000 in
theorem ct_loop {W : ByteArray → Option (Nat × Nat)} {S : Nat → Prop} {d F M n : Nat} (hW : WdOk W) (TH : ThC W S d F M n) {s : Nat} {v0 : Value} {t0 : Ist} {w0 : World} (he : Env S F M s) (hev : EvAt w0 F M W t0.a) (hes : EsV w0 S d s t0.st t0.tk v0) (hp : potE t0 + 32 ≤ 900000) (ha : t0.a < n) :
    Calls Tryz.prog 65 #[.pointer (some ⟨F, 0, none⟩), .pointer (some ⟨s, 0, none⟩)] w0 (TrP S d F M W s v0 (ctlE (thrE W n) 6 t0) w0) := by
  have HE : Hid (Env S F M s ∧ WdOk W ∧ ThC W S d F M n ∧ potE t0 + 32 ≤ 900000 ∧ t0.a < n) := ⟨he, hW, TH, hp, ha⟩
  have I0 : Hid (InV w0 w0 S d F M W s v0 v0 t0 ∧ potE t0 ≤ potE t0 ∧ t0.a ≤ t0.a) := ⟨InV.refl hev hes, Nat.le_refl _, Nat.le_refl _⟩
  obtain ⟨R, hR0⟩ : ∃ R, R = ctlE (thrE W n) 6 t0 := ⟨_, rfl⟩
  rw [← hR0]
  have HR : Hid (R = ctlE (thrE W n) 6 t0) := hR0
  have HFN : Hid (∀ w, Calls Tryz.prog 77 #[.bool false] w fun e w' => e = gupE 12 ∧ w' = w) := fit_no
  have HFY : Hid (∀ w, Calls Tryz.prog 77 #[.bool true] w fun e w' => e = .returned (.tuple #[]) ∧ w' = w) := fit_yes
  clear he hW TH hp ha hev hes hR0
  go_enter Tryz.func65, Tryz.ntmps65
  obtain ⟨Z0, hZ0⟩ : ∃ Z, Z = quoE t0 := ⟨_, rfl⟩
  have HC : Hid (Calls Tryz.prog 75 #[.pointer (some ⟨s, 0, none⟩)] w0 (QuP S d s v0 Z0 w0)) := by rw [hZ0]; exact quotation_any t0.a I0.out.1.2.1 (fun b hb => (HE.out.1.2.2.2 b hb).1) (by have h1 := I0.out.2.1; have h2 := HE.out.2.2.2.1; show potE t0 ≤ 1000000; omega)
  have HZ0 : Hid (Z0 = quoE t0) := hZ0
  clear hZ0
  go_wp2_with fail
  refine (show Calls Tryz.prog 75 _ _ _ from HC.out).mono ?_
  clear HC
  intro e0 w1 G
  rcases Z0 with k0 | ⟨l1, t1⟩
  · obtain ⟨rfl, o1⟩ := G
    have hR : R = .error k0 := by rw [HR.out]; simp [ctlE, bdE, ← HZ0.out]
    have OO : Hid (Only (BsF F s v0) w0 w1) := I0.out.1.wide (o1.mono (fun _ _ e => .inr (.inl e)))
    clear HR
    subst hR
    unfold gupE
    go_wp2
    exact ⟨rfl, rfl, OO.out⟩
  obtain ⟨ao1, cap1, rfl, G⟩ := G
  obtain ⟨q1, q2, q3, q4⟩ := G.out
  have hq := quoE_pot HZ0.out.symm
  have hqa : t1.a = t0.a := hq.1
  have hqp : potE t1 + 1 ≤ potE t0 := hq.2
  obtain ⟨v1, iv⟩ := I0.out.1.eso HE.out.1 q4
  have I1 : Hid (InV w0 w1 S d F M W s v0 v1 t1 ∧ potE t1 ≤ potE t0 + 0 ∧ t1.a ≤ t0.a) := by
    have e9 : (⟨t0.a, t1.st, t1.tk⟩ : Ist) = t1 := by rw [← hqa]
    have h1 := I0.out.2
    simp only at iv
    rw [e9] at iv
    exact ⟨iv, by omega, by omega⟩
  have LLl1_1 : Hid (l1.length ≤ cap1 ∧ SmL l1 ∧ QsAt w1 S d l1 ao1) := ⟨q1, q2, q3⟩
  clear G q1 q2 q3 q4 hq hqa hqp iv
  obtain ⟨Z1, hZ1⟩ : ∃ Z, Z = thrE W n l1 ⟨t1.a, [], 0⟩ := ⟨_, rfl⟩
  have HC : Hid (Calls Tryz.prog 34 #[.pointer (some ⟨F, 0, none⟩), .slice ao1 l1.length cap1] w1 (OwP F M W Z1 w1)) := by
    rw [hZ1]
    have h1 := EsAt.lt ⟨v1, I1.out.1.2.1⟩
    have h2 := HE.out.1
    have h3 := I1.out.2
    have h4 := HE.out.2.2.2
    have h5 : potE t1 = t1.st.length + t1.tk + 32 * t1.a := rfl
    exact own_of HE.out.2.2.1 (by have := h2.1; omega) (by have := h2.2.1; omega) h2.2.2.1 (fun b hb => ⟨by have := (h2.2.2.2 b hb).1; omega, (h2.2.2.2 b hb).2⟩) I1.out.1.1 LLl1_1.out.2.2 LLl1_1.out.1 LLl1_1.out.2.1 (by omega) (by omega)
  have HZ1 : Hid (Z1 = thrE W n l1 ⟨t1.a, [], 0⟩) := hZ1
  clear hZ1
  go_wp2_with fail
  refine (show Calls Tryz.prog 34 _ _ _ from HC.out).mono ?_
  clear HC
  intro e1 w2 G
  rcases Z1 with k1 | y2
  · obtain ⟨rfl, o1⟩ := G
    have hR : R = .error k1 := by rw [HR.out]; simp [ctlE, bdE, ← HZ0.out, ← HZ1.out]
    have OO : Hid (Only (BsF F s v0) w0 w2) := I1.out.1.wide (o1.mono (fun _ _ e => .inl e))
    clear HR
    subst hR
    unfold gupE
    go_wp2
    exact ⟨rfl, rfl, OO.out⟩
  obtain ⟨rfl, G⟩ := G
  obtain ⟨g1, oF⟩ := G.out
  have iv := I1.out.1.own HE.out.1 oF g1
  have hpt := thrE_pot HE.out.2.1 n l1 ⟨t1.a, [], 0⟩ y2 HZ1.out.symm
  obtain ⟨t2, ht2⟩ : ∃ X, X = (⟨y2.a, t1.st, t1.tk⟩ : Ist) := ⟨_, rfl⟩
  obtain ⟨v2, hv2⟩ : ∃ X, X = v1 := ⟨_, rfl⟩
  have I2 : Hid (InV w0 w2 S d F M W s v0 v2 t2 ∧ potE t2 ≤ potE t0 + 0 ∧ t2.a ≤ t0.a) := by
    have h1 := I1.out.2
    have h2 : potE ⟨t1.a, [], 0⟩ = 32 * t1.a := by simp [potE]
    have h3 : potE y2 = y2.st.length + y2.tk + 32 * y2.a := rfl
    have h4 : potE t2 = t1.st.length + t1.tk + 32 * y2.a := by rw [ht2]; rfl
    have h5 : potE t1 = t1.st.length + t1.tk + 32 * t1.a := rfl
    have h6 : t2.a = y2.a := by rw [ht2]
    have h7 : y2.a ≤ t1.a := hpt.1
    refine ⟨by rw [ht2, hv2]; exact iv, by omega, by omega⟩
  have PB2 : Hid (potE t2 + (y2.st.length + y2.tk) ≤ potE t1) := by
    have h2 : potE ⟨t1.a, [], 0⟩ = 32 * t1.a := by simp [potE]
    have h3 : potE y2 = y2.st.length + y2.tk + 32 * y2.a := rfl
    have h4 : potE t2 = t1.st.length + t1.tk + 32 * y2.a := by rw [ht2]; rfl
    have h5 : potE t1 = t1.st.length + t1.tk + 32 * t1.a := rfl
    have h8 := hpt.2
    show potE t2 + (y2.st.length + y2.tk) ≤ potE t1
    omega
  have HT2 : Hid (t2 = ⟨y2.a, t1.st, t1.tk⟩) := ht2
  have LLl1_2 : Hid (l1.length ≤ cap1 ∧ SmL l1 ∧ QsAt w2 S d l1 ao1) := ⟨LLl1_1.out.1, LLl1_1.out.2.1, LLl1_1.out.2.2.only oF (fun b hb e => (HE.out.1.2.2.2 b hb).2 e)⟩
  clear G g1 oF iv hpt ht2 hv2
  have hyb : y2.st.length ≤ 900000 ∧ y2.tk ≤ 900000 := by have h1 := PB2.out; have h2 := I1.out.2.1; have h3 := HE.out.2.2.2.1; omega
  have wr1 : IntKind.i64.wrap ((y2.tk : Int) + 1) = (y2.tk : Int) + 1 := by rw [IntKind.wrap_i64]; omega
  have HYB : Hid (y2.st.length ≤ 900000 ∧ y2.tk ≤ 900000) := hyb
  clear hyb
  by_cases hf : y2.st.length = y2.tk + 1
  rotate_left
  · have c1 : ((y2.st.length : Int) == (y2.tk : Int) + 1) = false := by simp; omega
    have HF9 : Hid (¬ (y2.st.length = y2.tk + 1)) := hf
    clear hf
    go_wp2_with fail
    obtain ⟨w3, hw3⟩ : ∃ X, X = w2.alloc (.cells #[.int .i64 (y2.tk : Int), .int .i64 (y2.st.length : Int)] 30) := ⟨_, rfl⟩
    obtain ⟨v3, hv3⟩ : ∃ X, X = v2 := ⟨_, rfl⟩
    obtain ⟨t3, ht3⟩ : ∃ X, X = t2 := ⟨_, rfl⟩
    obtain ⟨N3, hN3⟩ : ∃ X, X = w2.heap.size := ⟨_, rfl⟩
    have oa3 : Only (fun _ => False) w2 w3 := by rw [hw3]; exact (Only.refl _ _).alloc _
    have I3 : Hid (InV w0 w3 S d F M W s v0 v3 t3 ∧ potE t3 ≤ potE t0 + 0 ∧ t3.a ≤ t0.a) := by
      rw [hv3, ht3]
      exact ⟨I2.out.1.only oa3, I2.out.2⟩
    have B3_3 : Hid (w3.heap[N3]? = some (.cells #[.int .i64 (y2.tk : Int), .int .i64 (y2.st.length : Int)] 30) ∧ N3 ≠ s ∧ N3 ≠ F ∧ v3.ownBlock ≠ some N3) := by
      have h1 := EsAt.lt ⟨v2, I2.out.1.2.1⟩
      have h2 := HE.out.1.1
      refine ⟨by rw [hw3]; exact ealloc_at _ _ _ hN3, by omega, by omega, fun e => ?_⟩
      rw [hv3] at e
      have := (I2.out.1.2.1.own N3 e).2
      omega
    have LLl1_3 : Hid (l1.length ≤ cap1 ∧ SmL l1 ∧ QsAt w3 S d l1 ao1) := ⟨LLl1_2.out.1, LLl1_2.out.2.1, LLl1_2.out.2.2.only oa3 (fun _ _ e => e)⟩
    rw [← hw3, ← hN3]
    have HT3 : Hid (t3 = t2) := ht3
    clear oa3 hw3 hv3 ht3 hN3
    refine (show Calls Tryz.prog 77 _ _ _ from HFN.out _).mono ?_
    rintro e9 w9 ⟨rfl, rfl⟩
    have hR : R = .error 12 := by rw [HR.out]; simp [ctlE, bdE, ← HZ0.out, ← HZ1.out, ← HT2.out, ← HT3.out, HF9.out]
    have OO : Hid (Only (BsF F s v0) w0 w9) := I3.out.1.2.2.2
    clear HR c1
    subst hR
    unfold gupE
    go_wp2
    exact ⟨rfl, rfl, OO.out⟩
  have c1 : ((y2.st.length : Int) == (y2.tk : Int) + 1) = true := by simp; omega
  have HF9 : Hid (y2.st.length = y2.tk + 1) := hf
  clear hf
  go_wp2_with fail
  obtain ⟨w3, hw3⟩ : ∃ X, X = w2.alloc (.cells #[.int .i64 (y2.tk : Int), .int .i64 (y2.st.length : Int)] 30) := ⟨_, rfl⟩
  obtain ⟨v3, hv3⟩ : ∃ X, X = v2 := ⟨_, rfl⟩
  obtain ⟨t3, ht3⟩ : ∃ X, X = t2 := ⟨_, rfl⟩
  obtain ⟨N3, hN3⟩ : ∃ X, X = w2.heap.size := ⟨_, rfl⟩
  have oa3 : Only (fun _ => False) w2 w3 := by rw [hw3]; exact (Only.refl _ _).alloc _
  have I3 : Hid (InV w0 w3 S d F M W s v0 v3 t3 ∧ potE t3 ≤ potE t0 + 0 ∧ t3.a ≤ t0.a) := by
    rw [hv3, ht3]
    exact ⟨I2.out.1.only oa3, I2.out.2⟩
  have B3_3 : Hid (w3.heap[N3]? = some (.cells #[.int .i64 (y2.tk : Int), .int .i64 (y2.st.length : Int)] 30) ∧ N3 ≠ s ∧ N3 ≠ F ∧ v3.ownBlock ≠ some N3) := by
    have h1 := EsAt.lt ⟨v2, I2.out.1.2.1⟩
    have h2 := HE.out.1.1
    refine ⟨by rw [hw3]; exact ealloc_at _ _ _ hN3, by omega, by omega, fun e => ?_⟩
    rw [hv3] at e
    have := (I2.out.1.2.1.own N3 e).2
    omega
  have LLl1_3 : Hid (l1.length ≤ cap1 ∧ SmL l1 ∧ QsAt w3 S d l1 ao1) := ⟨LLl1_2.out.1, LLl1_2.out.2.1, LLl1_2.out.2.2.only oa3 (fun _ _ e => e)⟩
  rw [← hw3, ← hN3]
  have HT3 : Hid (t3 = t2) := ht3
  clear oa3 hw3 hv3 ht3 hN3
  refine (show Calls Tryz.prog 77 _ _ _ from HFY.out _).mono ?_
  rintro e9 w9 ⟨rfl, rfl⟩
  obtain ⟨u9, -, -, -⟩ := B3_3.out
  obtain ⟨y9a, y9b, -, -⟩ := wr2_cell u9
  clear u9 c1
  have HC : Hid _ := apply_any t3.a (y2.tk) (y2.tk) I3.out.1.2.1 (fun b hb => (HE.out.1.2.2.2 b hb).1) (by have h1 := PB2.out; have h2 := I1.out.2.1; have h3 := HE.out.2.2.2.1; have h4 := HT3.out; have h5 := HF9.out; show potE t3 + (y2.tk) + (y2.tk) ≤ 1000000; rw [h4]; omega)
  go_wp2_with fail
  refine (show Calls Tryz.prog 72 _ _ _ from HC.out).mono ?_
  clear HC
  rintro e9 w8 ⟨rfl, G⟩
  obtain ⟨v8, iv⟩ := I3.out.1.eso HE.out.1 G.out
  have hR : R = .ok (appE (y2.tk) (y2.tk) t3) := by rw [HR.out]; simp [ctlE, bdE, ← HZ0.out, ← HZ1.out, ← HT2.out, ← HT3.out, HF9.out]
  have F9 : Hid (∃ v', InV w0 w8 S d F M W s v0 v' (appE (y2.tk) (y2.tk) t3)) := by
    refine ⟨v8, ?_⟩
    have e8 : (⟨t3.a, (appE (y2.tk) (y2.tk) t3).st, (appE (y2.tk) (y2.tk) t3).tk⟩ : Ist) = appE (y2.tk) (y2.tk) t3 := by rw [← (appE_pot (y2.tk) (y2.tk) t3).1]
    rw [← e8]
    exact iv
  clear HR G iv y9a y9b
  subst hR
  go_wp2
  first | (refine bodyPost_ret (results_none rfl _ _ _) rfl ?_; exact ⟨rfl, F9.out⟩) | (refine ⟨_, results_none rfl _ _ _, rfl, F9.out⟩) | (refine ⟨rfl, _, results_none rfl _ _ _, rfl, F9.out⟩)
set_option maxRecDepth 100000 in
set_option maxHeartbeats 1000000 in
theorem ct_each {W : ByteArray → Option (Nat × Nat)} {S : Nat → Prop} {d F M n : Nat} (hW : WdOk W) (TH : ThC W S d F M n) {s : Nat} {v0 : Value} {t0 : Ist} {w0 : World} (he : Env S F M s) (hev : EvAt w0 F M W t0.a) (hes : EsV w0 S d s t0.st t0.tk v0) (hp : potE t0 + 32 ≤ 900000) (ha : t0.a < n) :
    Calls Tryz.prog 66 #[.pointer (some ⟨F, 0, none⟩), .pointer (some ⟨s, 0, none⟩)] w0 (TrP S d F M W s v0 (ctlE (thrE W n) 7 t0) w0) := by
  have HE : Hid (Env S F M s ∧ WdOk W ∧ ThC W S d F M n ∧ potE t0 + 32 ≤ 900000 ∧ t0.a < n) := ⟨he, hW, TH, hp, ha⟩
  have I0 : Hid (InV w0 w0 S d F M W s v0 v0 t0 ∧ potE t0 ≤ potE t0 ∧ t0.a ≤ t0.a) := ⟨InV.refl hev hes, Nat.le_refl _, Nat.le_refl _⟩
  obtain ⟨R, hR0⟩ : ∃ R, R = ctlE (thrE W n) 7 t0 := ⟨_, rfl⟩
  rw [← hR0]
  have HR : Hid (R = ctlE (thrE W n) 7 t0) := hR0
  have HFN : Hid (∀ w, Calls Tryz.prog 77 #[.bool false] w fun e w' => e = gupE 12 ∧ w' = w) := fit_no
  have HFY : Hid (∀ w, Calls Tryz.prog 77 #[.bool true] w fun e w' => e = .returned (.tuple #[]) ∧ w' = w) := fit_yes
  clear he hW TH hp ha hev hes hR0
  go_enter Tryz.func66, Tryz.ntmps66
  obtain ⟨Z0, hZ0⟩ : ∃ Z, Z = quoE t0 := ⟨_, rfl⟩
  have HC : Hid (Calls Tryz.prog 75 #[.pointer (some ⟨s, 0, none⟩)] w0 (QuP S d s v0 Z0 w0)) := by rw [hZ0]; exact quotation_any t0.a I0.out.1.2.1 (fun b hb => (HE.out.1.2.2.2 b hb).1) (by have h1 := I0.out.2.1; have h2 := HE.out.2.2.2.1; show potE t0 ≤ 1000000; omega)
  have HZ0 : Hid (Z0 = quoE t0) := hZ0
  clear hZ0
  go_wp2_with fail
  refine (show Calls Tryz.prog 75 _ _ _ from HC.out).mono ?_
  clear HC
  intro e0 w1 G
  rcases Z0 with k0 | ⟨l1, t1⟩
  · obtain ⟨rfl, o1⟩ := G
    have hR : R = .error k0 := by rw [HR.out]; simp [ctlE, bdE, ← HZ0.out]
    have OO : Hid (Only (BsF F s v0) w0 w1) := I0.out.1.wide (o1.mono (fun _ _ e => .inr (.inl e)))
    clear HR
    subst hR
    unfold gupE
    go_wp2
    exact ⟨rfl, rfl, OO.out⟩
  obtain ⟨ao1, cap1, rfl, G⟩ := G
  obtain ⟨q1, q2, q3, q4⟩ := G.out
  have hq := quoE_pot HZ0.out.symm
  have hqa : t1.a = t0.a := hq.1
  have hqp : potE t1 + 1 ≤ potE t0 := hq.2
  obtain ⟨v1, iv⟩ := I0.out.1.eso HE.out.1 q4
  have I1 : Hid (InV w0 w1 S d F M W s v0 v1 t1 ∧ potE t1 ≤ potE t0 + 0 ∧ t1.a ≤ t0.a) := by
    have e9 : (⟨t0.a, t1.st, t1.tk⟩ : Ist) = t1 := by rw [← hqa]
    have h1 := I0.out.2
    simp only at iv
    rw [e9] at iv
    exact ⟨iv, by omega, by omega⟩
  have LLl1_1 : Hid (l1.length ≤ cap1 ∧ SmL l1 ∧ QsAt w1 S d l1 ao1) := ⟨q1, q2, q3⟩
  clear G q1 q2 q3 q4 hq hqa hqp iv
  obtain ⟨P1, hP1⟩ : ∃ P, P = popE t1 := ⟨_, rfl⟩
  have HC : Hid (Calls Tryz.prog 76 #[.pointer (some ⟨s, 0, none⟩)] w1 (PoV S d s v1 P1.1 P1.2.st P1.2.tk w1)) := by rw [hP1]; exact pop_v t1.a I1.out.1.2.1 (fun b hb => (HE.out.1.2.2.2 b hb).1) (by have h1 := I1.out.2.1; have h2 := HE.out.2.2.2.1; show potE t1 ≤ 1000000; omega)
  have HP1 : Hid (P1 = popE t1) := hP1
  clear hP1
  go_wp2_with fail
  refine (show Calls Tryz.prog 76 _ _ _ from HC.out).mono ?_
  clear HC
  rintro e1 w2 ⟨b2, ao2, m2, cap2, rfl, G⟩
  obtain ⟨x2, t2⟩ := P1
  obtain ⟨g1, ⟨v', g2, g5⟩, g3⟩ := G.out
  have hpa : t2.a = t1.a := by have := popE_a t1; rw [← HP1.out] at this; exact this
  have hpp : potE t2 ≤ potE t1 + 1 := by have := popE_pot t1; rw [← HP1.out] at this; exact this
  have eo : EsO w1 w2 S d s v1 t2.st t2.tk := ⟨⟨v', g2, .inl g5⟩, g3.mono (fun _ _ e => .inl e)⟩
  obtain ⟨v2, iv⟩ := I1.out.1.eso HE.out.1 eo
  have I2 : Hid (InV w0 w2 S d F M W s v0 v2 t2 ∧ potE t2 ≤ potE t0 + 1 ∧ t2.a ≤ t0.a) := by
    have e9 : (⟨t1.a, t2.st, t2.tk⟩ : Ist) = t2 := by rw [← hpa]
    have h1 := I1.out.2
    rw [e9] at iv
    exact ⟨iv, by omega, by omega⟩
  have X2_2 : Hid (EnAt w2 S d x2 b2 ao2 m2 cap2) := g1
  have LLl1_2 : Hid (l1.length ≤ cap1 ∧ SmL l1 ∧ QsAt w2 S d l1 ao1) := ⟨LLl1_1.out.1, LLl1_1.out.2.1, LLl1_1.out.2.2.in I1.out.1.2.1 HE.out.1 (eo.2.mono (fun _ _ e => .inr e))⟩
  clear G g1 g2 g5 g3 hpa hpp iv eo
  obtain ⟨Z2, hZ2⟩ : ∃ Z, Z = thrE W n l1 ⟨t2.a, [], 0⟩ := ⟨_, rfl⟩
  have HC : Hid (Calls Tryz.prog 34 #[.pointer (some ⟨F, 0, none⟩), .slice ao1 l1.length cap1] w2 (OwP F M W Z2 w2)) := by
    rw [hZ2]
    have h1 := EsAt.lt ⟨v2, I2.out.1.2.1⟩
    have h2 := HE.out.1
    have h3 := I2.out.2
    have h4 := HE.out.2.2.2
    have h5 : potE t2 = t2.st.length + t2.tk + 32 * t2.a := rfl
    exact own_of HE.out.2.2.1 (by have := h2.1; omega) (by have := h2.2.1; omega) h2.2.2.1 (fun b hb => ⟨by have := (h2.2.2.2 b hb).1; omega, (h2.2.2.2 b hb).2⟩) I2.out.1.1 LLl1_2.out.2.2 LLl1_2.out.1 LLl1_2.out.2.1 (by omega) (by omega)
  have HZ2 : Hid (Z2 = thrE W n l1 ⟨t2.a, [], 0⟩) := hZ2
  clear hZ2
  go_wp2_with fail
  refine (show Calls Tryz.prog 34 _ _ _ from HC.out).mono ?_
  clear HC
  intro e2 w3 G
  rcases Z2 with k2 | y3
  · obtain ⟨rfl, o1⟩ := G
    have hR : R = .error k2 := by rw [HR.out]; simp [ctlE, bdE, ← HZ0.out, ← HP1.out, ← HZ2.out]
    have OO : Hid (Only (BsF F s v0) w0 w3) := I2.out.1.wide (o1.mono (fun _ _ e => .inl e))
    clear HR
    subst hR
    unfold gupE
    go_wp2
    exact ⟨rfl, rfl, OO.out⟩
  obtain ⟨rfl, G⟩ := G
  obtain ⟨g1, oF⟩ := G.out
  have iv := I2.out.1.own HE.out.1 oF g1
  have hpt := thrE_pot HE.out.2.1 n l1 ⟨t2.a, [], 0⟩ y3 HZ2.out.symm
  obtain ⟨t3, ht3⟩ : ∃ X, X = (⟨y3.a, t2.st, t2.tk⟩ : Ist) := ⟨_, rfl⟩
  obtain ⟨v3, hv3⟩ : ∃ X, X = v2 := ⟨_, rfl⟩
  have I3 : Hid (InV w0 w3 S d F M W s v0 v3 t3 ∧ potE t3 ≤ potE t0 + 1 ∧ t3.a ≤ t0.a) := by
    have h1 := I2.out.2
    have h2 : potE ⟨t2.a, [], 0⟩ = 32 * t2.a := by simp [potE]
    have h3 : potE y3 = y3.st.length + y3.tk + 32 * y3.a := rfl
    have h4 : potE t3 = t2.st.length + t2.tk + 32 * y3.a := by rw [ht3]; rfl
    have h5 : potE t2 = t2.st.length + t2.tk + 32 * t2.a := rfl
    have h6 : t3.a = y3.a := by rw [ht3]
    have h7 : y3.a ≤ t2.a := hpt.1
    refine ⟨by rw [ht3, hv3]; exact iv, by omega, by omega⟩
  have PB3 : Hid (potE t3 + (y3.st.length + y3.tk) ≤ potE t2) := by
    have h2 : potE ⟨t2.a, [], 0⟩ = 32 * t2.a := by simp [potE]
    have h3 : potE y3 = y3.st.length + y3.tk + 32 * y3.a := rfl
    have h4 : potE t3 = t2.st.length + t2.tk + 32 * y3.a := by rw [ht3]; rfl
    have h5 : potE t2 = t2.st.length + t2.tk + 32 * t2.a := rfl
    have h8 := hpt.2
    show potE t3 + (y3.st.length + y3.tk) ≤ potE t2
    omega
  have HT3 : Hid (t3 = ⟨y3.a, t2.st, t2.tk⟩) := ht3
  have LLl1_3 : Hid (l1.length ≤ cap1 ∧ SmL l1 ∧ QsAt w3 S d l1 ao1) := ⟨LLl1_2.out.1, LLl1_2.out.2.1, LLl1_2.out.2.2.only oF (fun b hb e => (HE.out.1.2.2.2 b hb).2 e)⟩
  clear G g1 oF iv hpt ht3 hv3
  have hyb : y3.st.length ≤ 900000 ∧ y3.tk ≤ 900000 := by have h1 := PB3.out; have h2 := I2.out.2.1; have h3 := HE.out.2.2.2.1; omega
  have wr1 : IntKind.i64.wrap ((y3.tk : Int) - 1) = (y3.tk : Int) - 1 := by rw [IntKind.wrap_i64]; omega
  have HYB : Hid (y3.st.length ≤ 900000 ∧ y3.tk ≤ 900000) := hyb
  clear hyb
  by_cases hf : y3.st.length + 1 = y3.tk
  rotate_left
  · have c1 : ((y3.st.length : Int) == (y3.tk : Int) - 1) = false := by simp; omega
    have HF9 : Hid (¬ (y3.st.length + 1 = y3.tk)) := hf
    clear hf
    go_wp2_with fail
    obtain ⟨w4, hw4⟩ : ∃ X, X = w3.alloc (.cells #[.int .i64 (y3.tk : Int), .int .i64 (y3.st.length : Int)] 30) := ⟨_, rfl⟩
    obtain ⟨v4, hv4⟩ : ∃ X, X = v3 := ⟨_, rfl⟩
    obtain ⟨t4, ht4⟩ : ∃ X, X = t3 := ⟨_, rfl⟩
    obtain ⟨N4, hN4⟩ : ∃ X, X = w3.heap.size := ⟨_, rfl⟩
    have oa4 : Only (fun _ => False) w3 w4 := by rw [hw4]; exact (Only.refl _ _).alloc _
    have I4 : Hid (InV w0 w4 S d F M W s v0 v4 t4 ∧ potE t4 ≤ potE t0 + 1 ∧ t4.a ≤ t0.a) := by
      rw [hv4, ht4]
      exact ⟨I3.out.1.only oa4, I3.out.2⟩
    have B4_4 : Hid (w4.heap[N4]? = some (.cells #[.int .i64 (y3.tk : Int), .int .i64 (y3.st.length : Int)] 30) ∧ N4 ≠ s ∧ N4 ≠ F ∧ v4.ownBlock ≠ some N4) := by
      have h1 := EsAt.lt ⟨v3, I3.out.1.2.1⟩
      have h2 := HE.out.1.1
      refine ⟨by rw [hw4]; exact ealloc_at _ _ _ hN4, by omega, by omega, fun e => ?_⟩
      rw [hv4] at e
      have := (I3.out.1.2.1.own N4 e).2
      omega
    have LLl1_4 : Hid (l1.length ≤ cap1 ∧ SmL l1 ∧ QsAt w4 S d l1 ao1) := ⟨LLl1_3.out.1, LLl1_3.out.2.1, LLl1_3.out.2.2.only oa4 (fun _ _ e => e)⟩
    rw [← hw4, ← hN4]
    have HT4 : Hid (t4 = t3) := ht4
    clear oa4 hw4 hv4 ht4 hN4
    refine (show Calls Tryz.prog 77 _ _ _ from HFN.out _).mono ?_
    rintro e9 w9 ⟨rfl, rfl⟩
    have hR : R = .error 12 := by rw [HR.out]; simp [ctlE, bdE, ← HZ0.out, ← HP1.out, ← HZ2.out, ← HT3.out, ← HT4.out, HF9.out]
    have OO : Hid (Only (BsF F s v0) w0 w9) := I4.out.1.2.2.2
    clear HR c1
    subst hR
    unfold gupE
    go_wp2
    exact ⟨rfl, rfl, OO.out⟩
  have c1 : ((y3.st.length : Int) == (y3.tk : Int) - 1) = true := by simp; omega
  have HF9 : Hid (y3.st.length + 1 = y3.tk) := hf
  clear hf
  go_wp2_with fail
  obtain ⟨w4, hw4⟩ : ∃ X, X = w3.alloc (.cells #[.int .i64 (y3.tk : Int), .int .i64 (y3.st.length : Int)] 30) := ⟨_, rfl⟩
  obtain ⟨v4, hv4⟩ : ∃ X, X = v3 := ⟨_, rfl⟩
  obtain ⟨t4, ht4⟩ : ∃ X, X = t3 := ⟨_, rfl⟩
  obtain ⟨N4, hN4⟩ : ∃ X, X = w3.heap.size := ⟨_, rfl⟩
  have oa4 : Only (fun _ => False) w3 w4 := by rw [hw4]; exact (Only.refl _ _).alloc _
  have I4 : Hid (InV w0 w4 S d F M W s v0 v4 t4 ∧ potE t4 ≤ potE t0 + 1 ∧ t4.a ≤ t0.a) := by
    rw [hv4, ht4]
    exact ⟨I3.out.1.only oa4, I3.out.2⟩
  have B4_4 : Hid (w4.heap[N4]? = some (.cells #[.int .i64 (y3.tk : Int), .int .i64 (y3.st.length : Int)] 30) ∧ N4 ≠ s ∧ N4 ≠ F ∧ v4.ownBlock ≠ some N4) := by
    have h1 := EsAt.lt ⟨v3, I3.out.1.2.1⟩
    have h2 := HE.out.1.1
    refine ⟨by rw [hw4]; exact ealloc_at _ _ _ hN4, by omega, by omega, fun e => ?_⟩
    rw [hv4] at e
    have := (I3.out.1.2.1.own N4 e).2
    omega
  have LLl1_4 : Hid (l1.length ≤ cap1 ∧ SmL l1 ∧ QsAt w4 S d l1 ao1) := ⟨LLl1_3.out.1, LLl1_3.out.2.1, LLl1_3.out.2.2.only oa4 (fun _ _ e => e)⟩
  rw [← hw4, ← hN4]
  have HT4 : Hid (t4 = t3) := ht4
  clear oa4 hw4 hv4 ht4 hN4
  refine (show Calls Tryz.prog 77 _ _ _ from HFY.out _).mono ?_
  rintro e9 w9 ⟨rfl, rfl⟩
  obtain ⟨u9, -, -, -⟩ := B4_4.out
  obtain ⟨y9a, y9b, -, -⟩ := wr2_cell u9
  clear u9 c1
  have HC : Hid _ := apply_any t4.a (y3.st.length) (y3.st.length) I4.out.1.2.1 (fun b hb => (HE.out.1.2.2.2 b hb).1) (by have h1 := PB3.out; have h2 := I2.out.2.1; have h3 := HE.out.2.2.2.1; have h4 := HT4.out; have h5 := HF9.out; show potE t4 + (y3.st.length) + (y3.st.length) ≤ 1000000; rw [h4]; omega)
  go_wp2_with fail
  refine (show Calls Tryz.prog 72 _ _ _ from HC.out).mono ?_
  clear HC
  rintro e9 w8 ⟨rfl, G⟩
  obtain ⟨v8, iv⟩ := I4.out.1.eso HE.out.1 G.out
  have hR : R = .ok (appE (y3.st.length) (y3.st.length) t4) := by rw [HR.out]; simp [ctlE, bdE, ← HZ0.out, ← HP1.out, ← HZ2.out, ← HT3.out, ← HT4.out, HF9.out]
  have F9 : Hid (∃ v', InV w0 w8 S d F M W s v0 v' (appE (y3.st.length) (y3.st.length) t4)) := by
    refine ⟨v8, ?_⟩
    have e8 : (⟨t4.a, (appE (y3.st.length) (y3.st.length) t4).st, (appE (y3.st.length) (y3.st.length) t4).tk⟩ : Ist) = appE (y3.st.length) (y3.st.length) t4 := by rw [← (appE_pot (y3.st.length) (y3.st.length) t4).1]
    rw [← e8]
    exact iv
  clear HR G iv y9a y9b
  subst hR
  go_wp2
  first | (refine bodyPost_ret (results_none rfl _ _ _) rfl ?_; exact ⟨rfl, F9.out⟩) | (refine ⟨_, results_none rfl _ _ _, rfl, F9.out⟩) | (refine ⟨rfl, _, results_none rfl _ _ _, rfl, F9.out⟩)
end Go.Proofs.YtodbkihobgdpdaaGreatDoor
namespace Go.Proofs.YtodbkihobgdpdaaGreatDoor
open Go.RowKit Go.Lib
set_option linter.unusedSimpArgs false
set_option linter.unusedVariables false
theorem InV.setNew {w w1 : World} {S : Nat → Prop} {d F M s N : Nat} {W : ByteArray → Option (Nat × Nat)} {v v1 : Value} {t : Ist} (h : InV w w1 S d F M W s v v1 t) (he : Env S F M s) (hN : w.heap.size ≤ N) (hs : s < N) (hv : v1.ownBlock ≠ some N) (i : Nat) (u : Value) : InV w (w1.setCell ⟨N, i, none⟩ u) S d F M W s v v1 t := by
  have o : Only (fun b => b = N) w1 (w1.setCell ⟨N, i, none⟩ u) := (Only.refl _ _).setCell _ _ (fun _ => rfl)
  refine ⟨h.1.only o (by have := he.1; omega) (by have := he.2.1; omega), h.2.1.only o (by omega) (fun k hk e => hv (e ▸ hk)) (fun b hb e => by have := (he.2.2.2 b hb).1; omega), h.2.2.1, h.2.2.2.trans o (fun k hk e => by omega)⟩
set_option maxRecDepth 100000 in
set_option maxHeartbeats 1000000 in
theorem ct_choose {W : ByteArray → Option (Nat × Nat)} {S : Nat → Prop} {d F M n : Nat} (hW : WdOk W) (TH : ThC W S d F M n) {s : Nat} {v0 : Value} {t0 : Ist} {w0 : World} (he : Env S F M s) (hev : EvAt w0 F M W t0.a) (hes : EsV w0 S d s t0.st t0.tk v0) (hp : potE t0 + 32 ≤ 900000) (ha : t0.a < n) :
    Calls Tryz.prog 63 #[.pointer (some ⟨F, 0, none⟩), .pointer (some ⟨s, 0, none⟩)] w0 (TrP S d F M W s v0 (ctlE (thrE W n) 4 t0) w0) := by
  have HE : Hid (Env S F M s ∧ WdOk W ∧ ThC W S d F M n ∧ potE t0 + 32 ≤ 900000 ∧ t0.a < n) := ⟨he, hW, TH, hp, ha⟩
  have I0 : Hid (InV w0 w0 S d F M W s v0 v0 t0 ∧ potE t0 ≤ potE t0 ∧ t0.a ≤ t0.a) := ⟨InV.refl hev hes, Nat.le_refl _, Nat.le_refl _⟩
  obtain ⟨R, hR0⟩ : ∃ R, R = ctlE (thrE W n) 4 t0 := ⟨_, rfl⟩
  rw [← hR0]
  have HR : Hid (R = ctlE (thrE W n) 4 t0) := hR0
  have HFN : Hid (∀ w, Calls Tryz.prog 77 #[.bool false] w fun e w' => e = gupE 12 ∧ w' = w) := fit_no
  have HFY : Hid (∀ w, Calls Tryz.prog 77 #[.bool true] w fun e w' => e = .returned (.tuple #[]) ∧ w' = w) := fit_yes
  clear he hW TH hp ha hev hes hR0
  go_enter Tryz.func63, Tryz.ntmps63
  obtain ⟨Z0, hZ0⟩ : ∃ Z, Z = quoE t0 := ⟨_, rfl⟩
  have HC : Hid (Calls Tryz.prog 75 #[.pointer (some ⟨s, 0, none⟩)] w0 (QuP S d s v0 Z0 w0)) := by rw [hZ0]; exact quotation_any t0.a I0.out.1.2.1 (fun b hb => (HE.out.1.2.2.2 b hb).1) (by have h1 := I0.out.2.1; have h2 := HE.out.2.2.2.1; show potE t0 ≤ 1000000; omega)
  have HZ0 : Hid (Z0 = quoE t0) := hZ0
  clear hZ0
  go_wp2_with fail
  refine (show Calls Tryz.prog 75 _ _ _ from HC.out).mono ?_
  clear HC
  intro e0 w1 G
  rcases Z0 with k0 | ⟨l1, t1⟩
  · obtain ⟨rfl, o1⟩ := G
    have hR : R = .error k0 := by rw [HR.out]; simp [ctlE, bdE, ← HZ0.out]
    have OO : Hid (Only (BsF F s v0) w0 w1) := I0.out.1.wide (o1.mono (fun _ _ e => .inr (.inl e)))
    clear HR
    subst hR
    unfold gupE
    go_wp2
    exact ⟨rfl, rfl, OO.out⟩
  obtain ⟨ao1, cap1, rfl, G⟩ := G
  obtain ⟨q1, q2, q3, q4⟩ := G.out
  have hq := quoE_pot HZ0.out.symm
  have hqa : t1.a = t0.a := hq.1
  have hqp : potE t1 + 1 ≤ potE t0 := hq.2
  obtain ⟨v1, iv⟩ := I0.out.1.eso HE.out.1 q4
  have I1 : Hid (InV w0 w1 S d F M W s v0 v1 t1 ∧ potE t1 ≤ potE t0 + 0 ∧ t1.a ≤ t0.a) := by
    have e9 : (⟨t0.a, t1.st, t1.tk⟩ : Ist) = t1 := by rw [← hqa]
    have h1 := I0.out.2
    simp only at iv
    rw [e9] at iv
    exact ⟨iv, by omega, by omega⟩
  have LLl1_1 : Hid (l1.length ≤ cap1 ∧ SmL l1 ∧ QsAt w1 S d l1 ao1) := ⟨q1, q2, q3⟩
  clear G q1 q2 q3 q4 hq hqa hqp iv
  obtain ⟨Z1, hZ1⟩ : ∃ Z, Z = quoE t1 := ⟨_, rfl⟩
  have HC : Hid (Calls Tryz.prog 75 #[.pointer (some ⟨s, 0, none⟩)] w1 (QuP S d s v1 Z1 w1)) := by rw [hZ1]; exact quotation_any t1.a I1.out.1.2.1 (fun b hb => (HE.out.1.2.2.2 b hb).1) (by have h1 := I1.out.2.1; have h2 := HE.out.2.2.2.1; show potE t1 ≤ 1000000; omega)
  have HZ1 : Hid (Z1 = quoE t1) := hZ1
  clear hZ1
  go_wp2_with fail
  refine (show Calls Tryz.prog 75 _ _ _ from HC.out).mono ?_
  clear HC
  intro e1 w2 G
  rcases Z1 with k1 | ⟨l2, t2⟩
  · obtain ⟨rfl, o1⟩ := G
    have hR : R = .error k1 := by rw [HR.out]; simp [ctlE, bdE, ← HZ0.out, ← HZ1.out]
    have OO : Hid (Only (BsF F s v0) w0 w2) := I1.out.1.wide (o1.mono (fun _ _ e => .inr (.inl e)))
    clear HR
    subst hR
    unfold gupE
    go_wp2
    exact ⟨rfl, rfl, OO.out⟩
  obtain ⟨ao2, cap2, rfl, G⟩ := G
  obtain ⟨q1, q2, q3, q4⟩ := G.out
  have hq := quoE_pot HZ1.out.symm
  have hqa : t2.a = t1.a := hq.1
  have hqp : potE t2 + 1 ≤ potE t1 := hq.2
  obtain ⟨v2, iv⟩ := I1.out.1.eso HE.out.1 q4
  have I2 : Hid (InV w0 w2 S d F M W s v0 v2 t2 ∧ potE t2 ≤ potE t0 + 0 ∧ t2.a ≤ t0.a) := by
    have e9 : (⟨t1.a, t2.st, t2.tk⟩ : Ist) = t2 := by rw [← hqa]
    have h1 := I1.out.2
    simp only at iv
    rw [e9] at iv
    exact ⟨iv, by omega, by omega⟩
  have LLl1_2 : Hid (l1.length ≤ cap1 ∧ SmL l1 ∧ QsAt w2 S d l1 ao1) := ⟨LLl1_1.out.1, LLl1_1.out.2.1, LLl1_1.out.2.2.in I1.out.1.2.1 HE.out.1 (q4.2.mono (fun _ _ e => .inr e))⟩
  have LLl2_2 : Hid (l2.length ≤ cap2 ∧ SmL l2 ∧ QsAt w2 S d l2 ao2) := ⟨q1, q2, q3⟩
  clear G q1 q2 q3 q4 hq hqa hqp iv
  obtain ⟨P2, hP2⟩ : ∃ P, P = popE t2 := ⟨_, rfl⟩
  have HC : Hid (Calls Tryz.prog 76 #[.pointer (some ⟨s, 0, none⟩)] w2 (PoV S d s v2 P2.1 P2.2.st P2.2.tk w2)) := by rw [hP2]; exact pop_v t2.a I2.out.1.2.1 (fun b hb => (HE.out.1.2.2.2 b hb).1) (by have h1 := I2.out.2.1; have h2 := HE.out.2.2.2.1; show potE t2 ≤ 1000000; omega)
  have HP2 : Hid (P2 = popE t2) := hP2
  clear hP2
  go_wp2_with fail
  refine (show Calls Tryz.prog 76 _ _ _ from HC.out).mono ?_
  clear HC
  rintro e2 w3 ⟨b3, ao3, m3, cap3, rfl, G⟩
  obtain ⟨x3, t3⟩ := P2
  obtain ⟨g1, ⟨v', g2, g5⟩, g3⟩ := G.out
  have hpa : t3.a = t2.a := by have := popE_a t2; rw [← HP2.out] at this; exact this
  have hpp : potE t3 ≤ potE t2 + 1 := by have := popE_pot t2; rw [← HP2.out] at this; exact this
  have eo : EsO w2 w3 S d s v2 t3.st t3.tk := ⟨⟨v', g2, .inl g5⟩, g3.mono (fun _ _ e => .inl e)⟩
  obtain ⟨v3, iv⟩ := I2.out.1.eso HE.out.1 eo
  have I3 : Hid (InV w0 w3 S d F M W s v0 v3 t3 ∧ potE t3 ≤ potE t0 + 1 ∧ t3.a ≤ t0.a) := by
    have e9 : (⟨t2.a, t3.st, t3.tk⟩ : Ist) = t3 := by rw [← hpa]
    have h1 := I2.out.2
    rw [e9] at iv
    exact ⟨iv, by omega, by omega⟩
  have X3_3 : Hid (EnAt w3 S d x3 b3 ao3 m3 cap3) := g1
  have LLl1_3 : Hid (l1.length ≤ cap1 ∧ SmL l1 ∧ QsAt w3 S d l1 ao1) := ⟨LLl1_2.out.1, LLl1_2.out.2.1, LLl1_2.out.2.2.in I2.out.1.2.1 HE.out.1 (eo.2.mono (fun _ _ e => .inr e))⟩
  have LLl2_3 : Hid (l2.length ≤ cap2 ∧ SmL l2 ∧ QsAt w3 S d l2 ao2) := ⟨LLl2_2.out.1, LLl2_2.out.2.1, LLl2_2.out.2.2.in I2.out.1.2.1 HE.out.1 (eo.2.mono (fun _ _ e => .inr e))⟩
  clear G g1 g2 g5 g3 hpa hpp iv eo
  obtain ⟨Z3, hZ3⟩ : ∃ Z, Z = thrE W n l2 ⟨t3.a, [], 0⟩ := ⟨_, rfl⟩
  have HC : Hid (Calls Tryz.prog 34 #[.pointer (some ⟨F, 0, none⟩), .slice ao2 l2.length cap2] w3 (OwP F M W Z3 w3)) := by
    rw [hZ3]
    have h1 := EsAt.lt ⟨v3, I3.out.1.2.1⟩
    have h2 := HE.out.1
    have h3 := I3.out.2
    have h4 := HE.out.2.2.2
    have h5 : potE t3 = t3.st.length + t3.tk + 32 * t3.a := rfl
    exact own_of HE.out.2.2.1 (by have := h2.1; omega) (by have := h2.2.1; omega) h2.2.2.1 (fun b hb => ⟨by have := (h2.2.2.2 b hb).1; omega, (h2.2.2.2 b hb).2⟩) I3.out.1.1 LLl2_3.out.2.2 LLl2_3.out.1 LLl2_3.out.2.1 (by omega) (by omega)
  have HZ3 : Hid (Z3 = thrE W n l2 ⟨t3.a, [], 0⟩) := hZ3
  clear hZ3
  go_wp2_with fail
  refine (show Calls Tryz.prog 34 _ _ _ from HC.out).mono ?_
  clear HC
  intro e3 w4 G
  rcases Z3 with k3 | y4
  · obtain ⟨rfl, o1⟩ := G
    have hR : R = .error k3 := by rw [HR.out]; simp [ctlE, bdE, ← HZ0.out, ← HZ1.out, ← HP2.out, ← HZ3.out]
    have OO : Hid (Only (BsF F s v0) w0 w4) := I3.out.1.wide (o1.mono (fun _ _ e => .inl e))
    clear HR
    subst hR
    unfold gupE
    go_wp2
    exact ⟨rfl, rfl, OO.out⟩
  obtain ⟨rfl, G⟩ := G
  obtain ⟨g1, oF⟩ := G.out
  have iv := I3.out.1.own HE.out.1 oF g1
  have hpt := thrE_pot HE.out.2.1 n l2 ⟨t3.a, [], 0⟩ y4 HZ3.out.symm
  obtain ⟨t4, ht4⟩ : ∃ X, X = (⟨y4.a, t3.st, t3.tk⟩ : Ist) := ⟨_, rfl⟩
  obtain ⟨v4, hv4⟩ : ∃ X, X = v3 := ⟨_, rfl⟩
  have I4 : Hid (InV w0 w4 S d F M W s v0 v4 t4 ∧ potE t4 ≤ potE t0 + 1 ∧ t4.a ≤ t0.a) := by
    have h1 := I3.out.2
    have h2 : potE ⟨t3.a, [], 0⟩ = 32 * t3.a := by simp [potE]
    have h3 : potE y4 = y4.st.length + y4.tk + 32 * y4.a := rfl
    have h4 : potE t4 = t3.st.length + t3.tk + 32 * y4.a := by rw [ht4]; rfl
    have h5 : potE t3 = t3.st.length + t3.tk + 32 * t3.a := rfl
    have h6 : t4.a = y4.a := by rw [ht4]
    have h7 : y4.a ≤ t3.a := hpt.1
    refine ⟨by rw [ht4, hv4]; exact iv, by omega, by omega⟩
  have PB4 : Hid (potE t4 + (y4.st.length + y4.tk) ≤ potE t3) := by
    have h2 : potE ⟨t3.a, [], 0⟩ = 32 * t3.a := by simp [potE]
    have h3 : potE y4 = y4.st.length + y4.tk + 32 * y4.a := rfl
    have h4 : potE t4 = t3.st.length + t3.tk + 32 * y4.a := by rw [ht4]; rfl
    have h5 : potE t3 = t3.st.length + t3.tk + 32 * t3.a := rfl
    have h8 := hpt.2
    show potE t4 + (y4.st.length + y4.tk) ≤ potE t3
    omega
  have HT4 : Hid (t4 = ⟨y4.a, t3.st, t3.tk⟩) := ht4
  have LLl1_4 : Hid (l1.length ≤ cap1 ∧ SmL l1 ∧ QsAt w4 S d l1 ao1) := ⟨LLl1_3.out.1, LLl1_3.out.2.1, LLl1_3.out.2.2.only oF (fun b hb e => (HE.out.1.2.2.2 b hb).2 e)⟩
  have LLl2_4 : Hid (l2.length ≤ cap2 ∧ SmL l2 ∧ QsAt w4 S d l2 ao2) := ⟨LLl2_3.out.1, LLl2_3.out.2.1, LLl2_3.out.2.2.only oF (fun b hb e => (HE.out.1.2.2.2 b hb).2 e)⟩
  clear G g1 oF iv hpt ht4 hv4
  obtain ⟨Z4, hZ4⟩ : ∃ Z, Z = thrE W n l1 ⟨t4.a, [], 0⟩ := ⟨_, rfl⟩
  have HC : Hid (Calls Tryz.prog 34 #[.pointer (some ⟨F, 0, none⟩), .slice ao1 l1.length cap1] w4 (OwP F M W Z4 w4)) := by
    rw [hZ4]
    have h1 := EsAt.lt ⟨v4, I4.out.1.2.1⟩
    have h2 := HE.out.1
    have h3 := I4.out.2
    have h4 := HE.out.2.2.2
    have h5 : potE t4 = t4.st.length + t4.tk + 32 * t4.a := rfl
    exact own_of HE.out.2.2.1 (by have := h2.1; omega) (by have := h2.2.1; omega) h2.2.2.1 (fun b hb => ⟨by have := (h2.2.2.2 b hb).1; omega, (h2.2.2.2 b hb).2⟩) I4.out.1.1 LLl1_4.out.2.2 LLl1_4.out.1 LLl1_4.out.2.1 (by omega) (by omega)
  have HZ4 : Hid (Z4 = thrE W n l1 ⟨t4.a, [], 0⟩) := hZ4
  clear hZ4
  go_wp2_with fail
  refine (show Calls Tryz.prog 34 _ _ _ from HC.out).mono ?_
  clear HC
  have HY4 : Hid (Z4 = thrE W n l1 ⟨y4.a, [], 0⟩) := by
    have h1 : t4.a = y4.a := by rw [HT4.out]
    rw [← h1]
    exact HZ4.out
  intro e4 w5 G
  rcases Z4 with k4 | y5
  · obtain ⟨rfl, o1⟩ := G
    have hR : R = .error k4 := by rw [HR.out]; simp [ctlE, bdE, ← HZ0.out, ← HZ1.out, ← HP2.out, ← HZ3.out, ← HT4.out, ← HY4.out, ← HZ4.out]
    have OO : Hid (Only (BsF F s v0) w0 w5) := I4.out.1.wide (o1.mono (fun _ _ e => .inl e))
    clear HR
    subst hR
    unfold gupE
    go_wp2
    exact ⟨rfl, rfl, OO.out⟩
  obtain ⟨rfl, G⟩ := G
  obtain ⟨g1, oF⟩ := G.out
  have iv := I4.out.1.own HE.out.1 oF g1
  have hpt := thrE_pot HE.out.2.1 n l1 ⟨t4.a, [], 0⟩ y5 HZ4.out.symm
  obtain ⟨t5, ht5⟩ : ∃ X, X = (⟨y5.a, t4.st, t4.tk⟩ : Ist) := ⟨_, rfl⟩
  obtain ⟨v5, hv5⟩ : ∃ X, X = v4 := ⟨_, rfl⟩
  have I5 : Hid (InV w0 w5 S d F M W s v0 v5 t5 ∧ potE t5 ≤ potE t0 + 1 ∧ t5.a ≤ t0.a) := by
    have h1 := I4.out.2
    have h2 : potE ⟨t4.a, [], 0⟩ = 32 * t4.a := by simp [potE]
    have h3 : potE y5 = y5.st.length + y5.tk + 32 * y5.a := rfl
    have h4 : potE t5 = t4.st.length + t4.tk + 32 * y5.a := by rw [ht5]; rfl
    have h5 : potE t4 = t4.st.length + t4.tk + 32 * t4.a := rfl
    have h6 : t5.a = y5.a := by rw [ht5]
    have h7 : y5.a ≤ t4.a := hpt.1
    refine ⟨by rw [ht5, hv5]; exact iv, by omega, by omega⟩
  have PB5 : Hid (potE t5 + (y5.st.length + y5.tk) ≤ potE t4) := by
    have h2 : potE ⟨t4.a, [], 0⟩ = 32 * t4.a := by simp [potE]
    have h3 : potE y5 = y5.st.length + y5.tk + 32 * y5.a := rfl
    have h4 : potE t5 = t4.st.length + t4.tk + 32 * y5.a := by rw [ht5]; rfl
    have h5 : potE t4 = t4.st.length + t4.tk + 32 * t4.a := rfl
    have h8 := hpt.2
    show potE t5 + (y5.st.length + y5.tk) ≤ potE t4
    omega
  have HT5 : Hid (t5 = ⟨y5.a, t4.st, t4.tk⟩) := ht5
  have LLl1_5 : Hid (l1.length ≤ cap1 ∧ SmL l1 ∧ QsAt w5 S d l1 ao1) := ⟨LLl1_4.out.1, LLl1_4.out.2.1, LLl1_4.out.2.2.only oF (fun b hb e => (HE.out.1.2.2.2 b hb).2 e)⟩
  have LLl2_5 : Hid (l2.length ≤ cap2 ∧ SmL l2 ∧ QsAt w5 S d l2 ao2) := ⟨LLl2_4.out.1, LLl2_4.out.2.1, LLl2_4.out.2.2.only oF (fun b hb e => (HE.out.1.2.2.2 b hb).2 e)⟩
  clear G g1 oF iv hpt ht5 hv5
  have hyb : y4.st.length + y4.tk + (y5.st.length + y5.tk) + potE t5 ≤ 900000 := by have h0 := PB4.out; have h1 := PB5.out; have h2 := I3.out.2.1; have h3 := HE.out.2.2.2.1; omega
  have HYB : Hid (y4.st.length + y4.tk + (y5.st.length + y5.tk) + potE t5 ≤ 900000) := hyb
  have wr1 : IntKind.i64.wrap ((y4.st.length : Int) - (y4.tk : Int)) = (y4.st.length : Int) - (y4.tk : Int) := by rw [IntKind.wrap_i64]; omega
  have wr2 : IntKind.i64.wrap ((y5.st.length : Int) - (y5.tk : Int)) = (y5.st.length : Int) - (y5.tk : Int) := by rw [IntKind.wrap_i64]; omega
  clear hyb
  obtain ⟨w6, hw6⟩ : ∃ X, X = w5.alloc (.cells #[.int .i64 (y4.tk : Int), .int .i64 (y4.st.length : Int)] 30) := ⟨_, rfl⟩
  obtain ⟨w7, hw7⟩ : ∃ X, X = w6.alloc (.cells #[.int .i64 (y5.tk : Int), .int .i64 (y5.st.length : Int)] 30) := ⟨_, rfl⟩
  obtain ⟨N, hN⟩ : ∃ X, X = w5.heap.size := ⟨_, rfl⟩
  have oa : Only (fun _ => False) w5 w7 := by rw [hw7, hw6]; exact ((Only.refl _ _).alloc _).alloc _
  have bX : w7.heap[N]? = some (.cells #[.int .i64 (y4.tk : Int), .int .i64 (y4.st.length : Int)] 30) := by rw [hw7]; exact alloc_old (by rw [hw6]; exact ealloc_at _ _ _ hN)
  have bY : w7.heap[N + 1]? = some (.cells #[.int .i64 (y5.tk : Int), .int .i64 (y5.st.length : Int)] 30) := by rw [hw7]; exact ealloc_at _ _ _ (by rw [hw6, hN]; simp)
  have I7 : Hid (InV w0 w7 S d F M W s v0 v5 t5 ∧ w0.heap.size ≤ N ∧ s < N ∧ v5.ownBlock ≠ some N) := by
    have h1 := EsAt.lt ⟨v5, I5.out.1.2.1⟩
    have h2 := I5.out.1.2.2.2.size
    refine ⟨I5.out.1.only oa, by omega, by omega, fun e => ?_⟩
    have := (I5.out.1.2.1.own N e).2
    omega
  obtain ⟨x0, x1, xf0, xf1⟩ := wr2_cell bX
  obtain ⟨z0, z1, -, -⟩ := wr2_cell bY
  have HB : Hid (w7.heap[N]? = some (.cells #[.int .i64 (y4.tk : Int), .int .i64 (y4.st.length : Int)] 30) ∧ w7.heap[N + 1]? = some (.cells #[.int .i64 (y5.tk : Int), .int .i64 (y5.st.length : Int)] 30)) := ⟨bX, bY⟩
  have HWN : Hid (w7 = (w5.alloc (.cells #[.int .i64 (y4.tk : Int), .int .i64 (y4.st.length : Int)] 30)).alloc (.cells #[.int .i64 (y5.tk : Int), .int .i64 (y5.st.length : Int)] 30) ∧ N = w5.heap.size) := ⟨by rw [hw7, hw6], hN⟩
  clear oa bX bY hw7 hw6 hN
  by_cases hf : ((y4.st.length : Int) - (y4.tk : Int) = (y5.st.length : Int) - (y5.tk : Int))
  rotate_left
  · have c1 : (((y4.st.length : Int) - (y4.tk : Int)) == ((y5.st.length : Int) - (y5.tk : Int))) = false := by simp; omega
    have HF9 : Hid (¬ ((y4.st.length : Int) - (y4.tk : Int) = (y5.st.length : Int) - (y5.tk : Int))) := hf
    clear hf
    go_wp2_with fail
    rw [← HWN.out.1, ← HWN.out.2]
    refine (show Calls Tryz.prog 77 _ _ _ from HFN.out _).mono ?_
    rintro e9 w9 ⟨rfl, rfl⟩
    have hR : R = .error 12 := by rw [HR.out]; simp [ctlE, bdE, ← HZ0.out, ← HZ1.out, ← HP2.out, ← HZ3.out, ← HT4.out, ← HY4.out, ← HZ4.out, ← HT5.out, HF9.out]
    have OO : Hid (Only (BsF F s v0) w0 w9) := I7.out.1.2.2.2
    clear HR c1
    subst hR
    unfold gupE
    go_wp2
    exact ⟨rfl, rfl, OO.out⟩
  have c1 : (((y4.st.length : Int) - (y4.tk : Int)) == ((y5.st.length : Int) - (y5.tk : Int))) = true := by simp; omega
  have HF9 : Hid ((y4.st.length : Int) - (y4.tk : Int) = (y5.st.length : Int) - (y5.tk : Int)) := hf
  clear hf
  go_wp2_with fail
  rw [← HWN.out.1, ← HWN.out.2]
  refine (show Calls Tryz.prog 77 _ _ _ from HFY.out _).mono ?_
  rintro e9 w9 ⟨rfl, rfl⟩
  clear c1
  by_cases hlt : y4.tk < y5.tk
  · have HLT : Hid (y4.tk < y5.tk) := hlt
    have i1 : (y4.tk : Int) < (y5.tk : Int) := by omega
    clear hlt
    have e5 : t5 = ⟨y5.a, t3.st, t3.tk⟩ := by rw [HT5.out, HT4.out]
    have hR : R = .ok (appE (y5.tk) (y5.st.length) t5) := by rw [HR.out, e5]; simp [ctlE, bdE, ← HZ0.out, ← HZ1.out, ← HP2.out, ← HZ3.out, ← HT4.out, ← HY4.out, ← HZ4.out, ← HT5.out, HF9.out, HLT.out]
    clear e5
    clear HR
    subst hR
    have ne : ∀ (W : World) (i q : Nat) (u : Value), i ≠ q → (W.setCell ⟨N, i, none⟩ u).cell? ⟨N, q, none⟩ = W.cell? ⟨N, q, none⟩ := fun W i q u g => by apply World.cell?_setCell_other; intro e; exact g (by injection e)
    have Q := fset2 HB.out.1 (.int .i64 (y5.tk : Int)) (.int .i64 (y5.st.length : Int))
    obtain ⟨Q0, Q1⟩ := Q
    clear ne
    have iw : InV w0 ((w9.setCell ⟨N, 0, none⟩ (.int .i64 (y5.tk : Int))).setCell ⟨N, 1, none⟩ (.int .i64 (y5.st.length : Int))) S d F M W s v0 v5 t5 := (I7.out.1.setNew HE.out.1 I7.out.2.1 I7.out.2.2.1 I7.out.2.2.2 0 _).setNew HE.out.1 I7.out.2.1 I7.out.2.2.1 I7.out.2.2.2 1 _
    have HIW : Hid (InV w0 ((w9.setCell ⟨N, 0, none⟩ (.int .i64 (y5.tk : Int))).setCell ⟨N, 1, none⟩ (.int .i64 (y5.st.length : Int))) S d F M W s v0 v5 t5) := iw
    have HC : Hid _ := apply_any t5.a (y5.tk) (y5.st.length) iw.2.1 (fun b hb => (HE.out.1.2.2.2 b hb).1) (by have h1 := HYB.out; show potE t5 + (y5.tk) + (y5.st.length) ≤ 1000000; omega)
    clear iw
    go_wp2_with fail
    refine (show Calls Tryz.prog 72 _ _ _ from HC.out).mono ?_
    clear HC
    rintro e9 w8 ⟨rfl, G⟩
    obtain ⟨v8, iv⟩ := HIW.out.eso HE.out.1 G.out
    have F9 : Hid (∃ v', InV w0 w8 S d F M W s v0 v' (appE (y5.tk) (y5.st.length) t5)) := by
      refine ⟨v8, ?_⟩
      have e8 : (⟨t5.a, (appE (y5.tk) (y5.st.length) t5).st, (appE (y5.tk) (y5.st.length) t5).tk⟩ : Ist) = appE (y5.tk) (y5.st.length) t5 := by rw [← (appE_pot (y5.tk) (y5.st.length) t5).1]
      rw [← e8]
      exact iv
    clear G iv
    go_wp2
    first | (refine bodyPost_ret (results_none rfl _ _ _) rfl ?_; exact ⟨rfl, F9.out⟩) | (refine ⟨_, results_none rfl _ _ _, rfl, F9.out⟩) | (refine ⟨rfl, _, results_none rfl _ _ _, rfl, F9.out⟩)
  · have HLT : Hid (¬ y4.tk < y5.tk) := hlt
    have i1 : ¬ (y4.tk : Int) < (y5.tk : Int) := by omega
    clear hlt
    have e5 : t5 = ⟨y5.a, t3.st, t3.tk⟩ := by rw [HT5.out, HT4.out]
    have hR : R = .ok (appE (y4.tk) (y4.st.length) t5) := by rw [HR.out, e5]; simp [ctlE, bdE, ← HZ0.out, ← HZ1.out, ← HP2.out, ← HZ3.out, ← HT4.out, ← HY4.out, ← HZ4.out, ← HT5.out, HF9.out, HLT.out]
    clear e5
    clear HR
    subst hR
    have iw : InV w0 w9 S d F M W s v0 v5 t5 := I7.out.1
    have HIW : Hid (InV w0 w9 S d F M W s v0 v5 t5) := iw
    have HC : Hid _ := apply_any t5.a (y4.tk) (y4.st.length) iw.2.1 (fun b hb => (HE.out.1.2.2.2 b hb).1) (by have h1 := HYB.out; show potE t5 + (y4.tk) + (y4.st.length) ≤ 1000000; omega)
    clear iw
    go_wp2_with fail
    refine (show Calls Tryz.prog 72 _ _ _ from HC.out).mono ?_
    clear HC
    rintro e9 w8 ⟨rfl, G⟩
    obtain ⟨v8, iv⟩ := HIW.out.eso HE.out.1 G.out
    have F9 : Hid (∃ v', InV w0 w8 S d F M W s v0 v' (appE (y4.tk) (y4.st.length) t5)) := by
      refine ⟨v8, ?_⟩
      have e8 : (⟨t5.a, (appE (y4.tk) (y4.st.length) t5).st, (appE (y4.tk) (y4.st.length) t5).tk⟩ : Ist) = appE (y4.tk) (y4.st.length) t5 := by rw [← (appE_pot (y4.tk) (y4.st.length) t5).1]
      rw [← e8]
      exact iv
    clear G iv
    go_wp2
    first | (refine bodyPost_ret (results_none rfl _ _ _) rfl ?_; exact ⟨rfl, F9.out⟩) | (refine ⟨_, results_none rfl _ _ _, rfl, F9.out⟩) | (refine ⟨rfl, _, results_none rfl _ _ _, rfl, F9.out⟩)
end Go.Proofs.YtodbkihobgdpdaaGreatDoor
