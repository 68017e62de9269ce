/- One item, and all of them. Going through items: all of it; whole. An inference that gives up is caught. caught. Known words: allBounded, firsts. -/
import Derived.Test.YtodbkihobgdpdaaGreatDoorGap
import Derived.Test.YtodbkihobgdpdaaGreatDoorGaf
import Derived.Defers
import Derived.Recover
import Derived.Maps.OwnSet
import Derived.Maps.Ext
import Derived.MapKept
import Derived.StringKeys
namespace Go.Proofs.YtodbkihobgdpdaaGreatDoor
open Go.RowKit Go.Lib
set_option linter.unusedSimpArgs false
set_option linter.unusedVariables false
/-- a word that calls no quotations -/
def plnR (X : Option (Nat × Nat)) (Y : Option (List Nat)) (t : Ist) : Except Int Ist := match X with
  | none => .error 10
  | some e => bdE (cntE t) fun t => .ok (match Y with
    | some ps => movE e.1 ps t
    | none => appE e.1 e.2 t)
theorem kwF_no {l : List UInt8} : ∀ {q : List (List UInt8 × Nat)}, (∀ x ∈ q, x.2 ≠ 0) → kwF l q = 0 → ∀ x ∈ q, l ≠ x.1
  | [], _, _, x, hx => by simp at hx
  | y :: r, hq, h, x, hx => by
    unfold kwF at h
    split at h
    · exact absurd h (hq y (by simp))
    · rename_i hy
      rcases List.mem_cons.1 hx with rfl | hx
      · exact hy
      · exact kwF_no (fun z hz => hq z (by simp [hz])) h x hx
theorem mv_pln {W : ByteArray → Option (Nat × Nat)} {s : ByteArray} {ps : List Nat} {e : Nat × Nat} (h : mvP s = some ps) (he : plnE W s = some e) : (1 ≤ e.1 ∧ e.1 ≤ 3) ∧ (∀ p ∈ ps, p < e.1) ∧ ps.length ≤ 3 := by
  by_cases h0 : s.toList = [100, 117, 112]
  · rw [to_lit h0] at h he
    rw [show mvP ⟨[100, 117, 112].toArray⟩ = some [0, 0] from by kernel_rfl] at h
    unfold plnE at he
    rw [show pmR ⟨[100, 117, 112].toArray⟩ = (1, 2, true) from by kernel_rfl] at he
    injection h with h
    simp at he
    subst h
    subst he
    simp
  by_cases h1 : s.toList = [100, 114, 111, 112]
  · rw [to_lit h1] at h he
    rw [show mvP ⟨[100, 114, 111, 112].toArray⟩ = some [] from by kernel_rfl] at h
    unfold plnE at he
    rw [show pmR ⟨[100, 114, 111, 112].toArray⟩ = (1, 0, true) from by kernel_rfl] at he
    injection h with h
    simp at he
    subst h
    subst he
    simp
  by_cases h2 : s.toList = [115, 119, 97, 112]
  · rw [to_lit h2] at h he
    rw [show mvP ⟨[115, 119, 97, 112].toArray⟩ = some [1, 0] from by kernel_rfl] at h
    unfold plnE at he
    rw [show pmR ⟨[115, 119, 97, 112].toArray⟩ = (2, 2, true) from by kernel_rfl] at he
    injection h with h
    simp at he
    subst h
    subst he
    simp
  by_cases h3 : s.toList = [111, 118, 101, 114]
  · rw [to_lit h3] at h he
    rw [show mvP ⟨[111, 118, 101, 114].toArray⟩ = some [0, 1, 0] from by kernel_rfl] at h
    unfold plnE at he
    rw [show pmR ⟨[111, 118, 101, 114].toArray⟩ = (2, 3, true) from by kernel_rfl] at he
    injection h with h
    simp at he
    subst h
    subst he
    simp
  by_cases h4 : s.toList = [114, 111, 116]
  · rw [to_lit h4] at h he
    rw [show mvP ⟨[114, 111, 116].toArray⟩ = some [1, 2, 0] from by kernel_rfl] at h
    unfold plnE at he
    rw [show pmR ⟨[114, 111, 116].toArray⟩ = (3, 3, true) from by kernel_rfl] at he
    injection h with h
    simp at he
    subst h
    subst he
    simp
  by_cases h5 : s.toList = [110, 105, 112]
  · rw [to_lit h5] at h he
    rw [show mvP ⟨[110, 105, 112].toArray⟩ = some [1] from by kernel_rfl] at h
    unfold plnE at he
    rw [show pmR ⟨[110, 105, 112].toArray⟩ = (2, 1, true) from by kernel_rfl] at he
    injection h with h
    simp at he
    subst h
    subst he
    simp
  by_cases h6 : s.toList = [116, 117, 99, 107]
  · rw [to_lit h6] at h he
    rw [show mvP ⟨[116, 117, 99, 107].toArray⟩ = some [1, 0, 1] from by kernel_rfl] at h
    unfold plnE at he
    rw [show pmR ⟨[116, 117, 99, 107].toArray⟩ = (2, 3, true) from by kernel_rfl] at he
    injection h with h
    simp at he
    subst h
    subst he
    simp
  have hn : ∀ x ∈ mvT, s.toList ≠ x.1 := by
    intro x hx
    simp only [mvT, List.mem_cons, List.not_mem_nil, or_false] at hx
    rcases hx with rfl | rfl | rfl | rfl | rfl | rfl | rfl
    · exact h0
    · exact h1
    · exact h2
    · exact h3
    · exact h4
    · exact h5
    · exact h6
  rw [show mvP s = none from mvF_no _ _ hn] at h
  exact nomatch h
set_option maxRecDepth 100000 in
set_option maxHeartbeats 1000000 in
theorem it_no {W : ByteArray → Option (Nat × Nat)} {S : Nat → Prop} {d F M s : Nat} (hW : WdOk W) {v : Value} {t : Ist} {w : World} {sg : ByteArray} (hsz : sg.size ≤ 140737488355328) (hkw : ∀ x ∈ kwT, sg.toList ≠ x.1) (he : Env S F M s) (hev : EvAt w F M W t.a) (hes : EsV w S d s t.st t.tk v) (hp : potE t ≤ 900000) :
    Calls Tryz.prog 46 #[.pointer (some ⟨F, 0, none⟩), .iface 40 (.agg #[.string sg]), .pointer (some ⟨s, 0, none⟩)] w (TrP S d F M W s v (plnR (plnE W sg) (mvP sg) t) w) := by
  have HE : Hid (Env S F M s ∧ WdOk W ∧ potE t ≤ 900000 ∧ InV w w S d F M W s v v t) := ⟨he, hW, hp, InV.refl hev hes⟩
  have mP := va_miss 40 70 37 _ Tryz.underlying70 (by intro m h; cases h) (by decide) _ vzero_Push (.agg #[.string sg])
  have hC := va_hit 40 37 _ Tryz.underlying40 (by intro m h; cases h) (.agg #[.string sg])
  obtain ⟨R, hR0⟩ : ∃ R, R = plnR (plnE W sg) (mvP sg) t := ⟨_, rfl⟩
  rw [← hR0]
  obtain ⟨X, hX⟩ : ∃ X, X = plnE W sg := ⟨_, rfl⟩
  obtain ⟨Y, hY⟩ : ∃ Y, Y = mvP sg := ⟨_, rfl⟩
  rw [← hX, ← hY] at hR0
  have HR : Hid (R = plnR X Y t) := hR0
  have HXY : Hid (X = plnE W sg ∧ Y = mvP sg) := ⟨hX, hY⟩
  have HWd : Hid (∀ w1, EvAt w1 F M W t.a → Calls Tryz.prog 57 #[.pointer (some ⟨F, 0, none⟩), .string sg] w1 (WoB X Y w1)) := fun w1 h1 => by rw [hX, hY]; exact wo_no h1 sg hsz hkw
  have HCn : Hid (∀ w1, InV w w1 S d F M W s v v t → Calls Tryz.prog 54 #[.pointer (some ⟨F, 0, none⟩)] w1 (CnE F M t w1)) := fun w1 i1 => icount_any t i1.1.1 (by have : potE t = t.st.length + t.tk + 32 * t.a := rfl; omega)
  clear he hev hes hp hW hR0 hX hY hsz hkw
  go_enter Tryz.func46, Tryz.ntmps46
  go_wp2_with fail
  have IA : Hid (InV w (w.alloc (.cells #[.string sg] 40)) S d F M W s v v t) := HE.out.2.2.2.only ((Only.refl _ _).alloc _)
  refine (show Calls Tryz.prog 57 _ _ _ from HWd.out _ IA.out.1).mono ?_
  clear HWd mP hC
  obtain ⟨wa, hwa⟩ : ∃ X, X = w.alloc (.cells #[.string sg] 40) := ⟨_, rfl⟩
  rw [← hwa] at IA ⊢
  have Hwa : Hid (w.heap.size ≤ wa.heap.size) := by rw [hwa]; show _ ≤ _; simp
  clear hwa
  intro e w1 G
  rcases X with _ | x
  · obtain ⟨rfl, o1⟩ := G
    have hR : R = .error 10 := HR.out
    have OO : Hid (Only (BsF F s v) w w1) := (IA.out.only o1).2.2.2
    clear HR
    subst hR
    unfold gupE
    go_wp2
    exact ⟨rfl, rfl, OO.out⟩
  rcases Y with _ | ps
  · obtain ⟨A, rfl, G⟩ := G
    obtain ⟨hA, hAs, o1⟩ := G.out
    have I1 : Hid (InV w w1 S d F M W s v v t) := IA.out.only o1
    have HA : Hid (w1.heap[A]? = some (.cells #[.int .i64 (x.1 : Int), .int .i64 (x.2 : Int)] 30) ∧ w.heap.size ≤ A) := ⟨hA, by have := Hwa.out; omega⟩
    have HC : Hid _ := HCn.out w1 I1.out
    clear HCn G hA hAs o1
    go_wp2_with fail
    refine (show Calls Tryz.prog 54 _ _ _ from HC.out).mono ?_
    clear HC
    intro e w2 G
    obtain ⟨Z, hZ⟩ : ∃ Z, Z = cntE t := ⟨_, rfl⟩
    unfold CnE at G
    rw [← hZ] at G
    have HZ : Hid (Z = cntE t) := hZ
    clear hZ
    rcases Z with k | t1
    · obtain ⟨rfl, rfl⟩ := G
      have hR : R = .error k := by rw [HR.out]; simp only [plnR, ← HZ.out, bdE]
      have OO : Hid (Only (BsF F s v) w w2) := I1.out.2.2.2
      clear HR
      subst hR
      unfold gupE
      go_wp2
      exact ⟨rfl, rfl, OO.out⟩
    obtain ⟨rfl, G⟩ := G
    have iv := I1.out.cnt HE.out.1 HZ.out.symm G.out.1 G.out.2
    have hR : R = .ok (appE x.1 x.2 t1) := by rw [HR.out]; simp only [plnR, ← HZ.out, bdE]
    have I2 : Hid (InV w w2 S d F M W s v v t1) := iv
    have hct := cntE_ok HZ.out.symm
    have hpl := pln_ok HE.out.2.1 HXY.out.1.symm
    have hFw := HE.out.1.1
    have hsw := EsAt.lt ⟨v, HE.out.2.2.2.2.1⟩
    have HC : Hid _ := apply_f (W := W) (F := F) (M := M) A x.1 x.2 iv.2.1 (fun b hb => (HE.out.1.2.2.2 b hb).1) ((G.out.2.block A (Array.getElem?_eq_some_iff.1 HA.out.1).1 (by have := HA.out.2; omega)).trans HA.out.1) (by have := HE.out.2.2.1; omega)
    clear HR G iv hct I1 HA hpl hFw hsw
    subst hR
    go_wp2_with fail
    refine (show Calls Tryz.prog 71 _ _ _ from HC.out).mono ?_
    clear HC
    rintro e w3 ⟨rfl, G⟩
    obtain ⟨v8, iv⟩ := I2.out.eso HE.out.1 G.out
    have F9 : Hid (∃ v', InV w w3 S d F M W s v v' (appE x.1 x.2 t1)) := by
      refine ⟨v8, ?_⟩
      have e8 : (⟨t1.a, (appE x.1 x.2 t1).st, (appE x.1 x.2 t1).tk⟩ : Ist) = appE x.1 x.2 t1 := by rw [← (appE_pot x.1 x.2 t1).1]
      rw [← e8]
      exact iv
    clear G iv
    go_wp2
    first | (refine bodyPost_ret (results_none rfl _ _ _) rfl ?_; exact ⟨rfl, F9.out⟩) | (refine ⟨_, results_none rfl _ _ _, rfl, F9.out⟩) | (refine ⟨rfl, _, results_none rfl _ _ _, rfl, F9.out⟩)
  · obtain ⟨A, B, pa, pc, rfl, G⟩ := G
    obtain ⟨hA, hAs, hB, hBs, hpl, o1⟩ := G.out
    have I1 : Hid (InV w w1 S d F M W s v v t) := IA.out.only o1
    have HA : Hid ((w1.heap[A]? = some (.cells #[.int .i64 (x.1 : Int), .int .i64 (x.2 : Int)] 30) ∧ w.heap.size ≤ A) ∧ (w1.heap[B]? = some (.cells #[.slice pa ps.length pc] 76) ∧ w.heap.size ≤ B) ∧ ∀ (j p : Nat), ps[j]? = some p → ∃ pg, pa = some ⟨pg, 0, none⟩ ∧ w.heap.size ≤ pg ∧ pg < w1.heap.size ∧ w1.cell? ⟨pg, j, none⟩ = some (.int .i64 (p : Int))) :=
      ⟨⟨hA, by have := Hwa.out; omega⟩, ⟨hB, by have := Hwa.out; omega⟩, fun j p hjp => by
        obtain ⟨pg, q1, q2, q3, q4⟩ := hpl j p hjp
        exact ⟨pg, q1, by have := Hwa.out; omega, q3, q4⟩⟩
    have HC : Hid _ := HCn.out w1 I1.out
    clear HCn G hA hAs hB hBs hpl o1
    go_wp2_with fail
    refine (show Calls Tryz.prog 54 _ _ _ from HC.out).mono ?_
    clear HC
    intro e w2 G
    obtain ⟨Z, hZ⟩ : ∃ Z, Z = cntE t := ⟨_, rfl⟩
    unfold CnE at G
    rw [← hZ] at G
    have HZ : Hid (Z = cntE t) := hZ
    clear hZ
    rcases Z with k | t1
    · obtain ⟨rfl, rfl⟩ := G
      have hR : R = .error k := by rw [HR.out]; simp only [plnR, ← HZ.out, bdE]
      have OO : Hid (Only (BsF F s v) w w2) := I1.out.2.2.2
      clear HR
      subst hR
      unfold gupE
      go_wp2
      exact ⟨rfl, rfl, OO.out⟩
    obtain ⟨rfl, G⟩ := G
    have iv := I1.out.cnt HE.out.1 HZ.out.symm G.out.1 G.out.2
    have hR : R = .ok (movE x.1 ps t1) := by rw [HR.out]; simp only [plnR, ← HZ.out, bdE]
    have I2 : Hid (InV w w2 S d F M W s v v t1) := iv
    have hct := cntE_ok HZ.out.symm
    have hmv := mv_pln HXY.out.2.symm HXY.out.1.symm
    have hFw := HE.out.1.1
    have hsw := EsAt.lt ⟨v, HE.out.2.2.2.2.1⟩
    have hown := HE.out.2.2.2.2.1.own
    have HC : Hid _ := move_f (W := W) (F := F) (M := M) A B x.1 x.2 ps pa pc iv.2.1 (fun b hb => (HE.out.1.2.2.2 b hb).1) ((G.out.2.block A (Array.getElem?_eq_some_iff.1 HA.out.1.1).1 (by have := HA.out.1.2; omega)).trans HA.out.1.1) ((G.out.2.block B (Array.getElem?_eq_some_iff.1 HA.out.2.1.1).1 (by have := HA.out.2.1.2; omega)).trans HA.out.2.1.1) (fun j p hjp => by
        obtain ⟨pg, q1, q2, q3, q4⟩ := HA.out.2.2 j p hjp
        exact ⟨pg, q1, by have := G.out.2.size; omega, by omega, fun e => by have := (hown pg e).2; omega, G.out.2.cell q4 (by simp only; omega)⟩) hmv.1 hmv.2.1 hmv.2.2 (by have := HE.out.2.2.1; omega)
    clear HR G iv hct I1 HA hmv hFw hsw hown
    subst hR
    go_wp2_with fail
    refine (show Calls Tryz.prog 69 _ _ _ from HC.out).mono ?_
    clear HC
    rintro e w3 ⟨rfl, G⟩
    obtain ⟨v8, iv⟩ := I2.out.eso HE.out.1 G.out
    have F9 : Hid (∃ v', InV w w3 S d F M W s v v' (movE x.1 ps t1)) := by
      refine ⟨v8, ?_⟩
      have e8 : (⟨t1.a, (movE x.1 ps t1).st, (movE x.1 ps t1).tk⟩ : Ist) = movE x.1 ps t1 := by rw [← (movE_pot x.1 ps t1).1]
      rw [← e8]
      exact iv
    clear G iv
    go_wp2
    first | (refine bodyPost_ret (results_none rfl _ _ _) rfl ?_; exact ⟨rfl, F9.out⟩) | (refine ⟨_, results_none rfl _ _ _, rfl, F9.out⟩) | (refine ⟨rfl, _, results_none rfl _ _ _, rfl, F9.out⟩)
set_option maxRecDepth 100000 in
set_option maxHeartbeats 1000000 in
theorem it_push {W : ByteArray → Option (Nat × Nat)} {S : Nat → Prop} {d F M s : Nat} {v : Value} {t : Ist} {w : World} {x : Vt} {u : Value} (hu : TiAt w S d false x u) (hsm : ∃ e, SmT e x) (he : Env S F M s) (hev : EvAt w F M W t.a) (hes : EsV w S d s t.st t.tk v) (hp : potE t ≤ 900000) :
    Calls Tryz.prog 46 #[.pointer (some ⟨F, 0, none⟩), .iface 70 (.agg #[u]), .pointer (some ⟨s, 0, none⟩)] w (TrP S d F M W s v (bdE (cntE t) fun t => .ok (pushE (if x.k = 5 then some x.l else none) t)) w) := by
  have hsh := hu.shape
  have HE : Hid (Env S F M s ∧ potE t ≤ 900000 ∧ InV w w S d F M W s v v t ∧ TiAt w S d false x u ∧ ∃ e, SmT e x) := ⟨he, hp, InV.refl hev hes, hu, hsm⟩
  have hC := va_hit 70 37 _ Tryz.underlying70 (by intro m h; cases h) (.agg #[u])
  obtain ⟨E, hE⟩ : ∃ E, E = (if x.k = 5 then some x.l else none) := ⟨_, rfl⟩
  rw [← hE]
  have HEo : Hid (∀ w1, TiAt w1 S d false x u → Calls Tryz.prog 56 #[u] w1 (EoP S d E w1)) := fun w1 h1 => by rw [hE]; exact entryOf_any h1 hsm
  obtain ⟨R, hR0⟩ : ∃ R, R = bdE (cntE t) fun t => .ok (pushE E t) := ⟨_, rfl⟩
  rw [← hR0]
  have HR : Hid (R = bdE (cntE t) fun t => .ok (pushE E t)) := hR0
  have HCn : Hid (∀ w1, InV w w1 S d F M W s v v t → Calls Tryz.prog 54 #[.pointer (some ⟨F, 0, none⟩)] w1 (CnE F M t w1)) := fun w1 i1 => icount_any t i1.1.1 (by have : potE t = t.st.length + t.tk + 32 * t.a := rfl; omega)
  clear he hev hes hp hu hsm hR0 hE
  go_enter Tryz.func46, Tryz.ntmps46
  rcases hsh with rfl | ⟨T1, y1, rfl⟩
  · go_wp2_with fail
    have IA : InV w (w.alloc (.cells #[.nilIface] 70)) S d F M W s v v t := HE.out.2.2.1.only ((Only.refl _ _).alloc _)
    refine (show Calls Tryz.prog 54 _ _ _ from HCn.out _ IA).mono ?_
    have HIA : Hid (InV w (w.alloc (.cells #[.nilIface] 70)) S d F M W s v v t) := IA
    clear HCn hC IA
    intro e w2 G
    obtain ⟨Z, hZ⟩ : ∃ Z, Z = cntE t := ⟨_, rfl⟩
    unfold CnE at G
    rw [← hZ] at G
    have HZ : Hid (Z = cntE t) := hZ
    clear hZ
    rcases Z with k | t1
    · obtain ⟨rfl, hw2⟩ := G
      have hR : R = .error k := by rw [HR.out, ← HZ.out]; rfl
      have OO : Hid (Only (BsF F s v) w w2) := by rw [hw2]; exact InV.wide HIA.out (Only.refl _ _)
      clear HR hw2
      subst hR
      unfold gupE
      go_wp2
      exact ⟨rfl, rfl, OO.out⟩
    obtain ⟨rfl, G⟩ := G
    have iv := InV.cnt HIA.out HE.out.1 HZ.out.symm G.out.1 G.out.2
    have hR : R = .ok (pushE E t1) := by rw [HR.out, ← HZ.out]; rfl
    have hsw := EsAt.lt ⟨v, HE.out.2.2.1.2.1⟩
    have hFw := HE.out.1.1
    have I2 : Hid (InV w w2 S d F M W s v v t1) := iv
    have hct := cntE_ok HZ.out.symm
    have c0 := G.out.2.cell (a := ⟨w.heap.size, 0, none⟩) ((vblk_cells (ealloc_at w (.cells #[.nilIface] 70) w.heap.size rfl) 0).trans rfl) (by simp only; omega)
    have hti : TiAt w2 S d false x (.nilIface) := (HE.out.2.2.2.1.only ((Only.refl (fun _ => False) w).alloc (.cells #[.nilIface] 70)) (fun _ _ e => e)).only G.out.2 (fun b hb e => (HE.out.1.2.2.2 b hb).2 e)
    have HC : Hid _ := HEo.out w2 hti
    have HPt : Hid (t1.st.length ≤ 2000000) := by
      have h1 := HE.out.2.1
      have h2 : potE t1 = t1.st.length + t1.tk + 32 * t1.a := rfl
      show t1.st.length ≤ 2000000
      omega
    clear HR G iv hct hti HEo hsw hFw HIA
    subst hR
    go_wp2_with fail
    refine (show Calls Tryz.prog 56 _ _ _ from HC.out).mono ?_
    clear HC c0
    rintro e w3 ⟨b, ao, m, cap, rfl, G⟩
    have I3 : Hid (InV w w3 S d F M W s v v t1) := I2.out.only G.out.2
    have HC : Hid _ := push_v I3.out.2.1 (fun b hb => (HE.out.1.2.2.2 b hb).1) G.out.1 HPt.out
    clear G I2
    go_wp2_with fail
    refine (show Calls Tryz.prog 55 _ _ _ from HC.out).mono ?_
    clear HC
    rintro e w4 ⟨rfl, G⟩
    obtain ⟨⟨v8, g1, g2⟩, g3⟩ := G.out
    have iv := InV.esv (st := t1.st ++ [E]) (tk := t1.tk) I3.out HE.out.1 g1 g2 g3
    have F9 : Hid (∃ v', InV w w4 S d F M W s v v' (pushE E t1)) := ⟨v8, iv⟩
    clear G iv g1 g2 g3
    go_wp2
    first | (refine bodyPost_ret (results_none rfl _ _ _) rfl ?_; exact ⟨rfl, F9.out⟩) | (refine ⟨_, results_none rfl _ _ _, rfl, F9.out⟩) | (refine ⟨rfl, _, results_none rfl _ _ _, rfl, F9.out⟩)
  · go_wp2_with fail
    have IA : InV w (w.alloc (.cells #[.iface T1 y1] 70)) S d F M W s v v t := HE.out.2.2.1.only ((Only.refl _ _).alloc _)
    refine (show Calls Tryz.prog 54 _ _ _ from HCn.out _ IA).mono ?_
    have HIA : Hid (InV w (w.alloc (.cells #[.iface T1 y1] 70)) S d F M W s v v t) := IA
    clear HCn hC IA
    intro e w2 G
    obtain ⟨Z, hZ⟩ : ∃ Z, Z = cntE t := ⟨_, rfl⟩
    unfold CnE at G
    rw [← hZ] at G
    have HZ : Hid (Z = cntE t) := hZ
    clear hZ
    rcases Z with k | t1
    · obtain ⟨rfl, hw2⟩ := G
      have hR : R = .error k := by rw [HR.out, ← HZ.out]; rfl
      have OO : Hid (Only (BsF F s v) w w2) := by rw [hw2]; exact InV.wide HIA.out (Only.refl _ _)
      clear HR hw2
      subst hR
      unfold gupE
      go_wp2
      exact ⟨rfl, rfl, OO.out⟩
    obtain ⟨rfl, G⟩ := G
    have iv := InV.cnt HIA.out HE.out.1 HZ.out.symm G.out.1 G.out.2
    have hR : R = .ok (pushE E t1) := by rw [HR.out, ← HZ.out]; rfl
    have hsw := EsAt.lt ⟨v, HE.out.2.2.1.2.1⟩
    have hFw := HE.out.1.1
    have I2 : Hid (InV w w2 S d F M W s v v t1) := iv
    have hct := cntE_ok HZ.out.symm
    have c0 := G.out.2.cell (a := ⟨w.heap.size, 0, none⟩) ((vblk_cells (ealloc_at w (.cells #[.iface T1 y1] 70) w.heap.size rfl) 0).trans rfl) (by simp only; omega)
    have hti : TiAt w2 S d false x (.iface T1 y1) := (HE.out.2.2.2.1.only ((Only.refl (fun _ => False) w).alloc (.cells #[.iface T1 y1] 70)) (fun _ _ e => e)).only G.out.2 (fun b hb e => (HE.out.1.2.2.2 b hb).2 e)
    have HC : Hid _ := HEo.out w2 hti
    have HPt : Hid (t1.st.length ≤ 2000000) := by
      have h1 := HE.out.2.1
      have h2 : potE t1 = t1.st.length + t1.tk + 32 * t1.a := rfl
      show t1.st.length ≤ 2000000
      omega
    clear HR G iv hct hti HEo hsw hFw HIA
    subst hR
    go_wp2_with fail
    refine (show Calls Tryz.prog 56 _ _ _ from HC.out).mono ?_
    clear HC c0
    rintro e w3 ⟨b, ao, m, cap, rfl, G⟩
    have I3 : Hid (InV w w3 S d F M W s v v t1) := I2.out.only G.out.2
    have HC : Hid _ := push_v I3.out.2.1 (fun b hb => (HE.out.1.2.2.2 b hb).1) G.out.1 HPt.out
    clear G I2
    go_wp2_with fail
    refine (show Calls Tryz.prog 55 _ _ _ from HC.out).mono ?_
    clear HC
    rintro e w4 ⟨rfl, G⟩
    obtain ⟨⟨v8, g1, g2⟩, g3⟩ := G.out
    have iv := InV.esv (st := t1.st ++ [E]) (tk := t1.tk) I3.out HE.out.1 g1 g2 g3
    have F9 : Hid (∃ v', InV w w4 S d F M W s v v' (pushE E t1)) := ⟨v8, iv⟩
    clear G iv g1 g2 g3
    go_wp2
    first | (refine bodyPost_ret (results_none rfl _ _ _) rfl ?_; exact ⟨rfl, F9.out⟩) | (refine ⟨_, results_none rfl _ _ _, rfl, F9.out⟩) | (refine ⟨rfl, _, results_none rfl _ _ _, rfl, F9.out⟩)
set_option maxRecDepth 100000 in
theorem it_nil {W : ByteArray → Option (Nat × Nat)} {S : Nat → Prop} {d F M s : Nat} {v : Value} {t : Ist} {w : World} (hev : EvAt w F M W t.a) (hes : EsV w S d s t.st t.tk v) :
    Calls Tryz.prog 46 #[.pointer (some ⟨F, 0, none⟩), .nilIface, .pointer (some ⟨s, 0, none⟩)] w (TrP S d F M W s v (.ok t) w) := by
  have F9 : Hid (∃ v', InV w w S d F M W s v v' t) := ⟨v, InV.refl hev hes⟩
  have n1 := nilP
  have n2 := nilC
  clear hev hes
  go_enter Tryz.func46, Tryz.ntmps46
  go_wp2
  first | (refine bodyPost_ret (results_none rfl _ _ _) rfl ?_; exact ⟨rfl, F9.out⟩) | (refine ⟨_, results_none rfl _ _ _, rfl, F9.out⟩) | (refine ⟨rfl, _, results_none rfl _ _ _, rfl, F9.out⟩)
theorem item_of {W : ByteArray → Option (Nat × Nat)} {S : Nat → Prop} {d F M n : Nat} (hW : WdOk W) (TH : ThC W S d F M n) : ItC W S d F M (n + 1) := by
  intro x u s v t w he hev hes hx hsm hp ha
  cases d with
  | zero => exact hx.elim
  | succ d =>
  rcases hx with ⟨h7, _, rfl⟩ | ⟨h8, _, rfl⟩ | ⟨h7, h8, u', rfl, hu⟩
  · unfold itmE
    rw [if_pos h7]
    obtain ⟨e, hsm⟩ := hsm
    have hsz := hsm.str
    generalize x.s = sg at *
    by_cases h0 : sg.toList = [99, 97, 108, 108]
    · rw [to_lit h0, show kwd ⟨[99, 97, 108, 108].toArray⟩ = 1 from by kernel_rfl, if_neg (by omega)]
      exact it_0 hW TH he hev hes hp ha
    by_cases h1 : sg.toList = [100, 105, 112]
    · rw [to_lit h1, show kwd ⟨[100, 105, 112].toArray⟩ = 2 from by kernel_rfl, if_neg (by omega)]
      exact it_1 hW TH he hev hes hp ha
    by_cases h2 : sg.toList = [107, 101, 101, 112]
    · rw [to_lit h2, show kwd ⟨[107, 101, 101, 112].toArray⟩ = 3 from by kernel_rfl, if_neg (by omega)]
      exact it_2 hW TH he hev hes hp ha
    by_cases h3 : sg.toList = [105, 102]
    · rw [to_lit h3, show kwd ⟨[105, 102].toArray⟩ = 4 from by kernel_rfl, if_neg (by omega)]
      exact it_3 hW TH he hev hes hp ha
    by_cases h4 : sg.toList = [119, 104, 101, 110]
    · rw [to_lit h4, show kwd ⟨[119, 104, 101, 110].toArray⟩ = 5 from by kernel_rfl, if_neg (by omega)]
      exact it_4 hW TH he hev hes hp ha
    by_cases h5 : sg.toList = [116, 105, 109, 101, 115]
    · rw [to_lit h5, show kwd ⟨[116, 105, 109, 101, 115].toArray⟩ = 5 from by kernel_rfl, if_neg (by omega)]
      exact it_5 hW TH he hev hes hp ha
    by_cases h6 : sg.toList = [108, 111, 111, 112]
    · rw [to_lit h6, show kwd ⟨[108, 111, 111, 112].toArray⟩ = 6 from by kernel_rfl, if_neg (by omega)]
      exact it_6 hW TH he hev hes hp ha
    by_cases h9 : sg.toList = [101, 97, 99, 104]
    · rw [to_lit h9, show kwd ⟨[101, 97, 99, 104].toArray⟩ = 7 from by kernel_rfl, if_neg (by omega)]
      exact it_7 hW TH he hev hes hp ha
    have hn : ∀ y ∈ kwT, sg.toList ≠ y.1 := by
      intro y hy
      simp only [kwT, List.mem_cons, List.not_mem_nil, or_false] at hy
      rcases hy with rfl | rfl | rfl | rfl | rfl | rfl | rfl | rfl
      · exact h0
      · exact h1
      · exact h2
      · exact h3
      · exact h4
      · exact h5
      · exact h6
      · exact h9
    have hk0 : kwd sg = 0 := by
      unfold kwd
      simp only [kwT, kwF]
      rw [if_neg h0, if_neg h1, if_neg h2, if_neg h3, if_neg h4, if_neg h5, if_neg h6, if_neg h9]
    rw [if_pos hk0]
    exact it_no hW hsz hn he hev hes hp
  · unfold itmE
    rw [if_neg (by omega), if_pos h8]
    exact it_nil hev hes
  · unfold itmE
    rw [if_neg h7, if_neg h8]
    exact it_push (hu.step (fun _ g => g) (fun _ _ _ g => g) (by omega)) hsm he hev hes hp
end Go.Proofs.YtodbkihobgdpdaaGreatDoor
namespace Go.Proofs.YtodbkihobgdpdaaGreatDoor
open Go.RowKit Go.Lib
set_option linter.unusedSimpArgs false
set_option linter.unusedVariables false
theorem thrL_app (I : Vt → Ist → Except Int Ist) : ∀ (a b : List Vt) (s : Ist), thrL I (a ++ b) s = bdE (thrL I a s) (thrL I b)
  | [], b, s => rfl
  | x :: a, b, s => by
    show bdE (I x s) (thrL I (a ++ b)) = bdE (bdE (I x s) (thrL I a)) (thrL I b)
    cases I x s with
    | error e => rfl
    | ok t => exact thrL_app I a b t
theorem thrL_err {I : Vt → Ist → Except Int Ist} {l : List Vt} {j : Nat} {x : Vt} {s t : Ist} {e : Int} (hx : l[j]? = some x) (h : thrL I (l.take j) s = .ok t) (he : I x t = .error e) : thrL I l s = .error e := by
  have hj : j < l.length := (List.getElem?_eq_some_iff.1 hx).1
  have e1 : l = l.take j ++ x :: l.drop (j + 1) := by
    rw [← List.getElem?_eq_getElem hj |>.symm.trans hx |> Option.some.inj, ← List.drop_eq_getElem_cons hj, List.take_append_drop]
  rw [e1, thrL_app, h]
  show bdE (I x t) _ = _
  rw [he]
  rfl
theorem thrL_next {I : Vt → Ist → Except Int Ist} {l : List Vt} {j : Nat} {x : Vt} {s t t2 : Ist} (hx : l[j]? = some x) (h : thrL I (l.take j) s = .ok t) (he : I x t = .ok t2) : thrL I (l.take (j + 1)) s = .ok t2 := by
  rw [List.take_add_one, hx, thrL_app, h]
  show bdE (I x t) _ = _
  rw [he]
  rfl
set_option maxRecDepth 100000 in
set_option maxHeartbeats 1000000 in
theorem through_of {W : ByteArray → Option (Nat × Nat)} {S : Nat → Prop} {d F M n : Nat} (hW : WdOk W) (IT : ItC W S d F M n) : ThC W S d F M n := by
  intro l ao cap s v t w he hev hes hq hc hsm hp ha
  have HE : Hid (Env S F M s ∧ WdOk W ∧ ItC W S d F M n ∧ potE t ≤ 900000 ∧ t.a < n ∧ InV w w S d F M W s v v t ∧ QsAt w S d l ao ∧ SmL l) := ⟨he, hW, IT, hp, ha, InV.refl hev hes, hq, hsm⟩
  obtain ⟨R, hR0⟩ : ∃ R, R = thrE W n l t := ⟨_, rfl⟩
  rw [← hR0]
  have HR : Hid (R = thrE W n l t) := hR0
  obtain ⟨L, hL⟩ : ∃ L, L = l.length := ⟨_, rfl⟩
  rw [← hL]
  have HL : Hid (L = l.length ∧ L ≤ 2513169434900) := ⟨hL, by rw [hL]; exact hsm.1⟩
  clear he hW IT hp ha hev hes hq hsm hR0 hL hc
  go_enter Tryz.func41, Tryz.ntmps41
  go_wp2
  go_loopw [10] (fun r10 wr => ∃ (j : Nat) (t1 : Ist) (v1 : Value), r10 = .int .i64 (j : Int) ∧ j ≤ L ∧ Hid (thrL (itmE W n) (l.take j) t = .ok t1 ∧ InV w wr S d F M W s v v1 t1)) (fun r10 _ => L - vuOf r10)
  case atStart => exact ⟨0, t, v, rfl, Nat.zero_le _, rfl, HE.out.2.2.2.2.2.1⟩
  case round =>
    obtain ⟨j, t1, v1, rfl, hj, HI⟩ := hrel
    obtain ⟨w1, hw1⟩ : ∃ w1, w1 = wr := ⟨_, rfl⟩
    rw [← hw1] at HI ⊢
    clear hw1
    have hLl := HL.out.1
    have hLb := HL.out.2
    by_cases hjL : j < L
    · obtain ⟨x, hx⟩ : ∃ x, l[j]? = some x := ⟨l[j]'(by omega), List.getElem?_eq_getElem (by omega)⟩
      obtain ⟨g, q, u, rfl, hg, hu, hti⟩ := (HE.out.2.2.2.2.2.2.1.in HE.out.2.2.2.2.2.1.2.1 HE.out.1 HI.out.2.2.2.2) j x hx
      have hpt := thrL_pot (itmE_pot HE.out.2.1 n) _ _ _ HI.out.1
      obtain ⟨Z, hZ⟩ : ∃ Z, Z = itmE W n x t1 := ⟨_, rfl⟩
      have HC : Hid _ := HE.out.2.2.1 x u s v1 t1 w1 HE.out.1 HI.out.2.1 HI.out.2.2.1 hti (HE.out.2.2.2.2.2.2.2.2 x (List.mem_of_getElem? hx)) (by have := HE.out.2.2.2.1; omega) (by have := HE.out.2.2.2.2.1; omega)
      rw [← hZ] at HC
      have HZ : Hid (Z = itmE W n x t1) := hZ
      have HX : Hid (l[j]? = some x ∧ j < L) := ⟨hx, hjL⟩
      have i1 : (j : Int) < (L : Int) := by omega
      have i0 : (0 : Int) ≤ (j : Int) := by omega
      have i4 : j ≤ 2513169434900 := by omega
      have hsh := hti.shape
      clear hti hg hx hjL hj hpt hZ hLl hLb
      rcases hsh with rfl | ⟨T1, y1, rfl⟩
      all_goals
        go_wp2_with fail
        refine (show Calls Tryz.prog 46 _ _ _ from HC.out).mono ?_
        clear HC
        intro e w2 G
        rcases Z with k | t2
        · obtain ⟨rfl, o1⟩ := G
          have hR : R = .error k := by rw [HR.out]; exact thrL_err HX.out.1 HI.out.1 HZ.out.symm
          have OO : Hid (Only (BsF F s v) w w2) := HI.out.2.wide o1
          clear HR o1
          subst hR
          unfold gupE
          go_wp2
          exact ⟨rfl, rfl, OO.out⟩
        · obtain ⟨rfl, G⟩ := G
          have HF : Hid (∃ v2, thrL (itmE W n) (l.take (j + 1)) t = .ok t2 ∧ InV w w2 S d F M W s v v2 t2) := by
            obtain ⟨v2, g2⟩ := G.out
            exact ⟨v2, thrL_next HX.out.1 HI.out.1 HZ.out.symm, HI.out.2.trans g2⟩
          clear HI G
          go_wp2
          go_roundw
          case rel =>
            obtain ⟨v2, g1, g2⟩ := HF.out
            exact ⟨j + 1, t2, v2, by go_num, by have := HX.out.2; omega, g1, g2⟩
          case measure => simp only [vuOf]; have := HX.out.2; omega
    · obtain rfl : j = L := by omega
      have i1 : ¬ (j : Int) < (j : Int) := by omega
      have hR : R = .ok t1 := by
        rw [HR.out]
        have := HI.out.1
        rwa [show l.take j = l from by rw [hLl]; exact List.take_length] at this
      have F9 : Hid (∃ v', InV w w1 S d F M W s v v' t1) := ⟨v1, HI.out.2⟩
      clear HI hLl hLb hjL hj HR
      subst hR
      go_wp2
      first | (refine bodyPost_ret (results_none rfl _ _ _) rfl ?_; exact ⟨rfl, F9.out⟩) | (refine ⟨_, results_none rfl _ _ _, rfl, F9.out⟩) | (refine ⟨rfl, _, results_none rfl _ _ _, rfl, F9.out⟩)
theorem thr_all {W : ByteArray → Option (Nat × Nat)} {S : Nat → Prop} {d F M : Nat} (hW : WdOk W) : ∀ n, ThC W S d F M n
  | 0 => through_of hW (fun x u s v t w _ _ _ _ _ _ ha => absurd ha (Nat.not_lt_zero _))
  | n + 1 => through_of hW (item_of hW (thr_all hW n))
/-- what whole comes to -/
def whE (r : Except Int Ist) : Except Int Ist := bdE r fun t => if t.tk ≤ 16 ∧ t.st.length ≤ 16 then .ok t else .error 11
set_option maxRecDepth 100000 in
set_option maxHeartbeats 1000000 in
theorem whole_any {W : ByteArray → Option (Nat × Nat)} {S : Nat → Prop} {d F M : Nat} (hW : WdOk W) {l : List Vt} {ao : Option Addr} {cap : Nat} {w : World} (hF : F < w.heap.size) (hM : M < w.heap.size) (hMF : M ≠ F) (hS : ∀ b, S b → b < w.heap.size ∧ b ≠ F) (hev : EvAt w F M W 4096) (hq : QsAt w S d l ao) (hc : l.length ≤ cap) (hsm : SmL l) :
    Calls Tryz.prog 23 #[.pointer (some ⟨F, 0, none⟩), .slice ao l.length cap] w (OwP F M W (whE (thrE W 4097 l ⟨4096, [], 0⟩)) w) := by
  obtain ⟨N, hN⟩ : ∃ N, N = w.heap.size := ⟨_, rfl⟩
  obtain ⟨W1, hW1⟩ : ∃ X, X = w.alloc (.cells #[.int .i64 0, .int .i64 0] 30) := ⟨_, rfl⟩
  have o1 : Only (fun _ => False) w W1 := by rw [hW1]; exact (Only.refl _ w).alloc _
  have b1 : W1.heap[N]? = some (.cells #[.int .i64 0, .int .i64 0] 30) := by rw [hW1]; exact ealloc_at _ _ _ hN
  have hz := o1.size
  obtain ⟨X, hX⟩ : ∃ X, X = thrE W 4097 l ⟨4096, [], 0⟩ := ⟨_, rfl⟩
  have HC : Hid _ := own_of (thr_all hW 4097) (a := 4096) (w := W1) (by omega) (by omega) hMF (fun b hb => ⟨by have := (hS b hb).1; omega, (hS b hb).2⟩) (hev.only o1 (fun e => e) (fun e => e)) (hq.only o1 (fun _ _ e => e)) hc hsm (by omega) (by omega)
  rw [← hX] at HC ⊢
  have HX : Hid (X = thrE W 4097 l ⟨4096, [], 0⟩ ∧ WdOk W) := ⟨hX, hW⟩
  have HB : Hid (∀ x y w1, Calls Tryz.prog 24 #[.agg #[.int .i64 x, .int .i64 y]] w1 fun e w' => e = .returned (.bool (bdB x y)) ∧ Only (fun _ => False) w1 w') := bounded_any
  have HH : Hid (N = w.heap.size ∧ Only (fun _ => False) w W1 ∧ W1.heap[N]? = some (.cells #[.int .i64 0, .int .i64 0] 30) ∧ F < N ∧ M < N) := ⟨hN, o1, b1, by omega, by omega⟩
  obtain ⟨R, hR0⟩ : ∃ R, R = whE X := ⟨_, rfl⟩
  rw [← hR0]
  have HR : Hid (R = whE X) := hR0
  obtain ⟨L, hL⟩ : ∃ L, L = l.length := ⟨_, rfl⟩
  rw [← hL] at HC ⊢
  clear hF hM hMF hS hev hq hc hsm o1 b1 hz hX hW hR0 hL
  subst hW1
  subst hN
  go_enter Tryz.func23, Tryz.ntmps23
  go_wp2_with fail
  refine (show Calls Tryz.prog 34 _ _ _ from HC.out).mono ?_
  clear HC
  obtain ⟨-, o1, b1, hFN, hMN⟩ := HH.out
  obtain ⟨N, hN⟩ : ∃ N, N = w.heap.size := ⟨_, rfl⟩
  rw [← hN] at b1 hFN hMN ⊢
  have HN : Hid (N = w.heap.size) := hN
  clear HH hN
  intro e w1 G
  rcases X with k | t
  · obtain ⟨rfl, o2⟩ := G
    have hR : R = .error k := HR.out
    have OO : Hid (Only (fun b => b = F) w w1) := (o1.mono (bs' := fun b => b = F) (fun _ _ g => g.elim)).trans o2 (fun _ _ e => e)
    clear HR o1 o2 b1 hFN hMN
    subst hR
    unfold gupE
    go_wp2
    exact ⟨rfl, rfl, OO.out⟩
  obtain ⟨rfl, G⟩ := G
  obtain ⟨g1, o2⟩ := G.out
  have O2 : Only (fun b => b = F) w w1 := (o1.mono (bs' := fun b => b = F) (fun _ _ g => g.elim)).trans o2 (fun _ _ e => e)
  have b2 : w1.heap[N]? = some (.cells #[.int .i64 0, .int .i64 0] 30) := (o2.block N (Array.getElem?_eq_some_iff.1 b1).1 (by omega)).trans b1
  have HI : Hid (EvAt w1 F M W t.a ∧ Only (fun b => b = F) w w1 ∧ w1.heap[N]? = some (.cells #[.int .i64 0, .int .i64 0] 30) ∧ F < N ∧ M < N) := ⟨g1, O2, b2, hFN, hMN⟩
  clear G g1 o2 O2 b2 hFN hMN o1 b1
  go_wp2_with fail
  refine (show Calls Tryz.prog 24 _ _ _ from HB.out _ _ _).mono ?_
  rintro e w2 ⟨rfl, o3⟩
  have o4 : Only (fun _ => False) w1 w2 := ((Only.refl (fun _ => False) w1).alloc _).trans o3 (fun _ _ e => e)
  have be : w2.heap[w1.heap.size]? = some (.cells #[.int .i64 (t.tk : Int), .int .i64 (t.st.length : Int)] 30) := o3.at (ealloc_at _ _ _ rfl)
  by_cases hb : t.tk ≤ 16 ∧ t.st.length ≤ 16
  · have hbd : bdB (t.tk : Int) (t.st.length : Int) = true := by unfold bdB; exact decide_eq_true ⟨by omega, by omega, by omega, by omega⟩
    have hR : R = .ok t := by rw [HR.out]; show (if _ then _ else _) = _; rw [if_pos hb]
    rw [hbd]
    have b3 := o4.at HI.out.2.2.1
    obtain ⟨m0, m1, f0, f1⟩ := wr2_cell b3
    obtain ⟨y0, y1, -, -⟩ := wr2_cell be
    have Q := fset2 b3 (.int .i64 (t.tk : Int)) (.int .i64 (t.st.length : Int))
    have HQ : Hid _ := Q
    have OO : Hid (EvAt ((w2.setCell ⟨N, 0, none⟩ (.int .i64 (t.tk : Int))).setCell ⟨N, 1, none⟩ (.int .i64 (t.st.length : Int))) F M W t.a ∧ Only (fun b => b = F) w ((w2.setCell ⟨N, 0, none⟩ (.int .i64 (t.tk : Int))).setCell ⟨N, 1, none⟩ (.int .i64 (t.st.length : Int)))) := by
      have o5 : Only (fun b => b = N) w2 ((w2.setCell ⟨N, 0, none⟩ (.int .i64 (t.tk : Int))).setCell ⟨N, 1, none⟩ (.int .i64 (t.st.length : Int))) := ((Only.refl (fun b => b = N) w2).setCell _ _ (fun _ => rfl)).setCell _ _ (fun _ => rfl)
      obtain ⟨h1, h2, h3, h4, h5⟩ := HI.out
      have hn := HN.out
      exact ⟨(h1.only o4 (fun e => e) (fun e => e)).only o5 (by omega) (by omega), (h2.trans o4 (fun _ _ e => e.elim)).trans o5 (fun k hk e => by omega)⟩
    clear HR HB o3 o4 be b3 Q hbd hb HI
    subst hR
    go_wp2
    refine bodyPost_ret (results_ef1 rfl _ _ N HQ.out.1 HQ.out.2 rfl) rfl ?_
    exact ⟨rfl, OO.out⟩
  · have hbd : bdB (t.tk : Int) (t.st.length : Int) = false := by unfold bdB; exact decide_eq_false (fun h => hb ⟨by omega, by omega⟩)
    have hR : R = .error 11 := by rw [HR.out]; show (if _ then _ else _) = _; rw [if_neg hb]
    rw [hbd]
    have OO : Hid (Only (fun b => b = F) w w2) := HI.out.2.1.trans o4 (fun _ _ e => e.elim)
    clear HR HB o3 o4 be hbd hb HI
    subst hR
    go_wp2
    exact ⟨rfl, rfl, OO.out⟩
end Go.Proofs.YtodbkihobgdpdaaGreatDoor
namespace Go.Proofs.YtodbkihobgdpdaaGreatDoor
open Go.RowKit Go.Lib
set_option linter.unusedSimpArgs false
set_option linter.unusedVariables false
set_option maxRecDepth 100000 in
theorem ecaught_idle (x y : Addr) (w : World) :
    CallsD Tryz.prog 33 #[.pointer (some x), .pointer (some y)] .returning w fun e u' w' => e = .returned (.tuple #[]) ∧ u' = .returning ∧ w' = w := by
  refine callsD_of_wpS Tryz.func33 rfl fun c₀ cs hu => ?_
  apply wpS_seq
  apply wpS_region
  simp [wpOpsS, go_sem, recoverD, hu, Tryz.ntmps33, Exit.thenS]
  apply wpS_seq
  apply wpS_seq
  apply wpS_region
  simp [wpOpsS, go_sem, recoverD, hu, Tryz.ntmps33, Exit.thenS]
  refine wpS_cond (t := true) (by simp [Act.eval, Array.replicate]) ?_
  simp only [if_true]
  refine wpS_of_wp (wp_ret ?_)
  cases c₀
  simp_all [Exit.thenS, bodyPostS, results, Tryz.results33]
theorem eflt_as (v : Value) (W : World) : (Instr.typeAssert (.iface 83 v) 20 83 true).run Tryz.prog W = .ok (.tuple #[v, .bool true]) W := by
  simp [Instr.typeAssert, run_underlying Tryz.underlying83]
set_option maxRecDepth 100000 in
set_option maxHeartbeats 4000000 in
theorem ecaught_own (X Y : Nat) (vx vx' vy : Value) (ty : TypeId) (e : Int) (older : List PanicEntry) (w : World) (hx : w.heap[X]? = some (.cells #[vx, vx'] 30)) (hy : w.heap[Y]? = some (.cells #[vy] ty)) (hxy : X ≠ Y) :
    CallsD Tryz.prog 33 #[.pointer (some ⟨X, 0, none⟩), .pointer (some ⟨Y, 0, none⟩)] (.panicking ({ v := .iface 83 (.agg #[.int .i64 e]), recovered := false } :: older)) w fun en u' w' => en = .returned (.tuple #[]) ∧ u' = .panicking ({ v := .iface 83 (.agg #[.int .i64 e]), recovered := true } :: older) ∧ Hid (w'.cell? ⟨X, 0, none⟩ = some (.int .i64 0) ∧ w'.cell? ⟨X, 1, none⟩ = some (.int .i64 0) ∧ w'.cell? ⟨Y, 0, none⟩ = some (.int .i64 e) ∧ Only (fun b => b = X ∨ b = Y) w w') := by
  obtain ⟨W, hW⟩ : ∃ W, W = w.alloc (.cells #[.int .i64 e] 83) := ⟨_, rfl⟩
  have oW : Only (fun _ => False) w W := by rw [hW]; exact (Only.refl _ w).alloc _
  have lx : X < w.heap.size := (Array.getElem?_eq_some_iff.1 hx).1
  have ly : Y < w.heap.size := (Array.getElem?_eq_some_iff.1 hy).1
  have bx := oW.at hx
  have bY := oW.at hy
  obtain ⟨x0, x1, fx0, fx1⟩ := wr2_cell bx
  have y0 : W.cell? ⟨Y, 0, none⟩ = some vy := (vblk_cells bY 0).trans rfl
  have fy : W.frozen? ⟨Y, 0, none⟩ = false := eblk_froz bY 0
  obtain ⟨B, hB⟩ : ∃ B, B = w.heap.size := ⟨_, rfl⟩
  have b0 : W.cell? ⟨B, 0, none⟩ = some (.int .i64 e) := by rw [hW]; exact (vblk_cells (ealloc_at _ _ _ hB) 0).trans rfl
  have q1 := fset2 bx (.int .i64 0) (.int .i64 0)
  have bY2 : ((W.setCell ⟨X, 0, none⟩ (.int .i64 0)).setCell ⟨X, 1, none⟩ (.int .i64 0)).heap[Y]? = some (.cells #[vy] ty) := by
    rw [heap_setCell_other _ _ _ _ (by simp only; omega), heap_setCell_other _ _ _ _ (by simp only; omega)]; exact bY
  have y2 : ((W.setCell ⟨X, 0, none⟩ (.int .i64 0)).setCell ⟨X, 1, none⟩ (.int .i64 0)).cell? ⟨Y, 0, none⟩ = some vy := (vblk_cells bY2 0).trans rfl
  have fy2 : ((W.setCell ⟨X, 0, none⟩ (.int .i64 0)).setCell ⟨X, 1, none⟩ (.int .i64 0)).frozen? ⟨Y, 0, none⟩ = false := eblk_froz bY2 0
  have nxy : ¬ Y = X := fun h => hxy h.symm
  have ne0 : ∀ (V : World) (j : Nat), (V.setCell ⟨Y, 0, none⟩ (.int .i64 e)).cell? ⟨X, j, none⟩ = V.cell? ⟨X, j, none⟩ := fun V j => World.cell?_setCell_other _ _ _ _ (by intro h; injection h with h; exact nxy h)
  have HH : Hid (((((W.setCell ⟨X, 0, none⟩ (.int .i64 0)).setCell ⟨X, 1, none⟩ (.int .i64 0)).setCell ⟨Y, 0, none⟩ (.int .i64 e)).drew).cell? ⟨X, 0, none⟩ = some (.int .i64 0) ∧ ((((W.setCell ⟨X, 0, none⟩ (.int .i64 0)).setCell ⟨X, 1, none⟩ (.int .i64 0)).setCell ⟨Y, 0, none⟩ (.int .i64 e)).drew).cell? ⟨X, 1, none⟩ = some (.int .i64 0) ∧ ((((W.setCell ⟨X, 0, none⟩ (.int .i64 0)).setCell ⟨X, 1, none⟩ (.int .i64 0)).setCell ⟨Y, 0, none⟩ (.int .i64 e)).drew).cell? ⟨Y, 0, none⟩ = some (.int .i64 e) ∧ Only (fun b => b = X ∨ b = Y) w ((((W.setCell ⟨X, 0, none⟩ (.int .i64 0)).setCell ⟨X, 1, none⟩ (.int .i64 0)).setCell ⟨Y, 0, none⟩ (.int .i64 e)).drew)) :=
    ⟨(ne0 _ 0).trans q1.1, (ne0 _ 1).trans q1.2, World.cell?_setCell_same' _ _ _ (by rw [y2]; rfl), ((((oW.mono (bs' := fun b => b = X ∨ b = Y) (fun _ _ g => g.elim)).setCell ⟨X, 0, none⟩ _ (fun _ => .inl rfl)).setCell ⟨X, 1, none⟩ _ (fun _ => .inl rfl)).setCell ⟨Y, 0, none⟩ _ (fun _ => .inr rfl)).drew⟩
  have nX : ¬ X = B := by omega
  have nY : ¬ Y = B := by omega
  have nX' : ¬ B = X := by omega
  have nY' : ¬ B = Y := by omega
  have hxy2 : ¬ X = Y := hxy
  have HW : Hid (W = w.alloc (.cells #[.int .i64 e] 83) ∧ B = w.heap.size) := ⟨hW, hB⟩
  clear hx hy oW lx ly bx bY q1 bY2 ne0 hW hB hxy
  refine callsD_of_wpS Tryz.func33 rfl fun c₀ cs hu => ?_
  apply wpS_seq
  apply wpS_region
  simp [wpOpsS, go_sem, recoverD, hu, Tryz.ntmps33, Exit.thenS]
  apply wpS_seq
  apply wpS_seq
  apply wpS_region
  simp [wpOpsS, go_sem, recoverD, hu, Tryz.ntmps33, Exit.thenS]
  refine wpS_cond (t := false) (by simp [Act.eval, Array.replicate]) ?_
  simp only [Bool.false_eq_true, if_false]
  refine wpS_of_wp (wp_skip ?_)
  simp only [Exit.thenS]
  refine wpS_of_wp (a := { tmps := #[.pointer (some ⟨X, 0, none⟩), .pointer (some ⟨Y, 0, none⟩), .iface 83 (.agg #[.int .i64 e]), undef, undef, .iface 83 (.agg #[.int .i64 e]), .iface 83 (.agg #[.int .i64 e]), .bool false, undef, undef, undef, undef, undef, undef, undef, undef, undef, undef, undef], defers := [] }) ?_
  have hta := eflt_as
  go_wp2_with fail
  rw [← HW.out.1, ← HW.out.2]
  go_region
  all_goals exact ⟨rfl, _, rfl, .tuple #[], by simp [results, Tryz.results33], rfl, rfl, HH⟩
/-- the function that is caught: the whole of the items at the block B -/
theorem of1_any {W : ByteArray → Option (Nat × Nat)} {S : Nat → Prop} {d F M B : Nat} (hW : WdOk W) {l : List Vt} {ao : Option Addr} {cap : Nat} {w : World} (hF : F < w.heap.size) (hM : M < w.heap.size) (hMF : M ≠ F) (hS : ∀ b, S b → b < w.heap.size ∧ b ≠ F) (hev : EvAt w F M W 4096) (hq : QsAt w S d l ao) (hc : l.length ≤ cap) (hsm : SmL l) (hB : w.heap[B]? = some (.cells #[.slice ao l.length cap] 27)) :
    Calls Tryz.prog 22 #[.pointer (some ⟨F, 0, none⟩), .pointer (some ⟨B, 0, none⟩)] w (OwP F M W (whE (thrE W 4097 l ⟨4096, [], 0⟩)) w) := by
  obtain ⟨N, hN⟩ : ∃ N, N = w.heap.size := ⟨_, rfl⟩
  obtain ⟨W1, hW1⟩ : ∃ X, X = w.alloc (.cells #[.int .i64 0, .int .i64 0] 30) := ⟨_, rfl⟩
  have o1 : Only (fun _ => False) w W1 := by rw [hW1]; exact (Only.refl _ w).alloc _
  have b1 : W1.heap[N]? = some (.cells #[.int .i64 0, .int .i64 0] 30) := by rw [hW1]; exact ealloc_at _ _ _ hN
  have hz := o1.size
  have c0 : W1.cell? ⟨B, 0, none⟩ = some (.slice ao l.length cap) := (vblk_cells (o1.at hB) 0).trans rfl
  obtain ⟨X, hX⟩ : ∃ X, X = whE (thrE W 4097 l ⟨4096, [], 0⟩) := ⟨_, rfl⟩
  have HC : Hid _ := whole_any hW (w := W1) (by omega) (by omega) hMF (fun b hb => ⟨by have := (hS b hb).1; omega, (hS b hb).2⟩) (hev.only o1 (fun e => e) (fun e => e)) (hq.only o1 (fun _ _ e => e)) hc hsm
  rw [← hX] at HC ⊢
  have HH : Hid (N = w.heap.size ∧ Only (fun _ => False) w W1 ∧ W1.heap[N]? = some (.cells #[.int .i64 0, .int .i64 0] 30) ∧ F < N ∧ M < N) := ⟨hN, o1, b1, by omega, by omega⟩
  obtain ⟨L, hL⟩ : ∃ L, L = l.length := ⟨_, rfl⟩
  rw [← hL] at HC c0
  clear hF hM hMF hS hev hq hc hsm o1 b1 hz hX hW hL hB
  subst hW1
  subst hN
  go_enter Tryz.func22, Tryz.ntmps22
  go_wp2_with fail
  refine (show Calls Tryz.prog 23 _ _ _ from HC.out).mono ?_
  clear HC c0
  obtain ⟨-, o1, b1, hFN, hMN⟩ := HH.out
  obtain ⟨N, hN⟩ : ∃ N, N = w.heap.size := ⟨_, rfl⟩
  rw [← hN] at b1 hFN hMN ⊢
  have HN : Hid (N = w.heap.size) := hN
  clear HH hN
  intro e w1 G
  rcases X with k | t
  · obtain ⟨rfl, o2⟩ := G
    have OO : Hid (Only (fun b => b = F) w w1) := (o1.mono (bs' := fun b => b = F) (fun _ _ g => g.elim)).trans o2 (fun _ _ e => e)
    clear o1 o2 b1 hFN hMN
    unfold gupE
    go_wp2
    exact ⟨rfl, rfl, OO.out⟩
  obtain ⟨rfl, G⟩ := G
  obtain ⟨g1, o2⟩ := G.out
  have b2 : w1.heap[N]? = some (.cells #[.int .i64 0, .int .i64 0] 30) := (o2.block N (Array.getElem?_eq_some_iff.1 b1).1 (by omega)).trans b1
  obtain ⟨m0, m1, f0, f1⟩ := wr2_cell b2
  have Q := fset2 b2 (.int .i64 (t.tk : Int)) (.int .i64 (t.st.length : Int))
  have HQ : Hid _ := Q
  have OO : Hid (EvAt ((w1.setCell ⟨N, 0, none⟩ (.int .i64 (t.tk : Int))).setCell ⟨N, 1, none⟩ (.int .i64 (t.st.length : Int))) F M W t.a ∧ Only (fun b => b = F) w ((w1.setCell ⟨N, 0, none⟩ (.int .i64 (t.tk : Int))).setCell ⟨N, 1, none⟩ (.int .i64 (t.st.length : Int)))) := by
    have o5 : Only (fun b => b = N) w1 ((w1.setCell ⟨N, 0, none⟩ (.int .i64 (t.tk : Int))).setCell ⟨N, 1, none⟩ (.int .i64 (t.st.length : Int))) := ((Only.refl (fun b => b = N) w1).setCell _ _ (fun _ => rfl)).setCell _ _ (fun _ => rfl)
    have hn := HN.out
    exact ⟨g1.only o5 (by omega) (by omega), ((o1.mono (bs' := fun b => b = F) (fun _ _ g => g.elim)).trans o2 (fun _ _ e => e)).trans o5 (fun k hk e => by omega)⟩
  clear G g1 o2 b2 Q o1 b1 hFN hMN
  go_wp2
  first | (refine bodyPost_ret (results_ef1 rfl _ _ N HQ.out.1 HQ.out.2 rfl) rfl ?_; exact ⟨rfl, OO.out⟩) | (refine ⟨_, results_ef1 rfl _ _ N HQ.out.1 HQ.out.2 rfl, rfl, OO.out⟩)
/-- what an inference answers -/
def ofR (r : Except Int Ist) : Nat × Nat × Int := match r with
  | .error e => (0, 0, e)
  | .ok t => (t.tk, t.st.length, 0)
theorem results_ef2 {fn : Func} {u v : Tmp} (h : fn.results = #[.cell u 30, .cell v 31]) (tmps : Array Value) (w : World) (B C : Nat) {x y z : Value} (h0 : w.cell? ⟨B, 0, none⟩ = some x) (h1 : w.cell? ⟨B, 1, none⟩ = some y) (h2 : w.cell? ⟨C, 0, none⟩ = some z) (ha : tmps.getD u undef = .pointer (some ⟨B, 0, none⟩)) (hb : tmps.getD v undef = .pointer (some ⟨C, 0, none⟩)) :
    (results fn tmps).run Tryz.prog w = .ok (.tuple #[.agg #[x, y], z]) w := by
  have ha' : tmps[u]?.getD undef = .pointer (some ⟨B, 0, none⟩) := by simpa using ha
  have hb' : tmps[v]?.getD undef = .pointer (some ⟨C, 0, none⟩) := by simpa using hb
  simp [results, h, ha', hb', asAddr, go_sem, loadVar, isAgg, Tryz.underlying30, Tryz.underlying31, h0, h1, h2]
end Go.Proofs.YtodbkihobgdpdaaGreatDoor
namespace Go.Proofs.YtodbkihobgdpdaaGreatDoor
open Go.RowKit Go.Lib
set_option linter.unusedSimpArgs false
set_option linter.unusedVariables false
set_option maxRecDepth 100000 in
set_option maxHeartbeats 4000000 in
theorem ecaught_any {W : ByteArray → Option (Nat × Nat)} {S : Nat → Prop} {d F M B : Nat} (hW : WdOk W) {l : List Vt} {ao : Option Addr} {cap : Nat} {w : World} (hF : F < w.heap.size) (hM : M < w.heap.size) (hMF : M ≠ F) (hS : ∀ b, S b → b < w.heap.size ∧ b ≠ F) (hev : EvAt w F M W 4096) (hq : QsAt w S d l ao) (hc : l.length ≤ cap) (hsm : SmL l) (hB : w.heap[B]? = some (.cells #[.slice ao l.length cap] 27)) (R : Except Int Ist) (hR : R = whE (thrE W 4097 l ⟨4096, [], 0⟩)) :
    Calls Tryz.prog 21 #[.func (.func 22) #[] #[.pointer (some ⟨F, 0, none⟩), .pointer (some ⟨B, 0, none⟩)]] w fun e w' => e = .returned (.tuple #[.agg #[.int .i64 ((ofR R).1 : Int), .int .i64 ((ofR R).2.1 : Int)], .int .i64 (ofR R).2.2]) ∧ Only (fun b => b = F) w w' := by
  obtain ⟨N, hN⟩ : ∃ N, N = w.heap.size := ⟨_, rfl⟩
  obtain ⟨W1, hW1⟩ : ∃ X, X = (w.alloc (.cells #[.int .i64 0, .int .i64 0] 30)).alloc (.cells #[.int .i64 0] 31) := ⟨_, rfl⟩
  have o1 : Only (fun _ => False) w W1 := by rw [hW1]; exact ((Only.refl _ w).alloc _).alloc _
  have b1 : W1.heap[N]? = some (.cells #[.int .i64 0, .int .i64 0] 30) := by rw [hW1]; exact alloc_old (ealloc_at _ _ _ hN)
  have b2 : W1.heap[N + 1]? = some (.cells #[.int .i64 0] 31) := by rw [hW1]; exact ealloc_at _ _ _ (by simp [hN])
  have hz := o1.size
  have HC : Hid _ := of1_any hW (w := W1) (B := B) (by omega) (by omega) hMF (fun b hb => ⟨by have := (hS b hb).1; omega, (hS b hb).2⟩) (hev.only o1 (fun e => e) (fun e => e)) (hq.only o1 (fun _ _ e => e)) hc hsm (o1.at hB)
  rw [← hR] at HC
  have HH : Hid (N = w.heap.size ∧ Only (fun _ => False) w W1 ∧ W1.heap[N]? = some (.cells #[.int .i64 0, .int .i64 0] 30) ∧ W1.heap[N + 1]? = some (.cells #[.int .i64 0] 31) ∧ F < N) := ⟨hN, o1, b1, b2, by omega⟩
  have hmf : ∀ (fn : Fn) (first cap : Array Value) (w : World), (Instr.makeFunc fn first cap).run Tryz.prog w = .ok (.func fn first cap) w := fun _ _ _ _ => rfl
  clear hF hM hMF hS hev hq hc hsm o1 b1 b2 hz hR hW hB
  subst hW1
  subst hN
  go_enter_defers Tryz.func21, Tryz.ntmps21
  go_wp2_with fail
  refine (show Calls Tryz.prog 22 _ _ _ from HC.out).mono ?_
  clear HC
  obtain ⟨-, o1, b1, b2, hFN⟩ := HH.out
  obtain ⟨N, hN⟩ : ∃ N, N = w.heap.size := ⟨_, rfl⟩
  rw [← hN] at b1 b2 hFN ⊢
  have HN : Hid (N = w.heap.size) := hN
  clear HH hN hmf
  intro e w1 G
  rcases R with k | t
  · obtain ⟨rfl, o2⟩ := G
    have c1 : w1.heap[N]? = some (.cells #[.int .i64 0, .int .i64 0] 30) := (o2.block N (Array.getElem?_eq_some_iff.1 b1).1 (by omega)).trans b1
    have c2 : w1.heap[N + 1]? = some (.cells #[.int .i64 0] 31) := (o2.block (N + 1) (Array.getElem?_eq_some_iff.1 b2).1 (by omega)).trans b2
    have OO : Hid (Only (fun b => b = F) w w1 ∧ w1.heap[N]? = some (.cells #[.int .i64 0, .int .i64 0] 30) ∧ w1.heap[N + 1]? = some (.cells #[.int .i64 0] 31)) := ⟨(o1.mono (bs' := fun b => b = F) (fun _ _ g => g.elim)).trans o2 (fun _ _ e => e), c1, c2⟩
    clear o1 o2 b1 b2 hFN c1 c2
    unfold gupE
    go_wp2
    refine leaves_cons (f := 33) (args := #[.pointer (some ⟨N, 0, none⟩), .pointer (some ⟨N + 1, 0, none⟩)]) (by simp) (by simp [go_sem]) ?_
    refine (ecaught_own N (N + 1) _ _ _ _ k [] _ OO.out.2.1 OO.out.2.2 (by omega)).mono ?_
    rintro ex u' w'' ⟨rfl, rfl, g⟩
    exact ⟨_, results_ef2 rfl _ _ N (N + 1) g.out.1 g.out.2.1 g.out.2.2.1 rfl rfl, rfl, OO.out.1.trans g.out.2.2.2 (fun b hb e => by have := HN.out; omega)⟩
  · obtain ⟨rfl, G⟩ := G
    obtain ⟨g1, o2⟩ := G.out
    have c1 : w1.heap[N]? = some (.cells #[.int .i64 0, .int .i64 0] 30) := (o2.block N (Array.getElem?_eq_some_iff.1 b1).1 (by omega)).trans b1
    have c2 : w1.heap[N + 1]? = some (.cells #[.int .i64 0] 31) := (o2.block (N + 1) (Array.getElem?_eq_some_iff.1 b2).1 (by omega)).trans b2
    obtain ⟨m0, m1, f0, f1⟩ := wr2_cell c1
    obtain ⟨V, hV⟩ : ∃ V, V = (w1.setCell ⟨N, 0, none⟩ (.int .i64 (t.tk : Int))).setCell ⟨N, 1, none⟩ (.int .i64 (t.st.length : Int)) := ⟨_, rfl⟩
    have Q := fset2 c1 (.int .i64 (t.tk : Int)) (.int .i64 (t.st.length : Int))
    rw [← hV] at Q
    have d2 : V.heap[N + 1]? = some (.cells #[.int .i64 0] 31) := by
      rw [hV, heap_setCell_other _ _ _ _ (by simp only; omega), heap_setCell_other _ _ _ _ (by simp only; omega)]; exact c2
    have e0 : V.cell? ⟨N + 1, 0, none⟩ = some (.int .i64 0) := (vblk_cells d2 0).trans rfl
    have ef : V.frozen? ⟨N + 1, 0, none⟩ = false := eblk_froz d2 0
    have OV : Only (fun b => b = F) w V := by
      have hn := HN.out
      rw [hV]
      exact (((o1.mono (bs' := fun b => b = F) (fun _ _ g => g.elim)).trans o2 (fun _ _ e => e)).setCell _ _ (fun g => by simp only at g; omega)).setCell _ _ (fun g => by simp only at g; omega)
    have ne0 : ∀ j, (V.setCell ⟨N + 1, 0, none⟩ (.int .i64 0)).cell? ⟨N, j, none⟩ = V.cell? ⟨N, j, none⟩ := fun j => World.cell?_setCell_other _ _ _ _ (by intro h; injection h with h; omega)
    have OO : Hid ((V.setCell ⟨N + 1, 0, none⟩ (.int .i64 0)).cell? ⟨N, 0, none⟩ = some (.int .i64 (t.tk : Int)) ∧ (V.setCell ⟨N + 1, 0, none⟩ (.int .i64 0)).cell? ⟨N, 1, none⟩ = some (.int .i64 (t.st.length : Int)) ∧ (V.setCell ⟨N + 1, 0, none⟩ (.int .i64 0)).cell? ⟨N + 1, 0, none⟩ = some (.int .i64 0) ∧ Only (fun b => b = F) w (V.setCell ⟨N + 1, 0, none⟩ (.int .i64 0))) :=
      ⟨(ne0 0).trans Q.1, (ne0 1).trans Q.2, World.cell?_setCell_same' _ _ _ (by rw [e0]; rfl), OV.setCell _ _ (fun g => by have hn := HN.out; simp only at g; omega)⟩
    rw [hV] at e0 ef OO
    clear G g1 o1 o2 b1 b2 hFN c1 c2 Q d2 OV ne0 hV V
    go_wp2
    refine leaves_cons (f := 33) (args := #[.pointer (some ⟨N, 0, none⟩), .pointer (some ⟨N + 1, 0, none⟩)]) (by simp) (by simp [go_sem]) ?_
    refine (ecaught_idle _ _ _).mono ?_
    rintro ex u' w'' ⟨rfl, rfl, rfl⟩
    exact ⟨_, results_ef2 rfl _ _ N (N + 1) OO.out.1 OO.out.2.1 OO.out.2.2.1 rfl rfl, rfl, OO.out.2.2.2⟩
end Go.Proofs.YtodbkihobgdpdaaGreatDoor
namespace Go.Proofs.YtodbkihobgdpdaaGreatDoor
open Go.RowKit Go.Lib
set_option linter.unusedSimpArgs false
set_option linter.unusedVariables false
/-- known words in memory, from the place ka on -/
def KnAt (w : World) (K : Nat → Prop) (kl : List (ByteArray × Int × Int)) (ka : Option Addr) : Prop := ∀ (j : Nat) (x : ByteArray × Int × Int), kl[j]? = some x → ∃ g q, ka = some ⟨g, q, none⟩ ∧ K g ∧ w.cell? ⟨g, q + j * 3, none⟩ = some (.string x.1) ∧ w.cell? ⟨g, q + j * 3 + 1, none⟩ = some (.int .i64 x.2.1) ∧ w.cell? ⟨g, q + j * 3 + 1 + 1, none⟩ = some (.int .i64 x.2.2)
theorem KnAt.only {w w' : World} {K bs : Nat → Prop} {kl : List (ByteArray × Int × Int)} {ka : Option Addr} (h : KnAt w K kl ka) (o : Only bs w w') (hb : ∀ b, K b → ¬ bs b) : KnAt w' K kl ka := fun j x hx => by
  obtain ⟨g, q, h1, h2, h3, h4, h5⟩ := h j x hx
  exact ⟨g, q, h1, h2, o.cell h3 (hb g h2), o.cell h4 (hb g h2), o.cell h5 (hb g h2)⟩
/-- are all effects such as words may have? -/
def alB9 (kl : List (ByteArray × Int × Int)) : Bool := kl.all fun x => bdB x.2.1 x.2.2
theorem alB9_take {kl : List (ByteArray × Int × Int)} {j : Nat} {x : ByteArray × Int × Int} (hx : kl[j]? = some x) (h : alB9 (kl.take j) = true) : alB9 (kl.take (j + 1)) = bdB x.2.1 x.2.2 := by
  unfold alB9 at *
  rw [List.take_add_one, hx, List.all_append, h]
  simp
theorem alB9_no {kl : List (ByteArray × Int × Int)} {j : Nat} {x : ByteArray × Int × Int} (hx : kl[j]? = some x) (h : bdB x.2.1 x.2.2 = false) : alB9 kl = false := by
  unfold alB9
  rw [List.all_eq_false]
  exact ⟨x, List.mem_of_getElem? hx, by simp [h]⟩
set_option maxRecDepth 100000 in
set_option maxHeartbeats 1000000 in
theorem allBounded_any {w : World} {K : Nat → Prop} {kl : List (ByteArray × Int × Int)} {ka : Option Addr} {kc : Nat} (h : KnAt w K kl ka) (hn : kl.length ≤ 4398046511104) : Calls Tryz.prog 19 #[.slice ka kl.length kc] w fun e w' => e = .returned (.bool (alB9 kl)) ∧ Only (fun _ => False) w w' := by
  have HB : Hid (∀ x y w1, Calls Tryz.prog 24 #[.agg #[.int .i64 x, .int .i64 y]] w1 fun e w' => e = .returned (.bool (bdB x y)) ∧ Only (fun _ => False) w1 w') := bounded_any
  obtain ⟨L, hL⟩ : ∃ L, L = kl.length := ⟨_, rfl⟩
  obtain ⟨R, hR⟩ : ∃ R, R = alB9 kl := ⟨_, rfl⟩
  rw [← hL, ← hR]
  have HH : Hid (KnAt w K kl ka ∧ L = kl.length ∧ L ≤ 4398046511104 ∧ R = alB9 kl) := ⟨h, hL, by omega, hR⟩
  clear h hn hL hR
  go_enter Tryz.func19, Tryz.ntmps19
  go_wp2
  go_loopw [7] (fun r7 wr => ∃ (j : Nat), r7 = .int .i64 (j : Int) ∧ j ≤ L ∧ Hid (alB9 (kl.take j) = true ∧ Only (fun _ => False) w wr)) (fun r7 _ => L - vuOf r7)
  case atStart => exact ⟨0, rfl, Nat.zero_le _, rfl, Only.refl _ _⟩
  case round =>
    obtain ⟨j, rfl, hj, HI⟩ := hrel
    obtain ⟨w1, hw1⟩ : ∃ w1, w1 = wr := ⟨_, rfl⟩
    rw [← hw1] at HI ⊢
    clear hw1
    obtain ⟨hk, hLl, hLb, hR⟩ := HH.out
    by_cases hjL : j < L
    · obtain ⟨x, hx⟩ : ∃ x, kl[j]? = some x := ⟨kl[j]'(by omega), List.getElem?_eq_getElem (by omega)⟩
      obtain ⟨g, q, rfl, hg, c0, c1, c2⟩ := (hk.only HI.out.2 (fun _ _ e => e)) j x hx
      have HX : Hid (kl[j]? = some x ∧ j < L) := ⟨hx, hjL⟩
      obtain ⟨nm, a, b⟩ := x
      have i1 : (j : Int) < (L : Int) := by omega
      have i0 : (0 : Int) ≤ (j : Int) := by omega
      have i4 : j ≤ 4398046511104 := by omega
      obtain ⟨Z, hZ⟩ : ∃ Z, Z = bdB a b := ⟨_, rfl⟩
      have HZ : Hid (Z = bdB a b) := hZ
      have HC : Hid (∀ w1, Calls Tryz.prog 24 #[.agg #[.int .i64 a, .int .i64 b]] w1 fun e w' => e = .returned (.bool Z) ∧ Only (fun _ => False) w1 w') := fun w1 => by rw [hZ]; exact HB.out a b w1
      simp only at c0 c1 c2
      clear hx hk hLl hLb hR hjL hj hg hZ
      go_wp2_with fail
      refine (show Calls Tryz.prog 24 _ _ _ from HC.out _).mono ?_
      rintro e w2 ⟨rfl, o2⟩
      have O2 : Hid (Only (fun _ => False) w w2) := (HI.out.2.alloc _).trans o2 (fun _ _ e => e)
      clear HC c0 c1 c2 o2
      cases Z with
      | true =>
        have HF : Hid (alB9 (kl.take (j + 1)) = true ∧ Only (fun _ => False) w w2) := ⟨(alB9_take HX.out.1 HI.out.1).trans HZ.out.symm, O2.out⟩
        clear HI O2
        go_wp2
        go_roundw
        case rel => exact ⟨j + 1, by go_num, by have := HX.out.2; omega, HF⟩
        case measure => simp only [vuOf]; have := HX.out.2; omega
      | false =>
        have hR2 : R = false := by rw [HH.out.2.2.2]; exact alB9_no HX.out.1 HZ.out.symm
        clear HI HH
        subst hR2
        go_wp2
        go_ret
        exact ⟨rfl, O2.out⟩
    · obtain rfl : j = L := by omega
      have i1 : ¬ (j : Int) < (j : Int) := by omega
      have hR2 : R = true := by
        rw [hR]
        have := HI.out.1
        rwa [show kl.take j = kl from by rw [hLl]; exact List.take_length] at this
      have OO : Hid (Only (fun _ => False) w w1) := HI.out.2
      clear HI hk hLl hLb hR hjL hj HH
      subst hR2
      go_wp2
      go_ret
      exact ⟨rfl, OO.out⟩
end Go.Proofs.YtodbkihobgdpdaaGreatDoor
