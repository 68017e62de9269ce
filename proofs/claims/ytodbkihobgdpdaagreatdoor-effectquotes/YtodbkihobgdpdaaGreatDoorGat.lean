/- EffectQuotes: the walk. -/
import Derived.Test.YtodbkihobgdpdaaGreatDoorGas
namespace Go.Proofs.YtodbkihobgdpdaaGreatDoor
open Go.RowKit Go.Lib
set_option linter.unusedSimpArgs false
set_option linter.unusedVariables false
theorem oF_le (d : Nat) (l : List Vt) : (oF d l []).1 ≤ 16 ∧ (oF d l []).2.1 ≤ 16 := by
  unfold oF
  split
  · unfold whE
    cases thrE (fun s => fsF s []) 4097 l ⟨4096, [], 0⟩ with
    | error e => exact ⟨Nat.zero_le _, Nat.zero_le _⟩
    | ok t =>
      simp only [bdE]
      split
      · rename_i h
        exact h
      · exact ⟨Nat.zero_le _, Nat.zero_le _⟩
  · exact ⟨Nat.zero_le _, Nat.zero_le _⟩
/-- the tree that the law measures, in memory -/
theorem mq_at {D L N : Nat} {l : List Vt} {al : Option Addr} {cl : Nat} {w w1 : World} {T : TypeId} (h : VsAt w (fun _ => True) (D + 1) l (.slice al L cl)) (hL : L = l.length) (o : Only (fun _ => False) w w1) (hN : N = w1.heap.size) :
    VsAt (w1.alloc (.cells #[.int .i64 5, .int .i64 0, .string ⟨#[]⟩, .slice al L cl, .int .i64 7, .int .i64 0, .string ⟨#[99, 97, 108, 108]⟩, .slice none 0 0] T)) (fun _ => True) (D + 2) (mqT l).l (.slice (some ⟨N, 0, none⟩) 2 2) := by
  have hb := valloc_at w1 (.cells #[.int .i64 5, .int .i64 0, .string ⟨#[]⟩, .slice al L cl, .int .i64 7, .int .i64 0, .string ⟨#[99, 97, 108, 108]⟩, .slice none 0 0] T) N hN
  have hv := h.only (o.alloc (.cells #[.int .i64 5, .int .i64 0, .string ⟨#[]⟩, .slice al L cl, .int .i64 7, .int .i64 0, .string ⟨#[99, 97, 108, 108]⟩, .slice none 0 0] T))
  refine ⟨_, _, rfl, Nat.le_refl _, fun j x hx => ?_⟩
  match j, hx with
  | 0, hx => injection hx with hx; subst hx; exact ⟨_, _, _, rfl, trivial, ⟨vblk_cells hb 0, vblk_cells hb 1, vblk_cells hb 2, vblk_cells hb 3⟩, hv⟩
  | 1, hx => injection hx with hx; subst hx; exact ⟨_, _, _, rfl, trivial, ⟨vblk_cells hb 4, vblk_cells hb 5, vblk_cells hb 6, vblk_cells hb 7⟩, none, 0, rfl, Nat.le_refl _, fun j x hx => by simp at hx⟩
set_option maxRecDepth 100000 in
set_option maxHeartbeats 8000000 in
theorem equotes_walk {D : Nat} {l m : List Vt} {al am : Option Addr} {cl cm : Nat} {w : World} (h : VsAt w (fun _ => True) (D + 1) l (.slice al l.length cl)) (h' : VsAt w (fun _ => True) (D + 1) m (.slice am m.length cm)) (hl : l.length ≤ 2513169434900) (hl' : m.length ≤ 2513169434900) (hs : ∀ y ∈ l, SmT D y) (hs' : ∀ y ∈ m, SmT D y) (hT : Tb w) :
    Calls Tryz.prog 4 #[.slice al l.length cl, .slice am m.length cm] w fun e w' => e = .returned (.bool true) ∧ Only (fun _ => False) w w' := by
  have HA : Hid (∀ w, Calls Tryz.prog 6 #[] w fun e w' => e = .returned (.bool true) ∧ Only (fun _ => False) w w') := awake_any
  obtain ⟨L, hL⟩ : ∃ L, L = l.length := ⟨_, rfl⟩
  obtain ⟨M, hM⟩ : ∃ M, M = m.length := ⟨_, rfl⟩
  rw [← hL] at h ⊢
  rw [← hM] at h' ⊢
  have HQ : Hid (∀ w1, Only (fun _ => False) w w1 → Calls Tryz.prog 11 #[.agg #[.int .i64 5, .int .i64 0, .string ⟨#[]⟩, .slice al L cl]] w1 (IqP D l w1)) := fun w1 o => quotOf_any hL (h.only o) hl hs
  have HR : Hid (∀ w1, Only (fun _ => False) w w1 → Calls Tryz.prog 11 #[.agg #[.int .i64 5, .int .i64 0, .string ⟨#[]⟩, .slice am M cm]] w1 (IqP D m w1)) := fun w1 o => quotOf_any hM (h'.only o) hl' hs'
  have HIt : Hid (∀ w1, Only (fun _ => False) w w1 → Calls Tryz.prog 8 #[.slice al L cl] w1 (ItS D l L w1)) := fun w1 o => itemsOf_sh hL (h.only o) hl hs
  have HO : Hid (∀ (w1 : World) (k : List Vt) (ao : Option Addr) (cap n d : Nat), (∃ S, QsAt w1 S d k ao ∧ ∀ b, S b → b < w1.heap.size) → n = k.length → n ≤ cap → SmL k → Only (fun _ => False) w w1 → Calls Tryz.prog 9 #[.slice ao n cap, .slice none 0 0] w1 (OfP (oF d k []) w1)) := fun w1 k ao cap n d ⟨S, q1, q2⟩ hn hc hsm o1 => by
    subst hn
    exact of_any (kl := []) (ka := none) (K := fun _ => True) (kc := 0) q1 hc hsm q2 (kn_nil _ _) (Nat.zero_le _) (fun x hx => by cases hx) (hT.frame o1)
  have HH : Hid (VsAt w (fun _ => True) (D + 1) l (.slice al L cl) ∧ L = l.length ∧ M = m.length ∧ l.length ≤ 2513169434900 ∧ m.length ≤ 2513169434900 ∧ (∀ y ∈ l, SmT D y) ∧ (∀ y ∈ m, SmT D y)) := ⟨h, hL, hM, hl, hl', hs, hs'⟩
  clear h h' hl hl' hs hs' hT hL hM
  go_enter Tryz.func4, Tryz.ntmps4
  go_wp2_with fail
  refine (show Calls Tryz.prog 6 _ _ _ from HA.out _).mono ?_
  rintro e w1 ⟨rfl, o1⟩
  have O1 : Hid (Only (fun _ => False) w w1) := o1
  clear HA o1
  go_wp2_with fail
  refine (show Calls Tryz.prog 11 _ _ _ from HQ.out _ O1.out).mono ?_
  rintro e w2 ⟨vq, rfl, G2⟩
  have O2 : Hid (Only (fun _ => False) w w2) := O1.out.trans G2.out.2 (fun _ _ e => e)
  have Q2 : Hid (∃ S, TiAt w2 S (2 * D + 4) true (qT (l.map (nm D true))) (.iface 70 (.agg #[vq])) ∧ ∀ b, S b → b < w2.heap.size) := G2.out.1
  clear HQ O1 G2
  go_wp2_with fail
  refine (show Calls Tryz.prog 11 _ _ _ from HR.out _ O2.out).mono ?_
  rintro e w3 ⟨vr, rfl, G3⟩
  have O3 : Hid (Only (fun _ => False) w w3 ∧ Only (fun _ => False) w2 w3) := ⟨O2.out.trans G3.out.2 (fun _ _ e => e), G3.out.2⟩
  have R3 : Hid (∃ S, TiAt w3 S (2 * D + 4) true (qT (m.map (nm D true))) (.iface 70 (.agg #[vr])) ∧ ∀ b, S b → b < w3.heap.size) := G3.out.1
  clear HR O2 G3
  go_wp2_with fail
  refine (show Calls Tryz.prog 8 _ _ _ from HIt.out _ O3.out.1).mono ?_
  rintro e w4 ⟨ao, cap, rfl, G4⟩
  have O4 : Hid (Only (fun _ => False) w w4 ∧ Only (fun _ => False) w3 w4) := ⟨O3.out.1.trans G4.out.2.2.1 (fun _ _ e => e), G4.out.2.2.1⟩
  have HC : Hid _ := HO.out w4 (l.map (nm D true)) ao cap L (2 * D + 2) G4.out.2.1 (by rw [List.length_map]; exact HH.out.2.1) G4.out.1 (items_sm HH.out.2.2.2.1 HH.out.2.2.2.2.2.1) O4.out.1
  obtain ⟨r1, hr1⟩ : ∃ r, r = oF (2 * D + 2) (l.map (nm D true)) [] := ⟨_, rfl⟩
  rw [← hr1] at HC
  have HR1 : Hid (r1 = oF (2 * D + 2) (l.map (nm D true)) []) := hr1
  clear HIt G4 hr1
  go_wp2_with fail
  refine (show Calls Tryz.prog 9 _ _ _ from HC.out).mono ?_
  rintro e w5 ⟨rfl, o5⟩
  have O5 : Hid (Only (fun _ => False) w w5 ∧ Only (fun _ => False) w3 w5) := ⟨O4.out.1.trans o5 (fun _ _ e => e), O4.out.2.trans o5 (fun _ _ e => e)⟩
  clear HC O4 o5
  have HQC : Hid (QcB (sdB (2 * D + 4 + 1) (qT [qT (l.map (nm D true)), caT nCall])) r1 (oF (2 * D + 4) [qT (l.map (nm D true)), caT nCall] []) (oF (2 * D + 4) [qT (l.map (nm D true)), caT nDip] [])) := by
    rw [HR1.out]
    exact qc_of (e := D) (fun x hx => by obtain ⟨y, hy, rfl⟩ := List.mem_map.1 hx; exact nm_lf D true y (HH.out.2.2.2.2.2.1 y hy)) (by omega) (by omega) (by omega)
  obtain ⟨r2, hr2⟩ : ∃ r, r = oF (2 * D + 4) [qT (l.map (nm D true)), caT nCall] [] := ⟨_, rfl⟩
  obtain ⟨r3, hr3⟩ : ∃ r, r = oF (2 * D + 4) [qT (l.map (nm D true)), caT nDip] [] := ⟨_, rfl⟩
  rw [← hr2, ← hr3] at HQC
  have HR2 : Hid (r2 = oF (2 * D + 4) [qT (l.map (nm D true)), caT nCall] []) := hr2
  have HR3 : Hid (r3 = oF (2 * D + 4) [qT (l.map (nm D true)), caT nDip] []) := hr3
  clear hr2 hr3
  obtain ⟨i1, p1, z1⟩ := r1
  obtain ⟨i2, p2, z2⟩ := r2
  dsimp only
  obtain ⟨W5, hW5⟩ : ∃ W, W = w5.alloc (.cells #[.int .i64 (i1 : Int), .int .i64 (p1 : Int)] 30) := ⟨_, rfl⟩
  have OW5 : Hid (Only (fun _ => False) w5 W5) := by rw [hW5]; exact (Only.refl _ w5).alloc _
  have X5 : Hid (W5.heap[w5.heap.size]? = some (.cells #[.int .i64 (i1 : Int), .int .i64 (p1 : Int)] 30) ∧ W5.heap.size = w5.heap.size + 1) := by rw [hW5]; exact ⟨valloc_at _ _ _ rfl, by simp⟩
  go_wp2_with fail
  rw [← hW5]
  rw [← X5.out.2]
  have HC : Hid _ := HO.out (W5.alloc (.cells #[.iface 70 (.agg #[vq]), .iface 40 (.agg #[.string ⟨#[99, 97, 108, 108]⟩])] 37)) [qT (l.map (nm D true)), caT nCall] _ 2 2 (2 * D + 4) (row2 (d := 2 * D + 3) Q2.out ((O3.out.2.trans O5.out.2 (fun _ _ e => e)).trans OW5.out (fun _ _ e => e))) rfl (Nat.le_refl _) (sml2 (items_sm HH.out.2.2.2.1 HH.out.2.2.2.2.2.1) (cl_small cl_call)) ((O5.out.1.trans OW5.out (fun _ _ e => e)).alloc _)
  rw [← HR2.out] at HC
  refine (show Calls Tryz.prog 9 _ _ _ from HC.out).mono ?_
  rintro e w6 ⟨rfl, o6⟩
  have O6 : Hid (Only (fun _ => False) w w6 ∧ Only (fun _ => False) w3 w6 ∧ Only (fun _ => False) W5 w6) := ⟨((O5.out.1.trans OW5.out (fun _ _ e => e)).alloc _).trans o6 (fun _ _ e => e), ((O5.out.2.trans OW5.out (fun _ _ e => e)).alloc _).trans o6 (fun _ _ e => e), ((Only.refl _ W5).alloc _).trans o6 (fun _ _ e => e)⟩
  have X6 : Hid (w6.heap[w5.heap.size]? = some (.cells #[.int .i64 (i1 : Int), .int .i64 (p1 : Int)] 30)) := (O6.out.2.2.block _ (by have := X5.out.2; omega) (fun g => g)).trans X5.out.1
  clear HC o6 O5 OW5 X5
  dsimp only
  by_cases c1 : z1 = 0
  · subst c1
    have HS : Hid (∀ w1, Only (fun _ => False) w w1 → ∀ T, ∀ N, N = w1.heap.size → Calls Tryz.prog 12 #[.agg #[.int .i64 5, .int .i64 0, .string ⟨#[]⟩, .slice (some ⟨N, 0, none⟩) 2 2], .int .i64 1024, .int .i64 0] (w1.alloc (.cells #[.int .i64 5, .int .i64 0, .string ⟨#[]⟩, .slice al L cl, .int .i64 7, .int .i64 0, .string ⟨#[99, 97, 108, 108]⟩, .slice none 0 0] T)) (mP (mz (D + 2) (mqT l) 1024 0) (w1.alloc (.cells #[.int .i64 5, .int .i64 0, .string ⟨#[]⟩, .slice al L cl, .int .i64 7, .int .i64 0, .string ⟨#[99, 97, 108, 108]⟩, .slice none 0 0] T)))) := by
      intro w1 o T N hN
      have hsd : (l.map (nm D true)).all (okD D true) = true := by
        have e0 : (oF (2 * D + 2) (l.map (nm D true)) []).2.2 = 0 := by rw [← HR1.out]
        by_cases hq : sdB (2 * D + 2 + 1) (qT (l.map (nm D true))) = true
        · exact ((sd_q (e := D) (fun x hx => by obtain ⟨y, hy, rfl⟩ := List.mem_map.1 hx; exact nm_lf D true y (HH.out.2.2.2.2.2.1 y hy)) (by omega)).1 hq).1
        · rw [oF_no hq] at e0
          exact absurd (show (1 : Int) = 0 from e0) (by omega)
      exact dz_any (D + 2) (mqT l) _ _ (fun _ => True) 1024 0 (mq_at HH.out.1 HH.out.2.1 o hN) ⟨D + 2, mq_sm HH.out.2.2.2.1 HH.out.2.2.2.2.2.1 hsd⟩ (by omega) (by omega) (by omega) (by omega)
    obtain ⟨W6, hW6⟩ : ∃ W, W = w6.alloc (.cells #[.int .i64 (i2 : Int), .int .i64 (p2 : Int)] 30) := ⟨_, rfl⟩
    have OW6 : Hid (Only (fun _ => False) w W6 ∧ Only (fun _ => False) w3 W6) := by rw [hW6]; exact ⟨O6.out.1.alloc _, O6.out.2.1.alloc _⟩
    have Y6 : Hid (W6.heap[w5.heap.size]? = some (.cells #[.int .i64 (i1 : Int), .int .i64 (p1 : Int)] 30) ∧ W6.heap[w6.heap.size]? = some (.cells #[.int .i64 (i2 : Int), .int .i64 (p2 : Int)] 30) ∧ W6.heap.size = w6.heap.size + 1) := by rw [hW6]; exact ⟨alloc_old X6.out, valloc_at _ _ _ rfl, by simp⟩
    obtain ⟨N1, hN1⟩ : ∃ N, N = w5.heap.size := ⟨_, rfl⟩
    obtain ⟨N2, hN2⟩ : ∃ N, N = w6.heap.size := ⟨_, rfl⟩
    rw [← hN1, ← hN2] at Y6
    by_cases c2 : z2 = 0
    · subst c2
      obtain ⟨q1, q2, q3⟩ := HQC.out.2.2 rfl rfl
      dsimp only at q1 q2
      subst q1 q2
      subst hW6 hN1 hN2
      have b0 := vblk_cells Y6.out.1 0
      have b1 := vblk_cells Y6.out.1 1
      have d0 := vblk_cells Y6.out.2.1 0
      have d1 := vblk_cells Y6.out.2.1 1
      have x0 := vblk_cells X6.out 0
      have x1 := vblk_cells X6.out 1
      simp only [List.getElem?_toArray, List.getElem?_cons_zero, List.getElem?_cons_succ] at b0 b1 d0 d1 x0 x1
      obtain ⟨i3, p3, z3⟩ := r3
      dsimp only at q3
      have HQ3 : Hid ((z3 = 0 ∧ i3 = i2 + 1 ∧ p3 = p2 + 1) ∨ z3 = 11) := q3
      have HB : i2 ≤ 16 ∧ p2 ≤ 16 := by
        have := oF_le (2 * D + 4) [qT (l.map (nm D true)), caT nCall]
        rw [← HR2.out] at this
        exact this
      have HBB : Hid (i2 ≤ 16 ∧ p2 ≤ 16) := HB
      have HC : Hid _ := HO.out ((w6.alloc (.cells #[.int .i64 (i2 : Int), .int .i64 (p2 : Int)] 30)).alloc (.cells #[.iface 70 (.agg #[vq]), .iface 40 (.agg #[.string ⟨#[100, 105, 112]⟩])] 37)) [qT (l.map (nm D true)), caT nDip] _ 2 2 (2 * D + 4) (row2 (d := 2 * D + 3) Q2.out (O3.out.2.trans OW6.out.2 (fun _ _ e => e))) rfl (Nat.le_refl _) (sml2 (items_sm HH.out.2.2.2.1 HH.out.2.2.2.2.2.1) (cl_small cl_dip)) (OW6.out.1.alloc _)
      rw [← HR3.out, Y6.out.2.2] at HC
      clear q3 HB HQC HS HR1
      go_wp2_with fail
      refine (show Calls Tryz.prog 9 _ _ _ from HC.out).mono ?_
      rintro e w7 ⟨rfl, o7⟩
      have O7 : Hid (Only (fun _ => False) w w7 ∧ Only (fun _ => False) w3 w7 ∧ Only (fun _ => False) w6 w7) := ⟨(OW6.out.1.alloc _).trans o7 (fun _ _ e => e), (OW6.out.2.alloc _).trans o7 (fun _ _ e => e), (((Only.refl _ w6).alloc _).alloc _).trans o7 (fun _ _ e => e)⟩
      have X7 : Hid (w7.heap[w5.heap.size]? = some (.cells #[.int .i64 (i2 : Int), .int .i64 (p2 : Int)] 30)) := (O7.out.2.2.block _ (Array.getElem?_eq_some_iff.1 X6.out).1 (fun g => g)).trans X6.out
      clear HC o7 b0 b1 d0 d1 x0 x1 OW6 Y6 O6 X6
      dsimp only
      obtain ⟨j3, hj3⟩ : ∃ j : Int, j = (i3 : Int) := ⟨_, rfl⟩
      obtain ⟨k3, hk3⟩ : ∃ j : Int, j = (p3 : Int) := ⟨_, rfl⟩
      rw [← hj3, ← hk3]
      have HQ4 : Hid ((z3 = 0 ∧ j3 = (i2 : Int) + 1 ∧ k3 = (p2 : Int) + 1) ∨ z3 = 11) := by
        rcases HQ3.out with ⟨g1, g2, g3⟩ | g
        · exact .inl ⟨g1, by omega, by omega⟩
        · exact .inr g
      clear HQ3 hj3 hk3 HR3
      have HX8 : Hid (((w7.alloc (.cells #[.int .i64 j3, .int .i64 k3] 30)).heap[w5.heap.size]? = some (.cells #[.int .i64 (i2 : Int), .int .i64 (p2 : Int)] 30)) ∧ ((w7.alloc (.cells #[.int .i64 j3, .int .i64 k3] 30)).heap[w7.heap.size]? = some (.cells #[.int .i64 j3, .int .i64 k3] 30))) := ⟨alloc_old X7.out, valloc_at _ _ _ rfl⟩
      have b0 := vblk_cells HX8.out.1 0
      have b1 := vblk_cells HX8.out.1 1
      have d0 := vblk_cells HX8.out.2 0
      have d1 := vblk_cells HX8.out.2 1
      simp only [List.getElem?_toArray, List.getElem?_cons_zero, List.getElem?_cons_succ] at b0 b1 d0 d1
      obtain ⟨r4, hr4⟩ : ∃ r, r = oF (2 * D + 4) [qT (l.map (nm D true)), qT (m.map (nm D true)), caT nIf] [] := ⟨_, rfl⟩
      obtain ⟨r5, hr5⟩ : ∃ r, r = oF (2 * D + 4) [qT (m.map (nm D true)), qT (l.map (nm D true)), caT nIf] [] := ⟨_, rfl⟩
      have hqi := qi_of (e := D) (d1 := 2 * D + 4) (d2 := 2 * D + 4) (L := l.map (nm D true)) (M := m.map (nm D true)) (fun x hx => by obtain ⟨y, hy, rfl⟩ := List.mem_map.1 hx; exact nm_lf D true y (HH.out.2.2.2.2.2.1 y hy)) (fun x hx => by obtain ⟨y, hy, rfl⟩ := List.mem_map.1 hx; exact nm_lf D true y (HH.out.2.2.2.2.2.2 y hy)) (by omega) (by omega)
      rw [← hr4, ← hr5] at hqi
      obtain ⟨i4, p4, z4⟩ := r4
      obtain ⟨i5, p5, z5⟩ := r5
      obtain ⟨g1, g2, g3⟩ := hqi
      dsimp only at g1 g2 g3
      subst g2 g3
      have HQI : Hid (z4 = 0 ↔ z5 = 0) := g1
      have HR4 : Hid _ := hr4
      have HR5 : Hid _ := hr5
      clear hr4 hr5 g1
      rcases HQ4.out with ⟨rfl, rfl, rfl⟩ | rfl
      · have hi := HBB.out.1
        have hp := HBB.out.2
        have hi' : (i2 : Int) ≤ 16 := by omega
        have hp' : (p2 : Int) ≤ 16 := by omega
        go_wp2_with fail
        have HC : Hid _ := HO.out ((w7.alloc (.cells #[.int .i64 ((i2 : Int) + 1), .int .i64 ((p2 : Int) + 1)] 30)).alloc (.cells #[.iface 70 (.agg #[vq]), .iface 70 (.agg #[vr]), .iface 40 (.agg #[.string ⟨#[105, 102]⟩])] 37)) [qT (l.map (nm D true)), qT (m.map (nm D true)), caT nIf] _ 3 3 (2 * D + 4) (row3 (d := 2 * D + 3) Q2.out ((O3.out.2.trans O7.out.2.1 (fun _ _ e => e)).alloc _) R3.out (O7.out.2.1.alloc _)) rfl (Nat.le_refl _) (sml3 (items_sm HH.out.2.2.2.1 HH.out.2.2.2.2.2.1) (items_sm HH.out.2.2.2.2.1 HH.out.2.2.2.2.2.2) (cl_small cl_if)) ((O7.out.1.alloc _).alloc _)
        rw [← HR4.out, show (w7.alloc (.cells #[.int .i64 ((i2 : Int) + 1), .int .i64 ((p2 : Int) + 1)] 30)).heap.size = w7.heap.size + 1 by simp] at HC
        refine (show Calls Tryz.prog 9 _ _ _ from HC.out).mono ?_
        rintro e w8 ⟨rfl, o8⟩
        have O8 : Hid (Only (fun _ => False) w w8 ∧ Only (fun _ => False) w3 w8) := ⟨((O7.out.1.alloc _).alloc _).trans o8 (fun _ _ e => e), ((O7.out.2.1.alloc _).alloc _).trans o8 (fun _ _ e => e)⟩
        clear HC o8 b0 b1 d0 d1 O7 HX8 X7 HBB HQ4
        dsimp only
        have HC : Hid _ := HO.out ((w8.alloc (.cells #[.int .i64 (i4 : Int), .int .i64 (p4 : Int)] 30)).alloc (.cells #[.iface 70 (.agg #[vr]), .iface 70 (.agg #[vq]), .iface 40 (.agg #[.string ⟨#[105, 102]⟩])] 37)) [qT (m.map (nm D true)), qT (l.map (nm D true)), caT nIf] _ 3 3 (2 * D + 4) (row3 (d := 2 * D + 3) R3.out (O8.out.2.alloc _) Q2.out ((O3.out.2.trans O8.out.2 (fun _ _ e => e)).alloc _)) rfl (Nat.le_refl _) (sml3 (items_sm HH.out.2.2.2.2.1 HH.out.2.2.2.2.2.2) (items_sm HH.out.2.2.2.1 HH.out.2.2.2.2.2.1) (cl_small cl_if)) ((O8.out.1.alloc _).alloc _)
        rw [← HR5.out, show (w8.alloc (.cells #[.int .i64 (i4 : Int), .int .i64 (p4 : Int)] 30)).heap.size = w8.heap.size + 1 by simp] at HC
        have X8 : Hid ((w8.alloc (.cells #[.int .i64 (i4 : Int), .int .i64 (p4 : Int)] 30)).heap[w8.heap.size]? = some (.cells #[.int .i64 (i4 : Int), .int .i64 (p4 : Int)] 30)) := valloc_at _ _ _ rfl
        go_wp2_with fail
        refine (show Calls Tryz.prog 9 _ _ _ from HC.out).mono ?_
        rintro e w9 ⟨rfl, o9⟩
        have O9 : Hid (Only (fun _ => False) w w9) := ((O8.out.1.alloc _).alloc _).trans o9 (fun _ _ e => e)
        have X9 : Hid (w9.heap[w8.heap.size]? = some (.cells #[.int .i64 (i4 : Int), .int .i64 (p4 : Int)] 30)) := ((((Only.refl (fun _ => False) (w8.alloc (.cells #[.int .i64 (i4 : Int), .int .i64 (p4 : Int)] 30))).alloc _).trans o9 (fun _ _ e => e)).block _ (by simp) (fun g => g)).trans X8.out
        clear HC o9 X8 O8 Q2 R3 O3 HO
        dsimp only
        have HXA : Hid ((w9.alloc (.cells #[.int .i64 (i4 : Int), .int .i64 (p4 : Int)] 30)).heap[w8.heap.size]? = some (.cells #[.int .i64 (i4 : Int), .int .i64 (p4 : Int)] 30) ∧ (w9.alloc (.cells #[.int .i64 (i4 : Int), .int .i64 (p4 : Int)] 30)).heap[w9.heap.size]? = some (.cells #[.int .i64 (i4 : Int), .int .i64 (p4 : Int)] 30)) := ⟨alloc_old X9.out, valloc_at _ _ _ rfl⟩
        have b0 := vblk_cells HXA.out.1 0
        have b1 := vblk_cells HXA.out.1 1
        have d0 := vblk_cells HXA.out.2 0
        have d1 := vblk_cells HXA.out.2 1
        simp only [List.getElem?_toArray, List.getElem?_cons_zero, List.getElem?_cons_succ] at b0 b1 d0 d1
        by_cases c4 : z4 = 0
        · have c5 := HQI.out.1 c4
          subst c4 c5
          go_wp2
          go_ret
          exact ⟨rfl, O9.out.alloc _⟩
        · have c5 : ¬ z5 = 0 := fun g => c4 (HQI.out.2 g)
          have f4 : (z4 == 0) = false := by simp [c4]
          have f5 : (z5 == 0) = false := by simp [c5]
          go_wp2
          go_ret
          exact ⟨rfl, O9.out.alloc _⟩
      · go_wp2_with fail
        have HC : Hid _ := HO.out ((w7.alloc (.cells #[.int .i64 j3, .int .i64 k3] 30)).alloc (.cells #[.iface 70 (.agg #[vq]), .iface 70 (.agg #[vr]), .iface 40 (.agg #[.string ⟨#[105, 102]⟩])] 37)) [qT (l.map (nm D true)), qT (m.map (nm D true)), caT nIf] _ 3 3 (2 * D + 4) (row3 (d := 2 * D + 3) Q2.out ((O3.out.2.trans O7.out.2.1 (fun _ _ e => e)).alloc _) R3.out (O7.out.2.1.alloc _)) rfl (Nat.le_refl _) (sml3 (items_sm HH.out.2.2.2.1 HH.out.2.2.2.2.2.1) (items_sm HH.out.2.2.2.2.1 HH.out.2.2.2.2.2.2) (cl_small cl_if)) ((O7.out.1.alloc _).alloc _)
        rw [← HR4.out, show (w7.alloc (.cells #[.int .i64 j3, .int .i64 k3] 30)).heap.size = w7.heap.size + 1 by simp] at HC
        refine (show Calls Tryz.prog 9 _ _ _ from HC.out).mono ?_
        rintro e w8 ⟨rfl, o8⟩
        have O8 : Hid (Only (fun _ => False) w w8 ∧ Only (fun _ => False) w3 w8) := ⟨((O7.out.1.alloc _).alloc _).trans o8 (fun _ _ e => e), ((O7.out.2.1.alloc _).alloc _).trans o8 (fun _ _ e => e)⟩
        clear HC o8 b0 b1 d0 d1 O7 HX8 X7 HBB HQ4
        dsimp only
        have HC : Hid _ := HO.out ((w8.alloc (.cells #[.int .i64 (i4 : Int), .int .i64 (p4 : Int)] 30)).alloc (.cells #[.iface 70 (.agg #[vr]), .iface 70 (.agg #[vq]), .iface 40 (.agg #[.string ⟨#[105, 102]⟩])] 37)) [qT (m.map (nm D true)), qT (l.map (nm D true)), caT nIf] _ 3 3 (2 * D + 4) (row3 (d := 2 * D + 3) R3.out (O8.out.2.alloc _) Q2.out ((O3.out.2.trans O8.out.2 (fun _ _ e => e)).alloc _)) rfl (Nat.le_refl _) (sml3 (items_sm HH.out.2.2.2.2.1 HH.out.2.2.2.2.2.2) (items_sm HH.out.2.2.2.1 HH.out.2.2.2.2.2.1) (cl_small cl_if)) ((O8.out.1.alloc _).alloc _)
        rw [← HR5.out, show (w8.alloc (.cells #[.int .i64 (i4 : Int), .int .i64 (p4 : Int)] 30)).heap.size = w8.heap.size + 1 by simp] at HC
        have X8 : Hid ((w8.alloc (.cells #[.int .i64 (i4 : Int), .int .i64 (p4 : Int)] 30)).heap[w8.heap.size]? = some (.cells #[.int .i64 (i4 : Int), .int .i64 (p4 : Int)] 30)) := valloc_at _ _ _ rfl
        go_wp2_with fail
        refine (show Calls Tryz.prog 9 _ _ _ from HC.out).mono ?_
        rintro e w9 ⟨rfl, o9⟩
        have O9 : Hid (Only (fun _ => False) w w9) := ((O8.out.1.alloc _).alloc _).trans o9 (fun _ _ e => e)
        have X9 : Hid (w9.heap[w8.heap.size]? = some (.cells #[.int .i64 (i4 : Int), .int .i64 (p4 : Int)] 30)) := ((((Only.refl (fun _ => False) (w8.alloc (.cells #[.int .i64 (i4 : Int), .int .i64 (p4 : Int)] 30))).alloc _).trans o9 (fun _ _ e => e)).block _ (by simp) (fun g => g)).trans X8.out
        clear HC o9 X8 O8 Q2 R3 O3 HO
        dsimp only
        have HXA : Hid ((w9.alloc (.cells #[.int .i64 (i4 : Int), .int .i64 (p4 : Int)] 30)).heap[w8.heap.size]? = some (.cells #[.int .i64 (i4 : Int), .int .i64 (p4 : Int)] 30) ∧ (w9.alloc (.cells #[.int .i64 (i4 : Int), .int .i64 (p4 : Int)] 30)).heap[w9.heap.size]? = some (.cells #[.int .i64 (i4 : Int), .int .i64 (p4 : Int)] 30)) := ⟨alloc_old X9.out, valloc_at _ _ _ rfl⟩
        have b0 := vblk_cells HXA.out.1 0
        have b1 := vblk_cells HXA.out.1 1
        have d0 := vblk_cells HXA.out.2 0
        have d1 := vblk_cells HXA.out.2 1
        simp only [List.getElem?_toArray, List.getElem?_cons_zero, List.getElem?_cons_succ] at b0 b1 d0 d1
        by_cases c4 : z4 = 0
        · have c5 := HQI.out.1 c4
          subst c4 c5
          go_wp2
          go_ret
          exact ⟨rfl, O9.out.alloc _⟩
        · have c5 : ¬ z5 = 0 := fun g => c4 (HQI.out.2 g)
          have f4 : (z4 == 0) = false := by simp [c4]
          have f5 : (z5 == 0) = false := by simp [c5]
          go_wp2
          go_ret
          exact ⟨rfl, O9.out.alloc _⟩
    · have e2 : (z2 != 0) = true := by simp [c2]
      have q := HQC.out.2.1 rfl c2
      have hsd := mq_sd (D := D) (F := 2 * D + 4 + 1) (l := l) HH.out.2.2.2.2.2.1 (by omega)
      have HM : Hid _ := HS.out W6 OW6.out.1 26 (N2 + 1) Y6.out.2.2.symm
      obtain ⟨r, hr⟩ : ∃ r, r = mz (D + 2) (mqT l) 1024 0 := ⟨_, rfl⟩
      rw [← hr] at HM hsd
      obtain ⟨ra, rb, ok⟩ := r
      dsimp only at hsd q
      rw [← hsd] at q
      subst hW6 hN2
      clear hr hsd HS HQC
      rcases q with ⟨rfl, rfl⟩ | rfl
      · go_wp2_with fail
        refine (show Calls Tryz.prog 12 _ _ _ from HM.out).mono ?_
        rintro e w7 ⟨rfl, o7⟩
        have O7 : Hid (Only (fun _ => False) w w7) := (OW6.out.1.alloc _).trans o7 (fun _ _ e => e)
        clear HM o7
        go_wp2
        go_ret
        exact ⟨rfl, O7.out⟩
      · go_wp2_with fail
        refine (show Calls Tryz.prog 12 _ _ _ from HM.out).mono ?_
        rintro e w7 ⟨rfl, o7⟩
        have O7 : Hid (Only (fun _ => False) w w7) := (OW6.out.1.alloc _).trans o7 (fun _ _ e => e)
        clear HM o7
        cases ok with
        | false =>
          go_wp2
          go_ret
          exact ⟨rfl, O7.out⟩
        | true =>
          go_wp2
          go_ret
          exact ⟨rfl, O7.out⟩
  · have e1 : (z1 != 0) = true := by simp [c1]
    have hz2 : z2 ≠ 0 := HQC.out.1 c1
    have e2 : (z2 != 0) = true := by simp [hz2]
    go_wp2
    go_ret
    exact ⟨rfl, O6.out.1.alloc _⟩
end Go.Proofs.YtodbkihobgdpdaaGreatDoor
