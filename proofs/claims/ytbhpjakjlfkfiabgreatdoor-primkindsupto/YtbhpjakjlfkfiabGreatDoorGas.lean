/- PrimKinds: the law's walk. How a tree that is handed in lies in memory. -/
import Derived.Test.YtbhpjakjlfkfiabGreatDoorGap
import Derived.Test.YtbhpjakjlfkfiabGreatDoorGaq
import Derived.Test.YtbhpjakjlfkfiabGreatDoorGar
import Derived.Test.YtbhpjakjlfkfiabGreatDoorGaa
import Derived.Deep.Slices
import Derived.Deep.MidRow
import Derived.ChangeArms
import Derived.ChangeMaps5
namespace Go.Proofs.YtbhpjakjlfkfiabGreatDoor
open Go.RowKit Go.Lib
set_option linter.unusedSimpArgs false
set_option linter.unusedVariables false
set_option maxRecDepth 100000 in
theorem same_gen {D E : Nat} {la lb : List Vt} {a : Option Addr} {c : Nat} {vb : Value} {w : World} {S Sb : Nat → Prop} (ha : QiAt w S D false (.slice a la.length c) la) (hb : VsAt w Sb (E + 1) lb vb) (hl : la.length ≤ 1048576) (hl2 : lb.length ≤ 1048576) (hsm : ∀ x ∈ la, ∃ e, SmT e x) (hsm2 : ∀ x ∈ lb, ∃ e, SmT e x) (hnf : ∀ x ∈ la, ∃ e, NfT e x) : Calls Tryz.prog 13 #[.slice a la.length c, vb] w fun e w' => e = .returned (.bool (smL (saV (D + E)) la lb)) ∧ Only (fun _ => False) w w' := by
  obtain ⟨F, hF⟩ : ∃ F, F = D + E := ⟨_, rfl⟩
  have HT : Hid _ := utrees_of D (utrees_any (D + 1) D (by omega)).1 (.slice a la.length c) la w S ha hl hnf
  have HS : Hid (∀ w1 va, Only (fun _ => False) w w1 → (∃ S, VsAt w1 S (D + 1) la va) → Calls Tryz.prog 9 #[va, vb] w1 fun e w' => e = .returned (.bool (smL (saV F) la lb)) ∧ Only (fun _ => False) w1 w') := fun w1 va o1 ⟨S1, h1⟩ => by
    have := (dsame_all (F + 1)).1 la lb va vb w1 S1 Sb (h1.step (fun _ g => g) (fun _ _ _ g => g) (by omega)) ((hb.only o1).step (fun _ g => g) (fun _ _ _ g => g) (by omega)) hl hl2 hsm hsm2
    rw [show F + 1 - 1 = F by omega] at this
    exact this
  rw [← hF]
  obtain ⟨R, hR⟩ : ∃ R, R = smL (saV F) la lb := ⟨_, rfl⟩
  rw [← hR] at HS
  rw [← hR]
  obtain ⟨ab, cb, rfl⟩ := hb.form
  obtain ⟨L, hL⟩ : ∃ L, L = la.length := ⟨_, rfl⟩
  rw [← hL] at HT ⊢
  obtain ⟨n, hn⟩ : ∃ n, n = lb.length := ⟨_, rfl⟩
  rw [← hn] at HS ⊢
  clear ha hl hl2 hsm hsm2 hnf hL hF hb hn hR
  go_enter Tryz.func13, Tryz.ntmps13
  go_wp2_with fail
  refine (show Calls Tryz.prog 7 _ _ _ from HT.out).mono ?_
  rintro e w1 ⟨a1, c1, rfl, G1⟩
  have HV : Hid (∃ S, VsAt w1 S (D + 1) la (.slice a1 L c1)) := G1.out.1.vs
  have HO : Hid (Only (fun _ => False) w w1) := G1.out.2
  clear HT G1
  go_wp2_with fail
  refine (show Calls Tryz.prog 9 _ _ _ from HS.out _ _ HO.out HV.out).mono ?_
  rintro e w2 ⟨rfl, o2⟩
  have HO2 : Hid (Only (fun _ => False) w w2) := HO.out.trans o2 (fun _ _ g => g)
  clear o2 HS HV HO
  go_wp2
  go_ret
  exact ⟨rfl, HO2.out⟩
def pQ0 : Pr := ⟨⟨#[105, 110, 116, 63]⟩, [63], fun _ l => oneR (.ok (boT (kd (l.getD 0 zT) == 1)))⟩
theorem cQ0 : PrC pQ0 := ⟨wt_22, cy_md mn_22 (by kernel_rfl) (mh_intQ ho_intQ), by decide, by decide⟩
def pQ1 : Pr := ⟨⟨#[115, 116, 114, 63]⟩, [63], fun _ l => oneR (.ok (boT (kd (l.getD 0 zT) == 2)))⟩
theorem cQ1 : PrC pQ1 := ⟨wt_23, cy_md mn_23 (by kernel_rfl) (mh_strQ ho_strQ), by decide, by decide⟩
def pQ2 : Pr := ⟨⟨#[98, 111, 111, 108, 63]⟩, [63], fun _ l => oneR (.ok (boT (kd (l.getD 0 zT) == 4)))⟩
theorem cQ2 : PrC pQ2 := ⟨wt_24, cy_md mn_24 (by kernel_rfl) (mh_boolQ ho_boolQ), by decide, by decide⟩
def pQ3 : Pr := ⟨⟨#[108, 105, 115, 116, 63]⟩, [63], fun _ l => oneR (.ok (boT (kd (l.getD 0 zT) == 8)))⟩
theorem cQ3 : PrC pQ3 := ⟨wt_25, cy_md mn_25 (by kernel_rfl) (mh_listQ ho_listQ), by decide, by decide⟩
def pQ4 : Pr := ⟨⟨#[113, 117, 111, 116, 63]⟩, [63], fun _ l => oneR (.ok (boT (kd (l.getD 0 zT) == 16)))⟩
theorem cQ4 : PrC pQ4 := ⟨wt_26, cy_md mn_26 (by kernel_rfl) (mh_quotQ ho_quotQ), by decide, by decide⟩
def pQ5 : Pr := ⟨⟨#[98, 111, 120, 63]⟩, [63], fun _ l => oneR (.ok (boT (kd (l.getD 0 zT) == 32)))⟩
theorem cQ5 : PrC pQ5 := ⟨wt_27, cy_md mn_27 (by kernel_rfl) (mh_boxQ ho_boxQ), by decide, by decide⟩
def kq : List Pr := [pQ0, pQ1, pQ2, pQ3, pQ4, pQ5]
/-- is it of the kind at a place? -/
def hit (j : Nat) (z : Vt) : Bool := kd z == (2 : Int) ^ j
/-- how many of the first j kinds it is of -/
def cnt (z : Vt) : Nat → Nat
  | 0 => 0
  | j + 1 => cnt z j + (if hit j z then 1 else 0)
theorem sd_bo (d : Nat) (b : Bool) : sdB (d + 1) (boT b) = true := by
  show (alB (boT b) && decide (0 + (1 + 0) ≤ 1024) && decide (0 + 0 ≤ 32)) = true
  cases b <;> rfl
theorem sd_kd {D : Nat} {z : Vt} (h : sdB D z = true) : z.k = 1 ∨ z.k = 2 ∨ z.k = 3 ∨ z.k = 4 ∨ z.k = 5 ∨ z.k = 6 := by
  cases D with
  | zero => unfold sdB msB at h; simp [okV] at h
  | succ D =>
    unfold sdB msB at h
    simp only [Bool.and_eq_true] at h
    have h2 := ok_kind h.1.1
    exact h2
theorem sd_fb {D : Nat} {z : Vt} (h : sdB D z = true) : fb z 63 = true := by
  have h2 := sd_kd h
  rw [fb_63]
  simpa using h2
theorem do_q {D : Nat} {z : Vt} {p : Pr} {b : Bool} (hk : p.ks = [63]) (hc : p.cy D [z] = .ok [boT b]) : doR D p.ks p.cy [z] = if sdB D z then .ok [boT b] else .error 1 := by
  by_cases h : sdB D z = true
  · rw [if_pos h]
    refine doR_ok (ls := [boT b]) (by simp [h]) (by rw [hk]; exact Nat.le_refl _) ?_ ?_ (by simp [sd_bo]) ?_
    · rw [hk]
      show (fb z 63 && true) = true
      rw [sd_fb h]
      rfl
    · rw [hk]
      exact hc
    · rw [hk]
      rfl
  · rw [if_neg h]
    exact doR_form (by simpa using h)
theorem kq_all {j : Nat} {p : Pr} (h : kq[j]? = some p) : PrC p ∧ ∀ (D : Nat) (z : Vt), doR D p.ks p.cy [z] = if sdB D z then .ok [boT (hit j z)] else .error 1 := by
  have hj := (List.getElem?_eq_some_iff.1 h).1
  match j, hj with
  | 0, _ => simp [kq] at h; subst h; exact ⟨cQ0, fun D z => do_q rfl rfl⟩
  | 1, _ => simp [kq] at h; subst h; exact ⟨cQ1, fun D z => do_q rfl rfl⟩
  | 2, _ => simp [kq] at h; subst h; exact ⟨cQ2, fun D z => do_q rfl rfl⟩
  | 3, _ => simp [kq] at h; subst h; exact ⟨cQ3, fun D z => do_q rfl rfl⟩
  | 4, _ => simp [kq] at h; subst h; exact ⟨cQ4, fun D z => do_q rfl rfl⟩
  | 5, _ => simp [kq] at h; subst h; exact ⟨cQ5, fun D z => do_q rfl rfl⟩
theorem cnt_6 {D : Nat} {z : Vt} (h : sdB D z = true) : cnt z 6 = 1 := by
  have h2 := sd_kd h
  rcases kd_cases z with ⟨e, k⟩ | ⟨e, k⟩ | ⟨e, k⟩ | ⟨e, k⟩ | ⟨e, k⟩ | ⟨e, k⟩ | ⟨e, k⟩
  all_goals first
    | (simp only [cnt, hit, k]; rfl)
    | omega
theorem cnt_le (z : Vt) : ∀ j, cnt z j ≤ j
  | 0 => Nat.le_refl _
  | j + 1 => by
    have := cnt_le z j
    unfold cnt
    split <;> omega
theorem bo_row {W : World} {Q : Nat} (hc : W.cell? ⟨Q, 0, none⟩ = some (.int .i64 3) ∧ W.cell? ⟨Q, 1, none⟩ = some (.int .i64 1) ∧ W.cell? ⟨Q, 2, none⟩ = some (.string ⟨#[]⟩) ∧ W.cell? ⟨Q, 3, none⟩ = some (.slice none 0 0)) : VsAt W (fun b => b = Q) 2 [boT true] (.slice (some ⟨Q, 0, none⟩) 1 1) :=
  ⟨_, _, rfl, by simp, fun j y hy => by
      have hj : j = 0 := by have := (List.getElem?_eq_some_iff.1 hy).1; simp at this; exact this
      subst hj
      simp at hy
      subst hy
      exact ⟨Q, 0, _, rfl, rfl, hc, ⟨none, 0, rfl, Nat.zero_le _, fun i x hx => by simp [boT] at hx⟩⟩⟩
theorem bo_same (F : Nat) (b : Bool) : smL (saV (F + 1)) [boT b] [boT true] = b := by
  cases b <;> rfl
theorem bo_nf' (b : Bool) : ∃ e, NfT e (boT b) := by
  refine ⟨1, Nat.zero_le _, ?_, ?_, rfl, fun x hx => by cases hx⟩
  · cases b
    · exact ⟨(by decide : (-9223372036854775808 : Int) ≤ 0), (by decide : (0 : Int) ≤ 9223372036854775807)⟩
    · exact ⟨(by decide : (-9223372036854775808 : Int) ≤ 1), (by decide : (1 : Int) ≤ 9223372036854775807)⟩
  · cases b <;> rfl
theorem ds_up' {d : Nat} {t : Vt} (h : LfT d t) (e : Nat) (he : d ≤ e) : dsB e t = dsB d t := by
  have h1 := ds_sd (h.mono he) (Nat.le_refl (2 * e + 1))
  have h2 := ds_sd h (show 2 * d + 1 ≤ 2 * e + 1 by omega)
  rw [← h1, h2]
/-- one value in a new row -/
theorem qi_one {W : World} {Q D : Nat} {S : Nat → Prop} {x : Vt} {u : Value} (hc : W.cell? ⟨Q, 0, none⟩ = some u) (ht : TiAt W S D false x u) : PsAt W (fun b => S b ∨ b = Q) D false [x] (some ⟨Q, 0, none⟩) := fun j y hy => by
  have hj : j = 0 := by have := (List.getElem?_eq_some_iff.1 hy).1; simp at this; exact this
  subst hj
  simp at hy
  subst hy
  exact ⟨Q, 0, u, rfl, .inr rfl, hc, ht.step (fun _ g => .inl g) (fun _ _ _ g => g) (Nat.le_refl _)⟩
/-- where the loop stands -/
def KdI (w4 wr : World) (SB : Bool) (z : Vt) (j n : Nat) : Prop := Only (fun _ => False) w4 wr ∧ n = if SB then cnt z j else 0
set_option maxRecDepth 100000 in
set_option maxHeartbeats 8000000 in
theorem kinds_walk {a : Vt} {va : Value} {d : Nat} {w : World} (ha : VsAt w (fun _ => True) d a.l va) (sa : SmT d a) (hT : Ty w) :
    Calls Tryz.prog 4 #[vV a.k a.n a.s va] w fun e w' => e = .returned (.bool true) ∧ Only (fun _ => False) w w' := by
  have HA : Hid (∀ w1, Only (fun _ => False) w w1 → Calls Tryz.prog 5 #[] w1 fun e w' => e = .returned (.bool true) ∧ Only (fun _ => False) w1 w') := fun w1 o => awake12 w1 (hT.frame o)
  have HV : Hid _ := value_calls ha sa
  have HT : Hid (Ty w) := hT
  obtain ⟨z, hz⟩ : ∃ z, z = nm d false a := ⟨_, rfl⟩
  have HZ : Hid (LfT d z ∧ SmT d z ∧ z = nm d false a ∧ SmT d a) := ⟨by rw [hz]; exact nm_lf d false a sa, by rw [hz]; exact nm_sm d false a sa, hz, sa⟩
  obtain ⟨aa, ca, rfl⟩ := ha.form
  have O0 : Hid (Only (fun _ => False) w w) := Only.refl _ _
  clear ha sa hT hz
  unfold vV
  obtain ⟨ka, hka⟩ : ∃ k, k = a.k := ⟨_, rfl⟩
  obtain ⟨na, hna⟩ : ∃ k, k = a.n := ⟨_, rfl⟩
  obtain ⟨ta, hta⟩ : ∃ k, k = a.s := ⟨_, rfl⟩
  obtain ⟨La, hLa⟩ : ∃ k, k = a.l.length := ⟨_, rfl⟩
  rw [← hka, ← hna, ← hta, ← hLa] at HV
  rw [← hka, ← hna, ← hta, ← hLa]
  clear hka hna hta hLa
  have HB : Hid (∀ w1 : World, Only (fun _ => False) (w.alloc (.cells #[.int .i64 ka, .int .i64 na, .string ta, .slice aa La ca] 40)) w1 → w1.heap[w.heap.size]? = some (.cells #[.int .i64 ka, .int .i64 na, .string ta, .slice aa La ca] 40) ∧ Only (fun _ => False) w w1) := fun w1 o1 => ⟨(o1.block w.heap.size (by simp) (fun h => h)).trans (valloc_at _ _ _ rfl), (O0.out.alloc _).trans o1 (fun _ _ g => g)⟩
  go_enter Tryz.func4, Tryz.ntmps4
  go_wp2_with fail
  refine (show Calls Tryz.prog 5 _ _ _ from HA.out _ (O0.out.alloc _)).mono ?_
  rintro e w1 ⟨rfl, o1⟩
  have O1 : Hid (Only (fun _ => False) w w1) := (HB.out w1 o1).2
  have hblk := (HB.out w1 o1).1
  have g0 := blk_cells hblk 0
  have g1 := blk_cells hblk 1
  have g2 := blk_cells hblk 2
  have g3 := blk_cells hblk 3
  clear HA o1 HB hblk
  go_wp2_with fail
  refine (show Calls Tryz.prog 10 _ _ _ from HV.out _ O1.out).mono ?_
  rintro e w3 ⟨v, rfl, G3⟩
  have O3 : Hid (Only (fun _ => False) w w3) := O1.out.trans G3.out.2 (fun _ _ g => g)
  have hsh : v = .nilIface ∨ ∃ T y, v = .iface T y := by
    obtain ⟨S, h1, h2⟩ := G3.out.1
    exact h1.shape2
  obtain ⟨SB, hSB⟩ : ∃ SB, SB = dsB d z := ⟨_, rfl⟩
  obtain ⟨kz, hkz⟩ : ∃ k, k = z.k := ⟨_, rfl⟩
  obtain ⟨nz, hnz⟩ : ∃ k, k = z.n := ⟨_, rfl⟩
  obtain ⟨tz, htz⟩ : ∃ k, k = z.s := ⟨_, rfl⟩
  obtain ⟨Lz, hLz⟩ : ∃ k, k = z.l.length := ⟨_, rfl⟩
  have HTr : Hid (∀ W, Only (fun _ => False) w3 W → Calls Tryz.prog 12 #[v] W fun e w' => ∃ ao cap, e = .returned (.agg #[.int .i64 kz, .int .i64 nz, .string tz, .slice ao Lz cap]) ∧ Hid ((∃ S, VsAt w' S (2 * d + 1) z.l (.slice ao Lz cap)) ∧ Only (fun _ => False) W w')) := fun W o => by
    refine (tree_calls G3.out.1 HZ.out.2.2.2 W ⟨_, o, fun _ _ g => g⟩).mono fun e w' g => ?_
    obtain ⟨lv, he, g⟩ := g
    obtain ⟨⟨ao, cap, hlv⟩, ⟨S, hv, _⟩, o2⟩ := g.out
    rw [← HZ.out.2.2.1, ← hkz, ← hnz, ← htz] at he
    rw [← HZ.out.2.2.1] at hlv hv
    rw [← hLz] at hlv
    subst hlv
    exact ⟨ao, cap, he, ⟨⟨S, hv⟩, o2⟩⟩
  have HSo : Hid (∀ W ao cap, (∃ S, VsAt W S (2 * d + 1) z.l (.slice ao Lz cap)) → Calls Tryz.prog 11 #[.agg #[.int .i64 kz, .int .i64 nz, .string tz, .slice ao Lz cap]] W fun e w' => e = .returned (.bool SB) ∧ Only (fun _ => False) W w') := fun W ao cap ⟨S, hv⟩ => by
    rw [hSB, ← ds_up' HZ.out.1 (2 * d + 1) (by omega), hkz, hnz, htz]
    exact dsound_any hv ⟨d, HZ.out.2.1⟩
  have HDo : Hid (∀ (W : World) (Q j : Nat) (p : Pr), kq[j]? = some p → Only (fun _ => False) w3 W → W.cell? ⟨Q, 0, none⟩ = some v → Calls Tryz.prog 8 #[.string p.name, .slice (some ⟨Q, 0, none⟩) 1 1] W fun e w' => DoP (if SB then .ok [boT (hit j z)] else .error 1) (2 * d + 1 + 2) 1 W e w') := fun W Q j p hp o hc => by
    obtain ⟨S, h1, h2⟩ := G3.out.1
    rw [← HZ.out.2.2.1] at h1
    have hps := qi_one (D := 2 * d + 1) hc (h1.only o (fun _ _ g => g))
    have hk := kq_all hp
    have hsd : sdB (2 * d + 1) z = SB := by rw [hSB]; exact ds_sd HZ.out.1 (Nat.le_refl _)
    have := do_any (cap := 1) hk.1.wt hk.1.cy hk.1.one hk.1.few hps (fun b hb => by
      rcases hb with hb | rfl
      · exact Nat.lt_of_lt_of_le (h2 b hb).2 o.size
      · exact World.block_lt_of_cell? W _ hc) (fun x hx => by simp only [List.mem_cons, List.not_mem_nil, or_false] at hx; subst hx; exact ⟨d, HZ.out.2.1⟩) (by simp) (HT.out.1.frame (O3.out.trans o (fun _ _ g => g)))
    rw [hk.2, hsd] at this
    exact this
  have HSm : Hid (∀ (W w5 : World) (b : Bool) (ao : Option Addr) (cap Q : Nat), RiAt w5 0 37 (2 * d + 1 + 2) false (.slice ao 1 cap) [boT b] → Only (fun _ => False) w5 W → (W.cell? ⟨Q, 0, none⟩ = some (.int .i64 3) ∧ W.cell? ⟨Q, 1, none⟩ = some (.int .i64 1) ∧ W.cell? ⟨Q, 2, none⟩ = some (.string ⟨#[]⟩) ∧ W.cell? ⟨Q, 3, none⟩ = some (.slice none 0 0)) → Calls Tryz.prog 13 #[.slice ao 1 cap, .slice (some ⟨Q, 0, none⟩) 1 1] W fun e w' => e = .returned (.bool b) ∧ Only (fun _ => False) W w') := fun W w5 b ao cap Q hr o hc => by
    obtain ⟨S, h1, _⟩ := (RiAt.qi (l := [boT b]) hr)
    have := same_gen (la := [boT b]) (lb := [boT true]) (E := 1) (h1.step (fun _ g => g) (fun a u _ hc => o.cell hc (fun g => g)) (Nat.le_refl _)) (bo_row hc) (by simp) (by simp) (fun x hx => by simp only [List.mem_cons, List.not_mem_nil, or_false] at hx; subst hx; exact bo_sm b) (fun x hx => by simp only [List.mem_cons, List.not_mem_nil, or_false] at hx; subst hx; exact bo_sm true) (fun x hx => by simp only [List.mem_cons, List.not_mem_nil, or_false] at hx; subst hx; exact bo_nf' b)
    rw [bo_same] at this
    exact this
  have HC6 : Hid (SB = true → cnt z 6 = 1) := fun h => cnt_6 (D := 2 * d + 1) (by rw [ds_sd HZ.out.1 (Nat.le_refl _), ← hSB]; exact h)
  have HNm : Hid (∀ W, Only (fun _ => False) (w3.alloc (.cells (kq.map fun p => Value.string p.name).toArray 9)) W → ∀ (j : Nat) (p : Pr), kq[j]? = some p → W.cell? ⟨w3.heap.size, j, none⟩ = some (.string p.name)) := fun W o j p hp => o.cell (names_new kq 9 w3 j p hp) (fun g => g)
  have hkq : (kq.map fun p => Value.string p.name).toArray = #[.string ⟨#[105, 110, 116, 63]⟩, .string ⟨#[115, 116, 114, 63]⟩, .string ⟨#[98, 111, 111, 108, 63]⟩, .string ⟨#[108, 105, 115, 116, 63]⟩, .string ⟨#[113, 117, 111, 116, 63]⟩, .string ⟨#[98, 111, 120, 63]⟩] := rfl
  rw [hkq] at HNm
  obtain ⟨w4, hw4⟩ : ∃ w4, w4 = w3.alloc (.cells #[.string ⟨#[105, 110, 116, 63]⟩, .string ⟨#[115, 116, 114, 63]⟩, .string ⟨#[98, 111, 111, 108, 63]⟩, .string ⟨#[108, 105, 115, 116, 63]⟩, .string ⟨#[113, 117, 111, 116, 63]⟩, .string ⟨#[98, 111, 120, 63]⟩] 9) := ⟨_, rfl⟩
  have O4 : Hid (Only (fun _ => False) w3 w4) := by rw [hw4]; exact (Only.refl _ _).alloc _
  have HI0 : Hid (KdI w4 w4 SB z 0 0) := ⟨Only.refl _ _, by cases SB <;> rfl⟩
  clear G3 hSB hkz hnz htz hLz HV HZ g0 g1 g2 g3 hkq
  rcases hsh with rfl | ⟨T, y, rfl⟩
  · go_wp2
    rw [← hw4] at HNm
    try rw [← hw4]
    clear hw4
    go_loopw [6, 5] (fun r x wr => ∃ (j n : Nat), r = .int .i64 (j : Int) ∧ x = .int .i64 (n : Int) ∧ j ≤ 6 ∧ Hid (KdI w4 wr SB z j n)) (fun r _ _ => 6 - vuOf r)
    case atStart => exact ⟨0, 0, rfl, rfl, by omega, HI0⟩
    case round =>
      obtain ⟨j, n, rfl, rfl, hj, HI⟩ := hrel
      obtain ⟨w5, hw5⟩ : ∃ w5, w5 = wr := ⟨_, rfl⟩
      rw [← hw5] at HI ⊢
      clear hw5 HI0
      by_cases hj6 : j < 6
      · obtain ⟨p, hp⟩ : ∃ p, kq[j]? = some p := ⟨_, List.getElem?_eq_getElem (show j < kq.length from hj6)⟩
        have hcell := HNm.out w5 HI.out.1 j p hp
        have HD : Hid (∀ (W : World) (Q : Nat), Only (fun _ => False) w5 W → W.cell? ⟨Q, 0, none⟩ = some (.nilIface) → Calls Tryz.prog 8 #[.string p.name, .slice (some ⟨Q, 0, none⟩) 1 1] W fun e w' => DoP (if SB then .ok [boT (hit j z)] else .error 1) (2 * d + 1 + 2) 1 W e w') := fun W Q o hc => HDo.out W Q j p hp ((O4.out.trans HI.out.1 (fun _ _ g => g)).trans o (fun _ _ g => g)) hc
        obtain ⟨name, hname⟩ : ∃ name, name = p.name := ⟨_, rfl⟩
        rw [← hname] at HD hcell
        have i1 : (j : Int) < 6 := by omega
        have i0 : (0 : Int) ≤ (j : Int) := by omega
        have hn6 : n ≤ 6 := by
          have h1 := HI.out.2
          have h2 := cnt_le z j
          rw [h1]
          split <;> omega
        have HO5 : Hid (Only (fun _ => False) w5 w5) := Only.refl _ _
        clear hname hp
        cases SB with
        | false =>
          go_wp2_with fail
          refine (show Calls Tryz.prog 8 _ _ _ from HD.out _ _ (HO5.out.alloc _) (by simp [go_sem])).mono ?_
          rintro e w6 ⟨rfl, _, o6⟩
          have O6 : Hid (Only (fun _ => False) w5 w6) := (HO5.out.alloc _).trans o6 (fun _ _ g => g)
          clear o6 HD
          go_wp2_with fail
          refine (show Calls Tryz.prog 12 _ _ _ from HTr.out _ ((O4.out.trans HI.out.1 (fun _ _ g => g)).trans O6.out (fun _ _ g => g))).mono ?_
          rintro e w7 ⟨a7, c7, rfl, G7⟩
          go_wp2_with fail
          refine (show Calls Tryz.prog 11 _ _ _ from HSo.out _ _ _ G7.out.1).mono ?_
          rintro e w8 ⟨rfl, o8⟩
          have HI2 : Hid (KdI w4 w8 false z (j + 1) n) := ⟨((HI.out.1.trans O6.out (fun _ _ g => g)).trans G7.out.2 (fun _ _ g => g)).trans o8 (fun _ _ g => g), HI.out.2⟩
          clear G7 o8 O6
          go_wp2
          go_roundw
          case rel => exact ⟨j + 1, n, by go_num, rfl, by omega, HI2⟩
          case measure => simp only [vuOf]; omega
        | true =>
          go_wp2_with fail
          refine (show Calls Tryz.prog 8 _ _ _ from HD.out _ _ (HO5.out.alloc _) (by simp [go_sem])).mono ?_
          rintro e w6 ⟨a6, c6, rfl, G6⟩
          have O6 : Hid (Only (fun _ => False) w5 w6) := (HO5.out.alloc _).trans G6.out.2.1 (fun _ _ g => g)
          obtain ⟨b, hb⟩ : ∃ b, b = hit j z := ⟨_, rfl⟩
          have HS6 : Hid (∀ (W : World) (Q : Nat), Only (fun _ => False) w6 W → (W.cell? ⟨Q, 0, none⟩ = some (.int .i64 3) ∧ W.cell? ⟨Q, 1, none⟩ = some (.int .i64 1) ∧ W.cell? ⟨Q, 2, none⟩ = some (.string ⟨#[]⟩) ∧ W.cell? ⟨Q, 3, none⟩ = some (.slice none 0 0)) → Calls Tryz.prog 13 #[.slice a6 1 c6, .slice (some ⟨Q, 0, none⟩) 1 1] W fun e w' => e = .returned (.bool b) ∧ Only (fun _ => False) W w') := fun W Q o hc => by
            rw [hb]
            exact HSm.out W w6 (hit j z) a6 c6 Q (G6.out.1.lower (Nat.zero_le _)) o hc
          have HN2 : Hid (∀ wx, Only (fun _ => False) w4 wx → KdI w4 wx true z (j + 1) (n + if b then 1 else 0)) := fun wx o => ⟨o, by rw [HI.out.2, hb]; rfl⟩
          clear G6 HD hb
          simp only [List.length_cons, List.length_nil, Nat.zero_add]
          go_wp2_with fail
          refine (show Calls Tryz.prog 12 _ _ _ from HTr.out _ ((O4.out.trans HI.out.1 (fun _ _ g => g)).trans O6.out (fun _ _ g => g))).mono ?_
          rintro e w7 ⟨a7, c7, rfl, G7⟩
          go_wp2_with fail
          refine (show Calls Tryz.prog 11 _ _ _ from HSo.out _ _ _ G7.out.1).mono ?_
          rintro e w8 ⟨rfl, o8⟩
          have O8 : Hid (Only (fun _ => False) w6 w8) := G7.out.2.trans o8 (fun _ _ g => g)
          have OW : Hid (Only (fun _ => False) w4 w6) := HI.out.1.trans O6.out (fun _ _ g => g)
          clear G7 o8 O6
          go_wp2_with fail
          refine (show Calls Tryz.prog 13 _ _ _ from HS6.out _ _ (O8.out.alloc _) (by simp [go_sem])).mono ?_
          rintro e w9 ⟨rfl, o9⟩
          have HI2 : Hid (KdI w4 w9 true z (j + 1) (n + if b then 1 else 0)) := HN2.out _ ((OW.out.trans (O8.out.alloc _) (fun _ _ g => g)).trans o9 (fun _ _ g => g))
          clear o9 HS6 HN2 OW O8
          cases b
          · go_wp2
            go_roundw
            case rel => exact ⟨j + 1, n, by go_num, rfl, by omega, HI2⟩
            case measure => simp only [vuOf]; omega
          · go_wp2
            go_roundw
            case rel => exact ⟨j + 1, n + 1, by go_num, by go_num, by omega, HI2⟩
            case measure => simp only [vuOf]; omega
      · obtain rfl : j = 6 := by omega
        have OE : Hid (Only (fun _ => False) w w5 ∧ Only (fun _ => False) w3 w5) := ⟨(O3.out.trans O4.out (fun _ _ g => g)).trans HI.out.1 (fun _ _ g => g), O4.out.trans HI.out.1 (fun _ _ g => g)⟩
        have hn := HI.out.2
        cases SB with
        | false =>
          obtain rfl : n = 0 := hn
          clear hj6 hj HI HDo HSm HNm
          go_wp2_with fail
          refine (show Calls Tryz.prog 12 _ _ _ from HTr.out _ OE.out.2).mono ?_
          rintro e w7 ⟨a7, c7, rfl, G7⟩
          go_wp2_with fail
          refine (show Calls Tryz.prog 11 _ _ _ from HSo.out _ _ _ G7.out.1).mono ?_
          rintro e w8 ⟨rfl, o8⟩
          have O8 : Hid (Only (fun _ => False) w w8) := (OE.out.1.trans G7.out.2 (fun _ _ g => g)).trans o8 (fun _ _ g => g)
          clear G7 o8
          go_wp2
          go_ret
          exact ⟨rfl, O8.out⟩
        | true =>
          obtain rfl : n = 1 := by rw [hn]; exact HC6.out rfl
          clear hj6 hj HI HDo HSm HNm HTr HSo hn
          go_wp2
          go_ret
          exact ⟨rfl, OE.out.1⟩
  · go_wp2
    rw [← hw4] at HNm
    try rw [← hw4]
    clear hw4
    go_loopw [6, 5] (fun r x wr => ∃ (j n : Nat), r = .int .i64 (j : Int) ∧ x = .int .i64 (n : Int) ∧ j ≤ 6 ∧ Hid (KdI w4 wr SB z j n)) (fun r _ _ => 6 - vuOf r)
    case atStart => exact ⟨0, 0, rfl, rfl, by omega, HI0⟩
    case round =>
      obtain ⟨j, n, rfl, rfl, hj, HI⟩ := hrel
      obtain ⟨w5, hw5⟩ : ∃ w5, w5 = wr := ⟨_, rfl⟩
      rw [← hw5] at HI ⊢
      clear hw5 HI0
      by_cases hj6 : j < 6
      · obtain ⟨p, hp⟩ : ∃ p, kq[j]? = some p := ⟨_, List.getElem?_eq_getElem (show j < kq.length from hj6)⟩
        have hcell := HNm.out w5 HI.out.1 j p hp
        have HD : Hid (∀ (W : World) (Q : Nat), Only (fun _ => False) w5 W → W.cell? ⟨Q, 0, none⟩ = some (.iface T y) → Calls Tryz.prog 8 #[.string p.name, .slice (some ⟨Q, 0, none⟩) 1 1] W fun e w' => DoP (if SB then .ok [boT (hit j z)] else .error 1) (2 * d + 1 + 2) 1 W e w') := fun W Q o hc => HDo.out W Q j p hp ((O4.out.trans HI.out.1 (fun _ _ g => g)).trans o (fun _ _ g => g)) hc
        obtain ⟨name, hname⟩ : ∃ name, name = p.name := ⟨_, rfl⟩
        rw [← hname] at HD hcell
        have i1 : (j : Int) < 6 := by omega
        have i0 : (0 : Int) ≤ (j : Int) := by omega
        have hn6 : n ≤ 6 := by
          have h1 := HI.out.2
          have h2 := cnt_le z j
          rw [h1]
          split <;> omega
        have HO5 : Hid (Only (fun _ => False) w5 w5) := Only.refl _ _
        clear hname hp
        cases SB with
        | false =>
          go_wp2_with fail
          refine (show Calls Tryz.prog 8 _ _ _ from HD.out _ _ (HO5.out.alloc _) (by simp [go_sem])).mono ?_
          rintro e w6 ⟨rfl, _, o6⟩
          have O6 : Hid (Only (fun _ => False) w5 w6) := (HO5.out.alloc _).trans o6 (fun _ _ g => g)
          clear o6 HD
          go_wp2_with fail
          refine (show Calls Tryz.prog 12 _ _ _ from HTr.out _ ((O4.out.trans HI.out.1 (fun _ _ g => g)).trans O6.out (fun _ _ g => g))).mono ?_
          rintro e w7 ⟨a7, c7, rfl, G7⟩
          go_wp2_with fail
          refine (show Calls Tryz.prog 11 _ _ _ from HSo.out _ _ _ G7.out.1).mono ?_
          rintro e w8 ⟨rfl, o8⟩
          have HI2 : Hid (KdI w4 w8 false z (j + 1) n) := ⟨((HI.out.1.trans O6.out (fun _ _ g => g)).trans G7.out.2 (fun _ _ g => g)).trans o8 (fun _ _ g => g), HI.out.2⟩
          clear G7 o8 O6
          go_wp2
          go_roundw
          case rel => exact ⟨j + 1, n, by go_num, rfl, by omega, HI2⟩
          case measure => simp only [vuOf]; omega
        | true =>
          go_wp2_with fail
          refine (show Calls Tryz.prog 8 _ _ _ from HD.out _ _ (HO5.out.alloc _) (by simp [go_sem])).mono ?_
          rintro e w6 ⟨a6, c6, rfl, G6⟩
          have O6 : Hid (Only (fun _ => False) w5 w6) := (HO5.out.alloc _).trans G6.out.2.1 (fun _ _ g => g)
          obtain ⟨b, hb⟩ : ∃ b, b = hit j z := ⟨_, rfl⟩
          have HS6 : Hid (∀ (W : World) (Q : Nat), Only (fun _ => False) w6 W → (W.cell? ⟨Q, 0, none⟩ = some (.int .i64 3) ∧ W.cell? ⟨Q, 1, none⟩ = some (.int .i64 1) ∧ W.cell? ⟨Q, 2, none⟩ = some (.string ⟨#[]⟩) ∧ W.cell? ⟨Q, 3, none⟩ = some (.slice none 0 0)) → Calls Tryz.prog 13 #[.slice a6 1 c6, .slice (some ⟨Q, 0, none⟩) 1 1] W fun e w' => e = .returned (.bool b) ∧ Only (fun _ => False) W w') := fun W Q o hc => by
            rw [hb]
            exact HSm.out W w6 (hit j z) a6 c6 Q (G6.out.1.lower (Nat.zero_le _)) o hc
          have HN2 : Hid (∀ wx, Only (fun _ => False) w4 wx → KdI w4 wx true z (j + 1) (n + if b then 1 else 0)) := fun wx o => ⟨o, by rw [HI.out.2, hb]; rfl⟩
          clear G6 HD hb
          simp only [List.length_cons, List.length_nil, Nat.zero_add]
          go_wp2_with fail
          refine (show Calls Tryz.prog 12 _ _ _ from HTr.out _ ((O4.out.trans HI.out.1 (fun _ _ g => g)).trans O6.out (fun _ _ g => g))).mono ?_
          rintro e w7 ⟨a7, c7, rfl, G7⟩
          go_wp2_with fail
          refine (show Calls Tryz.prog 11 _ _ _ from HSo.out _ _ _ G7.out.1).mono ?_
          rintro e w8 ⟨rfl, o8⟩
          have O8 : Hid (Only (fun _ => False) w6 w8) := G7.out.2.trans o8 (fun _ _ g => g)
          have OW : Hid (Only (fun _ => False) w4 w6) := HI.out.1.trans O6.out (fun _ _ g => g)
          clear G7 o8 O6
          go_wp2_with fail
          refine (show Calls Tryz.prog 13 _ _ _ from HS6.out _ _ (O8.out.alloc _) (by simp [go_sem])).mono ?_
          rintro e w9 ⟨rfl, o9⟩
          have HI2 : Hid (KdI w4 w9 true z (j + 1) (n + if b then 1 else 0)) := HN2.out _ ((OW.out.trans (O8.out.alloc _) (fun _ _ g => g)).trans o9 (fun _ _ g => g))
          clear o9 HS6 HN2 OW O8
          cases b
          · go_wp2
            go_roundw
            case rel => exact ⟨j + 1, n, by go_num, rfl, by omega, HI2⟩
            case measure => simp only [vuOf]; omega
          · go_wp2
            go_roundw
            case rel => exact ⟨j + 1, n + 1, by go_num, by go_num, by omega, HI2⟩
            case measure => simp only [vuOf]; omega
      · obtain rfl : j = 6 := by omega
        have OE : Hid (Only (fun _ => False) w w5 ∧ Only (fun _ => False) w3 w5) := ⟨(O3.out.trans O4.out (fun _ _ g => g)).trans HI.out.1 (fun _ _ g => g), O4.out.trans HI.out.1 (fun _ _ g => g)⟩
        have hn := HI.out.2
        cases SB with
        | false =>
          obtain rfl : n = 0 := hn
          clear hj6 hj HI HDo HSm HNm
          go_wp2_with fail
          refine (show Calls Tryz.prog 12 _ _ _ from HTr.out _ OE.out.2).mono ?_
          rintro e w7 ⟨a7, c7, rfl, G7⟩
          go_wp2_with fail
          refine (show Calls Tryz.prog 11 _ _ _ from HSo.out _ _ _ G7.out.1).mono ?_
          rintro e w8 ⟨rfl, o8⟩
          have O8 : Hid (Only (fun _ => False) w w8) := (OE.out.1.trans G7.out.2 (fun _ _ g => g)).trans o8 (fun _ _ g => g)
          clear G7 o8
          go_wp2
          go_ret
          exact ⟨rfl, O8.out⟩
        | true =>
          obtain rfl : n = 1 := by rw [hn]; exact HC6.out rfl
          clear hj6 hj HI HDo HSm HNm HTr HSo hn
          go_wp2
          go_ret
          exact ⟨rfl, OE.out.1⟩
end Go.Proofs.YtbhpjakjlfkfiabGreatDoor
namespace Go.Proofs.YtbhpjakjlfkfiabGreatDoor
open Go.RowKit Go.ChangeShapes Go.WideShapes
set_option linter.unusedVariables false
set_option linter.unusedSimpArgs false
theorem vfour {α : Type} : ∀ (l : List α), l.length = 4 → ∃ a b c d, l = [a, b, c, d]
  | [a, b, c, d], _ => ⟨a, b, c, d, rfl⟩
theorem vexists_list {α : Type} : ∀ (len : Nat) (p : Nat → α → Prop), (∀ i, i < len → ∃ x, p i x) → ∃ l : List α, l.length = len ∧ ∀ i (h : i < l.length), p i l[i]
  | 0, _, _ => ⟨[], rfl, fun i h => by simp at h⟩
  | n + 1, p, hp => by
    obtain ⟨l, hl, hq⟩ := vexists_list n p (fun i hi => hp i (by omega))
    obtain ⟨x, hx⟩ := hp n (by omega)
    refine ⟨l ++ [x], by simp [hl], fun i hi => ?_⟩
    by_cases e : i < l.length
    · rw [List.getElem_append_left e]; exact hq i e
    · have : i = l.length := by simp at hi; omega
      subst this
      rw [List.getElem_append_right (by omega)]
      simpa [hl] using hx
theorem vuniform (q : Nat → Nat → Prop) (hm : ∀ i d d', d ≤ d' → q i d → q i d') : ∀ len, (∀ i, i < len → ∃ d, q i d) → ∃ D, ∀ i, i < len → q i D
  | 0, _ => ⟨0, fun i h => by omega⟩
  | n + 1, h => by
    obtain ⟨D, hD⟩ := vuniform q hm n (fun i hi => h i (by omega))
    obtain ⟨d, hd⟩ := h n (by omega)
    refine ⟨max D d, fun i hi => ?_⟩
    by_cases e : i < n
    · exact hm i D _ (by omega) (hD i e)
    · obtain rfl : i = n := by omega
      exact hm i d _ (by omega) hd
theorem vcellsI : Tryz.prog.cellsOf 3 = 1 := by kernel_rfl
theorem vcellsN : Tryz.prog.cellsOf 2 = 1 := by kernel_rfl
theorem vcellsS : Tryz.prog.cellsOf 9 = 1 := by kernel_rfl
theorem vcellsL : Tryz.prog.cellsOf 22 = 1 := by kernel_rfl
theorem vcellsV : Tryz.prog.cellsOf 40 = 4 := by kernel_rfl
section
variable {H : Type} {enc : TypeId × Value → H} {w : World} {base : Nat} {held : Bool}
theorem vcells_get {a : Addr} {n : Nat} {cs : List Value} (h : w.cells? base a n = some cs) : cs.length = n ∧ ∀ j v, cs[j]? = some v → w.cell? (a.add j) = some v := by
  unfold World.cells? at h
  split at h
  · refine ⟨by simpa using mapM_some_length h, fun j v hv => ?_⟩
    have hj : j < n := by
      have := (List.getElem?_eq_some_iff.1 hv).1
      have hl : cs.length = n := by simpa using mapM_some_length h
      omega
    have := mapM_some_get h j j (by simp [hj])
    rw [this]; exact hv
  · cases h
theorem vbulk_mem : ∀ (l : List (DataW H)) (d : DataW H), d ∈ l → Rows.uptoBulk d ≤ Rows.uptoBulkAll l
  | [], _, h => by cases h
  | a :: r, d, h => by
    simp only [Rows.uptoBulkAll]
    rcases List.mem_cons.1 h with rfl | h
    · omega
    · have := vbulk_mem r d h
      omega
theorem vbulk_pos (d : DataW H) : 0 < Rows.uptoBulk d := by
  rcases d with l | _ | _ | _ | _ | _ | _ | _ <;> try simp [Rows.uptoBulk]
  cases l <;> simp [Rows.uptoBulk]
theorem vbulk_len : ∀ (l : List (DataW H)), l.length ≤ Rows.uptoBulkAll l
  | [] => by simp [Rows.uptoBulkAll]
  | d :: r => by
    have := vbulk_len r
    have := vbulk_pos d
    simp only [Rows.uptoBulkAll, List.length_cons]
    omega
theorem vbounds {n : Int} (h : (Lit.int .i64 n).wf = true) : -9223372036854775808 ≤ n ∧ n ≤ 9223372036854775807 := by
  have := h
  simp only [Lit.wf, Bool.and_eq_true, decide_eq_true_eq] at this
  exact this
theorem read_v (fuel : Nat) : ∀ {cs : List Value} {x : DataW H × List MemPlace}, DataW.trod enc Tryz.prog w base (fun _ => true) held fuel 40 cs = some x → Rows.uptoBulk x.1 ≤ 1048576 → ∃ (t : Vt) (lv : Value) (d : Nat), cs = [.int .i64 t.k, .int .i64 t.n, .string t.s, lv] ∧ SmT d t ∧ VsAt w (fun _ => True) d t.l lv := by
  induction fuel using Nat.strongRecOn with
  | ind fuel ih =>
  intro cs x h hb
  obtain ⟨xs, n, hn, rfl, hl, hxl, hf⟩ := DataW.trod_struct Tryz.underlying40 h
  rw [vcellsV] at hl
  obtain ⟨c0, c1, c2, c3, rfl⟩ := vfour cs hl
  obtain ⟨y0, y1, y2, y3, rfl⟩ := vfour xs hxl
  have g0 : DataW.trod enc Tryz.prog w base (fun _ => true) held n 3 (([c0, c1, c2, c3].drop 0).take (Tryz.prog.cellsOf 3)) = some y0 := hf 0 _ rfl
  have g1 : DataW.trod enc Tryz.prog w base (fun _ => true) held n 2 (([c0, c1, c2, c3].drop 1).take (Tryz.prog.cellsOf 2)) = some y1 := hf 1 _ rfl
  have g2 : DataW.trod enc Tryz.prog w base (fun _ => true) held n 9 (([c0, c1, c2, c3].drop 2).take (Tryz.prog.cellsOf 9)) = some y2 := hf 2 _ rfl
  have g3 : DataW.trod enc Tryz.prog w base (fun _ => true) held n 22 (([c0, c1, c2, c3].drop 3).take (Tryz.prog.cellsOf 22)) = some y3 := hf 3 _ rfl
  rw [vcellsI] at g0
  rw [vcellsN] at g1
  rw [vcellsS] at g2
  rw [vcellsL] at g3
  simp only [List.drop_succ_cons, List.drop_zero, List.take_succ_cons, List.take_zero] at g0 g1 g2 g3
  obtain ⟨n0, e0, _, w0⟩ := DataW.trod_int Tryz.underlying3 g0
  obtain ⟨n1, e1, _, w1⟩ := DataW.trod_int Tryz.underlying2 g1
  obtain ⟨s, e2, hs2, _⟩ := DataW.trod_string Tryz.underlying9 g2
  simp only [List.cons.injEq, and_true] at e0 e1 e2
  subst e0 e1 e2
  simp only [List.map_cons, List.map_nil, Rows.uptoBulk, Rows.uptoBulkAll] at hb
  have hs : s.size ≤ 1048576 := by
    rw [hs2] at hb
    simp only [Rows.uptoBulk] at hb
    have : s.data.toList.length = s.size := Array.length_toList
    omega
  rcases DataW.trod_slice Tryz.underlying22 g3 with ⟨hcs, _⟩ | ⟨a, len, cap, elems, rest, m, hm, hcs, hx, _, hlc, _, hel, hget, _, _⟩
  · simp only [List.cons.injEq, and_true] at hcs
    subst hcs
    exact ⟨⟨n0, n1, s, []⟩, _, 1, rfl, ⟨(by dsimp only; omega), Nat.zero_le _, vbounds w0, vbounds w1, fun x hx => by cases hx⟩, none, 0, rfl, Nat.zero_le _, fun i x hx => by simp at hx⟩
  · simp only [List.cons.injEq, and_true] at hcs
    subst hcs
    have hb3 : Rows.uptoBulkAll (elems.map (·.1)) ≤ 1048576 := by
      rw [hx] at hb
      simp only [Rows.uptoBulk] at hb
      omega
    have hlen : len ≤ 1048576 := by
      have := vbulk_len (elems.map (·.1))
      simp at this
      omega
    obtain ⟨ts, htl, hts⟩ := vexists_list len (fun i (t : Vt) => ∃ lv d, (∀ j v, ([.int .i64 t.k, .int .i64 t.n, .string t.s, lv] : List Value)[j]? = some v → w.cell? (a.add (i * 4 + j)) = some v) ∧ SmT d t ∧ VsAt w (fun _ => True) d t.l lv) (fun i hi => by
      have h1 := hget i hi
      rw [vcellsV] at h1
      have hie : i < elems.length := by omega
      rw [List.getElem?_eq_getElem hie] at h1
      obtain ⟨cs', h2, h3⟩ := Option.bind_eq_some_iff.1 h1
      have hbi : Rows.uptoBulk (elems[i]).1 ≤ 1048576 := by
        have := vbulk_mem (elems.map (·.1)) (elems[i]).1 (List.mem_map.2 ⟨_, List.getElem_mem hie, rfl⟩)
        omega
      obtain ⟨t, lv, d, hc, q1, q2⟩ := ih m (by omega) h3 hbi
      refine ⟨t, lv, d, fun j v hv => ?_, q1, q2⟩
      rw [← hc] at hv
      rw [← Deep.add_add]
      exact (vcells_get h2).2 j v hv)
    obtain ⟨D, hD⟩ := vuniform (fun i d => ∀ (h : i < ts.length), ∃ lv, (∀ j v, ([.int .i64 ts[i].k, .int .i64 ts[i].n, .string ts[i].s, lv] : List Value)[j]? = some v → w.cell? (a.add (i * 4 + j)) = some v) ∧ SmT d ts[i] ∧ VsAt w (fun _ => True) d ts[i].l lv) (fun i d d' hd hq h => by
      obtain ⟨lv, q1, q2, q3⟩ := hq h
      exact ⟨lv, q1, q2.mono hd, q3.step (fun _ g => g) (fun _ _ _ g => g) hd⟩) ts.length (fun i hi => by
      obtain ⟨lv, d, q1, q2, q3⟩ := hts i hi
      exact ⟨d, fun _ => ⟨lv, q1, q2, q3⟩⟩)
    refine ⟨⟨n0, n1, s, ts⟩, _, D + 1, rfl, ⟨(by dsimp only; omega), by dsimp only; omega, vbounds w0, vbounds w1, fun x hx => ?_⟩, some a, cap, by dsimp only; rw [htl], by dsimp only; omega, fun i x hx => ?_⟩
    · obtain ⟨i, hi, rfl⟩ := List.getElem_of_mem hx
      obtain ⟨lv, q1, q2, q3⟩ := hD i hi hi
      exact q2
    · dsimp only at hx
      obtain ⟨hi, rfl⟩ := List.getElem?_eq_some_iff.1 hx
      obtain ⟨lv, q1, q2, q3⟩ := hD i hi hi
      have p0 := q1 0 _ rfl
      have p1 := q1 1 _ rfl
      have p2 := q1 2 _ rfl
      have p3 := q1 3 _ rfl
      have h0 : 0 < ts.length := by omega
      obtain ⟨lv0, z1, _, _⟩ := hD 0 h0 h0
      have hsp := World.cell?_spot (z1 0 _ rfl)
      obtain ⟨g, o, spot⟩ := a
      have hs0 : spot = none := by simpa [Addr.add] using hsp
      subst hs0
      rw [Addr.add_mid] at p0 p1 p2 p3
      exact ⟨g, o, lv, rfl, trivial, ⟨p0, by rw [Nat.add_assoc]; exact p1, by rw [Nat.add_assoc]; exact p2, by rw [Nat.add_assoc]; exact p3⟩, q3⟩
end
end Go.Proofs.YtbhpjakjlfkfiabGreatDoor
