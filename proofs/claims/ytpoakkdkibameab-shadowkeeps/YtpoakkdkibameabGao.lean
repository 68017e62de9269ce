/- The walk of ShadowKeeps. ShadowKeeps at every input. -/
import Derived.Test.YtpoakkdkibameabGan
namespace Go.Proofs.Ytpoakkdkibameab
open Go.RowKit Go.Maps Go.Shelf
set_option linter.unusedSimpArgs false
set_option linter.unusedVariables false
attribute [local go_sem] Oper.semAt_some

set_option maxRecDepth 100000 in
/-- An activation of ShadowKeeps at the head of its second loop, round r; ds: what it has deferred. -/
def RndAct (w : World) (bw Bs r : Nat) (ds : List Nat) (a : Act) : Prop :=
  ∃ f : Nat → Value, a = { tmps := #[f 0, f 1, f 2, f 3, f 4, f 5, f 6, f 7, f 8, .pointer (some ⟨w.heap.size, 0, none⟩), .pointer (some ⟨w.heap.size + 1, 0, none⟩), f 11, f 12, f 13, f 14, f 15, f 16, f 17, f 18, f 19, f 20, f 21, .pointer (some ⟨bw, 0, none⟩), f 23, .func (.func 42) #[] #[.pointer (some ⟨Bs, 0, none⟩)], .int .i64 (r : Nat), f 26, f 27, f 28, f 29, f 30, f 31, f 32, f 33, f 34, f 35, f 36, f 37, f 38, f 39, f 40, f 41, f 42, f 43, f 44, f 45, f 46, f 47, f 48, f 49, f 50, f 51, f 52, f 53, f 54, f 55, f 56, f 57, f 58, f 59, f 60, f 61, f 62, f 63, f 64, f 65, f 66, f 67, f 68, f 69, f 70, f 71, f 72, f 73, f 74, f 75, f 76, f 77, f 78, f 79, f 80, f 81, f 82, f 83, f 84, f 85, f 86, f 87, f 88, f 89, f 90, f 91, f 92, f 93, f 94, f 95, f 96, f 97, f 98, f 99, f 100, f 101, f 102, f 103, f 104, f 105, f 106, f 107, f 108, f 109, f 110, f 111, f 112, f 113, f 114, f 115, f 116, f 117, f 118, f 119, f 120, f 121, f 122, f 123, f 124, f 125, f 126, f 127, f 128, f 129, f 130, f 131, f 132, f 133, f 134, f 135, f 136, f 137, f 138, f 139, f 140, f 141, f 142, f 143, f 144, f 145, f 146, f 147, f 148, f 149, f 150, f 151, f 152, f 153, f 154, f 155, f 156, f 157, f 158, f 159, f 160, f 161, f 162, f 163, f 164, f 165, f 166, f 167, f 168, f 169, f 170, f 171, f 172, f 173], defers := ds.map fun D => { target := .collected D, args := #[] } }
set_option maxRecDepth 100000 in
theorem lit_slots (T : Array Value) (h : T.size = 174) (f : Nat → Value) (hf : ∀ j, j < 174 → f j = T.getD j undef) : T = #[f 0, f 1, f 2, f 3, f 4, f 5, f 6, f 7, f 8, f 9, f 10, f 11, f 12, f 13, f 14, f 15, f 16, f 17, f 18, f 19, f 20, f 21, f 22, f 23, f 24, f 25, f 26, f 27, f 28, f 29, f 30, f 31, f 32, f 33, f 34, f 35, f 36, f 37, f 38, f 39, f 40, f 41, f 42, f 43, f 44, f 45, f 46, f 47, f 48, f 49, f 50, f 51, f 52, f 53, f 54, f 55, f 56, f 57, f 58, f 59, f 60, f 61, f 62, f 63, f 64, f 65, f 66, f 67, f 68, f 69, f 70, f 71, f 72, f 73, f 74, f 75, f 76, f 77, f 78, f 79, f 80, f 81, f 82, f 83, f 84, f 85, f 86, f 87, f 88, f 89, f 90, f 91, f 92, f 93, f 94, f 95, f 96, f 97, f 98, f 99, f 100, f 101, f 102, f 103, f 104, f 105, f 106, f 107, f 108, f 109, f 110, f 111, f 112, f 113, f 114, f 115, f 116, f 117, f 118, f 119, f 120, f 121, f 122, f 123, f 124, f 125, f 126, f 127, f 128, f 129, f 130, f 131, f 132, f 133, f 134, f 135, f 136, f 137, f 138, f 139, f 140, f 141, f 142, f 143, f 144, f 145, f 146, f 147, f 148, f 149, f 150, f 151, f 152, f 153, f 154, f 155, f 156, f 157, f 158, f 159, f 160, f 161, f 162, f 163, f 164, f 165, f 166, f 167, f 168, f 169, f 170, f 171, f 172, f 173] := by
  have e : T = ((List.range 174).map f).toArray := by
    apply Array.ext
    · simp [h]
    · intro i h1 h2
      have hi : i < 174 := by rw [← h]; exact h1
      simp [hf i hi, Array.getD, h1]
  exact e.trans (by kernel_rfl)
set_option maxRecDepth 100000 in
theorem RndAct.of {w : World} {bw Bs r : Nat} {ds : List Nat} (a : Act) (h : a.tmps.size = 174) (h9 : a.tmps.getD 9 undef = .pointer (some ⟨w.heap.size, 0, none⟩)) (h10 : a.tmps.getD 10 undef = .pointer (some ⟨w.heap.size + 1, 0, none⟩)) (h22 : a.tmps.getD 22 undef = .pointer (some ⟨bw, 0, none⟩)) (h24 : a.tmps.getD 24 undef = .func (.func 42) #[] #[.pointer (some ⟨Bs, 0, none⟩)]) (h25 : a.tmps.getD 25 undef = .int .i64 (r : Nat)) (hd : a.defers = ds.map fun D => { target := .collected D, args := #[] }) : RndAct w bw Bs r ds a := by
  obtain ⟨T, d⟩ := a
  simp only at h h9 h10 h22 h24 h25 hd
  obtain ⟨f, hf⟩ : ∃ f : Nat → Value, f = fun j => T.getD j undef := ⟨_, rfl⟩
  have e := lit_slots T h f (fun j _ => by rw [hf])
  have g9 : f 9 = .pointer (some ⟨w.heap.size, 0, none⟩) := by rw [hf]; exact h9
  have g10 : f 10 = .pointer (some ⟨w.heap.size + 1, 0, none⟩) := by rw [hf]; exact h10
  have g22 : f 22 = .pointer (some ⟨bw, 0, none⟩) := by rw [hf]; exact h22
  have g24 : f 24 = .func (.func 42) #[] #[.pointer (some ⟨Bs, 0, none⟩)] := by rw [hf]; exact h24
  have g25 : f 25 = .int .i64 (r : Nat) := by rw [hf]; exact h25
  refine ⟨f, ?_⟩
  rw [g9, g10, g22, g24, g25] at e
  rw [e, hd]
/-- What stands at the head of the loop. -/
structure RndAt (w : World) (zs : List Int) (Bs Pb : Nat) (sv : Value) (bw : Nat) (aw : Option Addr) (cw : Nat) (cut : Int) (r : Nat) (ds : List Nat) (W : World) : Prop where
  kp : KpAt w W zs Bs Pb sv bw aw cw cut
  few : r ≤ 2
  len : ds.length = r
  def_ : ∀ D ∈ ds, W.heap[D]? = some (.deferred (some []))
  nod : ds.Nodup
  up : ∀ D ∈ ds, w.heap.size + 2 ≤ D
set_option maxRecDepth 100000 in
set_option maxHeartbeats 4000000 in
theorem keeps_walk (n i cut : Int) (v1 vd : Value) (os : List OpS) (D : List Nat) (w : World) (hsc : ScriptAt w v1 os) (hd : BytesAt w vd D) (hi : 0 ≤ i ∧ i < 728) (hD : D.length ≤ 116) :
    CallsIn Fence.wide 7 Try.prog 3 #[.int .i64 n, v1, .int .i64 i, vd, .int .i64 cut] w fun e w' => e = .returned (.bool true) ∧ Below w.heap.size w w' := by
  have hN := secsN_ge n
  obtain ⟨w0, hw0⟩ : ∃ q, q = (w.alloc (.cells #[.int .i64 cut] 3)).alloc (.cells #[.bool false] 4) := ⟨_, rfl⟩
  have o0 : Only (fun _ => False) w w0 := by rw [hw0]; exact ((Only.refl _ w).alloc _).alloc _
  have s0 : w0.heap.size = w.heap.size + 2 := by rw [hw0]; simp
  have hb1 : Boxed w0 w.heap.size 3 (.int .i64 cut) := by unfold Boxed; rw [hw0]; exact heap_alloc2_old w _ _
  have hb2 : Boxed w0 (w.heap.size + 1) 4 (.bool false) := by unfold Boxed; rw [hw0]; exact heap_alloc2_new w _ _
  have HG : Hid (Calls Try.prog 4 _ _ _) := grown_core stable_true (secsN n) hN trivial n rfl v1 os w0 (hsc.still o0)
  have H0 : Hid (Boxed w0 w.heap.size 3 (.int .i64 cut) ∧ Boxed w0 (w.heap.size + 1) 4 (.bool false) ∧ Only (fun _ => False) w w0 ∧ w0.heap.size = w.heap.size + 2) := ⟨hb1, hb2, o0, s0⟩
  have HW0 : Hid (w0 = (w.alloc (.cells #[.int .i64 cut] 3)).alloc (.cells #[.bool false] 4)) := hw0
  have HD : Hid (BytesAt w vd D) := hd
  obtain ⟨ad, cd, hvd, hdc, _⟩ := hd.form
  obtain ⟨m, hm⟩ : ∃ m, m = D.length := ⟨_, rfl⟩
  have HM : Hid (m = D.length) := hm
  rw [← hm] at hvd hD
  obtain ⟨a1, c1, hv1⟩ := hsc.form
  subst hvd hv1
  have hi0 : decide (i < 0) = false := by simp; omega
  have hi1 : decide (728 ≤ i) = false := by simp; omega
  have hi2 : ¬ i < 0 := by omega
  have hi3 : ¬ 728 ≤ i := by omega
  have hm1 : ¬ (116 : Int) < (m : Int) := by omega
  have hm2 : decide ((116 : Int) < (m : Int)) = false := by simp; omega
  clear hw0 o0 s0 hb1 hb2 hsc hd hdc hm
  refine callsIn_of_wp_marks Try.func3 rfl trivial ?_ rfl
  simp only [Try.ntmps3, List.size_toArray, List.length_cons, List.length_nil, Nat.reduceAdd, Nat.reduceSub, Array.replicate_succ, Array.replicate_zero, List.push_toArray, List.append_toArray, List.nil_append, List.cons_append]
  gi_wp2_with fail
  rw [← HW0.out]
  refine ⟨trivial, ((callsIn_wide (n := 6)).2 (show Calls Try.prog 4 _ _ _ from HG.out)).mono ?_⟩
  rintro e w1 ⟨p, s, S, rfl, HW1⟩
  clear HG
  gi_wp2_with fail
  refine ⟨trivial, ((callsIn_wide (n := 6)).2 (awake_any w1)).mono ?_⟩
  rintro e w2 ⟨rfl, ho2⟩
  obtain ⟨⟨x, d, hp, _, hn, ho⟩, _⟩ := HW1.out
  obtain ⟨pv, mc, mn, tv, B, q1, q2, q3, q4⟩ := (hp.still ho2).all
  have HST : Hid (StAt w2 (diskB p S pv) s p mc mn tv x ∧ (∀ k, diskB p S pv k → k < w2.heap.size) ∧ (w.heap.size + 2 ≤ mn) ∧ mn < w2.heap.size) := ⟨q3, fun k hk => (q1.lt k hk).2, by have := q4 mn (.inr (.inr (.inl rfl))); have := H0.out.2.2.2; omega, q3.now.lt⟩
  have O2 : Hid (Only (fun k => w.heap.size + 2 ≤ k) w0 w2) := (ho.mono (fun k _ e => by have := H0.out.2.2.2; omega)).trans ho2 (fun _ _ e => e.elim)
  clear HW1 ho2 hp hn ho q1 q2 q3 q4
  have E2 : Hid (Only (fun k => w.heap.size ≤ k) w w2) := (H0.out.2.2.1.mono (fun _ _ e => e.elim)).trans O2.out (fun k _ e => by omega)
  have HOw : Hid (Calls Try.prog 6 #[.slice ad m cd] w2 fun e w' => ∃ a c, e = .returned (.slice a m c) ∧ Hid (Fresh w' w2.heap.size (.slice a m c) D ∧ Only (fun _ => False) w2 w')) := by
    refine (own_any _ D w2 (HD.out.older (E2.out))).mono ?_
    rintro e w' ⟨u, rfl, f1, f2⟩
    obtain ⟨a, c, rfl⟩ := f1.form
    rw [← HM.out] at f1 ⊢
    exact ⟨a, c, rfl, f1, f2⟩
  gi_wp2_with fail
  refine ⟨trivial, ((callsIn_wide (n := 6)).2 (show Calls Try.prog 6 _ _ _ from HOw.out)).mono ?_⟩
  rintro e w3 ⟨au, cu, rfl, HF3⟩
  clear HOw
  have o3 : Only (fun _ => False) w3 (w3.alloc (.cells #[.int .u8 71, .int .u8 72] 5)) := (Only.refl _ w3).alloc _
  obtain ⟨af, cf, w4, hrf, hf4, o4⟩ := app_fresh (HF3.out.1.frame o3) (two_bytes w3) (Nat.le_trans HF3.out.2.size o3.size) (by have := HM.out; simp; omega)
  have O24 : Hid (Only (fun _ => False) w2 w4) := ((HF3.out.2.trans o3 (fun _ _ e => e)).trans o4 (fun k hk e => by omega))
  rw [← HM.out] at hrf hf4
  obtain ⟨fb, fo, hfa, hfb, hfc, hfB, hfE, hfT⟩ := hf4.part HM.out (by simp)
  have hE0 := hfE 0 (by simp)
  have hE1 := hfE 1 (by simp)
  simp only [List.getElem_cons_zero, List.getElem_cons_succ, Nat.add_zero, List.length_cons, List.length_nil, Nat.zero_add] at hE0 hE1 hfT hfc hrf
  subst hfa
  have HRF : Hid _ := hrf
  have HFT : Hid (w4.there fb fo (m + 2) ∧ w2.heap.size ≤ fb ∧ fb < w4.heap.size) := ⟨hfT, hfb.1, hfb.2⟩
  have HST4 : Hid (StAt w4 (fun k => diskB p S pv k ∨ (w2.heap.size ≤ k ∧ k < w4.heap.size)) s p mc mn tv x) := HST.out.1.wide O24.out
  have hPt : Hid (Calls Try.prog 7 #[.pointer (some ⟨s, 0, none⟩), .int .i64 i, .slice (some ⟨fb, fo, none⟩) m cf] w4 fun e w' => e = .returned (.int .i64 0) ∧ Hid (StAt w' (fun k => diskB p S pv k ∨ (w2.heap.size ≤ k ∧ k < w4.heap.size)) s p mc mn tv { x with now := putL x.now i (0, D) } ∧ Only (fun k => k = mn) w4 w') ∧ w'.cell? ⟨fb, fo + m, none⟩ = some (.int .u8 71) ∧ w'.cell? ⟨fb, fo + (m + 1), none⟩ = some (.int .u8 72)) := by
    refine (put_ok HST4.out (fun k hk => ?_) i hi _ D hfB (by rw [← HM.out]; exact hD)).mono ?_
    · rcases hk with hk | hk
      · exact Nat.lt_of_lt_of_le (HST.out.2.1 k hk) O24.out.size
      · exact hk.2
    · rintro e w' ⟨rfl, r1, r2⟩
      have hne : ¬ fb = mn := by have := HST.out.2.2.2; omega
      exact ⟨rfl, ⟨r1, r2⟩, r2.cell hE0 hne, r2.cell hE1 hne⟩
  have hsl : ∀ w', (Instr.slice 23 (.slice (some ⟨fb, fo, none⟩) (m + 2) cf) none (some (.int .i64 (m : Nat))) none).run Try.prog w' = .ok (.slice (some ⟨fb, fo, none⟩) m cf) w' := fun w' => by
    have k0 : (0 : Int) ≤ (m : Int) := by omega
    have k1 : (m : Int) ≤ (cf : Int) := by omega
    have k2 : ¬ cf = 0 := by omega
    go_simp
  clear hrf hf4 o3 o4 hfB hfE hfb hfT hE0 hE1
  gi_wp2_with (gi_at_builtin; refine wpListIn_append_run rfl _ _ 23 rfl _ _ (.slice (some ⟨fb, fo, none⟩) (m + 2) cf) rfl rfl HRF.out ?_)
  refine ⟨trivial, ((callsIn_wide (n := 6)).2 (show Calls Try.prog 7 _ _ _ from hPt.out)).mono ?_⟩
  rintro e w5 ⟨rfl, HP5, x71, x72⟩
  clear hPt HRF hsl
  have hne : ¬ fb = mn := by have := HST.out.2.2.2; have := HFT.out.2.1; omega
  have HT5 : Hid (w5.there fb fo (m + 2)) := HP5.out.2.there HFT.out.1 hne
  have kk0 : (0 : Int) ≤ (m : Int) := by omega
  have kk1 : (m : Int) < ((m + 2 : Nat) : Int) := by omega
  have kk2 : (0 : Int) ≤ (m : Int) + 1 := by omega
  have kk3 : (m : Int) + 1 < ((m + 2 : Nat) : Int) := by omega
  have kk4 : IntKind.i64.wrap ((m : Int) + 1) = (m : Int) + 1 := by rw [IntKind.wrap_i64]; omega
  have kk5 : ((m : Int) + 1).toNat = m + 1 := by omega
  clear hne
  gi_wp2_with fail
  clear x71 x72 kk0 kk1 kk2 kk3 kk4 kk5
  gi_loopw [14] (fun t W => ∃ k : Nat, k ≤ m + 2 ∧ t = .int .i64 k ∧ Only (fun b => b = fb) w5 W ∧ W.there fb fo (m + 2)) (fun t _ => m + 2 - (intOf t).toNat)
  case atStart => exact ⟨0, Nat.zero_le _, rfl, Only.refl _ _, HT5.out⟩
  case round =>
    obtain ⟨k, hk, rfl, hoW, hth⟩ := hrel
    obtain ⟨W, rfl⟩ : ∃ W, W = wr := ⟨_, rfl⟩
    by_cases hlt : k < m + 2
    · have k0 : (0 : Int) ≤ (k : Int) := by omega
      have k1 : (k : Int) < ((m + 2 : Nat) : Int) := by omega
      have k2 : IntKind.i64.wrap ((k : Int) + 1) = (k : Int) + 1 := by rw [IntKind.wrap_i64]; omega
      obtain ⟨t1, t2⟩ := hth k hlt
      obtain ⟨u, hu⟩ := Option.isSome_iff_exists.1 t1
      have HO : Hid (Only (fun b => b = fb) w5 W ∧ W.there fb fo (m + 2)) := ⟨hoW, hth⟩
      clear hoW hth t1
      gi_wp2
      go_roundw
      case rel => exact ⟨k + 1, by omega, by go_num, HO.out.1.setCell _ _ (fun _ => rfl), World.there_setCells HO.out.2 fb (fo + k) [.int .u8 99]⟩
      case measure => simp [intOf]; omega
    · have HO : Hid (Only (fun b => b = fb) w5 W) := hoW
      clear hoW hth HT5
      have HSW : Hid (StAt W (fun k => diskB p S pv k ∨ (w2.heap.size ≤ k ∧ k < w4.heap.size)) s p mc mn tv { x with now := putL x.now i (0, D) }) := HP5.out.1.frame HO.out (fun k _ e => by rw [e]; exact .inr HFT.out.2) (fun _ _ e => e)
      have EW : Hid (Only (fun k => w.heap.size + 2 ≤ k) w0 W) := ((O2.out.trans O24.out (fun _ _ e => e.elim)).trans HP5.out.2 (fun k _ e => by have := HST.out.2.2.1; omega)).trans HO.out (fun k _ e => by have := HFT.out.2.1; have := HST.out.2.2; omega)
      have HGt : Hid (Calls Try.prog 8 _ _ _) := get_put HSW.out hi HM.out
      gi_wp2_with fail
      refine ⟨trivial, ((callsIn_wide (n := 6)).2 (show Calls Try.prog 8 _ _ _ from HGt.out)).mono ?_⟩
      rintro e w6 ⟨ax, cx, rfl, HF6⟩
      clear HGt
      have HGt : Hid (Calls Try.prog 8 _ _ _) := get_put (HSW.out.still HF6.out.2) hi HM.out
      gi_wp2_with fail
      refine ⟨trivial, ((callsIn_wide (n := 6)).2 (show Calls Try.prog 8 _ _ _ from HGt.out)).mono ?_⟩
      rintro e w7 ⟨ay, cy, rfl, HF7⟩
      clear HGt
      have OW7 : Hid (Only (fun _ => False) W w7) := HF6.out.2.trans HF7.out.2 (fun _ _ e => e)
      have E7 : Hid (Only (fun k => w.heap.size + 2 ≤ k) w0 w7) := EW.out.trans OW7.out (fun _ _ e => e.elim)
      have ED : Hid (∀ w', Only (fun k => w.heap.size + 2 ≤ k) w0 w' → BytesAt w' (.slice ad m cd) D) := fun w' ho => HD.out.older ((H0.out.2.2.1.mono (fun _ _ e => e.elim)).trans ho (fun k _ e => by omega))
      have HSm : Hid (Calls Try.prog 9 _ _ _) := same_any _ _ D w7 (HF6.out.1.frame HF7.out.2).bytes (ED.out w7 E7.out)
      gi_wp2_with fail
      refine ⟨trivial, ((callsIn_wide (n := 6)).2 (show Calls Try.prog 9 _ _ _ from HSm.out)).mono ?_⟩
      rintro e w8 ⟨rfl, ho8⟩
      clear HSm
      obtain ⟨P, hP⟩ : ∃ P : Nat → Prop, P = fun b => (Value.slice ax m cx).ownBlock = some b ∨ (Value.slice ay m cy).ownBlock = some b := ⟨_, rfl⟩
      have HFs : Hid (Fss w8 P [.slice ax m cx, .slice ay m cy] [D, D] ∧ (∀ b, P b → (W.heap.size ≤ b ∧ b < w7.heap.size)) ∧ Only (fun _ => False) w7 w8) := by
        have fx := (HF6.out.1.frame HF7.out.2).frame ho8
        have fy := HF7.out.1.frame ho8
        have lx := fun b e => HF6.out.1.1.lt b e
        have ly := fun b e => HF7.out.1.1.lt b e
        have s6 := HF6.out.2.size
        have s7 := HF7.out.2.size
        refine ⟨?_, fun b hb => ?_, ho8⟩
        · have := Fss.append (Fss.one (P := fun b => (Value.slice ax m cx).ownBlock = some b) fx (fun b e => e)) (Fss.one (P := fun b => (Value.slice ay m cy).ownBlock = some b) fy (fun b e => e)) (fun b e1 e2 => by have := lx b e1; have := ly b e2; omega)
          rw [hP]
          exact this
        · rw [hP] at hb
          rcases hb with hb | hb
          · have := lx b hb; omega
          · have := ly b hb; omega
      clear hP ho8
      obtain ⟨w9, hw9⟩ : ∃ q, q = (w8.alloc (.cells #[.slice ax m cx, .slice ay m cy] 23)).alloc (.cells #[.slice none 0 0, .slice none 0 0, .slice (some ⟨w8.heap.size, 0, none⟩) 2 2, .slice none 0 0] 40) := ⟨_, rfl⟩
      have HBk : Hid (BookAt w8 w9 (w8.heap.size + 1) (.slice (some ⟨w8.heap.size, 0, none⟩) 2 2) [.slice ax m cx, .slice ay m cy]) := by rw [hw9]; exact BookAt.start
      have HW9 : Hid (w9 = (w8.alloc (.cells #[.slice ax m cx, .slice ay m cy] 23)).alloc (.cells #[.slice none 0 0, .slice none 0 0, .slice (some ⟨w8.heap.size, 0, none⟩) 2 2, .slice none 0 0] 40)) := hw9
      have HAp : Hid (Calls Try.prog 10 #[.pointer (some ⟨w8.heap.size + 1, 0, none⟩)] w9 fun e w' => e = .returned (.bool true) ∧ Only P w8 w') := HBk.out.apart HFs.out.1 (fun z hz => by have := HM.out; simp at hz; subst hz; omega) (fun b hb => by have := HFs.out.2.1 b hb; have := HFs.out.2.2.size; omega) (by simp)
      clear hw9
      gi_wp2_with fail
      rw [← HW9.out]
      refine ⟨trivial, ((callsIn_wide (n := 6)).2 (show Calls Try.prog 10 _ _ _ from HAp.out)).mono ?_⟩
      rintro e w10 ⟨rfl, ho10⟩
      clear HAp HBk
      have HS10 : Hid (StAt w10 (fun k => (diskB p S pv k ∨ (w2.heap.size ≤ k ∧ k < w4.heap.size)) ∨ (W.heap.size ≤ k ∧ k < w8.heap.size)) s p mc mn tv { x with now := putL x.now i (0, D) }) := by
        have o78 := OW7.out.trans HFs.out.2.2 (fun _ _ e => e)
        refine (HSW.out.wide o78).frame ho10 (fun k _ e => .inr ?_) (fun _ _ e => e)
        have := HFs.out.2.1 k e
        have := HFs.out.2.2.size
        omega
      have E10 : Hid (Only (fun k => w.heap.size + 2 ≤ k) w0 w10) := (E7.out.trans HFs.out.2.2 (fun _ _ e => e.elim)).trans ho10 (fun k _ e => by have := HFs.out.2.1 k e; have := EW.out.size; have := H0.out.2.2.2; omega)
      have HZ10 : Hid (w8.heap.size ≤ w10.heap.size) := ho10.size
      clear ho10
      have HGt : Hid (Calls Try.prog 8 _ _ _) := get_put HS10.out hi HM.out
      gi_wp2_with fail
      refine ⟨trivial, ((callsIn_wide (n := 6)).2 (show Calls Try.prog 8 _ _ _ from HGt.out)).mono ?_⟩
      rintro e w11 ⟨az, cz, rfl, HF11⟩
      clear HGt
      have hS11 := HS10.out.still HF11.out.2
      have HS11 : Hid _ := hS11
      obtain ⟨zs, hzs⟩ : ∃ zs : List Int, zs = (putL x.now i (0, D)).map (·.1) := ⟨_, rfl⟩
      have hzl : zs.length ≤ 728 := by have := st_len hS11; rw [hzs]; simpa using this
      have HPg : Hid (∀ w1, Only (fun _ => False) w11 w1 → Calls Try.prog 12 #[.pointer (some ⟨s, 0, none⟩)] w1 (PagesNew zs w1)) := fun w1 ho => by rw [hzs]; exact pages_new (hS11.still ho)
      obtain ⟨nz, hnz⟩ : ∃ nz, nz = zs.length := ⟨_, rfl⟩
      have HNZ : Hid (nz = zs.length) := hnz
      have HLs : Hid (Calls Try.prog 11 #[.pointer (some ⟨s, 0, none⟩)] w11 fun e w' => ∃ a c, e = .returned (.tuple #[.slice a nz c, .bool true]) ∧ Hid (w'.ownsRow w11.heap.size 3 1 (.slice a nz c) nz (zs.map (Value.int .i64)) ∧ Only (fun _ => False) w11 w')) := by
        refine ((callsIn_wide (n := 6)).1 (listed_core zs hzl (some ⟨s, 0, none⟩) w11 (fun w1 ho => (callsIn_wide (n := 5)).2 ((HPg.out w1 ho).mono fun e w' ⟨Bs, Pb, sv, h1, h2, h3, h4, h5⟩ => ⟨Bs, Pb, sv, h1, h2, h3, h4.2, h5⟩)))).mono ?_
        rintro e w' ⟨v, rfl, r1, r2⟩
        obtain ⟨a, c, rfl⟩ := ownsRow_slice r1
        rw [← hnz] at r1 ⊢
        exact ⟨a, c, rfl, r1, r2⟩
      clear hS11 hzs hnz
      gi_wp2_with fail
      refine ⟨trivial, ((callsIn_wide (n := 6)).2 (show Calls Try.prog 11 _ _ _ from HLs.out)).mono ?_⟩
      rintro e w12 ⟨aw, cw, rfl, HR12⟩
      clear HLs
      obtain ⟨w13, hw13⟩ : ∃ q, q = w12.alloc (.cells #[.slice aw nz cw] 41) := ⟨_, rfl⟩
      have HW13 : Hid (w13 = w12.alloc (.cells #[.slice aw nz cw] 41)) := hw13
      have o13 : Only (fun _ => False) w12 w13 := by rw [hw13]; exact (Only.refl _ w12).alloc _
      have b13 : Boxed w13 w12.heap.size 41 (.slice aw nz cw) := by rw [hw13]; exact Boxed.new w12 _ _
      have H13 : Hid (Boxed w13 w12.heap.size 41 (.slice aw nz cw) ∧ Only (fun _ => False) w12 w13 ∧ Only (fun _ => False) w11 w13) := ⟨b13, o13, HR12.out.2.trans o13 (fun _ _ e => e)⟩
      have HPc : Hid (Calls Try.prog 12 #[.pointer (some ⟨s, 0, none⟩)] w13 (PagesNew zs w13)) := HPg.out w13 (HR12.out.2.trans o13 (fun _ _ e => e))
      clear hw13 o13 b13 HPg
      gi_wp2_with fail
      rw [← HW13.out]
      refine ⟨trivial, ((callsIn_wide (n := 6)).2 (show Calls Try.prog 12 _ _ _ from HPc.out)).mono ?_⟩
      rintro e w14 ⟨Bs, Pb, sv, rfl, hbs, hin, hPb, ho14⟩
      clear HPc
      have HIT : Hid (w14.cell? ⟨Bs, 0, none⟩ = some sv ∧ IntsIn w14 Pb sv zs ∧ (w13.heap.size ≤ Pb ∧ Pb < w14.heap.size) ∧ Only (fun _ => False) w13 w14) := ⟨hbs, hin, hPb, ho14⟩
      clear hbs hin hPb ho14
      have O1014 : Hid (Only (fun _ => False) w10 w14) := (HF11.out.2.trans H13.out.2.2 (fun _ _ e => e)).trans HIT.out.2.2.2 (fun _ _ e => e)
      have E14 : Hid (Only (fun k => w.heap.size + 2 ≤ k) w0 w14) := E10.out.trans O1014.out (fun _ _ e => e.elim)
      have HSm : Hid (Calls Try.prog 9 _ _ _) := same_any _ _ D w14 (HF11.out.1.frame (H13.out.2.2.trans HIT.out.2.2.2 (fun _ _ e => e))).bytes (ED.out w14 E14.out)
      have hnn := func_not_nil Bs
      gi_wp2_with fail
      clear hnn
      refine ⟨trivial, ((callsIn_wide (n := 6)).2 (show Calls Try.prog 9 _ _ _ from HSm.out)).mono ?_⟩
      rintro e w15 ⟨rfl, ho15⟩
      clear HSm
      have HDr : Hid (Calls Try.prog 13 #[.pointer (some ⟨s, 0, none⟩), .int .i64 i] w15 fun e w' => e = .returned (.int .i64 0) ∧ Only (fun k => k = mn) w15 w') := by
        have h15 := (HS10.out.still O1014.out).still ho15
        refine (drop_ok h15 i hi (pgAt_put_same (by have := HST.out.1.now.rise; exact this) i D)).mono ?_
        rintro e w' ⟨rfl, _, r2⟩
        exact ⟨rfl, r2⟩
      have HO15 : Hid (Only (fun _ => False) w14 w15) := ho15
      clear ho15
      gi_wp2_with fail
      refine ⟨trivial, ((callsIn_wide (n := 6)).2 (show Calls Try.prog 13 _ _ _ from HDr.out)).mono ?_⟩
      rintro e w16 ⟨rfl, ho16⟩
      clear HDr
      have HK : Hid (KpAt w w16 zs Bs Pb sv w12.heap.size aw cw cut) := by
        have z1 := H0.out.2.2.2
        have z2 := HST.out.2.2.2
        have z3 := HST.out.2.2.1
        have z4 := O24.out.size
        have z5 := HP5.out.2.size
        have z6 := HO.out.size
        have z7 := OW7.out.size
        have z8 := HFs.out.2.2.size
        have z9 := HF11.out.2.size
        have z10 := HR12.out.2.size
        have z11 := H13.out.2.1.size
        have E16 : Only (fun k => w.heap.size + 2 ≤ k) w0 w16 := (E14.out.trans HO15.out (fun _ _ e => e.elim)).trans ho16 (fun k _ e => by omega)
        have z12 := HZ10.out
        have o1316 : Only (fun k => k = mn) w13 w16 := ((HIT.out.2.2.2.mono (fun _ _ e => e.elim)).trans HO15.out (fun _ _ e => e.elim)).trans ho16 (fun _ _ e => e)
        have o1216 : Only (fun k => k = mn) w12 w16 := (H13.out.2.1.mono (fun _ _ e => e.elim)).trans o1316 (fun _ _ e => e)
        have o1416 : Only (fun k => k = mn) w14 w16 := (HO15.out.mono (fun _ _ e => e.elim)).trans ho16 (fun _ _ e => e)
        have bx : ∀ {b t v}, b < w.heap.size + 2 → Boxed w0 b t v → Boxed w16 b t v := fun {b t v} hb hx => by
          unfold Boxed at hx ⊢
          rw [E16.block b (by omega) (by omega)]
          exact hx
        have hmap : ∀ o, w14.cell? ⟨mn, o, none⟩ = none := fun o => by
          obtain ⟨sl, hm, _⟩ := (HS10.out.still O1014.out).now
          obtain ⟨es, clock, hb, _⟩ := hm.own
          simp [World.cell?, hb]
        have hBs : Bs ≠ mn := fun e => by
          have h1 := HIT.out.1
          rw [e, hmap 0] at h1
          cases h1
        have hw12 : w12.heap.size ≠ mn := by omega
        have hrow := HR12.out.1
        have hnz := HNZ.out
        refine ⟨bx (by omega) H0.out.1, bx (by omega) H0.out.2.1, ?_, ?_, o1416.cell HIT.out.1 hBs, ?_, Nat.lt_of_lt_of_le HIT.out.2.2.1.2 o1416.size, hzl, (H0.out.2.2.1.mono (fun _ _ e => e.elim)).trans E16 (fun k _ e => by omega)⟩
        · unfold Boxed
          rw [o1316.block _ (by have := H13.out.1.lt; exact this) hw12, ← hnz]
          exact H13.out.1
        · rcases hrow.2 with ⟨e1, e2⟩ | ⟨g, cap, cur, e1, e2, e3, _⟩
          · exact ⟨0, 0, fun h => by omega, fun j hj => by omega⟩
          · injection e1 with e1 _ _
            have hg := (Array.getElem?_eq_some_iff.1 e3).1
            refine ⟨g, 0, fun _ => e1, fun j hj => ?_⟩
            have hc : w12.cell? ⟨g, 0 + j, none⟩ = some (.int .i64 (zs.getD j 0)) := by
              subst e1
              rw [Nat.zero_add, hrow.cellAt j (by omega)]
              simp [List.getD, hj]
            exact o1216.cell hc (by simp; omega)
        · rcases HIT.out.2.1 with q | ⟨off, cap, q1, q2⟩
          · exact .inl q
          · exact .inr ⟨off, cap, q1, fun j hj => o1416.cell (q2 j hj) (by simp; have := HIT.out.2.2.1.1; omega)⟩
      clear ho16 HIT H13 HR12 HF11 HS11 HS10 HFs HW9 HW13 HO15 O1014 E14 E10 HZ10 ED E7 OW7 HF7 HF6 EW HSW HO HP5 HST4 HFT HF3 O24 E2 O2 HST
      gi_wp2_with fail
      refine wpIn_loop (fun a W => ∃ r ds, RndAct w w12.heap.size Bs r ds a ∧ RndAt w zs Bs Pb sv w12.heap.size aw cw cut r ds W) (fun a _ => 2 - (intOf (a.tmps.getD 25 undef)).toNat) ⟨0, [], RndAct.of _ rfl rfl rfl rfl rfl rfl rfl, ⟨HK.out, by omega, rfl, fun D hD => (by cases hD), List.nodup_nil, fun D hD => (by cases hD)⟩⟩ ?_
      clear HK
      rintro a W ⟨r, ds, ⟨f, rfl⟩, hR⟩
      have HR : Hid (RndAt w zs Bs Pb sv w12.heap.size aw cw cut r ds W) := hR
      obtain ⟨df, hdf⟩ : ∃ q, q = ds.map fun D => ({ target := .collected D, args := #[] } : Deferred) := ⟨_, rfl⟩
      have HDF : Hid (df = ds.map fun D => ({ target := .collected D, args := #[] } : Deferred)) := hdf
      rw [← hdf]
      have hfew := hR.few
      clear hR hdf
      by_cases hr2 : r < 2
      · have r0 : (r : Int) < 2 := by omega
        have r1 : IntKind.i64.wrap ((r : Int) + 1) = (r : Int) + 1 := by rw [IntKind.wrap_i64]; omega
        obtain ⟨wl, hwl⟩ : ∃ q, q = W.alloc (.cells #[.int .i64 0] 3) := ⟨_, rfl⟩
        have HWL : Hid (wl = W.alloc (.cells #[.int .i64 0] 3)) := hwl
        obtain ⟨nb, hnb⟩ : ∃ q, q = W.heap.size := ⟨_, rfl⟩
        have HNB : Hid (nb = W.heap.size) := hnb
        have ol : Only (fun _ => False) W wl := by rw [hwl]; exact (Only.refl _ W).alloc _
        have sl : wl.heap.size = nb + 1 := by rw [hwl, hnb]; simp
        have bl : Boxed wl nb 3 (.int .i64 0) := by rw [hwl, hnb]; exact Boxed.new W _ _
        have HKL : Hid (KpAt w wl zs Bs Pb sv w12.heap.size aw cw cut) := HR.out.kp.frame ol (fun _ _ e => e)
        have hPl : Pb < nb := by rw [hnb]; exact HR.out.kp.pb
        have OL : Hid (Only (fun _ => False) W wl) := ol
        clear hwl hnb ol
        gi_wp2_with fail
        rw [← HWL.out, ← HNB.out]
        apply wpIn_rangeFunc_ownG (α := Nat) (encs := nthEnc zs) (Kp := KpP Pb) (w := wl) rfl (by omega) (gf := 42) (lb := #[.pointer (some ⟨Bs, 0, none⟩)]) rfl trivial (enters_of Try.func42 (by kernel_rfl) rfl) (values_pre 6 Bs Pb sv zs wl (by unfold maxLen; omega) HKL.out.it HKL.out.ints (by omega)) (fun h k => Eq.trans k h) ?hKb (Below.refl _ _) (fun _ => rfl) (fun pre W => CtI wl nb pre W) (fun c pre W => (c = .ret ∧ pre ≠ List.range pre.length) ∨ (c = .exit 4 ∧ CtI wl nb pre W ∧ (pre.length : Int) = cut)) ?hI ?hIx ⟨bl, Only.refl _ _⟩
        case hKb =>
          intro W l0 o o' hl0 hw0 ho1 ho2
          exact (grownBy_putObj' W l0 o').block Pb (by have := (Array.getElem?_eq_some_iff.1 hw0).1; omega) (fun e => by cases e; omega)
        case hI => exact fun pre W W' row hs hg' hr => hs.frame (by omega) hg' hr
        case hIx =>
          intro c pre W W' row hs hg' hr
          rcases hs with hs | ⟨h1, h2, h3⟩
          · exact .inl hs
          · exact .inr ⟨h1, h2.frame (by omega) hg' hr, h3⟩
        case hassign =>
          intro l0 k W K hK
          simp only [nthEnc, List.zip_toArray, List.zip_cons_cons, List.zip_nil_right, List.foldl_toArray, List.foldl_cons, List.foldl_nil, List.setIfInBounds_toArray, List.set_cons_zero, List.set_cons_succ]
          gi_wp2
          exact hK
        case hbody =>
          rintro l0 pre k V hI hlen
          have hnzz := HNZ.out
          obtain ⟨j, hj⟩ : ∃ j, j = pre.length := ⟨_, rfl⟩
          obtain ⟨pv, hpv⟩ : ∃ q, q = zs.getD k 0 := ⟨_, rfl⟩
          obtain ⟨qv, hqv⟩ : ∃ q, q = zs.getD j 0 := ⟨_, rfl⟩
          have hKW : KpAt w V zs Bs Pb sv w12.heap.size aw cw cut := HR.out.kp.frame ((OL.out.mono (fun _ _ e => e.elim)).trans hI.only (fun k hk e => by rw [HNB.out] at e; exact e)) (fun k hk e => by omega)
          have c1 := hI.box.cell
          have f1 := hI.box.frozen
          have c2 := hKW.want.cell
          have c3 := hKW.cutB.cell
          obtain ⟨g, o, ha, hrow⟩ := hKW.row
          have hjz : j < zs.length := by omega
          have c4 := hrow j hjz
          have haw := ha (by omega)
          have HQ : Hid (pv = zs.getD k 0 ∧ qv = zs.getD j 0 ∧ j = pre.length ∧ CtI wl nb pre V) := ⟨hpv, hqv, hj, hI⟩
          rw [← hj] at c1
          rw [← hqv] at c4
          rw [← hnzz] at c2
          rw [← hpv]
          subst haw
          have d0 : ¬ (nz : Int) ≤ (j : Int) := by omega
          have d1 : decide ((nz : Int) ≤ (j : Int)) = false := by simpa using d0
          have d2 : (0 : Int) ≤ (j : Int) := by omega
          have d3 : (j : Int) < (nz : Int) := by omega
          have d4 : IntKind.i64.wrap ((j : Int) + 1) = (j : Int) + 1 := by rw [IntKind.wrap_i64]; omega
          have hc5 : (V.setCell ⟨nb, 0, none⟩ (.int .i64 ((j : Int) + 1))).cell? ⟨nb, 0, none⟩ = some (.int .i64 ((j : Int) + 1)) := (hI.box.set _).cell
          have hc6 : (V.setCell ⟨nb, 0, none⟩ (.int .i64 ((j : Int) + 1))).cell? ⟨w.heap.size, 0, none⟩ = some (.int .i64 cut) := by
            have hne : w.heap.size ≠ nb := by have := HNB.out; have := HR.out.kp.cutB.lt; omega
            exact ((Only.refl (fun q => q = nb) V).setCell _ _ (fun _ => rfl)).cell c3 hne
          have HRS : Hid ((∃ u, V.cell? ⟨w.heap.size + 1, 0, none⟩ = some u) ∧ V.frozen? ⟨w.heap.size + 1, 0, none⟩ = false) := ⟨⟨_, hKW.resB.cell⟩, hKW.resB.frozen⟩
          have HRS2 : Hid (w.heap.size + 1 < wl.heap.size) := by have := HKL.out.resB.lt; exact this
          clear hI hKW hrow ha hpv hqv hj hnzz
          by_cases hpq : pv = qv
          · subst hpq
            have hCt : ∀ W', W' = V.setCell ⟨nb, 0, none⟩ (.int .i64 ((j : Int) + 1)) → KeepsFrom wl.heap.size V W' ∧ KpP Pb V W' ∧ CtI wl nb (pre ++ [k]) W' := by
              rintro W' rfl
              obtain ⟨_, _, hj, hI⟩ := HQ.out
              refine ⟨KeepsFrom.of_grownBy (grownBy_setCell' V nb _) (fun q e => by injection e with e; omega), Below.heap_setCell _ _ _ _ (by simp; omega), ⟨?_, hI.only.setCell _ _ (fun _ => rfl)⟩⟩
              have := hI.box.set (.int .i64 ((j : Int) + 1))
              have e : ((pre ++ [k]).length : Nat) = j + 1 := by rw [List.length_append, hj]; rfl
              rw [e]
              simpa using this
            have HCt : Hid _ := hCt
            clear hCt sl
            by_cases hcc : (j : Int) + 1 = cut
            · have hcc' : ((j : Int) + 1 == cut) = true := by simpa using hcc
              have HCC : Hid ((j : Int) + 1 = cut) := hcc
              clear hcc
              gi_wp2
              obtain ⟨q1, q2, q3⟩ := HCt.out _ rfl
              exact ⟨q1, .inr ⟨rfl, q3, by have := HQ.out.2.2.1; have := HCC.out; simp; omega⟩⟩
            · have hcc' : ((j : Int) + 1 == cut) = false := by simpa using hcc
              clear hcc
              gi_wp2
              exact HCt.out _ rfl
          · have hpq' : (pv != qv) = true := by simpa using hpq
            have HPQ : Hid (pv ≠ qv) := hpq
            obtain ⟨ru, hr1⟩ := HRS.out.1
            have hr2' := HRS.out.2
            clear hpq sl
            gi_wp2
            obtain ⟨e1, e2, e3, e4⟩ := HQ.out
            refine ⟨KeepsFrom.of_grownBy (grownBy_setCell' V (w.heap.size + 1) _) (fun q e => by injection e with e; have := HRS2.out; omega), .inl ⟨rfl, fun e => ?_⟩⟩
            rw [List.length_append, List.length_singleton, List.range_succ] at e
            have := (List.append_inj e (by simp)).2
            injection this with this
            exact HPQ.out (by rw [e1, e2, e3, this])
        case hdone =>
          rintro D' ys V hDD hys hI hKD
          have hv : ((ys.length : Nat) : Int) = (nz : Int) := by rw [hys, List.length_range, HNZ.out]
          have HKW : Hid (KpAt w V zs Bs Pb sv w12.heap.size aw cw cut) := HR.out.kp.frame ((OL.out.mono (fun _ _ e => e.elim)).trans hI.only (fun k hk e => by rw [HNB.out] at e; exact e)) (fun k hk e => by omega)
          have c1 := hI.box.cell
          have c2 := HKW.out.want.cell
          rw [← HNZ.out] at c2
          have c3 := HKW.out.cutB.cell
          obtain ⟨v, hvv⟩ : ∃ v : Nat, v = ys.length := ⟨_, rfl⟩
          rw [← hvv] at hv c1
          have HRN : Hid (RndAt w zs Bs Pb sv w12.heap.size aw cw cut (r + 1) (D' :: ds) V) := by
            have z1 := HR.out.kp.only.size
            have z2 := HR.out.kp.resB.lt
            have hlow : ∀ D ∈ ds, D < W.heap.size := fun D hD => (Array.getElem?_eq_some_iff.1 (HR.out.def_ D hD)).1
            refine ⟨HKW.out, by omega, by simp [HR.out.len], fun D hD => ?_, List.nodup_cons.2 ⟨fun h => by have := hlow D' h; have := HNB.out; omega, HR.out.nod⟩, fun D hD => ?_⟩
            · rcases List.mem_cons.1 hD with rfl | hD
              · exact hKD
              · have h1 := hlow D hD
                rw [hI.only.block D (by have := HNB.out; omega) (by have := HNB.out; omega), OL.out.block D h1 (fun e => e)]
                exact HR.out.def_ D hD
            · rcases List.mem_cons.1 hD with rfl | hD
              · have := HNB.out; omega
              · exact HR.out.up D hD
          have hb0 : ((v : Int) != (nz : Int)) = false := by simpa using hv
          clear hI hKD hys hvv hv bl hDD sl hPl
          gi_wp2
          refine ⟨⟨r + 1, D' :: ds, RndAct.of _ rfl rfl rfl rfl rfl (by go_num) (by rw [HDF.out]; rfl), HRN.out⟩, ?_⟩
          simp [intOf]
          omega
        case hstop =>
          rintro D' c ys V hDD hSp hx hKD
          rcases hx with ⟨_, hx⟩ | ⟨rfl, hI, hv⟩
          · exact absurd hSp hx
          · have HKW : Hid (KpAt w V zs Bs Pb sv w12.heap.size aw cw cut) := HR.out.kp.frame ((OL.out.mono (fun _ _ e => e.elim)).trans hI.only (fun k hk e => by rw [HNB.out] at e; exact e)) (fun k hk e => by omega)
            have c1 := hI.box.cell
            have c2 := HKW.out.want.cell
            rw [← HNZ.out] at c2
            have c3 := HKW.out.cutB.cell
            obtain ⟨v, hvv⟩ : ∃ v : Nat, v = ys.length := ⟨_, rfl⟩
            rw [← hvv] at hv c1
            have HRN : Hid (RndAt w zs Bs Pb sv w12.heap.size aw cw cut (r + 1) (D' :: ds) V) := by
              have z1 := HR.out.kp.only.size
              have z2 := HR.out.kp.resB.lt
              have hlow : ∀ D ∈ ds, D < W.heap.size := fun D hD => (Array.getElem?_eq_some_iff.1 (HR.out.def_ D hD)).1
              refine ⟨HKW.out, by omega, by simp [HR.out.len], fun D hD => ?_, List.nodup_cons.2 ⟨fun h => by have := hlow D' h; have := HNB.out; omega, HR.out.nod⟩, fun D hD => ?_⟩
              · rcases List.mem_cons.1 hD with rfl | hD
                · exact hKD
                · have h1 := hlow D hD
                  rw [hI.only.block D (by have := HNB.out; omega) (by have := HNB.out; omega), OL.out.block D h1 (fun e => e)]
                  exact HR.out.def_ D hD
              · rcases List.mem_cons.1 hD with rfl | hD
                · have := HNB.out; omega
                · exact HR.out.up D hD
            have hb1 : ((v : Int) != cut) = false := by simpa using hv
            by_cases hb2 : (v : Int) = (nz : Int)
            · have hb0 : ((v : Int) != (nz : Int)) = false := by simpa using hb2
              clear hI hKD hSp hvv hv bl hDD sl hPl hb2
              gi_wp2
              refine ⟨⟨r + 1, D' :: ds, RndAct.of _ rfl rfl rfl rfl rfl (by go_num) (by rw [HDF.out]; rfl), HRN.out⟩, ?_⟩
              simp [intOf]
              omega
            · have hb0 : ((v : Int) != (nz : Int)) = true := by simpa using hb2
              clear hI hKD hSp hvv hv bl hDD sl hPl hb2
              gi_wp2
              refine ⟨⟨r + 1, D' :: ds, RndAct.of _ rfl rfl rfl rfl rfl (by go_num) (by rw [HDF.out]; rfl), HRN.out⟩, ?_⟩
              simp [intOf]
              omega
      · have r0 : ¬ (r : Int) < 2 := by omega
        have c1 := HR.out.kp.resB.cell
        have f1 := HR.out.kp.resB.frozen
        obtain ⟨WF, hWF⟩ : ∃ q, q = W.setCell ⟨w.heap.size + 1, 0, none⟩ (.bool true) := ⟨_, rfl⟩
        have HWF : Hid (WF = W.setCell ⟨w.heap.size + 1, 0, none⟩ (.bool true)) := hWF
        clear hWF
        gi_wp2
        rw [← HWF.out]
        have hre : r = 2 := by omega
        obtain ⟨D2, D1, hds⟩ : ∃ D2 D1, ds = [D2, D1] := by
          have := HR.out.len
          match ds, this with
          | [a, b], _ => exact ⟨a, b, rfl⟩
          | [], h => simp at h; omega
          | [_], h => simp at h; omega
          | _ :: _ :: _ :: _, h => simp at h; omega
        have hR := HR.out
        have hdf := HDF.out
        rw [hds] at hdf hR
        have hnd := hR.nod
        have hne : D2 ≠ D1 := fun e => by rw [e] at hnd; simp at hnd
        have u2 := hR.up D2 (by simp)
        have u1 := hR.up D1 (by simp)
        have oF : Only (fun k => k = w.heap.size + 1) W WF := by rw [HWF.out]; exact (Only.refl _ W).setCell _ _ (fun _ => rfl)
        have k2 : WF.heap[D2]? = some (.deferred (some [])) := by
          have h := hR.def_ D2 (by simp)
          rw [oF.block D2 (Array.getElem?_eq_some_iff.1 h).1 (by omega)]
          exact h
        have k1 : WF.heap[D1]? = some (.deferred (some [])) := by
          have h := hR.def_ D1 (by simp)
          rw [oF.block D1 (Array.getElem?_eq_some_iff.1 h).1 (by omega)]
          exact h
        have oG : Only (fun k => k = D2) WF (WF.putObj D2 (.deferred none)) := (Only.refl _ WF).grown (grownBy_putObj' WF D2 _) (fun k e _ => by injection e with e; exact e.symm)
        have k1' : (WF.putObj D2 (.deferred none)).heap[D1]? = some (.deferred (some [])) := by
          rw [oG.block D1 (Array.getElem?_eq_some_iff.1 k1).1 (by omega)]
          exact k1
        have oH : Only (fun k => k = D1) (WF.putObj D2 (.deferred none)) ((WF.putObj D2 (.deferred none)).putObj D1 (.deferred none)) := (Only.refl _ _).grown (grownBy_putObj' _ D1 _) (fun k e _ => by injection e with e; exact e.symm)
        have cF : WF.cell? ⟨w.heap.size + 1, 0, none⟩ = some (.bool true) := by rw [HWF.out]; exact (HR.out.kp.resB.set _).cell
        have cH := oH.cell (oG.cell cF (by simp; omega)) (by simp; omega)
        have hEnd : Only (fun k => w.heap.size ≤ k) w ((WF.putObj D2 (.deferred none)).putObj D1 (.deferred none)) := ((hR.kp.only.trans oF (fun k _ e => by omega)).trans oG (fun k _ e => by omega)).trans oH (fun k _ e => by omega)
        rw [hdf]
        refine ⟨by simp, .inl ⟨_, _, rfl, run_takeDeferred k2, ?_⟩⟩
        refine ⟨by simp, .inl ⟨_, _, rfl, run_takeDeferred k1', ?_⟩⟩
        refine ⟨.bool true, ?_, rfl, hEnd.below (fun _ e => e) (Nat.le_refl _)⟩
        rw [results_cell1 rfl]
        change ((loadVar 4 ⟨w.heap.size + 1, 0, none⟩).run Try.prog _) = _
        rw [load_bool _ _ _ cH]
end Go.Proofs.Ytpoakkdkibameab
namespace Go.Proofs.Ytpoakkdkibameab
open Go.RowKit Go.Maps Go.Shelf
set_option linter.unusedSimpArgs false
set_option linter.unusedVariables false

set_option maxRecDepth 100000 in
set_option maxHeartbeats 2000000 in
theorem keeps_out (n i cut : Int) (v1 vd : Value) (os : List OpS) (D : List Nat) (w : World) (hsc : ScriptAt w v1 os) (hd : BytesAt w vd D) (hb : decide (i < 0) = true ∨ (decide (i < 0) = false ∧ decide (728 ≤ i) = true) ∨ (decide (i < 0) = false ∧ decide (728 ≤ i) = false ∧ 116 < D.length)) :
    CallsIn Fence.wide 7 Try.prog 3 #[.int .i64 n, v1, .int .i64 i, vd, .int .i64 cut] w fun e w' => e = .returned (.bool true) ∧ Below w.heap.size w w' := by
  have hN := secsN_ge n
  obtain ⟨w0, hw0⟩ : ∃ q, q = (w.alloc (.cells #[.int .i64 cut] 3)).alloc (.cells #[.bool false] 4) := ⟨_, rfl⟩
  have o0 : Only (fun _ => False) w w0 := by rw [hw0]; exact ((Only.refl _ w).alloc _).alloc _
  have s0 : w0.heap.size = w.heap.size + 2 := by rw [hw0]; simp
  have hb2 : Boxed w0 (w.heap.size + 1) 4 (.bool false) := by unfold Boxed; rw [hw0]; exact heap_alloc2_new w _ _
  have HG : Hid (Calls Try.prog 4 _ _ _) := grown_core stable_true (secsN n) hN trivial n rfl v1 os w0 (hsc.still o0)
  have H0 : Hid (Boxed w0 (w.heap.size + 1) 4 (.bool false) ∧ Only (fun _ => False) w w0 ∧ w0.heap.size = w.heap.size + 2) := ⟨hb2, o0, s0⟩
  have HW0 : Hid (w0 = (w.alloc (.cells #[.int .i64 cut] 3)).alloc (.cells #[.bool false] 4)) := hw0
  obtain ⟨ad, cd, hvd, hdc, _⟩ := hd.form
  obtain ⟨m, hm⟩ : ∃ m, m = D.length := ⟨_, rfl⟩
  rw [← hm] at hvd hb
  obtain ⟨a1, c1, hv1⟩ := hsc.form
  subst hvd hv1
  clear hw0 o0 s0 hb2 hsc hd hdc hm
  have key : ∀ (w2 : World), Only (fun k => w.heap.size + 2 ≤ k) w0 w2 → (∀ w3 : World, Only (fun _ => False) w2 w3 → Boxed w3 (w.heap.size + 1) 4 (.bool false) ∧ ∀ W, W = w3.setCell ⟨w.heap.size + 1, 0, none⟩ (.bool true) → W.cell? ⟨w.heap.size + 1, 0, none⟩ = some (.bool true) ∧ Below w.heap.size w W) := by
    intro w2 h2 w3 h3
    have o3 := h2.trans h3 (fun _ _ e => e.elim)
    have b3 : Boxed w3 (w.heap.size + 1) 4 (.bool false) := by
      unfold Boxed
      rw [o3.block _ (by have := H0.out.2.2; omega) (by omega)]
      exact H0.out.1
    refine ⟨b3, ?_⟩
    rintro W rfl
    refine ⟨(b3.set _).cell, ?_⟩
    have o4 : Only (fun k => w.heap.size ≤ k) w (w3.setCell ⟨w.heap.size + 1, 0, none⟩ (.bool true)) := ((H0.out.2.1.mono (fun _ _ e => e.elim)).trans o3 (fun k _ e => by omega)).setCell _ _ (fun _ => by simp)
    exact o4.below (fun _ e => e) (Nat.le_refl _)
  have HKey : Hid _ := key
  clear key
  refine callsIn_of_wp_marks Try.func3 rfl trivial ?_ rfl
  simp only [Try.ntmps3, List.size_toArray, List.length_cons, List.length_nil, Nat.reduceAdd, Nat.reduceSub, Array.replicate_succ, Array.replicate_zero, List.push_toArray, List.append_toArray, List.nil_append, List.cons_append]
  gi_wp2_with fail
  rw [← HW0.out]
  refine ⟨trivial, ((callsIn_wide (n := 6)).2 (show Calls Try.prog 4 _ _ _ from HG.out)).mono ?_⟩
  rintro e w1 ⟨p, s, S, rfl, HW1⟩
  clear HG
  gi_wp2_with fail
  refine ⟨trivial, ((callsIn_wide (n := 6)).2 (awake_any w1)).mono ?_⟩
  rintro e w2 ⟨rfl, ho2⟩
  have O2 : Hid (Only (fun k => w.heap.size + 2 ≤ k) w0 w2) := by
    obtain ⟨⟨x, d, hp, _, hn, ho⟩, _⟩ := HW1.out
    exact (ho.mono (fun k _ e => by have := H0.out.2.2; omega)).trans ho2 (fun _ _ e => e.elim)
  clear HW1 ho2
  rcases hb with hb | ⟨hb, hb2⟩ | ⟨hb, hb2, hb3⟩
  · have hb' : i < 0 := by simpa using hb
    gi_wp2_with fail
    refine ⟨trivial, ((callsIn_wide (n := 6)).2 (awake_any w2)).mono ?_⟩
    rintro e w3 ⟨rfl, ho3⟩
    obtain ⟨b3, hW⟩ := HKey.out w2 O2.out w3 ho3
    have c3 := b3.cell
    have f3 := b3.frozen
    have HWW : Hid _ := hW
    clear hW ho3 b3
    gi_wp2
    obtain ⟨g1, g2⟩ := HWW.out _ rfl
    refine ⟨.bool true, ?_, rfl, g2⟩
    rw [results_cell1 rfl]
    change ((loadVar 4 ⟨w.heap.size + 1, 0, none⟩).run Try.prog _) = _
    rw [load_bool _ _ _ g1]
  · have hb' : ¬ i < 0 := by simpa using hb
    have hb2' : 728 ≤ i := by simpa using hb2
    gi_wp2_with fail
    refine ⟨trivial, ((callsIn_wide (n := 6)).2 (awake_any w2)).mono ?_⟩
    rintro e w3 ⟨rfl, ho3⟩
    obtain ⟨b3, hW⟩ := HKey.out w2 O2.out w3 ho3
    have c3 := b3.cell
    have f3 := b3.frozen
    have HWW : Hid _ := hW
    clear hW ho3 b3
    gi_wp2
    obtain ⟨g1, g2⟩ := HWW.out _ rfl
    refine ⟨.bool true, ?_, rfl, g2⟩
    rw [results_cell1 rfl]
    change ((loadVar 4 ⟨w.heap.size + 1, 0, none⟩).run Try.prog _) = _
    rw [load_bool _ _ _ g1]
  · have hb' : ¬ i < 0 := by simpa using hb
    have hb2' : ¬ 728 ≤ i := by simpa using hb2
    have hb4 : (116 : Int) < (m : Int) := by omega
    have hb5 : decide ((116 : Int) < (m : Int)) = true := by simpa using hb4
    clear hb3
    gi_wp2_with fail
    refine ⟨trivial, ((callsIn_wide (n := 6)).2 (awake_any w2)).mono ?_⟩
    rintro e w3 ⟨rfl, ho3⟩
    obtain ⟨b3, hW⟩ := HKey.out w2 O2.out w3 ho3
    have c3 := b3.cell
    have f3 := b3.frozen
    have HWW : Hid _ := hW
    clear hW ho3 b3
    gi_wp2
    obtain ⟨g1, g2⟩ := HWW.out _ rfl
    refine ⟨.bool true, ?_, rfl, g2⟩
    rw [results_cell1 rfl]
    change ((loadVar 4 ⟨w.heap.size + 1, 0, none⟩).run Try.prog _) = _
    rw [load_bool _ _ _ g1]
theorem keeps_law (n i cut : Int) (v1 vd : Value) (os : List OpS) (D : List Nat) (w : World) (hsc : ScriptAt w v1 os) (hd : BytesAt w vd D) :
    Calls Try.prog 3 #[.int .i64 n, v1, .int .i64 i, vd, .int .i64 cut] w fun e w' => e = .returned (.bool true) ∧ Below w.heap.size w w' := by
  refine (callsIn_wide (n := 7)).1 ?_
  by_cases h0 : i < 0
  · exact keeps_out n i cut v1 vd os D w hsc hd (.inl (by simpa using h0))
  · by_cases h1 : 728 ≤ i
    · exact keeps_out n i cut v1 vd os D w hsc hd (.inr (.inl ⟨by simpa using h0, by simpa using h1⟩))
    · by_cases h2 : 116 < D.length
      · exact keeps_out n i cut v1 vd os D w hsc hd (.inr (.inr ⟨by simpa using h0, by simpa using h1, h2⟩))
      · exact keeps_walk n i cut v1 vd os D w hsc hd (by omega) (by omega)
end Go.Proofs.Ytpoakkdkibameab
