/- ValueKeeps: the law's walk. How a tree that is handed in lies in memory. Trees that come in, read with the weights of the first form. -/
import Derived.Test.YtllpacppedobjaaGreatDoorGan
import Derived.Test.YtllpacppedobjaaGreatDoorGaa
import Derived.Deep.Slices
import Derived.Deep.MidRow
import Derived.ChangeArms
import Derived.ChangeMaps5
namespace Go.Proofs.YtllpacppedobjaaGreatDoor
open Go.RowKit Go.Lib Go.Shelf
set_option linter.unusedSimpArgs false
set_option linter.unusedVariables false
attribute [local go_sem] Oper.semAt_some
set_option maxRecDepth 100000 in
/-- An activation of ValueKeeps at the head of its loop, round r; ds: what it has deferred. -/
def RndAct (w : World) (bw Bs r : Nat) (c : Value) (E : Int) (ds : List Nat) (a : Act) : Prop :=
  ∃ f : Nat → Value, a = { tmps := #[f 0, f 1, f 2, .pointer (some ⟨w.heap.size + 1, 0, none⟩), .pointer (some ⟨w.heap.size + 2, 0, none⟩), f 5, f 6, c, .int .i64 E, .func (.func 57) #[] #[.pointer (some ⟨Bs, 0, none⟩)], f 10, .pointer (some ⟨bw, 0, none⟩), f 12, .int .i64 (r : Nat), f 14, f 15, f 16, f 17, f 18, f 19, f 20, f 21, f 22, f 23, f 24, f 25, f 26, f 27, f 28, f 29, f 30, f 31, f 32, f 33, f 34, f 35, f 36, f 37, f 38, f 39, f 40, f 41, f 42, f 43, f 44, f 45, f 46, f 47, f 48, f 49, f 50, f 51, f 52, f 53, f 54, f 55, f 56, f 57, f 58, f 59, f 60, f 61, f 62, f 63, f 64, f 65, f 66, f 67, f 68, f 69, f 70, f 71, f 72, f 73, f 74, f 75, f 76, f 77, f 78, f 79, f 80, f 81, f 82, f 83, f 84, f 85, f 86, f 87, f 88, f 89, f 90, f 91, f 92, f 93, f 94, f 95, f 96, f 97, f 98, f 99, f 100, f 101], defers := ds.map fun D => { target := .collected D, args := #[] } }
set_option maxRecDepth 100000 in
theorem lit_slots (T : Array Value) (h : T.size = 102) (f : Nat → Value) (hf : ∀ j, j < 102 → f j = T.getD j undef) : T = #[f 0, f 1, f 2, f 3, f 4, f 5, f 6, f 7, f 8, f 9, f 10, f 11, f 12, f 13, f 14, f 15, f 16, f 17, f 18, f 19, f 20, f 21, f 22, f 23, f 24, f 25, f 26, f 27, f 28, f 29, f 30, f 31, f 32, f 33, f 34, f 35, f 36, f 37, f 38, f 39, f 40, f 41, f 42, f 43, f 44, f 45, f 46, f 47, f 48, f 49, f 50, f 51, f 52, f 53, f 54, f 55, f 56, f 57, f 58, f 59, f 60, f 61, f 62, f 63, f 64, f 65, f 66, f 67, f 68, f 69, f 70, f 71, f 72, f 73, f 74, f 75, f 76, f 77, f 78, f 79, f 80, f 81, f 82, f 83, f 84, f 85, f 86, f 87, f 88, f 89, f 90, f 91, f 92, f 93, f 94, f 95, f 96, f 97, f 98, f 99, f 100, f 101] := by
  have e : T = ((List.range 102).map f).toArray := by
    apply Array.ext
    · simp [h]
    · intro i h1 h2
      have hi : i < 102 := by rw [← h]; exact h1
      simp [hf i hi, Array.getD, h1]
  exact e.trans (by kernel_rfl)
set_option maxRecDepth 100000 in
theorem RndAct.of {w : World} {bw Bs r : Nat} {c : Value} {E : Int} {ds : List Nat} (a : Act) (h : a.tmps.size = 102) (h3 : a.tmps.getD 3 undef = .pointer (some ⟨w.heap.size + 1, 0, none⟩)) (h4 : a.tmps.getD 4 undef = .pointer (some ⟨w.heap.size + 2, 0, none⟩)) (h7 : a.tmps.getD 7 undef = c) (h8 : a.tmps.getD 8 undef = .int .i64 E) (h9 : a.tmps.getD 9 undef = .func (.func 57) #[] #[.pointer (some ⟨Bs, 0, none⟩)]) (h11 : a.tmps.getD 11 undef = .pointer (some ⟨bw, 0, none⟩)) (h13 : a.tmps.getD 13 undef = .int .i64 (r : Nat)) (hd : a.defers = ds.map fun D => { target := .collected D, args := #[] }) : RndAct w bw Bs r c E ds a := by
  obtain ⟨T, d⟩ := a
  simp only at h h3 h4 h7 h8 h9 h11 h13 hd
  obtain ⟨f, hf⟩ : ∃ f : Nat → Value, f = fun j => T.getD j undef := ⟨_, rfl⟩
  have e := lit_slots T h f (fun j _ => by rw [hf])
  have g3 : f 3 = .pointer (some ⟨w.heap.size + 1, 0, none⟩) := by rw [hf]; exact h3
  have g4 : f 4 = .pointer (some ⟨w.heap.size + 2, 0, none⟩) := by rw [hf]; exact h4
  have g7 : f 7 = c := by rw [hf]; exact h7
  have g8 : f 8 = .int .i64 E := by rw [hf]; exact h8
  have g9 : f 9 = .func (.func 57) #[] #[.pointer (some ⟨Bs, 0, none⟩)] := by rw [hf]; exact h9
  have g11 : f 11 = .pointer (some ⟨bw, 0, none⟩) := by rw [hf]; exact h11
  have g13 : f 13 = .int .i64 (r : Nat) := by rw [hf]; exact h13
  refine ⟨f, ?_⟩
  rw [g3, g4, g7, g8, g9, g11, g13] at e
  rw [e, hd]
/-- What stands at the head of the loop. -/
structure RndAt (w : World) (zs : List Int) (Bs Pb : Nat) (sv : Value) (bw : Nat) (aw : Option Addr) (cw : Nat) (cut : Int) (r : Nat) (ds : List Nat) (W : World) : Prop where
  kp : KvAt w W zs Bs Pb sv bw aw cw cut
  few : r ≤ 2
  len : ds.length = r
  def_ : ∀ D ∈ ds, W.heap[D]? = some (.deferred (some []))
  nod : ds.Nodup
  up : ∀ D ∈ ds, w.heap.size + 3 ≤ D
theorem results_cell1 {fn : Func} {p : Tmp} {t1 : TypeId} (h : fn.results = #[.cell p t1]) (tmps : Array Value) (P : Program) (w : World) :
    (results fn tmps).run P w = ((asAddr (tmps.getD p undef)).run P w).andThen fun a w₁ => (loadVar t1 a).run P w₁ := by
  simp only [results, h]
  simp [Sem.run_bind, Result.andThen]
theorem vload_bool (b : Nat) (v : Value) (w : World) (h : w.cell? ⟨b, 0, none⟩ = some v) : (loadVar 4 ⟨b, 0, none⟩).run Tryz.prog w = .ok v w := by go_simp
set_option maxRecDepth 100000 in
set_option maxHeartbeats 16000000 in
theorem vkeeps_walk {a : Vt} {va : Value} {d : Nat} {cut : Int} {w : World} (ha : VsAt w (fun _ => True) d a.l va) (sa : SmT d a) (hT : Tx w) :
    Calls Tryz.prog 4 #[vV a.k a.n a.s va, .int .i64 cut] w fun e w' => e = .returned (.bool true) ∧ Only (fun _ => False) w w' := by
  have HA : Hid (∀ w1, Calls Tryz.prog 5 #[] w1 fun e w' => e = .returned (.bool true) ∧ Only (fun _ => False) w1 w') := vawake
  have HVa : Hid _ := value_calls ha sa
  have HT : Hid (Tx w ∧ SmT d a) := ⟨hT, sa⟩
  obtain ⟨aa, ca, rfl⟩ := ha.form
  have O0 : Hid (Only (fun _ => False) w w) := Only.refl _ _
  clear ha sa hT
  unfold vV
  obtain ⟨ka, hka⟩ : ∃ k, k = a.k := ⟨_, rfl⟩
  obtain ⟨na, hna⟩ : ∃ k, k = a.n := ⟨_, rfl⟩
  obtain ⟨ta, hta⟩ : ∃ k, k = a.s := ⟨_, rfl⟩
  obtain ⟨La, hLa⟩ : ∃ k, k = a.l.length := ⟨_, rfl⟩
  rw [← hka, ← hna, ← hta, ← hLa] at HVa
  rw [← hka, ← hna, ← hta, ← hLa]
  clear hka hna hta hLa
  have HB0 : Hid (∀ w1 : World, Only (fun _ => False) (((w.alloc (.cells #[.int .i64 ka, .int .i64 na, .string ta, .slice aa La ca] 24)).alloc (.cells #[.int .i64 cut] 3)).alloc (.cells #[.bool false] 4)) w1 → w1.heap[w.heap.size]? = some (.cells #[.int .i64 ka, .int .i64 na, .string ta, .slice aa La ca] 24) ∧ Boxed w1 (w.heap.size + 1) 3 (.int .i64 cut) ∧ Boxed w1 (w.heap.size + 2) 4 (.bool false) ∧ w.heap.size + 2 < w1.heap.size ∧ Only (fun _ => False) w w1) := fun w1 o1 => by
    have R2 := (o1.block (w.heap.size + 2) (by simp) (fun h => h)).trans (valloc_at _ _ _ (by simp))
    refine ⟨?_, ?_, R2, (Array.getElem?_eq_some_iff.1 R2).1, (((O0.out.alloc _).alloc _).alloc _).trans o1 (fun _ _ g => g)⟩
    · refine (o1.block w.heap.size (by simp; omega) (fun h => h)).trans ?_
      exact (((((Only.refl (fun _ => False) (w.alloc (.cells #[.int .i64 ka, .int .i64 na, .string ta, .slice aa La ca] 24)))).alloc _).alloc _).block w.heap.size (by simp) (fun h => h)).trans (valloc_at _ _ _ rfl)
    · refine (o1.block (w.heap.size + 1) (by simp) (fun h => h)).trans ?_
      exact ((((Only.refl (fun _ => False) ((w.alloc (.cells #[.int .i64 ka, .int .i64 na, .string ta, .slice aa La ca] 24)).alloc (.cells #[.int .i64 cut] 3)))).alloc _).block (w.heap.size + 1) (by simp) (fun h => h)).trans (valloc_at _ _ _ (by simp))
  refine (callsIn_wide (n := 7)).1 ?_
  refine callsIn_of_wp_marks Tryz.func4 rfl trivial ?_ rfl
  simp only [Tryz.ntmps4, List.size_toArray, List.length_cons, List.length_nil, Nat.reduceAdd, Nat.reduceSub, Array.replicate_succ, Array.replicate_zero, List.push_toArray, List.append_toArray, List.nil_append, List.cons_append]
  refine wpIn_wide.2 ?_
  go_wp2_with fail
  refine (show Calls Tryz.prog 5 _ _ _ from HA.out _).mono ?_
  rintro e w1 ⟨rfl, o1⟩
  obtain ⟨hV0, hC0, hR0, hsz, ow⟩ := HB0.out w1 o1
  have OW : Hid (Only (fun _ => False) w w1 ∧ Boxed w1 (w.heap.size + 1) 3 (.int .i64 cut) ∧ Boxed w1 (w.heap.size + 2) 4 (.bool false) ∧ w.heap.size + 2 < w1.heap.size) := ⟨ow, hC0, hR0, hsz⟩
  have v0 := vblk_cells hV0 0
  have v1 := vblk_cells hV0 1
  have v2 := vblk_cells hV0 2
  have v3 := vblk_cells hV0 3
  simp only [List.getElem?_toArray, List.getElem?_cons_zero, List.getElem?_cons_succ] at v0 v1 v2 v3
  clear HA HB0 o1 hV0 hC0 hR0 hsz ow
  go_wp2_with fail
  refine (show Calls Tryz.prog 6 _ _ _ from HVa.out _ OW.out.1).mono ?_
  rintro e w2 ⟨x, rfl, G2⟩
  clear HVa v0 v1 v2 v3
  have HX : Hid (XvAt w2 w1.heap.size d a x ∧ Only (fun _ => False) w1 w2) := ⟨G2.out.1, G2.out.2⟩
  have HSA := HT.out.2
  have hTx2 : Tx w2 := (HT.out.1.frame OW.out.1).frame G2.out.2
  have HTr : Hid (∀ (w1 : World) (bs : Nat → Prop), Only bs w2 w1 → (∀ b, b < w2.heap.size → ¬ bs b) → _) := vk_tree HX.out.1 HSA
  have HCo : Hid _ := vk_copy HX.out.1 HSA hTx2.1
  have HBx : Hid _ := vk_boxes HX.out.1 HSA hTx2.1
  have HLs : Hid _ := vk_list HX.out.1 HSA hTx2.1
  have HTe : Hid _ := vk_text HX.out.1 HSA hTx2
  have HEq : Hid _ := vk_equal HX.out.1 HSA hTx2.1
  have HSm : Hid (∀ (B C : Nat) (W : World) (l1 l2 : Value), NuAt W B (2 * d + 1) (nm d false a) l1 → NuAt W C (2 * d + 1) (nm d false a) l2 → Calls Tryz.prog 21 #[.agg #[.int .i64 (nm d false a).k, .int .i64 (nm d false a).n, .string (nm d false a).s, l1], .agg #[.int .i64 (nm d false a).k, .int .i64 (nm d false a).n, .string (nm d false a).s, l2]] W fun e w' => e = .returned (.bool true) ∧ Only (fun _ => False) W w') := fun B C W l1 l2 h1 h2 => vk_same h1 h2 HSA
  have HSX : Hid (∃ S, SpAt w2 S (2 * d + 1) x ∧ ∀ b, S b → w1.heap.size ≤ b ∧ Lv w2 b) := by
    obtain ⟨S, h1, h2⟩ := HX.out.1
    exact ⟨S, h1.sp ⟨d, nm_sm d false a HSA⟩, h2⟩
  obtain ⟨z0, hz0⟩ : ∃ z : Int, z = (if sdB (2 * d + 1) (nm d false a) then 0 else 1) := ⟨_, rfl⟩
  obtain ⟨zs, hzs⟩ : ∃ zs, zs = zsV d a := ⟨_, rfl⟩
  have hzl : zs.length ≤ 1024 := by rw [hzs]; exact zsV_len d a
  rw [← hz0, ← hzs] at HBx
  rw [← hzs] at HLs
  obtain ⟨nz, hnz⟩ : ∃ nz, nz = zs.length := ⟨_, rfl⟩
  have HNZ : Hid (nz = zs.length ∧ zs.length ≤ 1024) := ⟨hnz, hzl⟩
  rw [← hnz] at HLs
  obtain ⟨tv, htv⟩ : ∃ t, t = nm d false a := ⟨_, rfl⟩
  rw [← htv] at HTr HSm
  obtain ⟨tk, htk⟩ : ∃ k, k = tv.k := ⟨_, rfl⟩
  obtain ⟨tn, htn⟩ : ∃ k, k = tv.n := ⟨_, rfl⟩
  obtain ⟨ts, hts⟩ : ∃ k, k = tv.s := ⟨_, rfl⟩
  obtain ⟨tl, htl⟩ : ∃ k, k = tv.l.length := ⟨_, rfl⟩
  rw [← htk, ← htn, ← hts] at HSm
  rw [← htk, ← htn, ← hts, ← htl] at HTr
  have O2 : Hid (Only (fun _ => False) w2 w2) := Only.refl _ _
  clear HSA hTx2 hz0 hzs hzl hnz htv htk htn hts htl G2 HT
  go_wp2_with fail
  refine (show Calls Tryz.prog 7 _ _ _ from HTr.out w2 (fun _ => False) O2.out (fun _ _ g => g)).mono ?_
  rintro e w3 ⟨lv, rfl, G3⟩
  obtain ⟨⟨al, cl, rfl⟩, _⟩ := G3.out
  obtain ⟨w4, hw4⟩ : ∃ q, q = w3.alloc (.cells #[.int .i64 tk, .int .i64 tn, .string ts, .slice al tl cl] 24) := ⟨_, rfl⟩
  obtain ⟨B6, hB6⟩ : ∃ B, B = w3.heap.size := ⟨_, rfl⟩
  have HW4 : Hid (w4 = w3.alloc (.cells #[.int .i64 tk, .int .i64 tn, .string ts, .slice al tl cl] 24) ∧ B6 = w3.heap.size) := ⟨hw4, hB6⟩
  have HC4 : Hid (NuAt w4 w2.heap.size (2 * d + 1) tv (.slice al tl cl) ∧ w4.heap[B6]? = some (.cells #[.int .i64 tk, .int .i64 tn, .string ts, .slice al tl cl] 24) ∧ w2.heap.size ≤ B6 ∧ Only (fun _ => False) w2 w4 ∧ ∃ S, VsAt w4 S (2 * d + 1) tv.l (.slice al tl cl) ∧ ∀ b, S b → w2.heap.size ≤ b ∧ b < w4.heap.size) := by
    have o4 : Only (fun _ => False) w3 w4 := by rw [hw4]; exact (Only.refl _ w3).alloc _
    have h4 := G3.out.2.1.only o4 (fun _ _ g => g)
    refine ⟨h4, by rw [hw4]; exact valloc_at _ _ _ hB6, by rw [hB6]; exact G3.out.2.2.size, G3.out.2.2.trans o4 (fun _ _ g => g), h4⟩
  clear hw4 hB6 G3
  go_wp2_with fail
  rw [← HW4.out.2, ← HW4.out.1]
  refine (show Calls Tryz.prog 14 _ _ _ from HCo.out w4 HC4.out.2.2.2.1).mono ?_
  rintro e w5 ⟨c, E, rfl, G5⟩
  have O5 : Hid (Only (fun _ => False) w2 w5) := HC4.out.2.2.2.1.trans G5.out.2 (fun _ _ g => g)
  clear HCo
  go_wp2_with fail
  refine (show Calls Tryz.prog 24 _ _ _ from HBx.out w5 O5.out).mono ?_
  rintro e w6 ⟨Bs, Pb, sv, rfl, hbs, hin, hBs, hPb, o6⟩
  have HIT : Hid (w6.cell? ⟨Bs, 0, none⟩ = some sv ∧ IntsIn w6 Pb sv zs ∧ (w5.heap.size ≤ Bs ∧ Bs < w6.heap.size) ∧ (w5.heap.size ≤ Pb ∧ Pb < w6.heap.size) ∧ Only (fun _ => False) w5 w6) := ⟨hbs, hin, hBs, hPb, o6⟩
  have O6 : Hid (Only (fun _ => False) w2 w6) := O5.out.trans o6 (fun _ _ g => g)
  clear hbs hin hBs hPb o6 HBx
  go_wp2_with fail
  refine (show Calls Tryz.prog 13 _ _ _ from HLs.out w6 O6.out).mono ?_
  rintro e w7 ⟨aw, cw, rfl, G7⟩
  clear HLs
  obtain ⟨w8, hw8⟩ : ∃ q, q = w7.alloc (.cells #[.slice aw nz cw] 37) := ⟨_, rfl⟩
  obtain ⟨bw, hbw⟩ : ∃ q, q = w7.heap.size := ⟨_, rfl⟩
  have HW8 : Hid (w8 = w7.alloc (.cells #[.slice aw nz cw] 37) ∧ bw = w7.heap.size) := ⟨hw8, hbw⟩
  have H8 : Hid (Boxed w8 bw 37 (.slice aw nz cw) ∧ w8.ownsRow w6.heap.size 3 1 (.slice aw nz cw) nz (zs.map (Value.int .i64)) ∧ Only (fun _ => False) w6 w8 ∧ w6.heap.size ≤ bw) := by
    have o8 : Only (fun _ => False) w7 w8 := by rw [hw8]; exact (Only.refl _ w7).alloc _
    exact ⟨by rw [hw8, hbw]; exact Boxed.new w7 _ _, o8.owns G7.out.1 (fun _ _ g => g), G7.out.2.trans o8 (fun _ _ g => g), by rw [hbw]; exact G7.out.2.size⟩
  clear hw8 hbw G7
  have O8 : Hid (Only (fun _ => False) w2 w8) := O6.out.trans H8.out.2.2.1 (fun _ _ g => g)
  go_wp2_with fail
  rw [← HW8.out.2, ← HW8.out.1]
  refine (show Calls Tryz.prog 12 _ _ _ from HTe.out w8 O8.out).mono ?_
  rintro e w9 ⟨vt, rfl, o9⟩
  have O9 : Hid (Only (fun _ => False) w8 w9) := o9
  clear HTe o9
  go_wp2_with fail
  refine (show Calls Tryz.prog 25 _ _ _ from HEq.out w9 (O8.out.trans O9.out (fun _ _ g => g))).mono ?_
  rintro e w10 ⟨ve, rfl, o10⟩
  have O10 : Hid (Only (fun _ => False) w2 w10 ∧ Only (fun _ => False) w4 w10 ∧ Only (fun _ => False) w6 w10 ∧ Only (fun _ => False) w8 w10 ∧ Only (fun _ => False) w10 w10) := by
    have h8 := O9.out.trans o10 (fun _ _ g => g)
    have h6 := H8.out.2.2.1.trans h8 (fun _ _ g => g)
    have h5 := HIT.out.2.2.2.2.trans h6 (fun _ _ g => g)
    exact ⟨O8.out.trans h8 (fun _ _ g => g), G5.out.2.trans h5 (fun _ _ g => g), h6, h8, Only.refl _ _⟩
  clear HEq o10 O9
  have HS : Hid (∀ w', Only (fun _ => False) w10 w' → (w'.cell? ⟨B6, 0, none⟩ = some (.int .i64 tk) ∧ w'.cell? ⟨B6, 1, none⟩ = some (.int .i64 tn) ∧ w'.cell? ⟨B6, 2, none⟩ = some (.string ts) ∧ w'.cell? ⟨B6, 3, none⟩ = some (.slice al tl cl))) := fun w' o => by
    have hb := ((O10.out.2.1.trans o (fun _ _ g => g)).block B6 (Array.getElem?_eq_some_iff.1 HC4.out.2.1).1 (fun g => g)).trans HC4.out.2.1
    exact ⟨(vblk_cells hb 0).trans rfl, (vblk_cells hb 1).trans rfl, (vblk_cells hb 2).trans rfl, (vblk_cells hb 3).trans rfl⟩
  have HU : Hid (∀ w', Only (fun _ => False) w10 w' → NuAt w' w2.heap.size (2 * d + 1) tv (.slice al tl cl)) := fun w' o => HC4.out.1.only (O10.out.2.1.trans o (fun _ _ g => g)) (fun _ _ g => g)
  have hnn := func_not_nil Bs
  go_wp2_with fail
  go_region_held3 (fun w2 => (w2.cell? ⟨B6, 0, none⟩ = some (.int .i64 tk) ∧ w2.cell? ⟨B6, 1, none⟩ = some (.int .i64 tn) ∧ w2.cell? ⟨B6, 2, none⟩ = some (.string ts) ∧ w2.cell? ⟨B6, 3, none⟩ = some (.slice al tl cl)))
    (first
      | with_reducible exact HS.out _ O10.out.2.2.2.2.drew
      | with_reducible exact HS.out _ OT.out
      | with_reducible exact HS.out _ OS.out)
    (first
      | (go_at_call 21; refine (show Calls Tryz.prog 21 _ _ _ from HSm.out _ _ _ _ _ GT.out.2.1 (HU.out _ OT.out)).mono ?_; rintro ex wS ⟨rfl, oS⟩; have OS : Hid (Only (fun _ => False) w10 wS) := OT.out.trans oS (fun _ _ g => g); clear oS)
      | (go_at_call 7; refine (show Calls Tryz.prog 7 _ _ _ from HTr.out _ (fun _ => False) O10.out.1.drew (fun _ _ g => g)).mono ?_; rintro ex wT ⟨lt, rfl, GT⟩; have OT : Hid (Only (fun _ => False) w10 wT) := O10.out.2.2.2.2.drew.trans GT.out.2.2 (fun _ _ g => g); obtain ⟨⟨at1, ct1, rfl⟩, _⟩ := GT.out))
  have O11 : Hid (Only (fun _ => False) w10 wS) := OS.out
  obtain ⟨hE, Sc, hc1, hc2⟩ := G5.out.1
  have HSC : Hid ((E = 0 ∨ (E = 1 ∧ c = .nilIface)) ∧ ∀ b, Sc b → w4.heap.size ≤ b ∧ b < w5.heap.size) := ⟨hE, fun b hb => ⟨(hc2 b hb).1, (hc2 b hb).2.1⟩⟩
  have o5S : Only (fun _ => False) w5 wS := (HIT.out.2.2.2.2.trans O10.out.2.2.1 (fun _ _ g => g)).trans O11.out (fun _ _ g => g)
  have HSc : Hid _ := vk_spoil hc1 hc2 (fun _ => False) o5S (fun _ _ g => g)
  have G5E : Hid (E = 0 ∨ (E = 1 ∧ c = .nilIface)) := hE
  clear hE hc1 hc2 o5S GT OT OS HS HU hnn G5
  go_wp2_with fail
  refine (show Calls Tryz.prog 26 _ _ _ from HSc.out).mono ?_
  rintro e w11 ⟨rfl, o11⟩
  clear HSc
  have hB64 : B6 < w4.heap.size := (Array.getElem?_eq_some_iff.1 HC4.out.2.1).1
  have O12 : Hid (Only (fun b => w4.heap.size ≤ b ∧ b < w5.heap.size) w10 w11 ∧ Only (fun b => w4.heap.size ≤ b ∧ b < w5.heap.size) w4 w11 ∧ Only (fun b => w4.heap.size ≤ b ∧ b < w5.heap.size) w2 w11 ∧ w2.heap.size ≤ w4.heap.size ∧ Only (fun _ => False) w11 w11 ∧ w4.heap.size ≤ w11.heap.size) := by
    have h1 : Only (fun b => w4.heap.size ≤ b ∧ b < w5.heap.size) w10 w11 := (O11.out.mono (fun _ _ g => g.elim)).trans o11 (fun b _ g => HSC.out.2 b g)
    have h2 : Only (fun b => w4.heap.size ≤ b ∧ b < w5.heap.size) w4 w11 := (O10.out.2.1.mono (fun _ _ g => g.elim)).trans h1 (fun _ _ g => g)
    exact ⟨h1, h2, (O10.out.1.mono (fun _ _ g => g.elim)).trans h1 (fun _ _ g => g), by have := HC4.out.2.2.1; omega, Only.refl _ _, h2.size⟩
  clear o11 O11 HSC
  have HS : Hid (∀ w', Only (fun _ => False) w11 w' → (w'.cell? ⟨B6, 0, none⟩ = some (.int .i64 tk) ∧ w'.cell? ⟨B6, 1, none⟩ = some (.int .i64 tn) ∧ w'.cell? ⟨B6, 2, none⟩ = some (.string ts) ∧ w'.cell? ⟨B6, 3, none⟩ = some (.slice al tl cl))) := fun w' o => by
    have hb := ((O12.out.2.1.trans o (fun _ _ g => g.elim)).block B6 hB64 (fun g => by omega)).trans HC4.out.2.1
    exact ⟨(vblk_cells hb 0).trans rfl, (vblk_cells hb 1).trans rfl, (vblk_cells hb 2).trans rfl, (vblk_cells hb 3).trans rfl⟩
  have HU : Hid (∀ w', Only (fun _ => False) w11 w' → NuAt w' w2.heap.size (2 * d + 1) tv (.slice al tl cl)) := fun w' o => by
    obtain ⟨S, h1, h2⟩ := HC4.out.2.2.2.2
    have o4 := O12.out.2.1.trans o (fun _ _ g => g.elim)
    exact ⟨S, h1.step (fun _ g => g) (fun p u hp hc => o4.cell hc (fun g => by have := h2 _ hp; omega)) (Nat.le_refl _), fun b hb => ⟨(h2 b hb).1, Nat.lt_of_lt_of_le (h2 b hb).2 o4.size⟩⟩
  clear hB64
  go_wp2_with fail
  go_region_held3 (fun w2 => (w2.cell? ⟨B6, 0, none⟩ = some (.int .i64 tk) ∧ w2.cell? ⟨B6, 1, none⟩ = some (.int .i64 tn) ∧ w2.cell? ⟨B6, 2, none⟩ = some (.string ts) ∧ w2.cell? ⟨B6, 3, none⟩ = some (.slice al tl cl)))
    (first
      | with_reducible exact HS.out _ O12.out.2.2.2.2.1.drew
      | with_reducible exact HS.out _ OT.out
      | with_reducible exact HS.out _ OS.out)
    (first
      | (go_at_call 21; refine (show Calls Tryz.prog 21 _ _ _ from HSm.out _ _ _ _ _ GT.out.2.1 (HU.out _ OT.out)).mono ?_; rintro ex wS ⟨rfl, oS⟩; have OS : Hid (Only (fun _ => False) w11 wS) := OT.out.trans oS (fun _ _ g => g); clear oS)
      | (go_at_call 7; refine (show Calls Tryz.prog 7 _ _ _ from HTr.out _ _ O12.out.2.2.1.drew (fun _ _ g => by have := O12.out.2.2.2.1; omega)).mono ?_; rintro ex wT ⟨lt, rfl, GT⟩; have OT : Hid (Only (fun _ => False) w11 wT) := O12.out.2.2.2.2.1.drew.trans GT.out.2.2 (fun _ _ g => g); obtain ⟨⟨at1, ct1, rfl⟩, _⟩ := GT.out))
  have O13 : Hid (Only (fun _ => False) w11 wS) := OS.out
  obtain ⟨Sx, hx1, hx2⟩ := HSX.out
  have HXS : Hid (∀ b, Sx b → w1.heap.size ≤ b ∧ b < w2.heap.size) := fun b hb => ⟨(hx2 b hb).1, (hx2 b hb).2.1⟩
  have HSx : Hid _ := vk_spoil hx1 hx2 _ (O12.out.2.2.1.trans O13.out (fun _ _ g => g.elim)) (fun b hb g => by have := O12.out.2.2.2.1; omega)
  clear hx1 hx2 HSX GT OT OS HS HU HSm HTr
  go_wp2_with fail
  refine (show Calls Tryz.prog 26 _ _ _ from HSx.out).mono ?_
  rintro e w12 ⟨rfl, o12⟩
  clear HSx
  have HK : Hid (KvAt w w12 zs Bs Pb sv bw aw cw cut) := by
    have z2 := HX.out.2.size
    have z4 := O12.out.2.2.2.1
    have z5 := HC4.out.2.2.1
    have o1012 : Only (fun b => w1.heap.size ≤ b ∧ b < w5.heap.size) w10 w12 := ((O12.out.1.mono (fun b _ g => by omega)).trans O13.out (fun _ _ g => g.elim)).trans o12 (fun b _ g => by have := HXS.out b g; have := O5.out.size; omega)
    have o812 : Only (fun b => w1.heap.size ≤ b ∧ b < w5.heap.size) w8 w12 := (O10.out.2.2.2.1.mono (fun _ _ g => g.elim)).trans o1012 (fun _ _ g => g)
    have o612 : Only (fun b => w1.heap.size ≤ b ∧ b < w5.heap.size) w6 w12 := (O10.out.2.2.1.mono (fun _ _ g => g.elim)).trans o1012 (fun _ _ g => g)
    have o112 : Only (fun b => w1.heap.size ≤ b ∧ b < w5.heap.size) w1 w12 := ((HX.out.2.mono (fun _ _ g => g.elim)).trans (O10.out.1.mono (fun _ _ g => g.elim)) (fun _ _ g => g)).trans o1012 (fun _ _ g => g)
    have hz := OW.out.2.2.2
    have hz6 := HIT.out.2.2.2.2.size
    have hz8 := H8.out.2.2.2
    have hnz := HNZ.out.1
    have hrow := H8.out.2.1
    refine ⟨(o112.block _ (by omega) (fun g => by omega)).trans OW.out.2.1, (o112.block _ (by omega) (fun g => by omega)).trans OW.out.2.2.1, ?_, ?_, o612.cell HIT.out.1 (fun g => by have := HIT.out.2.2.1; simp only at g; omega), ?_, Nat.lt_of_lt_of_le HIT.out.2.2.2.1.2 o612.size, HNZ.out.2, (OW.out.1.mono (fun _ _ g => g.elim)).trans o112 (fun k _ g => by omega)⟩
    · unfold Boxed
      rw [← hnz]
      exact (o812.block _ (Array.getElem?_eq_some_iff.1 H8.out.1).1 (fun g => by omega)).trans H8.out.1
    · rcases hrow.2 with ⟨e1, e2⟩ | ⟨g, cap, cur, e1, e2, e3, _⟩
      · exact ⟨0, 0, fun h => by omega, fun j hj => by omega⟩
      · injection e1 with e1 _ _
        have hg := (Array.getElem?_eq_some_iff.1 e3).1
        refine ⟨g, 0, fun _ => e1, fun j hj => ?_⟩
        have hc : w8.cell? ⟨g, 0 + j, none⟩ = some (.int .i64 (zs.getD j 0)) := by
          subst e1
          rw [Nat.zero_add, hrow.cellAt j (by omega)]
          simp [List.getD, hj]
        exact o812.cell hc (fun q => by simp only at q; omega)
    · rcases HIT.out.2.1 with q | ⟨off, cap, q1, q2⟩
      · exact .inl q
      · exact .inr ⟨off, cap, q1, fun j hj => o612.cell (q2 j hj) (fun g => by have := HIT.out.2.2.2.1; simp only at g; omega)⟩
  have HCE : Hid (E = 0 ∨ (E = 1 ∧ c = .nilIface)) := G5E.out
  clear o12 O13 O12 HXS HIT H8 HW8 HW4 HC4 O10 O8 O6 O5 HX OW O0 O2
  go_wp2_with fail
  refine (wpIn_wide (n := 7)).1 ?_
  refine wpIn_loop (fun a W => ∃ r ds, RndAct w bw Bs r c E ds a ∧ RndAt w zs Bs Pb sv bw aw cw cut r ds W) (fun a _ => 2 - (RowKit.intOf (a.tmps.getD 13 undef)).toNat) ⟨0, [], RndAct.of _ rfl rfl rfl rfl rfl rfl rfl rfl rfl, ⟨HK.out, by omega, rfl, fun D hD => (by cases hD), List.nodup_nil, fun D hD => (by cases hD)⟩⟩ ?_
  clear HK
  rintro a W ⟨r, ds, ⟨f, rfl⟩, hR⟩
  have HR : Hid (RndAt w zs Bs Pb sv bw aw cw cut r ds W) := hR
  obtain ⟨df, hdf⟩ : ∃ q, q = ds.map fun D => ({ target := .collected D, args := #[] } : Deferred) := ⟨_, rfl⟩
  have HDF : Hid (df = ds.map fun D => ({ target := .collected D, args := #[] } : Deferred)) := hdf
  rw [← hdf]
  have hfew := hR.few
  clear hR hdf
  by_cases hr2 : r < 2
  · have r0 : (r : Int) < 2 := by omega
    have r1 : IntKind.i64.wrap ((r : Int) + 1) = (r : Int) + 1 := by rw [IntKind.wrap_i64]; omega
    obtain ⟨wl, hwl⟩ : ∃ q, q = W.alloc (.cells #[.int .i64 0] 3) := ⟨_, rfl⟩
    have HWL : Hid (wl = W.alloc (.cells #[.int .i64 0] 3)) := hwl
    obtain ⟨nb, hnb⟩ : ∃ q, q = W.heap.size := ⟨_, rfl⟩
    have HNB : Hid (nb = W.heap.size) := hnb
    have ol : Only (fun _ => False) W wl := by rw [hwl]; exact (Only.refl _ W).alloc _
    have sl : wl.heap.size = nb + 1 := by rw [hwl, hnb]; simp
    have bl : Boxed wl nb 3 (.int .i64 0) := by rw [hwl, hnb]; exact Boxed.new W _ _
    have HKL : Hid (KvAt w wl zs Bs Pb sv bw aw cw cut) := HR.out.kp.frame ol (fun _ _ e => e)
    have hPl : Pb < nb := by rw [hnb]; exact HR.out.kp.pb
    have OL : Hid (Only (fun _ => False) W wl) := ol
    clear hwl hnb ol
    gi_wp2_with fail
    rw [← HWL.out, ← HNB.out]
    apply wpIn_rangeFunc_ownG (α := Nat) (encs := nthEnc zs) (Kp := KpP Pb) (w := wl) rfl (by omega) (gf := 57) (lb := #[.pointer (some ⟨Bs, 0, none⟩)]) rfl trivial (enters_of Tryz.func57 (by kernel_rfl) rfl) (values_pre 6 Bs Pb sv zs wl (by unfold maxLen; have := HNZ.out.2; omega) HKL.out.it HKL.out.ints (by omega)) (fun h k => Eq.trans k h) ?hKb (Below.refl _ _) (fun _ => rfl) (fun pre W => CtV wl nb pre W) (fun c pre W => (c = .ret ∧ pre ≠ List.range pre.length) ∨ (c = .exit 2 ∧ CtV wl nb pre W ∧ (pre.length : Int) = cut)) ?hI ?hIx ⟨bl, Only.refl _ _⟩
    case hKb =>
      intro W l0 o o' hl0 hw0 ho1 ho2
      exact (grownBy_putObj' W l0 o').block Pb (by have := (Array.getElem?_eq_some_iff.1 hw0).1; omega) (fun e => by cases e; omega)
    case hI => exact fun pre W W' row hs hg' hr => hs.frame (by omega) hg' hr
    case hIx =>
      intro c pre W W' row hs hg' hr
      rcases hs with hs | ⟨h1, h2, h3⟩
      · exact .inl hs
      · exact .inr ⟨h1, h2.frame (by omega) hg' hr, h3⟩
    case hassign =>
      intro l0 k W K hK
      simp only [nthEnc, List.zip_toArray, List.zip_cons_cons, List.zip_nil_right, List.foldl_toArray, List.foldl_cons, List.foldl_nil, List.setIfInBounds_toArray, List.set_cons_zero, List.set_cons_succ]
      gi_wp2
      exact hK
    case hbody =>
      rintro l0 pre k V hI hlen
      have hnzz := HNZ.out.1
      obtain ⟨j, hj⟩ : ∃ j, j = pre.length := ⟨_, rfl⟩
      obtain ⟨pv, hpv⟩ : ∃ q, q = zs.getD k 0 := ⟨_, rfl⟩
      obtain ⟨qv, hqv⟩ : ∃ q, q = zs.getD j 0 := ⟨_, rfl⟩
      have hKW : KvAt w V zs Bs Pb sv bw aw cw cut := HR.out.kp.frame ((OL.out.mono (fun _ _ e => e.elim)).trans hI.only (fun k hk e => by rw [HNB.out] at e; exact e)) (fun k hk e => by omega)
      have c1 := hI.box.cell
      have f1 := hI.box.frozen
      have c2 := hKW.want.cell
      have c3 := hKW.cutB.cell
      obtain ⟨g, o, ha, hrow⟩ := hKW.row
      have hjz : j < zs.length := by omega
      have c4 := hrow j hjz
      have haw := ha (by omega)
      have HQ : Hid (pv = zs.getD k 0 ∧ qv = zs.getD j 0 ∧ j = pre.length ∧ CtV wl nb pre V) := ⟨hpv, hqv, hj, hI⟩
      rw [← hj] at c1
      rw [← hqv] at c4
      rw [← hnzz] at c2
      rw [← hpv]
      subst haw
      have d0 : ¬ (nz : Int) ≤ (j : Int) := by omega
      have d1 : decide ((nz : Int) ≤ (j : Int)) = false := by simpa using d0
      have d2 : (0 : Int) ≤ (j : Int) := by omega
      have d3 : (j : Int) < (nz : Int) := by omega
      have d4 : IntKind.i64.wrap ((j : Int) + 1) = (j : Int) + 1 := by rw [IntKind.wrap_i64]; have := HNZ.out; omega
      have hc5 : (V.setCell ⟨nb, 0, none⟩ (.int .i64 ((j : Int) + 1))).cell? ⟨nb, 0, none⟩ = some (.int .i64 ((j : Int) + 1)) := (hI.box.set _).cell
      have hc6 : (V.setCell ⟨nb, 0, none⟩ (.int .i64 ((j : Int) + 1))).cell? ⟨w.heap.size + 1, 0, none⟩ = some (.int .i64 cut) := by
        have hne : w.heap.size + 1 ≠ nb := by have := HNB.out; have := HR.out.kp.cutB.lt; omega
        exact ((Only.refl (fun q => q = nb) V).setCell _ _ (fun _ => rfl)).cell c3 hne
      have HRS : Hid ((∃ u, V.cell? ⟨w.heap.size + 2, 0, none⟩ = some u) ∧ V.frozen? ⟨w.heap.size + 2, 0, none⟩ = false) := ⟨⟨_, hKW.resB.cell⟩, hKW.resB.frozen⟩
      have HRS2 : Hid (w.heap.size + 2 < wl.heap.size) := by have := HKL.out.resB.lt; exact this
      clear hI hKW hrow ha hpv hqv hj hnzz
      by_cases hpq : pv = qv
      · subst hpq
        have hCt : ∀ W', W' = V.setCell ⟨nb, 0, none⟩ (.int .i64 ((j : Int) + 1)) → KeepsFrom wl.heap.size V W' ∧ KpP Pb V W' ∧ CtV wl nb (pre ++ [k]) W' := by
          rintro W' rfl
          obtain ⟨_, _, hj, hI⟩ := HQ.out
          refine ⟨KeepsFrom.of_grownBy (grownBy_setCell' V nb _) (fun q e => by injection e with e; omega), Below.heap_setCell _ _ _ _ (by simp; omega), ⟨?_, hI.only.setCell _ _ (fun _ => rfl)⟩⟩
          have := hI.box.set (.int .i64 ((j : Int) + 1))
          have e : ((pre ++ [k]).length : Nat) = j + 1 := by rw [List.length_append, hj]; rfl
          rw [e]
          simpa using this
        have HCt : Hid _ := hCt
        clear hCt sl
        by_cases hcc : (j : Int) + 1 = cut
        · have hcc' : ((j : Int) + 1 == cut) = true := by simpa using hcc
          have HCC : Hid ((j : Int) + 1 = cut) := hcc
          clear hcc
          gi_wp2
          obtain ⟨q1, q2, q3⟩ := HCt.out _ rfl
          exact ⟨q1, .inr ⟨rfl, q3, by have := HQ.out.2.2.1; have := HCC.out; simp; omega⟩⟩
        · have hcc' : ((j : Int) + 1 == cut) = false := by simpa using hcc
          clear hcc
          gi_wp2
          exact HCt.out _ rfl
      · have hpq' : (pv != qv) = true := by simpa using hpq
        have HPQ : Hid (pv ≠ qv) := hpq
        obtain ⟨ru, hr1⟩ := HRS.out.1
        have hr2' := HRS.out.2
        clear hpq sl
        gi_wp2
        obtain ⟨e1, e2, e3, e4⟩ := HQ.out
        refine ⟨KeepsFrom.of_grownBy (grownBy_setCell' V (w.heap.size + 2) _) (fun q e => by injection e with e; have := HRS2.out; omega), .inl ⟨rfl, fun e => ?_⟩⟩
        rw [List.length_append, List.length_singleton, List.range_succ] at e
        have := (List.append_inj e (by simp)).2
        injection this with this
        exact HPQ.out (by rw [e1, e2, e3, this])
    case hdone =>
      rintro D' ys V hDD hys hI hKD
      have hv : ((ys.length : Nat) : Int) = (nz : Int) := by rw [hys, List.length_range, HNZ.out.1]
      have HKW : Hid (KvAt w V zs Bs Pb sv bw aw cw cut) := HR.out.kp.frame ((OL.out.mono (fun _ _ e => e.elim)).trans hI.only (fun k hk e => by rw [HNB.out] at e; exact e)) (fun k hk e => by omega)
      have c1 := hI.box.cell
      have c2 := HKW.out.want.cell
      rw [← HNZ.out.1] at c2
      have c3 := HKW.out.cutB.cell
      obtain ⟨v, hvv⟩ : ∃ v : Nat, v = ys.length := ⟨_, rfl⟩
      rw [← hvv] at hv c1
      have HRN : Hid (RndAt w zs Bs Pb sv bw aw cw cut (r + 1) (D' :: ds) V) := by
        have z1 := HR.out.kp.only.size
        have z2 := HR.out.kp.resB.lt
        have hlow : ∀ D ∈ ds, D < W.heap.size := fun D hD => (Array.getElem?_eq_some_iff.1 (HR.out.def_ D hD)).1
        refine ⟨HKW.out, by omega, by simp [HR.out.len], fun D hD => ?_, List.nodup_cons.2 ⟨fun h => by have := hlow D' h; have := HNB.out; omega, HR.out.nod⟩, fun D hD => ?_⟩
        · rcases List.mem_cons.1 hD with rfl | hD
          · exact hKD
          · have h1 := hlow D hD
            rw [hI.only.block D (by have := HNB.out; omega) (by have := HNB.out; omega), OL.out.block D h1 (fun e => e)]
            exact HR.out.def_ D hD
        · rcases List.mem_cons.1 hD with rfl | hD
          · have := HNB.out; omega
          · exact HR.out.up D hD
      have hb0 : ((v : Int) != (nz : Int)) = false := by simpa using hv
      clear hI hKD hys hvv hv bl hDD sl hPl
      gi_wp2
      refine ⟨⟨r + 1, D' :: ds, RndAct.of _ rfl rfl rfl rfl rfl rfl rfl (by go_num) (by rw [HDF.out]; rfl), HRN.out⟩, ?_⟩
      simp [RowKit.intOf]
      omega
    case hstop =>
      rintro D' c ys V hDD hSp hx hKD
      rcases hx with ⟨_, hx⟩ | ⟨rfl, hI, hv⟩
      · exact absurd hSp hx
      · have HKW : Hid (KvAt w V zs Bs Pb sv bw aw cw cut) := HR.out.kp.frame ((OL.out.mono (fun _ _ e => e.elim)).trans hI.only (fun k hk e => by rw [HNB.out] at e; exact e)) (fun k hk e => by omega)
        have c1 := hI.box.cell
        have c2 := HKW.out.want.cell
        rw [← HNZ.out.1] at c2
        have c3 := HKW.out.cutB.cell
        obtain ⟨v, hvv⟩ : ∃ v : Nat, v = ys.length := ⟨_, rfl⟩
        rw [← hvv] at hv c1
        have HRN : Hid (RndAt w zs Bs Pb sv bw aw cw cut (r + 1) (D' :: ds) V) := by
          have z1 := HR.out.kp.only.size
          have z2 := HR.out.kp.resB.lt
          have hlow : ∀ D ∈ ds, D < W.heap.size := fun D hD => (Array.getElem?_eq_some_iff.1 (HR.out.def_ D hD)).1
          refine ⟨HKW.out, by omega, by simp [HR.out.len], fun D hD => ?_, List.nodup_cons.2 ⟨fun h => by have := hlow D' h; have := HNB.out; omega, HR.out.nod⟩, fun D hD => ?_⟩
          · rcases List.mem_cons.1 hD with rfl | hD
            · exact hKD
            · have h1 := hlow D hD
              rw [hI.only.block D (by have := HNB.out; omega) (by have := HNB.out; omega), OL.out.block D h1 (fun e => e)]
              exact HR.out.def_ D hD
          · rcases List.mem_cons.1 hD with rfl | hD
            · have := HNB.out; omega
            · exact HR.out.up D hD
        have hb1 : ((v : Int) != cut) = false := by simpa using hv
        by_cases hb2 : (v : Int) = (nz : Int)
        · have hb0 : ((v : Int) != (nz : Int)) = false := by simpa using hb2
          clear hI hKD hSp hvv hv bl hDD sl hPl hb2
          gi_wp2
          refine ⟨⟨r + 1, D' :: ds, RndAct.of _ rfl rfl rfl rfl rfl rfl rfl (by go_num) (by rw [HDF.out]; rfl), HRN.out⟩, ?_⟩
          simp [RowKit.intOf]
          omega
        · have hb0 : ((v : Int) != (nz : Int)) = true := by simpa using hb2
          clear hI hKD hSp hvv hv bl hDD sl hPl hb2
          gi_wp2
          refine ⟨⟨r + 1, D' :: ds, RndAct.of _ rfl rfl rfl rfl rfl rfl rfl (by go_num) (by rw [HDF.out]; rfl), HRN.out⟩, ?_⟩
          simp [RowKit.intOf]
          omega
  · have r0 : ¬ (r : Int) < 2 := by omega
    have HR' : Hid (RndAt w zs Bs Pb sv bw aw cw cut r ds W) := HR
    have c1 := HR.out.kp.resB.cell
    have f1 := HR.out.kp.resB.frozen
    obtain ⟨WF, hWF⟩ : ∃ q, q = W.setCell ⟨w.heap.size + 2, 0, none⟩ (.bool true) := ⟨_, rfl⟩
    have HWF : Hid (WF = W.setCell ⟨w.heap.size + 2, 0, none⟩ (.bool true)) := hWF
    clear hWF
    rcases HCE.out with rfl | ⟨rfl, rfl⟩
    all_goals
     gi_wp2
     go_wp2
     rw [← HWF.out]
     have hre : r = 2 := by omega
     obtain ⟨D2, D1, hds⟩ : ∃ D2 D1, ds = [D2, D1] := by
       have := HR.out.len
       match ds, this with
       | [a, b], _ => exact ⟨a, b, rfl⟩
       | [], h => simp at h; omega
       | [_], h => simp at h; omega
       | _ :: _ :: _ :: _, h => simp at h; omega
     have hR := HR.out
     have hdf := HDF.out
     rw [hds] at hdf hR
     have hnd := hR.nod
     have hne : D2 ≠ D1 := fun e => by rw [e] at hnd; simp at hnd
     have u2 := hR.up D2 (by simp)
     have u1 := hR.up D1 (by simp)
     have oF : Only (fun k => k = w.heap.size + 2) W WF := by rw [HWF.out]; exact (Only.refl _ W).setCell _ _ (fun _ => rfl)
     have k2 : WF.heap[D2]? = some (.deferred (some [])) := by
       have h := hR.def_ D2 (by simp)
       rw [oF.block D2 (Array.getElem?_eq_some_iff.1 h).1 (by omega)]
       exact h
     have k1 : WF.heap[D1]? = some (.deferred (some [])) := by
       have h := hR.def_ D1 (by simp)
       rw [oF.block D1 (Array.getElem?_eq_some_iff.1 h).1 (by omega)]
       exact h
     have oG : Only (fun k => k = D2) WF (WF.putObj D2 (.deferred none)) := (Only.refl _ WF).grown (grownBy_putObj' WF D2 _) (fun k e _ => by injection e with e; exact e.symm)
     have k1' : (WF.putObj D2 (.deferred none)).heap[D1]? = some (.deferred (some [])) := by
       rw [oG.block D1 (Array.getElem?_eq_some_iff.1 k1).1 (by omega)]
       exact k1
     have oH : Only (fun k => k = D1) (WF.putObj D2 (.deferred none)) ((WF.putObj D2 (.deferred none)).putObj D1 (.deferred none)) := (Only.refl _ _).grown (grownBy_putObj' _ D1 _) (fun k e _ => by injection e with e; exact e.symm)
     have cF : WF.cell? ⟨w.heap.size + 2, 0, none⟩ = some (.bool true) := by rw [HWF.out]; exact (HR.out.kp.resB.set _).cell
     have cH := oH.cell (oG.cell cF (by simp; omega)) (by simp; omega)
     have hEnd : Only (fun k => w.heap.size ≤ k) w ((WF.putObj D2 (.deferred none)).putObj D1 (.deferred none)) := ((hR.kp.only.trans oF (fun k _ e => by omega)).trans oG (fun k _ e => by omega)).trans oH (fun k _ e => by omega)
     rw [hdf]
     refine ⟨by simp, .inl ⟨_, _, rfl, run_takeDeferred k2, ?_⟩⟩
     refine ⟨by simp, .inl ⟨_, _, rfl, run_takeDeferred k1', ?_⟩⟩
     refine ⟨.bool true, ?_, rfl, hEnd.mono (fun k hk e => by omega)⟩
     rw [results_cell1 rfl]
     change ((loadVar 4 ⟨w.heap.size + 2, 0, none⟩).run Tryz.prog _) = _
     rw [load_bool _ _ _ cH]
end Go.Proofs.YtllpacppedobjaaGreatDoor
namespace Go.Proofs.YtllpacppedobjaaGreatDoor
open Go.RowKit Go.ChangeShapes Go.WideShapes
set_option linter.unusedVariables false
set_option linter.unusedSimpArgs false
theorem vfour {α : Type} : ∀ (l : List α), l.length = 4 → ∃ a b c d, l = [a, b, c, d]
  | [a, b, c, d], _ => ⟨a, b, c, d, rfl⟩
theorem vexists_list {α : Type} : ∀ (len : Nat) (p : Nat → α → Prop), (∀ i, i < len → ∃ x, p i x) → ∃ l : List α, l.length = len ∧ ∀ i (h : i < l.length), p i l[i]
  | 0, _, _ => ⟨[], rfl, fun i h => by simp at h⟩
  | n + 1, p, hp => by
    obtain ⟨l, hl, hq⟩ := vexists_list n p (fun i hi => hp i (by omega))
    obtain ⟨x, hx⟩ := hp n (by omega)
    refine ⟨l ++ [x], by simp [hl], fun i hi => ?_⟩
    by_cases e : i < l.length
    · rw [List.getElem_append_left e]; exact hq i e
    · have : i = l.length := by simp at hi; omega
      subst this
      rw [List.getElem_append_right (by omega)]
      simpa [hl] using hx
theorem vuniform (q : Nat → Nat → Prop) (hm : ∀ i d d', d ≤ d' → q i d → q i d') : ∀ len, (∀ i, i < len → ∃ d, q i d) → ∃ D, ∀ i, i < len → q i D
  | 0, _ => ⟨0, fun i h => by omega⟩
  | n + 1, h => by
    obtain ⟨D, hD⟩ := vuniform q hm n (fun i hi => h i (by omega))
    obtain ⟨d, hd⟩ := h n (by omega)
    refine ⟨max D d, fun i hi => ?_⟩
    by_cases e : i < n
    · exact hm i D _ (by omega) (hD i e)
    · obtain rfl : i = n := by omega
      exact hm i d _ (by omega) hd
theorem vcellsI : Tryz.prog.cellsOf 3 = 1 := by kernel_rfl
theorem vcellsN : Tryz.prog.cellsOf 2 = 1 := by kernel_rfl
theorem vcellsS : Tryz.prog.cellsOf 9 = 1 := by kernel_rfl
theorem vcellsL : Tryz.prog.cellsOf 22 = 1 := by kernel_rfl
theorem vcellsV : Tryz.prog.cellsOf 24 = 4 := by kernel_rfl
section
variable {H : Type} {enc : TypeId × Value → H} {w : World} {base : Nat} {held : Bool}
theorem vcells_get {a : Addr} {n : Nat} {cs : List Value} (h : w.cells? base a n = some cs) : cs.length = n ∧ ∀ j v, cs[j]? = some v → w.cell? (a.add j) = some v := by
  unfold World.cells? at h
  split at h
  · refine ⟨by simpa using mapM_some_length h, fun j v hv => ?_⟩
    have hj : j < n := by
      have := (List.getElem?_eq_some_iff.1 hv).1
      have hl : cs.length = n := by simpa using mapM_some_length h
      omega
    have := mapM_some_get h j j (by simp [hj])
    rw [this]; exact hv
  · cases h
theorem vbulk_mem : ∀ (l : List (DataW H)) (d : DataW H), d ∈ l → Rows.uptoBulk d ≤ Rows.uptoBulkAll l
  | [], _, h => by cases h
  | a :: r, d, h => by
    simp only [Rows.uptoBulkAll]
    rcases List.mem_cons.1 h with rfl | h
    · omega
    · have := vbulk_mem r d h
      omega
theorem vbulk_pos (d : DataW H) : 0 < Rows.uptoBulk d := by
  rcases d with l | _ | _ | _ | _ | _ | _ | _ <;> try simp [Rows.uptoBulk]
  cases l <;> simp [Rows.uptoBulk]
theorem vbulk_len : ∀ (l : List (DataW H)), l.length ≤ Rows.uptoBulkAll l
  | [] => by simp [Rows.uptoBulkAll]
  | d :: r => by
    have := vbulk_len r
    have := vbulk_pos d
    simp only [Rows.uptoBulkAll, List.length_cons]
    omega
theorem vbounds {n : Int} (h : (Lit.int .i64 n).wf = true) : -9223372036854775808 ≤ n ∧ n ≤ 9223372036854775807 := by
  have := h
  simp only [Lit.wf, Bool.and_eq_true, decide_eq_true_eq] at this
  exact this
theorem read_v (fuel : Nat) : ∀ {cs : List Value} {x : DataW H × List MemPlace}, DataW.trod enc Tryz.prog w base (fun _ => true) held fuel 24 cs = some x → Rows.uptoBulk x.1 ≤ 1048576 → ∃ (t : Vt) (lv : Value) (d : Nat), cs = [.int .i64 t.k, .int .i64 t.n, .string t.s, lv] ∧ SmT d t ∧ VsAt w (fun _ => True) d t.l lv := by
  induction fuel using Nat.strongRecOn with
  | ind fuel ih =>
  intro cs x h hb
  obtain ⟨xs, n, hn, rfl, hl, hxl, hf⟩ := DataW.trod_struct Tryz.underlying24 h
  rw [vcellsV] at hl
  obtain ⟨c0, c1, c2, c3, rfl⟩ := vfour cs hl
  obtain ⟨y0, y1, y2, y3, rfl⟩ := vfour xs hxl
  have g0 : DataW.trod enc Tryz.prog w base (fun _ => true) held n 3 (([c0, c1, c2, c3].drop 0).take (Tryz.prog.cellsOf 3)) = some y0 := hf 0 _ rfl
  have g1 : DataW.trod enc Tryz.prog w base (fun _ => true) held n 2 (([c0, c1, c2, c3].drop 1).take (Tryz.prog.cellsOf 2)) = some y1 := hf 1 _ rfl
  have g2 : DataW.trod enc Tryz.prog w base (fun _ => true) held n 9 (([c0, c1, c2, c3].drop 2).take (Tryz.prog.cellsOf 9)) = some y2 := hf 2 _ rfl
  have g3 : DataW.trod enc Tryz.prog w base (fun _ => true) held n 22 (([c0, c1, c2, c3].drop 3).take (Tryz.prog.cellsOf 22)) = some y3 := hf 3 _ rfl
  rw [vcellsI] at g0
  rw [vcellsN] at g1
  rw [vcellsS] at g2
  rw [vcellsL] at g3
  simp only [List.drop_succ_cons, List.drop_zero, List.take_succ_cons, List.take_zero] at g0 g1 g2 g3
  obtain ⟨n0, e0, _, w0⟩ := DataW.trod_int Tryz.underlying3 g0
  obtain ⟨n1, e1, _, w1⟩ := DataW.trod_int Tryz.underlying2 g1
  obtain ⟨s, e2, hs2, _⟩ := DataW.trod_string Tryz.underlying9 g2
  simp only [List.cons.injEq, and_true] at e0 e1 e2
  subst e0 e1 e2
  simp only [List.map_cons, List.map_nil, Rows.uptoBulk, Rows.uptoBulkAll] at hb
  have hs : s.size ≤ 1048576 := by
    rw [hs2] at hb
    simp only [Rows.uptoBulk] at hb
    have : s.data.toList.length = s.size := Array.length_toList
    omega
  rcases DataW.trod_slice Tryz.underlying22 g3 with ⟨hcs, _⟩ | ⟨a, len, cap, elems, rest, m, hm, hcs, hx, _, hlc, _, hel, hget, _, _⟩
  · simp only [List.cons.injEq, and_true] at hcs
    subst hcs
    exact ⟨⟨n0, n1, s, []⟩, _, 1, rfl, ⟨(by dsimp only; omega), Nat.zero_le _, vbounds w0, vbounds w1, fun x hx => by cases hx⟩, none, 0, rfl, Nat.zero_le _, fun i x hx => by simp at hx⟩
  · simp only [List.cons.injEq, and_true] at hcs
    subst hcs
    have hb3 : Rows.uptoBulkAll (elems.map (·.1)) ≤ 1048576 := by
      rw [hx] at hb
      simp only [Rows.uptoBulk] at hb
      omega
    have hlen : len ≤ 1048576 := by
      have := vbulk_len (elems.map (·.1))
      simp at this
      omega
    obtain ⟨ts, htl, hts⟩ := vexists_list len (fun i (t : Vt) => ∃ lv d, (∀ j v, ([.int .i64 t.k, .int .i64 t.n, .string t.s, lv] : List Value)[j]? = some v → w.cell? (a.add (i * 4 + j)) = some v) ∧ SmT d t ∧ VsAt w (fun _ => True) d t.l lv) (fun i hi => by
      have h1 := hget i hi
      rw [vcellsV] at h1
      have hie : i < elems.length := by omega
      rw [List.getElem?_eq_getElem hie] at h1
      obtain ⟨cs', h2, h3⟩ := Option.bind_eq_some_iff.1 h1
      have hbi : Rows.uptoBulk (elems[i]).1 ≤ 1048576 := by
        have := vbulk_mem (elems.map (·.1)) (elems[i]).1 (List.mem_map.2 ⟨_, List.getElem_mem hie, rfl⟩)
        omega
      obtain ⟨t, lv, d, hc, q1, q2⟩ := ih m (by omega) h3 hbi
      refine ⟨t, lv, d, fun j v hv => ?_, q1, q2⟩
      rw [← hc] at hv
      rw [← Deep.add_add]
      exact (vcells_get h2).2 j v hv)
    obtain ⟨D, hD⟩ := vuniform (fun i d => ∀ (h : i < ts.length), ∃ lv, (∀ j v, ([.int .i64 ts[i].k, .int .i64 ts[i].n, .string ts[i].s, lv] : List Value)[j]? = some v → w.cell? (a.add (i * 4 + j)) = some v) ∧ SmT d ts[i] ∧ VsAt w (fun _ => True) d ts[i].l lv) (fun i d d' hd hq h => by
      obtain ⟨lv, q1, q2, q3⟩ := hq h
      exact ⟨lv, q1, q2.mono hd, q3.step (fun _ g => g) (fun _ _ _ g => g) hd⟩) ts.length (fun i hi => by
      obtain ⟨lv, d, q1, q2, q3⟩ := hts i hi
      exact ⟨d, fun _ => ⟨lv, q1, q2, q3⟩⟩)
    refine ⟨⟨n0, n1, s, ts⟩, _, D + 1, rfl, ⟨(by dsimp only; omega), by dsimp only; omega, vbounds w0, vbounds w1, fun x hx => ?_⟩, some a, cap, by dsimp only; rw [htl], by dsimp only; omega, fun i x hx => ?_⟩
    · obtain ⟨i, hi, rfl⟩ := List.getElem_of_mem hx
      obtain ⟨lv, q1, q2, q3⟩ := hD i hi hi
      exact q2
    · dsimp only at hx
      obtain ⟨hi, rfl⟩ := List.getElem?_eq_some_iff.1 hx
      obtain ⟨lv, q1, q2, q3⟩ := hD i hi hi
      have p0 := q1 0 _ rfl
      have p1 := q1 1 _ rfl
      have p2 := q1 2 _ rfl
      have p3 := q1 3 _ rfl
      have h0 : 0 < ts.length := by omega
      obtain ⟨lv0, z1, _, _⟩ := hD 0 h0 h0
      have hsp := World.cell?_spot (z1 0 _ rfl)
      obtain ⟨g, o, spot⟩ := a
      have hs0 : spot = none := by simpa [Addr.add] using hsp
      subst hs0
      rw [Addr.add_mid] at p0 p1 p2 p3
      exact ⟨g, o, lv, rfl, trivial, ⟨p0, by rw [Nat.add_assoc]; exact p1, by rw [Nat.add_assoc]; exact p2, by rw [Nat.add_assoc]; exact p3⟩, q3⟩
end
end Go.Proofs.YtllpacppedobjaaGreatDoor
namespace Go.Proofs.YtllpacppedobjaaGreatDoor
open Go.RowKit Go.ChangeShapes Go.WideShapes
set_option linter.unusedVariables false
set_option linter.unusedSimpArgs false
theorem vbytesV : Tryz.prog.bytesOf 24 = 56 := by kernel_rfl
section
variable {H : Type} {enc : TypeId × Value → H} {w : World} {base : Nat} {held : Bool}
theorem vweights_mem : ∀ (l : List (DataW H)) (d : DataW H), d ∈ l → (DataW.weightsAll Tryz.prog 24 l).all (· ≤ reachBytes) = true → (d.weights Tryz.prog 24).all (· ≤ reachBytes) = true
  | [], _, h, _ => by cases h
  | a :: r, d, h, g => by
    simp only [DataW.weightsAll, List.all_append, Bool.and_eq_true] at g
    rcases List.mem_cons.1 h with rfl | h
    · exact g.1
    · exact vweights_mem r d h g.2
theorem read_w (fuel : Nat) : ∀ {cs : List Value} {x : DataW H × List MemPlace}, DataW.trod enc Tryz.prog w base (fun _ => true) held fuel 24 cs = some x → (x.1.weights Tryz.prog 24).all (· ≤ reachBytes) = true → ∃ (t : Vt) (lv : Value) (d : Nat), cs = [.int .i64 t.k, .int .i64 t.n, .string t.s, lv] ∧ SmT d t ∧ VsAt w (fun _ => True) d t.l lv := by
  induction fuel using Nat.strongRecOn with
  | ind fuel ih =>
  intro cs x h hb
  obtain ⟨xs, n, hn, rfl, hl, hxl, hf⟩ := DataW.trod_struct Tryz.underlying24 h
  rw [vcellsV] at hl
  obtain ⟨c0, c1, c2, c3, rfl⟩ := vfour cs hl
  obtain ⟨y0, y1, y2, y3, rfl⟩ := vfour xs hxl
  have g0 : DataW.trod enc Tryz.prog w base (fun _ => true) held n 3 (([c0, c1, c2, c3].drop 0).take (Tryz.prog.cellsOf 3)) = some y0 := hf 0 _ rfl
  have g1 : DataW.trod enc Tryz.prog w base (fun _ => true) held n 2 (([c0, c1, c2, c3].drop 1).take (Tryz.prog.cellsOf 2)) = some y1 := hf 1 _ rfl
  have g2 : DataW.trod enc Tryz.prog w base (fun _ => true) held n 9 (([c0, c1, c2, c3].drop 2).take (Tryz.prog.cellsOf 9)) = some y2 := hf 2 _ rfl
  have g3 : DataW.trod enc Tryz.prog w base (fun _ => true) held n 22 (([c0, c1, c2, c3].drop 3).take (Tryz.prog.cellsOf 22)) = some y3 := hf 3 _ rfl
  rw [vcellsI] at g0
  rw [vcellsN] at g1
  rw [vcellsS] at g2
  rw [vcellsL] at g3
  simp only [List.drop_succ_cons, List.drop_zero, List.take_succ_cons, List.take_zero] at g0 g1 g2 g3
  obtain ⟨n0, e0, _, w0⟩ := DataW.trod_int Tryz.underlying3 g0
  obtain ⟨n1, e1, _, w1⟩ := DataW.trod_int Tryz.underlying2 g1
  obtain ⟨s, e2, hs2, _⟩ := DataW.trod_string Tryz.underlying9 g2
  simp only [List.cons.injEq, and_true] at e0 e1 e2
  subst e0 e1 e2
  have hb' : (DataW.weights Tryz.prog 9 y2.1).all (· ≤ reachBytes) = true ∧ (DataW.weights Tryz.prog 22 y3.1).all (· ≤ reachBytes) = true := by
    simp only [DataW.weights, Tryz.underlying24, List.map_cons, List.map_nil, DataW.weightsEach, List.all_append, Bool.and_eq_true] at hb
    exact ⟨hb.2.2.1, hb.2.2.2.1⟩
  have hr : reachBytes = 140737488351232 := rfl
  have hs : s.size ≤ 140737488355328 := by
    have h1 := hb'.1
    rw [hs2] at h1
    simp only [DataW.weights, List.all_cons, List.all_nil, Bool.and_true, decide_eq_true_eq] at h1
    have : s.data.toList.length = s.size := Array.length_toList
    omega
  rcases DataW.trod_slice Tryz.underlying22 g3 with ⟨hcs, _⟩ | ⟨a, len, cap, elems, rest, m, hm, hcs, hx, _, hlc, _, hel, hget, _, _⟩
  · simp only [List.cons.injEq, and_true] at hcs
    subst hcs
    exact ⟨⟨n0, n1, s, []⟩, _, 1, rfl, ⟨(by dsimp only; omega), Nat.zero_le _, vbounds w0, vbounds w1, fun x hx => by cases hx⟩, none, 0, rfl, Nat.zero_le _, fun i x hx => by simp at hx⟩
  · simp only [List.cons.injEq, and_true] at hcs
    subst hcs
    have hb3 : (elems.length + rest.length) * 56 ≤ reachBytes ∧ (DataW.weightsAll Tryz.prog 24 (elems.map (·.1))).all (· ≤ reachBytes) = true := by
      have h1 := hb'.2
      rw [hx] at h1
      simp only [DataW.weights, Tryz.underlying22, List.all_cons, List.all_append, Bool.and_eq_true, decide_eq_true_eq, vbytesV, List.length_map] at h1
      exact ⟨h1.1, h1.2.1⟩
    have hlen : len ≤ 2513169434900 := by omega
    obtain ⟨ts, htl, hts⟩ := vexists_list len (fun i (t : Vt) => ∃ lv d, (∀ j v, ([.int .i64 t.k, .int .i64 t.n, .string t.s, lv] : List Value)[j]? = some v → w.cell? (a.add (i * 4 + j)) = some v) ∧ SmT d t ∧ VsAt w (fun _ => True) d t.l lv) (fun i hi => by
      have h1 := hget i hi
      rw [vcellsV] at h1
      have hie : i < elems.length := by omega
      rw [List.getElem?_eq_getElem hie] at h1
      obtain ⟨cs', h2, h3⟩ := Option.bind_eq_some_iff.1 h1
      have hbi : ((elems[i]).1.weights Tryz.prog 24).all (· ≤ reachBytes) = true := vweights_mem (elems.map (·.1)) (elems[i]).1 (List.mem_map.2 ⟨_, List.getElem_mem hie, rfl⟩) hb3.2
      obtain ⟨t, lv, d, hc, q1, q2⟩ := ih m (by omega) h3 hbi
      refine ⟨t, lv, d, fun j v hv => ?_, q1, q2⟩
      rw [← hc] at hv
      rw [← Deep.add_add]
      exact (vcells_get h2).2 j v hv)
    obtain ⟨D, hD⟩ := vuniform (fun i d => ∀ (h : i < ts.length), ∃ lv, (∀ j v, ([.int .i64 ts[i].k, .int .i64 ts[i].n, .string ts[i].s, lv] : List Value)[j]? = some v → w.cell? (a.add (i * 4 + j)) = some v) ∧ SmT d ts[i] ∧ VsAt w (fun _ => True) d ts[i].l lv) (fun i d d' hd hq h => by
      obtain ⟨lv, q1, q2, q3⟩ := hq h
      exact ⟨lv, q1, q2.mono hd, q3.step (fun _ g => g) (fun _ _ _ g => g) hd⟩) ts.length (fun i hi => by
      obtain ⟨lv, d, q1, q2, q3⟩ := hts i hi
      exact ⟨d, fun _ => ⟨lv, q1, q2, q3⟩⟩)
    refine ⟨⟨n0, n1, s, ts⟩, _, D + 1, rfl, ⟨(by dsimp only; omega), by dsimp only; omega, vbounds w0, vbounds w1, fun x hx => ?_⟩, some a, cap, by dsimp only; rw [htl], by dsimp only; omega, fun i x hx => ?_⟩
    · obtain ⟨i, hi, rfl⟩ := List.getElem_of_mem hx
      obtain ⟨lv, q1, q2, q3⟩ := hD i hi hi
      exact q2
    · dsimp only at hx
      obtain ⟨hi, rfl⟩ := List.getElem?_eq_some_iff.1 hx
      obtain ⟨lv, q1, q2, q3⟩ := hD i hi hi
      have p0 := q1 0 _ rfl
      have p1 := q1 1 _ rfl
      have p2 := q1 2 _ rfl
      have p3 := q1 3 _ rfl
      have h0 : 0 < ts.length := by omega
      obtain ⟨lv0, z1, _, _⟩ := hD 0 h0 h0
      have hsp := World.cell?_spot (z1 0 _ rfl)
      obtain ⟨g, o, spot⟩ := a
      have hs0 : spot = none := by simpa [Addr.add] using hsp
      subst hs0
      rw [Addr.add_mid] at p0 p1 p2 p3
      exact ⟨g, o, lv, rfl, trivial, ⟨p0, by rw [Nat.add_assoc]; exact p1, by rw [Nat.add_assoc]; exact p2, by rw [Nat.add_assoc]; exact p3⟩, q3⟩
end
end Go.Proofs.YtllpacppedobjaaGreatDoor
