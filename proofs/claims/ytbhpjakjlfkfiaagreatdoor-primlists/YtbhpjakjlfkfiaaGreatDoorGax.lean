/- PrimLists: the law's walk. -/
import Derived.Test.YtbhpjakjlfkfiaaGreatDoorGaw
import Derived.Test.YtbhpjakjlfkfiaaGreatDoorGan
import Derived.Deep.RegionHeld3
namespace Go.Proofs.YtbhpjakjlfkfiaaGreatDoor
open Go.RowKit Go.Lib
set_option linter.unusedSimpArgs false
set_option linter.unusedVariables false
theorem fld_n (k m : Int) (s : ByteArray) (lv : Value) (W : World) : (Instr.field 45 (.agg #[.int .i64 k, .int .i64 m, .string s, lv]) 1).run Tryz.prog W = .ok (.int .i64 m) W := by
  simp [Instr.field, run_underlying Tryz.underlying45, part, asAgg, go_sem]
theorem in_any (n : Int) (w : World) : Calls Tryz.prog 27 #[.int .i64 n] w fun x w' => x = .returned (.bool (fitN n)) ∧ w' = w := by
  unfold fitN
  by_cases h1 : -1152921504606846976 ≤ n
  · by_cases h2 : n ≤ 1152921504606846975
    · rw [decide_eq_true h1, decide_eq_true h2]
      go_enter Tryz.func27, Tryz.ntmps27
      go_wp2
      all_goals
        go_ret
        exact ⟨by simp [*], rfl⟩
    · rw [decide_eq_true h1, decide_eq_false h2]
      go_enter Tryz.func27, Tryz.ntmps27
      go_wp2
      all_goals
        go_ret
        exact ⟨by simp [*], rfl⟩
  · rw [decide_eq_false h1]
    go_enter Tryz.func27, Tryz.ntmps27
    go_wp2
    all_goals
      go_ret
      exact ⟨by simp [*], rfl⟩
set_option maxRecDepth 100000 in
set_option maxHeartbeats 16000000 in
theorem lists_walk {a b : Vt} {va vb : Value} {d : Nat} {n : Int} {w : World} (ha : VsAt w (fun _ => True) d a.l va) (hb : VsAt w (fun _ => True) d b.l vb) (sa : SmT d a) (sb : SmT d b) (hn64 : IntKind.i64.min ≤ n ∧ n ≤ IntKind.i64.max) (hT : Ty w) :
    Calls Tryz.prog 7 #[vV a.k a.n a.s va, vV b.k b.n b.s vb, .int .i64 n] w fun e w' => e = .returned (.bool true) ∧ Only (fun _ => False) w w' := by
  have HA : Hid (∀ w1, Only (fun _ => False) w w1 → Calls Tryz.prog 9 #[] w1 fun e w' => e = .returned (.bool true) ∧ Only (fun _ => False) w1 w') := fun w1 o => awake12 w1 (hT.frame o)
  have hnb : -9223372036854775808 ≤ n ∧ n ≤ 9223372036854775807 := hn64
  have HN64 : Hid (-9223372036854775808 ≤ n ∧ n ≤ 9223372036854775807) := hnb
  clear hn64 hnb
  have HVa : Hid _ := value_calls ha sa
  have HVb : Hid _ := value_calls hb sb
  have HT : Hid (Ty w ∧ SmT d a ∧ SmT d b) := ⟨hT, sa, sb⟩
  obtain ⟨a1, c1, rfl⟩ := ha.form
  obtain ⟨a2, c2, rfl⟩ := hb.form
  have O0 : Hid (Only (fun _ => False) w w) := Only.refl _ _
  clear ha hb sa sb hT
  unfold vV
  obtain ⟨ka, hka⟩ : ∃ k, k = a.k := ⟨_, rfl⟩
  obtain ⟨na, hna⟩ : ∃ k, k = a.n := ⟨_, rfl⟩
  obtain ⟨ta, hta⟩ : ∃ k, k = a.s := ⟨_, rfl⟩
  obtain ⟨La, hLa⟩ : ∃ k, k = a.l.length := ⟨_, rfl⟩
  obtain ⟨kb, hkb⟩ : ∃ k, k = b.k := ⟨_, rfl⟩
  obtain ⟨nb, hnb⟩ : ∃ k, k = b.n := ⟨_, rfl⟩
  obtain ⟨tb, htb⟩ : ∃ k, k = b.s := ⟨_, rfl⟩
  obtain ⟨Lb, hLb⟩ : ∃ k, k = b.l.length := ⟨_, rfl⟩
  rw [← hka, ← hna, ← hta, ← hLa] at HVa
  rw [← hkb, ← hnb, ← htb, ← hLb] at HVb
  rw [← hka, ← hna, ← hta, ← hLa, ← hkb, ← hnb, ← htb, ← hLb]
  clear hka hna hta hLa hkb hnb htb hLb
  go_enter Tryz.func7, Tryz.ntmps7
  go_wp2_with fail
  refine (show Calls Tryz.prog 9 _ _ _ from HA.out _ ((O0.out.alloc _).alloc _)).mono ?_
  rintro e w1 ⟨rfl, o1⟩
  have RA : w1.heap[w.heap.size]? = some (.cells #[.int .i64 ka, .int .i64 na, .string ta, .slice a1 La c1] 45) := (o1.block w.heap.size (by simp; omega) (fun h => h)).trans (((((Only.refl (fun _ => False) (w.alloc (.cells #[.int .i64 ka, .int .i64 na, .string ta, .slice a1 La c1] 45)))).alloc _).block w.heap.size (by simp) (fun h => h)).trans (valloc_at _ _ _ rfl))
  have RB : w1.heap[w.heap.size + 1]? = some (.cells #[.int .i64 kb, .int .i64 nb, .string tb, .slice a2 Lb c2] 45) := (o1.block (w.heap.size + 1) (by simp) (fun h => h)).trans (valloc_at _ _ _ (by simp))
  have OW : Hid (Only (fun _ => False) w w1) := ((O0.out.alloc _).alloc _).trans o1 (fun _ _ g => g)
  have hsz : w.heap.size + 1 < w1.heap.size := (Array.getElem?_eq_some_iff.1 RB).1
  clear HA o1
  obtain ⟨BA, hBA⟩ : ∃ B, B = w.heap.size := ⟨_, rfl⟩
  rw [← hBA] at RA RB hsz ⊢
  have HB : Hid (BA = w.heap.size ∧ BA + 1 < w1.heap.size) := ⟨hBA, hsz⟩
  clear hBA hsz
  have HRA : Hid (∀ w2, Only (fun _ => False) w1 w2 → w2.heap[BA]? = some (.cells #[.int .i64 ka, .int .i64 na, .string ta, .slice a1 La c1] 45) ∧ w2.heap[BA + 1]? = some (.cells #[.int .i64 kb, .int .i64 nb, .string tb, .slice a2 Lb c2] 45)) := fun w2 o => ⟨(o.block BA (by have := HB.out; omega) (fun h => h)).trans RA, (o.block (BA + 1) (by have := HB.out; omega) (fun h => h)).trans RB⟩
  have HS : Hid (∀ w2, Only (fun _ => False) w1 w2 → (w2.cell? ⟨BA, 0, none⟩ = some (.int .i64 ka) ∧ w2.cell? ⟨BA, 1, none⟩ = some (.int .i64 na) ∧ w2.cell? ⟨BA, 2, none⟩ = some (.string ta) ∧ w2.cell? ⟨BA, 3, none⟩ = some (.slice a1 La c1)) ∧ (w2.cell? ⟨BA + 1, 0, none⟩ = some (.int .i64 kb) ∧ w2.cell? ⟨BA + 1, 1, none⟩ = some (.int .i64 nb) ∧ w2.cell? ⟨BA + 1, 2, none⟩ = some (.string tb) ∧ w2.cell? ⟨BA + 1, 3, none⟩ = some (.slice a2 Lb c2))) := fun w2 o => by
    obtain ⟨r1, r2⟩ := HRA.out w2 o
    exact ⟨⟨vblk_cells r1 0, vblk_cells r1 1, vblk_cells r1 2, vblk_cells r1 3⟩, vblk_cells r2 0, vblk_cells r2 1, vblk_cells r2 2, vblk_cells r2 3⟩
  clear RA RB
  have OR : Hid (Only (fun _ => False) w1 w1) := Only.refl _ _
  go_wp2_with fail
  go_region_held3 (fun w2 => (w2.cell? ⟨BA, 0, none⟩ = some (.int .i64 ka) ∧ w2.cell? ⟨BA, 1, none⟩ = some (.int .i64 na) ∧ w2.cell? ⟨BA, 2, none⟩ = some (.string ta) ∧ w2.cell? ⟨BA, 3, none⟩ = some (.slice a1 La c1)) ∧ (w2.cell? ⟨BA + 1, 0, none⟩ = some (.int .i64 kb) ∧ w2.cell? ⟨BA + 1, 1, none⟩ = some (.int .i64 nb) ∧ w2.cell? ⟨BA + 1, 2, none⟩ = some (.string tb) ∧ w2.cell? ⟨BA + 1, 3, none⟩ = some (.slice a2 Lb c2)))
    (first
      | with_reducible exact HS.out _ OR.out.drew
      | with_reducible exact HS.out _ O2.out
      | with_reducible exact HS.out _ O3.out)
    (first
      | (go_at_call 25; have o9 := O2.out; refine (show Calls Tryz.prog 25 _ _ _ from HVb.out _ (OW.out.trans O2.out (fun _ _ g => g))).mono ?_; rintro ex w3 ⟨y, rfl, G3⟩; have O3 : Hid (Only (fun _ => False) w1 w3) := O2.out.trans G3.out.2 (fun _ _ g => g))
      | (go_at_call 25; refine (show Calls Tryz.prog 25 _ _ _ from HVa.out _ OW.out.drew).mono ?_; rintro ex w2 ⟨x, rfl, G2⟩; have O2 : Hid (Only (fun _ => False) w1 w2) := OR.out.drew.trans G2.out.2 (fun _ _ g => g)))
  obtain ⟨A, hA⟩ : ∃ A, A = nm d false a := ⟨_, rfl⟩
  obtain ⟨Z, hZ⟩ : ∃ Z, Z = nm d false b := ⟨_, rfl⟩
  obtain ⟨C, hC⟩ : ∃ C, C = w1.heap.size := ⟨_, rfl⟩
  have HW : Hid (Only (fun _ => False) w w3 ∧ BA = w.heap.size ∧ BA + 1 < C ∧ C ≤ w3.heap.size) := ⟨OW.out.trans O3.out (fun _ _ g => g), HB.out.1, by rw [hC]; exact HB.out.2, by rw [hC]; exact O3.out.size⟩
  have vx : Vx w3 C d a x := by
    have h2 := G2.out.1.only G3.out.2 (fun _ _ g => g)
    exact NiAt.lower h2 (by rw [hC]; exact Nat.le_refl _)
  have vy : Vx w3 C d b y := NiAt.lower G3.out.1 (by rw [hC]; exact O2.out.size)
  obtain ⟨kA, hkA⟩ : ∃ k, k = A.k := ⟨_, rfl⟩
  obtain ⟨nA, hnA⟩ : ∃ k, k = A.n := ⟨_, rfl⟩
  obtain ⟨tA, htA⟩ : ∃ k, k = A.s := ⟨_, rfl⟩
  obtain ⟨lA, hlA⟩ : ∃ k, k = A.l.length := ⟨_, rfl⟩
  obtain ⟨kZ, hkZ⟩ : ∃ k, k = Z.k := ⟨_, rfl⟩
  obtain ⟨nZ, hnZ⟩ : ∃ k, k = Z.n := ⟨_, rfl⟩
  obtain ⟨tZ, htZ⟩ : ∃ k, k = Z.s := ⟨_, rfl⟩
  obtain ⟨lZ, hlZ⟩ : ∃ k, k = Z.l.length := ⟨_, rfl⟩
  have HTa : Hid (∀ v, Only (fun _ => False) w3 v → Calls Tryz.prog 26 #[x] v fun e w' => ∃ lv, e = .returned (.agg #[.int .i64 kA, .int .i64 nA, .string tA, lv]) ∧ Hid ((∃ ao cap, lv = .slice ao lA cap) ∧ NuAt w' v.heap.size (2 * d + 1) A lv ∧ Only (fun _ => False) v w')) := fun v o => by
    rw [hkA, hnA, htA, hlA, hA]
    exact tree_calls vx HT.out.2.1 v ⟨_, o, fun _ _ g => g⟩
  have HTb : Hid (∀ v, Only (fun _ => False) w3 v → Calls Tryz.prog 26 #[y] v fun e w' => ∃ lv, e = .returned (.agg #[.int .i64 kZ, .int .i64 nZ, .string tZ, lv]) ∧ Hid ((∃ ao cap, lv = .slice ao lZ cap) ∧ NuAt w' v.heap.size (2 * d + 1) Z lv ∧ Only (fun _ => False) v w')) := fun v o => by
    rw [hkZ, hnZ, htZ, hlZ, hZ]
    exact tree_calls vy HT.out.2.2 v ⟨_, o, fun _ _ g => g⟩
  have HQ : Hid (kA = A.k ∧ nA = A.n ∧ tA = A.s ∧ lA = A.l.length ∧ kZ = Z.k ∧ nZ = Z.n ∧ tZ = Z.s ∧ lZ = Z.l.length) := ⟨hkA, hnA, htA, hlA, hkZ, hnZ, htZ, hlZ⟩
  have HLA : Hid (LfT d A ∧ (∃ e, NfT e A) ∧ ∃ e, SmT e A) := by rw [hA]; exact ⟨nm_lf d false a HT.out.2.1, ⟨d, nm_nf d false a HT.out.2.1⟩, ⟨d, nm_sm d false a HT.out.2.1⟩⟩
  have HLZ : Hid (LfT d Z ∧ (∃ e, NfT e Z) ∧ ∃ e, SmT e Z) := by rw [hZ]; exact ⟨nm_lf d false b HT.out.2.2, ⟨d, nm_nf d false b HT.out.2.2⟩, ⟨d, nm_sm d false b HT.out.2.2⟩⟩
  have HXY : Hid (NiAt w3 C (2 * d + 1) false A x ∧ NiAt w3 C (2 * d + 1) false Z y) := by rw [hA, hZ]; exact ⟨vx, vy⟩
  have HTy : Hid (Ty w) := HT.out.1
  have hRR := HRA.out w3 O3.out
  have HRR : Hid (w3.heap[BA]? = some (.cells #[.int .i64 ka, .int .i64 na, .string ta, .slice a1 La c1] 45) ∧ w3.heap[BA + 1]? = some (.cells #[.int .i64 kb, .int .i64 nb, .string tb, .slice a2 Lb c2] 45)) := hRR
  clear hA hZ hC hkA hnA htA hlA hkZ hnZ htZ hlZ vx vy hRR HRA HS OR OW HVa HVb HT HB G2 G3 O2 O3
  rcases app_cases HLA.out.1 HLZ.out.1 HLA.out.2.1 HLZ.out.2.1 HLA.out.2.2 HLZ.out.2.2 with ⟨en, hR⟩ | ⟨hR, hkk, h245, vA, vZ, vC⟩
  · have hsx : x = .nilIface ∨ ∃ T z, x = .iface T z := by obtain ⟨S, t1, s⟩ := HXY.out.1; exact t1.shape2
    have hsy : y = .nilIface ∨ ∃ T z, y = .iface T z := by obtain ⟨S, t1, s⟩ := HXY.out.2; exact t1.shape2
    obtain ⟨x', hx'⟩ : ∃ x', x' = x := ⟨_, rfl⟩
    obtain ⟨y', hy'⟩ : ∃ y', y' = y := ⟨_, rfl⟩
    have HXE : Hid (x' = x ∧ y' = y) := ⟨hx', hy'⟩
    clear hx' hy'
    rcases hsx with rfl | ⟨T1, z1, rfl⟩ <;> rcases hsy with rfl | ⟨T2, z2, rfl⟩
    all_goals
      go_wp2_with fail
      refine (show Calls Tryz.prog 26 _ _ _ from HTa.out _ (Only.refl _ _)).mono ?_
      rintro e w4 ⟨lv1, rfl, G4⟩
      obtain ⟨ax, cx, hlv1⟩ := G4.out.1
      subst hlv1
      have HG4 : Hid (NuAt w4 w3.heap.size (2 * d + 1) A (.slice ax lA cx) ∧ Only (fun _ => False) w3 w4) := G4.out.2
      clear HTa G4
      go_wp2_with fail
      refine (show Calls Tryz.prog 26 _ _ _ from HTb.out _ HG4.out.2).mono ?_
      rintro e w5 ⟨lv2, rfl, G5⟩
      obtain ⟨ay, cy, hlv2⟩ := G5.out.1
      subst hlv2
      have HG5 : Hid (NuAt w5 C (2 * d + 1) A (.slice ax lA cx) ∧ NuAt w5 C (2 * d + 1) Z (.slice ay lZ cy) ∧ Only (fun _ => False) w3 w5) := ⟨(HG4.out.1.only G5.out.2.2 (fun _ _ g => g)).lower HW.out.2.2.2, G5.out.2.1.lower (Nat.le_trans HW.out.2.2.2 HG4.out.2.size), HG4.out.2.trans G5.out.2.2 (fun _ _ g => g)⟩
      have HR5 : Hid (w5.heap[BA]? = some (.cells #[.int .i64 ka, .int .i64 na, .string ta, .slice a1 La c1] 45) ∧ w5.heap[BA + 1]? = some (.cells #[.int .i64 kb, .int .i64 nb, .string tb, .slice a2 Lb c2] 45)) := by
        have o := HG5.out.2.2
        have h := HW.out
        exact ⟨(o.block BA (by omega) (fun h => h)).trans HRR.out.1, (o.block (BA + 1) (by omega) (fun h => h)).trans HRR.out.2⟩
      clear HTb G5 HG4 HRR
      have r0 := HR5.out.1
      have r1 := HR5.out.2
      have ca0 := vblk_cells r0 0
      have ca1 := vblk_cells r0 1
      have ca2 := vblk_cells r0 2
      have ca3 := vblk_cells r0 3
      have cb0 := vblk_cells r1 0
      have cb1 := vblk_cells r1 1
      have cb2 := vblk_cells r1 2
      have cb3 := vblk_cells r1 3
      have za0 := blk_froz r0 0
      have za1 := blk_froz r0 1
      have za2 := blk_froz r0 2
      have za3 := blk_froz r0 3
      have zb0 := blk_froz r1 0
      have zb1 := blk_froz r1 1
      have zb2 := blk_froz r1 2
      have zb3 := blk_froz r1 3
      simp only [List.getElem?_toArray, List.getElem?_cons_zero, List.getElem?_cons_succ] at ca0 ca1 ca2 ca3 cb0 cb1 cb2 cb3
      clear r0 r1
      go_wp2_with fail
      obtain ⟨w6, hw6⟩ : ∃ v, v = ((((w5.setCell ⟨BA, 0, none⟩ (.int .i64 kA)).setCell ⟨BA, 1, none⟩ (.int .i64 nA)).setCell ⟨BA, 2, none⟩ (.string tA)).setCell ⟨BA, 3, none⟩ (.slice ax lA cx)) := ⟨_, rfl⟩
      obtain ⟨w7, hw7⟩ : ∃ v, v = ((((w6.setCell ⟨BA + 1, 0, none⟩ (.int .i64 kZ)).setCell ⟨BA + 1, 1, none⟩ (.int .i64 nZ)).setCell ⟨BA + 1, 2, none⟩ (.string tZ)).setCell ⟨BA + 1, 3, none⟩ (.slice ay lZ cy)) := ⟨_, rfl⟩
      have hsz7 : w5.heap.size = w7.heap.size := by rw [hw7, hw6]; simp [World.setCell]
      rw [← hw6, ← hw7, hsz7]
      have OB1 : Only (fun b => b = BA) w5 w6 := by rw [hw6]; exact uonly4 _ _ _ _
      have OB2 : Only (fun b => b = BA + 1) w6 w7 := by rw [hw7]; exact uonly4 _ _ _ _
      have OB : Only (fun b => b = BA ∨ b = BA + 1) w5 w7 := (OB1.mono (bs' := fun b => b = BA ∨ b = BA + 1) (fun _ _ h => .inl h)).trans OB2 (fun _ _ h => .inr h)
      have pA : (w7.cell? ⟨BA, 0, none⟩ = some (.int .i64 kA) ∧ w7.cell? ⟨BA, 1, none⟩ = some (.int .i64 nA) ∧ w7.cell? ⟨BA, 2, none⟩ = some (.string tA) ∧ w7.cell? ⟨BA, 3, none⟩ = some (.slice ax lA cx)) := by
        obtain ⟨p0, p1, p2, p3⟩ := set4 HR5.out.1 rfl (.int .i64 kA) (.int .i64 nA) (.string tA) (.slice ax lA cx)
        rw [← hw6] at p0 p1 p2 p3
        have ne : ¬ BA = BA + 1 := by omega
        exact ⟨OB2.cell p0 ne, OB2.cell p1 ne, OB2.cell p2 ne, OB2.cell p3 ne⟩
      have pZ : (w7.cell? ⟨BA + 1, 0, none⟩ = some (.int .i64 kZ) ∧ w7.cell? ⟨BA + 1, 1, none⟩ = some (.int .i64 nZ) ∧ w7.cell? ⟨BA + 1, 2, none⟩ = some (.string tZ) ∧ w7.cell? ⟨BA + 1, 3, none⟩ = some (.slice ay lZ cy)) := by
        have r1 := (OB1.block (BA + 1) (Array.getElem?_eq_some_iff.1 HR5.out.2).1 (fun h => by omega)).trans HR5.out.2
        obtain ⟨p0, p1, p2, p3⟩ := set4 r1 rfl (.int .i64 kZ) (.int .i64 nZ) (.string tZ) (.slice ay lZ cy)
        rw [← hw7] at p0 p1 p2 p3
        exact ⟨p0, p1, p2, p3⟩
      have HO7 : Hid (Only (fun b => b = BA ∨ b = BA + 1) w3 w7 ∧ Only (fun _ => False) w w7 ∧ NuAt w7 C (2 * d + 1) A (.slice ax lA cx) ∧ NuAt w7 C (2 * d + 1) Z (.slice ay lZ cy)) := by
        have h := HW.out
        have o37 : Only (fun b => b = BA ∨ b = BA + 1) w3 w7 := (HG5.out.2.2.mono (bs' := fun b => b = BA ∨ b = BA + 1) (fun _ _ h => h.elim)).trans OB (fun _ _ h => h)
        have hov : ∀ b, C ≤ b → ¬ (b = BA ∨ b = BA + 1) := fun b hb => by omega
        exact ⟨o37, h.1.trans o37 (fun b hb g => by omega), HG5.out.1.only OB hov, HG5.out.2.1.only OB hov⟩
      clear hw6 hw7 hsz7 OB1 OB2 OB HR5 HG5 ca0 ca1 ca2 ca3 cb0 cb1 cb2 cb3 za0 za1 za2 za3 zb0 zb1 zb2 zb3
      have HX : Hid (∃ S, TiAt w7 S (2 * d + 1) false A x' ∧ TiAt w7 S (2 * d + 1) false Z y' ∧ ∀ b, S b → b < w7.heap.size) := by
        have hov : ∀ b, C ≤ b → ¬ (b = BA ∨ b = BA + 1) := fun b hb => by have := HW.out.2.2.1; omega
        rw [HXE.out.1, HXE.out.2]
        obtain ⟨S1, t1, s1⟩ := HXY.out.1.only HO7.out.1 hov
        obtain ⟨S2, t2, s2⟩ := HXY.out.2.only HO7.out.1 hov
        exact ⟨fun b => S1 b ∨ S2 b, t1.step (fun _ g => .inl g) (fun _ _ _ g => g) (Nat.le_refl _), t2.step (fun _ g => .inr g) (fun _ _ _ g => g) (Nat.le_refl _), fun b hb => hb.elim (fun g => (s1 b g).2) (fun g => (s2 b g).2)⟩
      have HLV : Hid ((∃ S, VsAt w7 S (2 * d + 1) A.l (.slice ax lA cx)) ∧ ∃ S, VsAt w7 S (2 * d + 1) Z.l (.slice ay lZ cy)) := by
        obtain ⟨S1, h1, _⟩ := HO7.out.2.2.1
        obtain ⟨S2, h2, _⟩ := HO7.out.2.2.2
        exact ⟨⟨S1, h1⟩, ⟨S2, h2⟩⟩
      have HPA : Hid (∀ W, Only (fun _ => False) w7 W → W.cell? ⟨BA, 0, none⟩ = some (.int .i64 kA) ∧ W.cell? ⟨BA, 1, none⟩ = some (.int .i64 nA) ∧ W.cell? ⟨BA, 2, none⟩ = some (.string tA) ∧ W.cell? ⟨BA, 3, none⟩ = some (.slice ax lA cx)) := fun W o => ⟨o.cell pA.1 (fun g => g), o.cell pA.2.1 (fun g => g), o.cell pA.2.2.1 (fun g => g), o.cell pA.2.2.2 (fun g => g)⟩
      have HPZ : Hid (∀ W, Only (fun _ => False) w7 W → W.cell? ⟨BA + 1, 0, none⟩ = some (.int .i64 kZ) ∧ W.cell? ⟨BA + 1, 1, none⟩ = some (.int .i64 nZ) ∧ W.cell? ⟨BA + 1, 2, none⟩ = some (.string tZ) ∧ W.cell? ⟨BA + 1, 3, none⟩ = some (.slice ay lZ cy)) := fun W o => ⟨o.cell pZ.1 (fun g => g), o.cell pZ.2.1 (fun g => g), o.cell pZ.2.2.1 (fun g => g), o.cell pZ.2.2.2 (fun g => g)⟩
      have OW7 : Hid (Only (fun _ => False) w w7) := HO7.out.2.1
      have HTx : Hid (∀ W, Only (fun _ => False) w7 W → Tx W) := fun W o => HTy.out.1.frame (OW7.out.trans o (fun _ _ g => g))
      have O7 : Hid (Only (fun _ => False) w7 w7) := Only.refl _ _
      clear pA pZ HO7 HXY HW HTy O0
      have HD1 : Hid (∀ (W : World) (Q Q2 : Nat), Only (fun _ => False) w7 W → (W.cell? ⟨Q, 0, none⟩ = some x' ∧ W.cell? ⟨Q, 1, none⟩ = some y') → W.cell? ⟨Q2, 0, none⟩ = some (.string ⟨#[97, 112, 112, 101, 110, 100]⟩) → Calls Tryz.prog 23 #[.slice (some ⟨Q, 0, none⟩) 2 2, .slice (some ⟨Q2, 0, none⟩) 1 1] W fun e w' => DlP (.error en) (2 * d + 1 + 2) W e w') := fun W Q Q2 o h hn => by
        obtain ⟨S, t1, t2, s⟩ := HX.out
        rw [← hR]
        exact do_r2 o29.c t1 t2 s HLA.out.2.2 HLZ.out.2.2 o (HTx.out W o) h hn
      obtain ⟨e1, e2⟩ := HXE.out
      rw [e1, e2] at HD1
      clear hR HX HLV HPA HPZ HTx HLA HLZ HQ HXE e1 e2
      refine (show Calls Tryz.prog 23 _ _ _ from HD1.out _ _ _ ((O7.out.alloc _).alloc _) (by simp [go_sem]) (by simp [go_sem])).mono ?_
      rintro e w8 ⟨rfl, hne, o8⟩
      have O8 : Hid (Only (fun _ => False) w w8) := (OW7.out.trans ((O7.out.alloc _).alloc _) (fun _ _ g => g)).trans o8 (fun _ _ g => g)
      have hne' : ¬ en = 0 := by simpa using hne
      clear o8 HD1 hne
      go_wp2
      go_ret
      exact ⟨rfl, O8.out⟩
  · obtain ⟨Cj, hCj⟩ : ∃ Cj, Cj = jnT A Z := ⟨_, rfl⟩
    obtain ⟨MA, hMA⟩ : ∃ M, M = lnT A := ⟨_, rfl⟩
    obtain ⟨MZ, hMZ⟩ : ∃ M, M = lnT Z := ⟨_, rfl⟩
    obtain ⟨MC, hMC⟩ : ∃ M, M = lnT Cj := ⟨_, rfl⟩
    have hsum : MC = MA + MZ := by rw [hMC, hMA, hMZ, hCj]; exact ln_jn vA vZ hkk
    have hbA : MA ≤ 4096 := by rw [hMA]; exact ln_le vA
    have hbZ : MZ ≤ 4096 := by rw [hMZ]; exact ln_le vZ
    have hbC : MC ≤ 4096 := by rw [hMC, hCj]; exact ln_le vC
    rw [← hCj] at hR vC
    have kC : Cj.k = A.k := by
      rw [hCj]
      unfold jnT
      split
      · rename_i h2; exact h2.symm
      · rfl
    have k245 : Cj.k = 2 ∨ Cj.k = 4 ∨ Cj.k = 5 := by omega
    have z245 : Z.k = 2 ∨ Z.k = 4 ∨ Z.k = 5 := by omega
    obtain ⟨T1, z1, rfl⟩ : ∃ T z, x = .iface T z := by obtain ⟨S, t1, s⟩ := HXY.out.1; exact t1.iface (by omega)
    obtain ⟨T2, z2, rfl⟩ : ∃ T z, y = .iface T z := by obtain ⟨S, t1, s⟩ := HXY.out.2; exact t1.iface (by omega)
    go_wp2_with fail
    refine (show Calls Tryz.prog 26 _ _ _ from HTa.out _ (Only.refl _ _)).mono ?_
    rintro e w4 ⟨lv1, rfl, G4⟩
    obtain ⟨ax, cx, hlv1⟩ := G4.out.1
    subst hlv1
    have HG4 : Hid (NuAt w4 w3.heap.size (2 * d + 1) A (.slice ax lA cx) ∧ Only (fun _ => False) w3 w4) := G4.out.2
    clear HTa G4
    go_wp2_with fail
    refine (show Calls Tryz.prog 26 _ _ _ from HTb.out _ HG4.out.2).mono ?_
    rintro e w5 ⟨lv2, rfl, G5⟩
    obtain ⟨ay, cy, hlv2⟩ := G5.out.1
    subst hlv2
    have HG5 : Hid (NuAt w5 C (2 * d + 1) A (.slice ax lA cx) ∧ NuAt w5 C (2 * d + 1) Z (.slice ay lZ cy) ∧ Only (fun _ => False) w3 w5) := ⟨(HG4.out.1.only G5.out.2.2 (fun _ _ g => g)).lower HW.out.2.2.2, G5.out.2.1.lower (Nat.le_trans HW.out.2.2.2 HG4.out.2.size), HG4.out.2.trans G5.out.2.2 (fun _ _ g => g)⟩
    have HR5 : Hid (w5.heap[BA]? = some (.cells #[.int .i64 ka, .int .i64 na, .string ta, .slice a1 La c1] 45) ∧ w5.heap[BA + 1]? = some (.cells #[.int .i64 kb, .int .i64 nb, .string tb, .slice a2 Lb c2] 45)) := by
      have o := HG5.out.2.2
      have h := HW.out
      exact ⟨(o.block BA (by omega) (fun h => h)).trans HRR.out.1, (o.block (BA + 1) (by omega) (fun h => h)).trans HRR.out.2⟩
    clear HTb G5 HG4 HRR
    have r0 := HR5.out.1
    have r1 := HR5.out.2
    have ca0 := vblk_cells r0 0
    have ca1 := vblk_cells r0 1
    have ca2 := vblk_cells r0 2
    have ca3 := vblk_cells r0 3
    have cb0 := vblk_cells r1 0
    have cb1 := vblk_cells r1 1
    have cb2 := vblk_cells r1 2
    have cb3 := vblk_cells r1 3
    have za0 := blk_froz r0 0
    have za1 := blk_froz r0 1
    have za2 := blk_froz r0 2
    have za3 := blk_froz r0 3
    have zb0 := blk_froz r1 0
    have zb1 := blk_froz r1 1
    have zb2 := blk_froz r1 2
    have zb3 := blk_froz r1 3
    simp only [List.getElem?_toArray, List.getElem?_cons_zero, List.getElem?_cons_succ] at ca0 ca1 ca2 ca3 cb0 cb1 cb2 cb3
    clear r0 r1
    go_wp2_with fail
    obtain ⟨w6, hw6⟩ : ∃ v, v = ((((w5.setCell ⟨BA, 0, none⟩ (.int .i64 kA)).setCell ⟨BA, 1, none⟩ (.int .i64 nA)).setCell ⟨BA, 2, none⟩ (.string tA)).setCell ⟨BA, 3, none⟩ (.slice ax lA cx)) := ⟨_, rfl⟩
    obtain ⟨w7, hw7⟩ : ∃ v, v = ((((w6.setCell ⟨BA + 1, 0, none⟩ (.int .i64 kZ)).setCell ⟨BA + 1, 1, none⟩ (.int .i64 nZ)).setCell ⟨BA + 1, 2, none⟩ (.string tZ)).setCell ⟨BA + 1, 3, none⟩ (.slice ay lZ cy)) := ⟨_, rfl⟩
    have hsz7 : w5.heap.size = w7.heap.size := by rw [hw7, hw6]; simp [World.setCell]
    rw [← hw6, ← hw7, hsz7]
    have OB1 : Only (fun b => b = BA) w5 w6 := by rw [hw6]; exact uonly4 _ _ _ _
    have OB2 : Only (fun b => b = BA + 1) w6 w7 := by rw [hw7]; exact uonly4 _ _ _ _
    have OB : Only (fun b => b = BA ∨ b = BA + 1) w5 w7 := (OB1.mono (bs' := fun b => b = BA ∨ b = BA + 1) (fun _ _ h => .inl h)).trans OB2 (fun _ _ h => .inr h)
    have pA : (w7.cell? ⟨BA, 0, none⟩ = some (.int .i64 kA) ∧ w7.cell? ⟨BA, 1, none⟩ = some (.int .i64 nA) ∧ w7.cell? ⟨BA, 2, none⟩ = some (.string tA) ∧ w7.cell? ⟨BA, 3, none⟩ = some (.slice ax lA cx)) := by
      obtain ⟨p0, p1, p2, p3⟩ := set4 HR5.out.1 rfl (.int .i64 kA) (.int .i64 nA) (.string tA) (.slice ax lA cx)
      rw [← hw6] at p0 p1 p2 p3
      have ne : ¬ BA = BA + 1 := by omega
      exact ⟨OB2.cell p0 ne, OB2.cell p1 ne, OB2.cell p2 ne, OB2.cell p3 ne⟩
    have pZ : (w7.cell? ⟨BA + 1, 0, none⟩ = some (.int .i64 kZ) ∧ w7.cell? ⟨BA + 1, 1, none⟩ = some (.int .i64 nZ) ∧ w7.cell? ⟨BA + 1, 2, none⟩ = some (.string tZ) ∧ w7.cell? ⟨BA + 1, 3, none⟩ = some (.slice ay lZ cy)) := by
      have r1 := (OB1.block (BA + 1) (Array.getElem?_eq_some_iff.1 HR5.out.2).1 (fun h => by omega)).trans HR5.out.2
      obtain ⟨p0, p1, p2, p3⟩ := set4 r1 rfl (.int .i64 kZ) (.int .i64 nZ) (.string tZ) (.slice ay lZ cy)
      rw [← hw7] at p0 p1 p2 p3
      exact ⟨p0, p1, p2, p3⟩
    have HO7 : Hid (Only (fun b => b = BA ∨ b = BA + 1) w3 w7 ∧ Only (fun _ => False) w w7 ∧ NuAt w7 C (2 * d + 1) A (.slice ax lA cx) ∧ NuAt w7 C (2 * d + 1) Z (.slice ay lZ cy)) := by
      have h := HW.out
      have o37 : Only (fun b => b = BA ∨ b = BA + 1) w3 w7 := (HG5.out.2.2.mono (bs' := fun b => b = BA ∨ b = BA + 1) (fun _ _ h => h.elim)).trans OB (fun _ _ h => h)
      have hov : ∀ b, C ≤ b → ¬ (b = BA ∨ b = BA + 1) := fun b hb => by omega
      exact ⟨o37, h.1.trans o37 (fun b hb g => by omega), HG5.out.1.only OB hov, HG5.out.2.1.only OB hov⟩
    clear hw6 hw7 hsz7 OB1 OB2 OB HR5 HG5 ca0 ca1 ca2 ca3 cb0 cb1 cb2 cb3 za0 za1 za2 za3 zb0 zb1 zb2 zb3
    have HX : Hid (∃ S, TiAt w7 S (2 * d + 1) false A (.iface T1 z1) ∧ TiAt w7 S (2 * d + 1) false Z (.iface T2 z2) ∧ ∀ b, S b → b < w7.heap.size) := by
      have hov : ∀ b, C ≤ b → ¬ (b = BA ∨ b = BA + 1) := fun b hb => by have := HW.out.2.2.1; omega
      obtain ⟨S1, t1, s1⟩ := HXY.out.1.only HO7.out.1 hov
      obtain ⟨S2, t2, s2⟩ := HXY.out.2.only HO7.out.1 hov
      exact ⟨fun b => S1 b ∨ S2 b, t1.step (fun _ g => .inl g) (fun _ _ _ g => g) (Nat.le_refl _), t2.step (fun _ g => .inr g) (fun _ _ _ g => g) (Nat.le_refl _), fun b hb => hb.elim (fun g => (s1 b g).2) (fun g => (s2 b g).2)⟩
    have HLV : Hid ((∃ S, VsAt w7 S (2 * d + 1) A.l (.slice ax lA cx)) ∧ ∃ S, VsAt w7 S (2 * d + 1) Z.l (.slice ay lZ cy)) := by
      obtain ⟨S1, h1, _⟩ := HO7.out.2.2.1
      obtain ⟨S2, h2, _⟩ := HO7.out.2.2.2
      exact ⟨⟨S1, h1⟩, ⟨S2, h2⟩⟩
    have HPA : Hid (∀ W, Only (fun _ => False) w7 W → W.cell? ⟨BA, 0, none⟩ = some (.int .i64 kA) ∧ W.cell? ⟨BA, 1, none⟩ = some (.int .i64 nA) ∧ W.cell? ⟨BA, 2, none⟩ = some (.string tA) ∧ W.cell? ⟨BA, 3, none⟩ = some (.slice ax lA cx)) := fun W o => ⟨o.cell pA.1 (fun g => g), o.cell pA.2.1 (fun g => g), o.cell pA.2.2.1 (fun g => g), o.cell pA.2.2.2 (fun g => g)⟩
    have HPZ : Hid (∀ W, Only (fun _ => False) w7 W → W.cell? ⟨BA + 1, 0, none⟩ = some (.int .i64 kZ) ∧ W.cell? ⟨BA + 1, 1, none⟩ = some (.int .i64 nZ) ∧ W.cell? ⟨BA + 1, 2, none⟩ = some (.string tZ) ∧ W.cell? ⟨BA + 1, 3, none⟩ = some (.slice ay lZ cy)) := fun W o => ⟨o.cell pZ.1 (fun g => g), o.cell pZ.2.1 (fun g => g), o.cell pZ.2.2.1 (fun g => g), o.cell pZ.2.2.2 (fun g => g)⟩
    have OW7 : Hid (Only (fun _ => False) w w7) := HO7.out.2.1
    have HTx : Hid (∀ W, Only (fun _ => False) w7 W → Tx W) := fun W o => HTy.out.1.frame (OW7.out.trans o (fun _ _ g => g))
    have O7 : Hid (Only (fun _ => False) w7 w7) := Only.refl _ _
    clear pA pZ HO7 HXY HW HTy O0
    have HV : Hid (Lv d A ∧ Lv d Z ∧ Lv d Cj ∧ Cj = jnT A Z ∧ A.k = Z.k ∧ Cj.k = A.k ∧ (A.k = 2 ∨ A.k = 4 ∨ A.k = 5)) := ⟨vA, vZ, vC, hCj, hkk, kC, h245⟩
    have HM : Hid (MA = lnT A ∧ MZ = lnT Z ∧ MC = lnT Cj ∧ MC = MA + MZ ∧ MA ≤ 4096 ∧ MZ ≤ 4096 ∧ MC ≤ 4096) := ⟨hMA, hMZ, hMC, hsum, hbA, hbZ, hbC⟩
    have HD1 : Hid (∀ (W : World) (Q Q2 : Nat), Only (fun _ => False) w7 W → (W.cell? ⟨Q, 0, none⟩ = some (.iface T1 z1) ∧ W.cell? ⟨Q, 1, none⟩ = some (.iface T2 z2)) → W.cell? ⟨Q2, 0, none⟩ = some (.string ⟨#[97, 112, 112, 101, 110, 100]⟩) → Calls Tryz.prog 23 #[.slice (some ⟨Q, 0, none⟩) 2 2, .slice (some ⟨Q2, 0, none⟩) 1 1] W fun e w' => OkP Cj (2 * d + 3) W e w') := fun W Q Q2 o h hn => by
      obtain ⟨S, t1, t2, s⟩ := HX.out
      refine (do_r2 o29.c t1 t2 s HLA.out.2.2 HLZ.out.2.2 o (HTx.out W o) h hn).mono fun e w' g => ?_
      rw [hR] at g
      exact ok_of g
    have HD2 : Hid (∀ (W : World) (Q Q2 : Nat), Only (fun _ => False) w7 W → W.cell? ⟨Q, 0, none⟩ = some (.iface T1 z1) → W.cell? ⟨Q2, 0, none⟩ = some (.string ⟨#[108, 101, 110, 103, 116, 104]⟩) → Calls Tryz.prog 23 #[.slice (some ⟨Q, 0, none⟩) 1 1, .slice (some ⟨Q2, 0, none⟩) 1 1] W fun e w' => OkN (MA : Int) W e w') := fun W Q Q2 o h hn => by
      obtain ⟨S, t1, t2, s⟩ := HX.out
      refine (do_r1 o28.c t1 s HLA.out.2.2 o (HTx.out W o) h hn).mono fun e w' g => ?_
      rw [d_len vA h245 (Nat.le_refl _), ← hMA] at g
      exact okn_of g
    have HD3 : Hid (∀ (W : World) (Q Q2 : Nat), Only (fun _ => False) w7 W → W.cell? ⟨Q, 0, none⟩ = some (.iface T2 z2) → W.cell? ⟨Q2, 0, none⟩ = some (.string ⟨#[108, 101, 110, 103, 116, 104]⟩) → Calls Tryz.prog 23 #[.slice (some ⟨Q, 0, none⟩) 1 1, .slice (some ⟨Q2, 0, none⟩) 1 1] W fun e w' => OkN (MZ : Int) W e w') := fun W Q Q2 o h hn => by
      obtain ⟨S, t1, t2, s⟩ := HX.out
      refine (do_r1 o28.c t2 s HLZ.out.2.2 o (HTx.out W o) h hn).mono fun e w' g => ?_
      rw [d_len vZ z245 (Nat.le_refl _), ← hMZ] at g
      exact okn_of g
    have HD4 : Hid (∀ (w8 W : World) (g q c : Nat) (u : Value) (Q2 : Nat), Ok1 Cj (2 * d + 3) w8 g q c u → Only (fun _ => False) w8 W → Only (fun _ => False) w7 W → W.cell? ⟨Q2, 0, none⟩ = some (.string ⟨#[108, 101, 110, 103, 116, 104]⟩) → Calls Tryz.prog 23 #[.slice (some ⟨g, q, none⟩) 1 c, .slice (some ⟨Q2, 0, none⟩) 1 1] W fun e w' => OkN (MC : Int) W e w') := fun w8 W g q c u Q2 h o o2 hn => by
      refine (do_s1 o28.c h vC.sm o (HTx.out W o2) hn).mono fun e w' g => ?_
      rw [d_len vC k245 (by omega), ← hMC] at g
      exact okn_of g
    clear hMA hMZ hMC hsum hbA hbZ hbC hR vA vZ vC hkk h245 kC k245 z245 hCj
    refine (show Calls Tryz.prog 23 _ _ _ from HD1.out _ _ _ ((O7.out.alloc _).alloc _) (by simp [go_sem]) (by simp [go_sem])).mono ?_
    rintro e w8 ⟨ga, qa, ca, ua, rfl, G8⟩
    have O8 : Hid (Only (fun _ => False) w7 w8) := ((O7.out.alloc _).alloc _).trans G8.out.2 (fun _ _ g => g)
    have HO1 : Hid (∀ W, Only (fun _ => False) w8 W → Ok1 Cj (2 * d + 3) W ga qa ca ua) := fun W o => G8.out.1.only o
    obtain ⟨T3, z3, rfl⟩ : ∃ T z, ua = .iface T z := by
      obtain ⟨S, _, t, _⟩ := G8.out.1.at'
      refine t.iface ?_
      have h := app_cases HLA.out.1 HLZ.out.1 HLA.out.2.1 HLZ.out.2.1 HLA.out.2.2 HLZ.out.2.2
      have h1 := HV.out.2.2.1.gs.fb
      rw [fb_63] at h1
      simp at h1
      omega
    have R8 : Hid (Only (fun _ => False) w8 w8) := Only.refl _ _
    clear HD1 G8 O7
    go_wp2_with fail
    refine (show Calls Tryz.prog 23 _ _ _ from HD2.out _ _ _ ((O8.out.alloc _).alloc _) (by simp [go_sem]) (by simp [go_sem])).mono ?_
    rintro e w9 ⟨gx, qx, cx1, rfl, G9⟩
    have O9 : Hid (Only (fun _ => False) w7 w9) := ((O8.out.alloc _).alloc _).trans G9.out.2 (fun _ _ g => g)
    have R9 : Hid (Only (fun _ => False) w8 w9) := ((R8.out.alloc _).alloc _).trans G9.out.2 (fun _ _ g => g)
    have HN9 : Hid (∀ W, Only (fun _ => False) w9 W → W.cell? ⟨gx, qx, none⟩ = some (.iface 55 (.agg #[.int .i64 (MA : Int)]))) := fun W o => o.cell G9.out.1 (fun g => g)
    have S9 : Hid (Only (fun _ => False) w9 w9) := Only.refl _ _
    clear HD2 G9 O8 R8
    go_wp2_with fail
    refine (show Calls Tryz.prog 23 _ _ _ from HD3.out _ _ _ ((O9.out.alloc _).alloc _) (by simp [go_sem]) (by simp [go_sem])).mono ?_
    rintro e w10 ⟨gy, qy, cy1, rfl, G10⟩
    have O10 : Hid (Only (fun _ => False) w7 w10) := ((O9.out.alloc _).alloc _).trans G10.out.2 (fun _ _ g => g)
    have R10 : Hid (Only (fun _ => False) w8 w10) := (((R9.out.alloc _).alloc _).trans G10.out.2 (fun _ _ g => g))
    have S10 : Hid (Only (fun _ => False) w9 w10) := ((S9.out.alloc _).alloc _).trans G10.out.2 (fun _ _ g => g)
    have HN10 : Hid (∀ W, Only (fun _ => False) w10 W → W.cell? ⟨gy, qy, none⟩ = some (.iface 55 (.agg #[.int .i64 (MZ : Int)]))) := fun W o => o.cell G10.out.1 (fun g => g)
    have U10 : Hid (Only (fun _ => False) w10 w10) := Only.refl _ _
    clear HD3 G10 O9 R9 S9
    go_wp2_with fail
    refine (show Calls Tryz.prog 23 _ _ _ from HD4.out w8 _ _ _ _ _ _ (HO1.out w8 (Only.refl _ _)) (R10.out.alloc _) (O10.out.alloc _) (by simp [go_sem])).mono ?_
    rintro e w11 ⟨gz, qz, cz1, rfl, G11⟩
    have O11 : Hid (Only (fun _ => False) w7 w11) := (O10.out.alloc _).trans G11.out.2 (fun _ _ g => g)
    have R11 : Hid (Only (fun _ => False) w8 w11) := (R10.out.alloc _).trans G11.out.2 (fun _ _ g => g)
    have HC11 : Hid (∀ W, Only (fun _ => False) w11 W → W.cell? ⟨gx, qx, none⟩ = some (.iface 55 (.agg #[.int .i64 (MA : Int)])) ∧ W.cell? ⟨gy, qy, none⟩ = some (.iface 55 (.agg #[.int .i64 (MZ : Int)])) ∧ W.cell? ⟨gz, qz, none⟩ = some (.iface 55 (.agg #[.int .i64 (MC : Int)]))) := fun W o => ⟨HN9.out W ((S10.out.trans ((U10.out.alloc _).trans G11.out.2 (fun _ _ g => g)) (fun _ _ g => g)).trans o (fun _ _ g => g)), HN10.out W (((U10.out.alloc _).trans G11.out.2 (fun _ _ g => g)).trans o (fun _ _ g => g)), o.cell G11.out.1 (fun g => g)⟩
    have HT1 : Hid (∀ W, Calls Tryz.prog 26 #[.iface 55 (.agg #[.int .i64 (MA : Int)])] W fun e w' => ∃ lv, e = .returned (.agg #[.int .i64 1, .int .i64 (MA : Int), .string ⟨#[]⟩, lv]) ∧ Hid ((∃ ao c, lv = .slice ao 0 c) ∧ Only (fun _ => False) W w')) := fun W => tree_n (by have := HM.out; omega) W
    have HT2 : Hid (∀ W, Calls Tryz.prog 26 #[.iface 55 (.agg #[.int .i64 (MZ : Int)])] W fun e w' => ∃ lv, e = .returned (.agg #[.int .i64 1, .int .i64 (MZ : Int), .string ⟨#[]⟩, lv]) ∧ Hid ((∃ ao c, lv = .slice ao 0 c) ∧ Only (fun _ => False) W w')) := fun W => tree_n (by have := HM.out; omega) W
    have HT3 : Hid (∀ W, Calls Tryz.prog 26 #[.iface 55 (.agg #[.int .i64 (MC : Int)])] W fun e w' => ∃ lv, e = .returned (.agg #[.int .i64 1, .int .i64 (MC : Int), .string ⟨#[]⟩, lv]) ∧ Hid ((∃ ao c, lv = .slice ao 0 c) ∧ Only (fun _ => False) W w')) := fun W => tree_n (by have := HM.out; omega) W
    have Q11 : Hid (Only (fun _ => False) w11 w11) := Only.refl _ _
    obtain ⟨x0, x1, x2⟩ := HC11.out w11 (Only.refl _ _)
    have hfl := fld_n
    clear HD4 G11 O10 R10 S10 U10 HN9 HN10
    go_wp2
    go_region_held3 (fun W => W.cell? ⟨gx, qx, none⟩ = some (.iface 55 (.agg #[.int .i64 (MA : Int)])) ∧ W.cell? ⟨gy, qy, none⟩ = some (.iface 55 (.agg #[.int .i64 (MZ : Int)])) ∧ W.cell? ⟨gz, qz, none⟩ = some (.iface 55 (.agg #[.int .i64 (MC : Int)])))
      (first | with_reducible exact HC11.out _ Q11.out | with_reducible exact HC11.out _ Q11.out.drew | with_reducible exact HC11.out _ Q11.out.drew.drew | with_reducible exact HC11.out _ Q14.out | with_reducible exact HC11.out _ Q13.out | with_reducible exact HC11.out _ Q12.out)
      (first
        | (go_at_call 26; have hq := Q13; clear hq; refine (show Calls Tryz.prog 26 _ _ _ from HT3.out _).mono ?_; rintro ex w14 ⟨lv3, rfl, G14⟩; have Q14 : Hid (Only (fun _ => False) w11 w14) := Q13.out.trans G14.out.2 (fun _ _ g => g); obtain ⟨a14, c14, hl3⟩ := G14.out.1; subst hl3; clear G14)
        | (go_at_call 26; have hq := Q12; clear hq; refine (show Calls Tryz.prog 26 _ _ _ from HT2.out _).mono ?_; rintro ex w13 ⟨lv2, rfl, G13⟩; have Q13 : Hid (Only (fun _ => False) w11 w13) := Q12.out.trans G13.out.2 (fun _ _ g => g); obtain ⟨a13, c13, hl2⟩ := G13.out.1; subst hl2; clear G13)
        | (go_at_call 26; refine (show Calls Tryz.prog 26 _ _ _ from HT1.out _).mono ?_; rintro ex w12 ⟨lv1, rfl, G12⟩; have Q12 : Hid (Only (fun _ => False) w11 w12) := (by first | exact Q11.out.drew.trans G12.out.2 (fun _ _ g => g) | exact Q11.out.trans G12.out.2 (fun _ _ g => g)); obtain ⟨a12, c12, hl1⟩ := G12.out.1; subst hl1; clear G12))
    have O14 : Hid (Only (fun _ => False) w7 w14) := O11.out.trans Q14.out (fun _ _ g => g)
    have R14 : Hid (Only (fun _ => False) w8 w14) := R11.out.trans Q14.out (fun _ _ g => g)
    have iadd : IntKind.i64.wrap ((MA : Int) + (MZ : Int)) = (MC : Int) := by rw [IntKind.wrap_i64]; have := HM.out; omega
    obtain ⟨b0, b1, b2, b3⟩ := HPA.out w14 O14.out
    clear HT1 HT2 HT3 HC11 Q11 Q12 Q13 Q14 O11 R11 x0 x1 x2
    by_cases h5 : kA = 5
    · subst h5
      go_wp2
      go_ret
      exact ⟨rfl, OW7.out.trans O14.out (fun _ _ g => g)⟩
    · have H24 : Hid ((A.k = 2 ∨ A.k = 4) ∧ (Z.k = 2 ∨ Z.k = 4) ∧ (Cj.k = 2 ∨ Cj.k = 4)) := by
        have q := HQ.out.1
        obtain ⟨_, _, _, _, v5, v6, v7⟩ := HV.out
        have h1 : A.k = 2 ∨ A.k = 4 := by omega
        have h2 : Z.k = 2 ∨ Z.k = 4 := by omega
        have h3 : Cj.k = 2 ∨ Cj.k = 4 := by omega
        exact ⟨h1, h2, h3⟩
      have HU : Hid (∀ W, Only (fun _ => False) w8 W → W.cell? ⟨ga, qa, none⟩ = some (.iface T3 z3)) := fun W o => (HO1.out W o).cell
      have HD5 : Hid (∀ (W : World) (Q Q2 : Nat), Only (fun _ => False) w8 W → Only (fun _ => False) w7 W → (W.cell? ⟨Q, 0, none⟩ = some (.iface 55 (.agg #[.int .i64 0])) ∧ W.cell? ⟨Q, 1, none⟩ = some (.iface 55 (.agg #[.int .i64 (MA : Int)])) ∧ W.cell? ⟨Q, 2, none⟩ = some (.iface T3 z3)) → W.cell? ⟨Q2, 0, none⟩ = some (.string ⟨#[115, 108, 105, 99, 101]⟩) → Calls Tryz.prog 23 #[.slice (some ⟨Q, 0, none⟩) 3 3, .slice (some ⟨Q2, 0, none⟩) 1 1] W fun e w' => OkP A (2 * d + 5) W e w') := fun W Q Q2 o o7 h hn => by
        obtain ⟨S, _, t1, s1⟩ := (HO1.out W o).at'
        obtain ⟨v1, v2, v3, v4, v5, v6, v7⟩ := HV.out
        obtain ⟨m1, m2, m3, m4, m5, m6, m7⟩ := HM.out
        refine (do_r3 (x := inT ((0 : Nat) : Int)) (y := inT (MA : Int)) o31.c (in_ti W S (2 * d + 2) 0) (in_ti W S (2 * d + 2) (MA : Int)) t1 s1 (in_sm (by omega)) (in_sm (by omega)) v3.sm (Only.refl _ _) (HTx.out W o7) h hn).mono fun e w' g => ?_
        rw [d_slice (n := 0) (m := MA) v3 H24.out.2.2 (by omega) (by omega) (by rw [m1, v4]; exact pc_front v1 v2 v5 H24.out.1) v1 (by omega)] at g
        exact ok_of g
      have HD6 : Hid (∀ (W : World) (Q Q2 : Nat), Only (fun _ => False) w8 W → Only (fun _ => False) w7 W → (W.cell? ⟨Q, 0, none⟩ = some (.iface 55 (.agg #[.int .i64 (MA : Int)])) ∧ W.cell? ⟨Q, 1, none⟩ = some (.iface 55 (.agg #[.int .i64 (MC : Int)])) ∧ W.cell? ⟨Q, 2, none⟩ = some (.iface T3 z3)) → W.cell? ⟨Q2, 0, none⟩ = some (.string ⟨#[115, 108, 105, 99, 101]⟩) → Calls Tryz.prog 23 #[.slice (some ⟨Q, 0, none⟩) 3 3, .slice (some ⟨Q2, 0, none⟩) 1 1] W fun e w' => OkP Z (2 * d + 5) W e w') := fun W Q Q2 o o7 h hn => by
        obtain ⟨S, _, t1, s1⟩ := (HO1.out W o).at'
        obtain ⟨v1, v2, v3, v4, v5, v6, v7⟩ := HV.out
        obtain ⟨m1, m2, m3, m4, m5, m6, m7⟩ := HM.out
        refine (do_r3 (x := inT (MA : Int)) (y := inT (MC : Int)) o31.c (in_ti W S (2 * d + 2) (MA : Int)) (in_ti W S (2 * d + 2) (MC : Int)) t1 s1 (in_sm (by omega)) (in_sm (by omega)) v3.sm (Only.refl _ _) (HTx.out W o7) h hn).mono fun e w' g => ?_
        rw [d_slice (n := MA) (m := MC) v3 H24.out.2.2 (by omega) (by omega) (by rw [m3, m1, v4]; exact pc_back v1 v2 v5 H24.out.1) v2 (by omega)] at g
        exact ok_of g
      have HD7 : Hid (∀ (W : World) (Q2 : Nat), Only (fun _ => False) w8 W → Only (fun _ => False) w7 W → (W.cell? ⟨Q2, 0, none⟩ = some (.string ⟨#[114, 101, 118, 101, 114, 115, 101]⟩) ∧ W.cell? ⟨Q2, 1, none⟩ = some (.string ⟨#[114, 101, 118, 101, 114, 115, 101]⟩)) → Calls Tryz.prog 23 #[.slice (some ⟨ga, qa, none⟩) 1 ca, .slice (some ⟨Q2, 0, none⟩) 2 2] W fun e w' => OkP Cj (2 * d + 7) W e w') := fun W Q2 o o7 hn => by
        obtain ⟨v1, v2, v3, v4, v5, v6, v7⟩ := HV.out
        refine (do_s2 o35.c (HO1.out W o) v3.sm (Only.refl _ _) (HTx.out W o7) hn).mono fun e w' g => ?_
        rw [d_rev v3 H24.out.2.2 (by omega)] at g
        exact ok_of g
      have HS8 : Hid (∀ (w0 W : World) (g q c : Nat) (u : Value) (Q : Nat), Ok1 A (2 * d + 5) w0 g q c u → Only (fun _ => False) w0 W → Only (fun _ => False) w7 W → (W.cell? ⟨Q, 0, none⟩ = some (.int .i64 kA) ∧ W.cell? ⟨Q, 1, none⟩ = some (.int .i64 nA) ∧ W.cell? ⟨Q, 2, none⟩ = some (.string tA) ∧ W.cell? ⟨Q, 3, none⟩ = some (.slice ax lA cx)) → Calls Tryz.prog 24 #[.slice (some ⟨g, q, none⟩) 1 c, .slice (some ⟨Q, 0, none⟩) 1 1] W fun e w' => e = .returned (.bool true) ∧ Only (fun _ => False) W w') := fun w0 W g q c u Q h o o7 hc => by
        obtain ⟨S, hl⟩ := HLV.out.1
        rw [HQ.out.1, HQ.out.2.1, HQ.out.2.2.1] at hc
        exact same_1 HV.out.1 (by omega) h o hl o7 hc
      have HS9 : Hid (∀ (w0 W : World) (g q c : Nat) (u : Value) (Q : Nat), Ok1 Z (2 * d + 5) w0 g q c u → Only (fun _ => False) w0 W → Only (fun _ => False) w7 W → (W.cell? ⟨Q, 0, none⟩ = some (.int .i64 kZ) ∧ W.cell? ⟨Q, 1, none⟩ = some (.int .i64 nZ) ∧ W.cell? ⟨Q, 2, none⟩ = some (.string tZ) ∧ W.cell? ⟨Q, 3, none⟩ = some (.slice ay lZ cy)) → Calls Tryz.prog 24 #[.slice (some ⟨g, q, none⟩) 1 c, .slice (some ⟨Q, 0, none⟩) 1 1] W fun e w' => e = .returned (.bool true) ∧ Only (fun _ => False) W w') := fun w0 W g q c u Q h o o7 hc => by
        obtain ⟨S, hl⟩ := HLV.out.2
        rw [HQ.out.2.2.2.2.1, HQ.out.2.2.2.2.2.1, HQ.out.2.2.2.2.2.2.1] at hc
        exact same_1 HV.out.2.1 (by omega) h o hl o7 hc
      obtain ⟨kC, hkC⟩ : ∃ k, k = Cj.k := ⟨_, rfl⟩
      obtain ⟨nC, hnC⟩ : ∃ k, k = Cj.n := ⟨_, rfl⟩
      obtain ⟨tC, htC⟩ : ∃ k, k = Cj.s := ⟨_, rfl⟩
      obtain ⟨lC, hlC⟩ : ∃ k, k = Cj.l.length := ⟨_, rfl⟩
      have HT10 : Hid (∀ W, Only (fun _ => False) w8 W → Calls Tryz.prog 26 #[.iface T3 z3] W fun e w' => ∃ ao cap, e = .returned (.agg #[.int .i64 kC, .int .i64 nC, .string tC, .slice ao lC cap]) ∧ Hid ((∃ S, VsAt w' S (2 * d + 3) Cj.l (.slice ao lC cap)) ∧ Only (fun _ => False) W w')) := fun W o => by
        obtain ⟨S, _, t1, s1⟩ := (HO1.out W o).at'
        refine ((utrees_any (2 * d + 4) (2 * d + 3) (by omega)).1 _ Cj W S t1 HV.out.2.2.1.nf).mono fun e w' g => ?_
        obtain ⟨lv, he, g⟩ := g
        obtain ⟨ao, cap, hlv⟩ := g.out.1.form
        obtain ⟨S', hv, _⟩ := g.out.1
        rw [hlv] at he hv
        exact ⟨ao, cap, by rw [hkC, hnC, htC, hlC]; exact he, ⟨⟨S', by rw [hlC]; exact hv⟩, g.out.2⟩⟩
      have HS11 : Hid (∀ (w0 w1 W : World) (g q c : Nat) (u lv : Value) (Q : Nat), Ok1 Cj (2 * d + 7) w0 g q c u → Only (fun _ => False) w0 W → (∃ S, VsAt w1 S (2 * d + 3) Cj.l lv) → Only (fun _ => False) w1 W → (W.cell? ⟨Q, 0, none⟩ = some (.int .i64 kC) ∧ W.cell? ⟨Q, 1, none⟩ = some (.int .i64 nC) ∧ W.cell? ⟨Q, 2, none⟩ = some (.string tC) ∧ W.cell? ⟨Q, 3, none⟩ = some lv) → Calls Tryz.prog 24 #[.slice (some ⟨g, q, none⟩) 1 c, .slice (some ⟨Q, 0, none⟩) 1 1] W fun e w' => e = .returned (.bool true) ∧ Only (fun _ => False) W w') := fun w0 w1 W g q c u lv Q h o ⟨S, hl⟩ o1 hc => by
        rw [hkC, hnC, htC] at hc
        exact same_1 HV.out.2.2.1 (by omega) h o hl o1 hc
      have u14 := HU.out w14 R14.out
      clear hkC hnC htC hlC
      go_wp2_with fail
      refine (show Calls Tryz.prog 23 _ _ _ from HD5.out _ _ _ ((R14.out.alloc _).alloc _) ((O14.out.alloc _).alloc _) (by simp [go_sem]) (by simp [go_sem])).mono ?_
      rintro e w15 ⟨gf, qf, cf, uf, rfl, G15⟩
      have O15 : Hid (Only (fun _ => False) w7 w15) := ((O14.out.alloc _).alloc _).trans G15.out.2 (fun _ _ g => g)
      have R15 : Hid (Only (fun _ => False) w8 w15) := ((R14.out.alloc _).alloc _).trans G15.out.2 (fun _ _ g => g)
      have P15 : Hid (Ok1 A (2 * d + 5) w15 gf qf cf uf) := G15.out.1
      have F15 : Hid (Only (fun _ => False) w15 w15) := Only.refl _ _
      have u15 := HU.out w15 R15.out
      clear HD5 G15 O14 R14 u14 b0 b1 b2 b3
      go_wp2_with fail
      refine (show Calls Tryz.prog 23 _ _ _ from HD6.out _ _ _ ((R15.out.alloc _).alloc _) ((O15.out.alloc _).alloc _) (by simp [go_sem]) (by simp [go_sem])).mono ?_
      rintro e w16 ⟨gb, qb, cb, ub, rfl, G16⟩
      have O16 : Hid (Only (fun _ => False) w7 w16) := ((O15.out.alloc _).alloc _).trans G16.out.2 (fun _ _ g => g)
      have R16 : Hid (Only (fun _ => False) w8 w16) := ((R15.out.alloc _).alloc _).trans G16.out.2 (fun _ _ g => g)
      have F16 : Hid (Only (fun _ => False) w15 w16) := ((F15.out.alloc _).alloc _).trans G16.out.2 (fun _ _ g => g)
      have P16 : Hid (Ok1 Z (2 * d + 5) w16 gb qb cb ub) := G16.out.1
      have K16 : Hid (Only (fun _ => False) w16 w16) := Only.refl _ _
      clear HD6 G16 O15 R15 F15 u15
      go_wp2_with fail
      refine (show Calls Tryz.prog 23 _ _ _ from HD7.out _ _ (R16.out.alloc _) (O16.out.alloc _) (by simp [go_sem])).mono ?_
      rintro e w17 ⟨gr, qr, cr, ur, rfl, G17⟩
      have O17 : Hid (Only (fun _ => False) w7 w17) := (O16.out.alloc _).trans G17.out.2 (fun _ _ g => g)
      have R17 : Hid (Only (fun _ => False) w8 w17) := (R16.out.alloc _).trans G17.out.2 (fun _ _ g => g)
      have F17 : Hid (Only (fun _ => False) w15 w17) := (F16.out.alloc _).trans G17.out.2 (fun _ _ g => g)
      have K17 : Hid (Only (fun _ => False) w16 w17) := (K16.out.alloc _).trans G17.out.2 (fun _ _ g => g)
      have P17 : Hid (Ok1 Cj (2 * d + 7) w17 gr qr cr ur) := G17.out.1
      have L17 : Hid (Only (fun _ => False) w17 w17) := Only.refl _ _
      obtain ⟨b0, b1, b2, b3⟩ := HPA.out w17 O17.out
      clear HD7 G17 O16 R16 F16 K16
      go_wp2_with fail
      refine (show Calls Tryz.prog 24 _ _ _ from HS8.out w15 _ _ _ _ _ _ P15.out (F17.out.alloc _) (O17.out.alloc _) (by simp [go_sem])).mono ?_
      rintro e w18 ⟨rfl, o18⟩
      have O18 : Hid (Only (fun _ => False) w7 w18) := (O17.out.alloc _).trans o18 (fun _ _ g => g)
      have R18 : Hid (Only (fun _ => False) w8 w18) := (R17.out.alloc _).trans o18 (fun _ _ g => g)
      have K18 : Hid (Only (fun _ => False) w16 w18) := (K17.out.alloc _).trans o18 (fun _ _ g => g)
      have L18 : Hid (Only (fun _ => False) w17 w18) := (L17.out.alloc _).trans o18 (fun _ _ g => g)
      obtain ⟨e0, e1, e2, e3⟩ := HPZ.out w18 O18.out
      clear HS8 o18 O17 R17 F17 K17 L17 P15 b0 b1 b2 b3
      go_wp2_with fail
      refine (show Calls Tryz.prog 24 _ _ _ from HS9.out w16 _ _ _ _ _ _ P16.out (K18.out.alloc _) (O18.out.alloc _) (by simp [go_sem])).mono ?_
      rintro e w19 ⟨rfl, o19⟩
      have O19 : Hid (Only (fun _ => False) w7 w19) := (O18.out.alloc _).trans o19 (fun _ _ g => g)
      have R19 : Hid (Only (fun _ => False) w8 w19) := (R18.out.alloc _).trans o19 (fun _ _ g => g)
      have L19 : Hid (Only (fun _ => False) w17 w19) := (L18.out.alloc _).trans o19 (fun _ _ g => g)
      have u19 := HU.out w19 R19.out
      clear HS9 o19 O18 R18 K18 L18 P16 e0 e1 e2 e3
      go_wp2_with fail
      refine (show Calls Tryz.prog 26 _ _ _ from HT10.out _ R19.out).mono ?_
      rintro e w20 ⟨at1, ct1, rfl, G20⟩
      have O20 : Hid (Only (fun _ => False) w7 w20) := O19.out.trans G20.out.2 (fun _ _ g => g)
      have R20 : Hid (Only (fun _ => False) w8 w20) := R19.out.trans G20.out.2 (fun _ _ g => g)
      have L20 : Hid (Only (fun _ => False) w17 w20) := L19.out.trans G20.out.2 (fun _ _ g => g)
      have V20 : Hid (∃ S, VsAt w20 S (2 * d + 3) Cj.l (.slice at1 lC ct1)) := G20.out.1
      have M20 : Hid (Only (fun _ => False) w20 w20) := Only.refl _ _
      clear HT10 G20 O19 R19 L19 u19
      go_wp2_with fail
      refine (show Calls Tryz.prog 24 _ _ _ from HS11.out w17 w20 _ _ _ _ _ _ _ P17.out (L20.out.alloc _) V20.out (M20.out.alloc _) (by simp [go_sem])).mono ?_
      rintro e w21 ⟨rfl, o21⟩
      have O21 : Hid (Only (fun _ => False) w7 w21) := (O20.out.alloc _).trans o21 (fun _ _ g => g)
      have R21 : Hid (Only (fun _ => False) w8 w21) := (R20.out.alloc _).trans o21 (fun _ _ g => g)
      have u21 := HU.out w21 R21.out
      have HIn : Hid (∀ W, Calls Tryz.prog 27 #[.int .i64 n] W fun e w' => e = .returned (.bool (fitN n)) ∧ w' = W) := in_any n
      clear HS11 o21 O20 R20 L20 V20 M20 P17 HLV HPA HPZ HQ
      by_cases hf : fitN n = true
      · rw [hf] at HIn
        by_cases ho : n < 0 ∨ (MC : Int) ≤ n
        · have HD12 : Hid (∀ (W : World) (Q Q2 : Nat), Only (fun _ => False) w8 W → Only (fun _ => False) w7 W → (W.cell? ⟨Q, 0, none⟩ = some (.iface 55 (.agg #[.int .i64 n])) ∧ W.cell? ⟨Q, 1, none⟩ = some (.iface T3 z3)) → W.cell? ⟨Q2, 0, none⟩ = some (.string ⟨#[110, 116, 104]⟩) → Calls Tryz.prog 23 #[.slice (some ⟨Q, 0, none⟩) 2 2, .slice (some ⟨Q2, 0, none⟩) 1 1] W fun e w' => DlP (.error 4) (2 * d + 5) W e w') := fun W Q Q2 o o7 h hn => by
            obtain ⟨S, _, t1, s1⟩ := (HO1.out W o).at'
            obtain ⟨v1, v2, v3, v4, v5, v6, v7⟩ := HV.out
            have := do_r2 (x := inT n) (y := Cj) o30.c (in_ti W S (2 * d + 2) n) t1 s1 (in_sm HN64.out) v3.sm (Only.refl _ _) (HTx.out W o7) h hn
            rw [d_nth_out v3 H24.out.2.2 hf (by rw [← HM.out.2.2.1]; exact ho) (by omega)] at this
            exact this
          have ho' : n < 0 ∨ (¬ n < 0 ∧ (MC : Int) ≤ n) := by omega
          clear hf ho HX HO1 HV HM H24 HTx HU
          rcases ho' with i1 | ⟨i1, i2⟩
          all_goals
            go_wp2_with fail
            refine (show Calls Tryz.prog 23 _ _ _ from HD12.out _ _ _ ((R21.out.alloc _).alloc _) ((O21.out.alloc _).alloc _) (by simp [go_sem]) (by simp [go_sem])).mono ?_
            rintro e w22 ⟨rfl, _, o22⟩
            have O22 : Hid (Only (fun _ => False) w w22) := (OW7.out.trans ((O21.out.alloc _).alloc _) (fun _ _ g => g)).trans o22 (fun _ _ g => g)
            clear HD12 o22 O21 R21
            go_wp2_with fail
            refine (show Calls Tryz.prog 27 _ _ _ from HIn.out _).mono ?_
            rintro e w23 ⟨rfl, hw⟩
            obtain rfl := hw.symm
            clear HIn
            go_wp2
            go_ret
            exact ⟨rfl, O22.out⟩
        · obtain ⟨k, rfl⟩ : ∃ k : Nat, n = (k : Int) := ⟨n.toNat, by omega⟩
          have i1 : ¬ (k : Int) < 0 := by omega
          have i2 : ¬ (MC : Int) ≤ (k : Int) := by omega
          obtain ⟨el, hel⟩ : ∃ el, el = elT k Cj := ⟨_, rfl⟩
          have HEl : Hid (Lv d el) := by
            rw [hel]
            exact el_Lv HV.out.2.2.1 H24.out.2.2 (by rw [← HM.out.2.2.1]; omega)
          have HD12 : Hid (∀ (W : World) (Q Q2 : Nat), Only (fun _ => False) w8 W → Only (fun _ => False) w7 W → (W.cell? ⟨Q, 0, none⟩ = some (.iface 55 (.agg #[.int .i64 (k : Int)])) ∧ W.cell? ⟨Q, 1, none⟩ = some (.iface T3 z3)) → W.cell? ⟨Q2, 0, none⟩ = some (.string ⟨#[110, 116, 104]⟩) → Calls Tryz.prog 23 #[.slice (some ⟨Q, 0, none⟩) 2 2, .slice (some ⟨Q2, 0, none⟩) 1 1] W fun e w' => OkP el (2 * d + 5) W e w') := fun W Q Q2 o o7 h hn => by
            obtain ⟨S, _, t1, s1⟩ := (HO1.out W o).at'
            obtain ⟨v1, v2, v3, v4, v5, v6, v7⟩ := HV.out
            refine (do_r2 (x := inT (k : Int)) (y := Cj) o30.c (in_ti W S (2 * d + 2) (k : Int)) t1 s1 (in_sm HN64.out) v3.sm (Only.refl _ _) (HTx.out W o7) h hn).mono fun e w' g => ?_
            rw [d_nth_in v3 H24.out.2.2 (by rw [← HM.out.2.2.1]; omega) (by omega), ← hel] at g
            exact ok_of g
          have HTr1 : Hid (∀ (w0 W : World) (g q c : Nat) (u : Value) (D : Nat), Ok1 el D w0 g q c u → Only (fun _ => False) w0 W → Calls Tryz.prog 10 #[.slice (some ⟨g, q, none⟩) 1 c] W fun e w' => ∃ a2 c2, e = .returned (.slice a2 1 c2) ∧ Hid ((∃ S, VsAt w' S (D + 1) [el] (.slice a2 1 c2)) ∧ Only (fun _ => False) W w')) := fun w0 W g q c u D h o => trees_1 HEl.out h o
          have HSA : Hid (∀ (w0 w1 W : World) (va vb : Value), (∃ S, VsAt w0 S (2 * d + 5 + 1) [el] va) → (∃ S, VsAt w1 S (2 * d + 3 + 1) [el] vb) → Only (fun _ => False) w0 W → Only (fun _ => False) w1 W → Calls Tryz.prog 14 #[va, vb] W fun e w' => e = .returned (.bool true) ∧ Only (fun _ => False) W w') := fun w0 w1 W va vb ⟨S1, h1⟩ ⟨S2, h2⟩ o1 o2 => sameall_1 HEl.out (by omega) h1 h2 o1 o2
          by_cases hl : k < MA
          · have i3 : ¬ (MA : Int) ≤ (k : Int) := by omega
            have HD13 : Hid (∀ (W : World) (Q Q2 : Nat), Only (fun _ => False) w7 W → (W.cell? ⟨Q, 0, none⟩ = some (.iface 55 (.agg #[.int .i64 (k : Int)])) ∧ W.cell? ⟨Q, 1, none⟩ = some (.iface T1 z1)) → W.cell? ⟨Q2, 0, none⟩ = some (.string ⟨#[110, 116, 104]⟩) → Calls Tryz.prog 23 #[.slice (some ⟨Q, 0, none⟩) 2 2, .slice (some ⟨Q2, 0, none⟩) 1 1] W fun e w' => OkP el (2 * d + 3) W e w') := fun W Q Q2 o h hn => by
              obtain ⟨S, t1, t2, s⟩ := HX.out
              obtain ⟨v1, v2, v3, v4, v5, v6, v7⟩ := HV.out
              refine (do_r2 (x := inT (k : Int)) (y := A) o30.c (in_ti w7 S (2 * d) (k : Int)) t1 s (in_sm HN64.out) v1.sm o (HTx.out W o) h hn).mono fun e w' g => ?_
              have hk' : k < lnT A := by rw [← HM.out.1]; exact hl
              rw [d_nth_in v1 H24.out.1 hk' (Nat.le_refl _), ← el_left v1 v2 v5 hk', ← v4, ← hel] at g
              exact ok_of g
            clear hf ho HO1 HV HM H24 HU hel hl
            go_wp2_with fail
            refine (show Calls Tryz.prog 23 _ _ _ from HD12.out _ _ _ ((R21.out.alloc _).alloc _) ((O21.out.alloc _).alloc _) (by simp [go_sem]) (by simp [go_sem])).mono ?_
            rintro e w22 ⟨go1, qo, co, uo, rfl, G22⟩
            have O22 : Hid (Only (fun _ => False) w7 w22) := ((O21.out.alloc _).alloc _).trans G22.out.2 (fun _ _ g => g)
            have P22 : Hid (Ok1 el (2 * d + 5) w22 go1 qo co uo) := G22.out.1
            have F22 : Hid (Only (fun _ => False) w22 w22) := Only.refl _ _
            clear HD12 G22 O21 R21 u21
            go_wp2_with fail
            refine (show Calls Tryz.prog 27 _ _ _ from HIn.out _).mono ?_
            rintro e w23 ⟨rfl, hw⟩
            obtain rfl := hw.symm
            clear HIn
            go_wp2_with fail
            refine (show Calls Tryz.prog 23 _ _ _ from HD13.out _ _ _ ((O22.out.alloc _).alloc _) (by simp [go_sem]) (by simp [go_sem])).mono ?_
            rintro e w24 ⟨gp, qp, cp, up, rfl, G24⟩
            have O24 : Hid (Only (fun _ => False) w7 w24) := ((O22.out.alloc _).alloc _).trans G24.out.2 (fun _ _ g => g)
            have F24 : Hid (Only (fun _ => False) w22 w24) := ((F22.out.alloc _).alloc _).trans G24.out.2 (fun _ _ g => g)
            have P24 : Hid (Ok1 el (2 * d + 3) w24 gp qp cp up) := G24.out.1
            clear HD13 G24 O22 F22
            go_wp2_with fail
            refine (show Calls Tryz.prog 10 _ _ _ from HTr1.out w22 _ _ _ _ _ _ P22.out F24.out).mono ?_
            rintro e w25 ⟨a25, c25, rfl, G25⟩
            have O25 : Hid (Only (fun _ => False) w7 w25) := O24.out.trans G25.out.2 (fun _ _ g => g)
            have V25 : Hid (∃ S, VsAt w25 S (2 * d + 5 + 1) [el] (.slice a25 1 c25)) := G25.out.1
            have E25 : Hid (Only (fun _ => False) w24 w25) := G25.out.2
            clear G25 P22 F24 O24
            go_wp2_with fail
            refine (show Calls Tryz.prog 10 _ _ _ from HTr1.out w24 _ _ _ _ _ _ P24.out E25.out).mono ?_
            rintro e w26 ⟨a26, c26, rfl, G26⟩
            have O26 : Hid (Only (fun _ => False) w7 w26) := O25.out.trans G26.out.2 (fun _ _ g => g)
            have V26 : Hid (∃ S, VsAt w26 S (2 * d + 3 + 1) [el] (.slice a26 1 c26)) := G26.out.1
            have E26 : Hid (Only (fun _ => False) w25 w26) := G26.out.2
            clear G26 P24 E25 O25 HTr1
            go_wp2_with fail
            refine (show Calls Tryz.prog 14 _ _ _ from HSA.out w25 w26 _ _ _ V25.out V26.out E26.out (Only.refl _ _)).mono ?_
            rintro e w27 ⟨rfl, o27⟩
            have O27 : Hid (Only (fun _ => False) w w27) := (OW7.out.trans O26.out (fun _ _ g => g)).trans o27 (fun _ _ g => g)
            clear o27 HSA V25 V26 E26 O26
            go_wp2
            go_ret
            exact ⟨rfl, O27.out⟩
          · have i3 : (MA : Int) ≤ (k : Int) := by omega
            have i4 : IntKind.i64.wrap ((k : Int) - (MA : Int)) = ((k - MA : Nat) : Int) := by rw [IntKind.wrap_i64]; have := HN64.out; omega
            obtain ⟨j, hj⟩ : ∃ j, j = k - MA := ⟨_, rfl⟩
            rw [← hj] at i4
            have HD13 : Hid (∀ (W : World) (Q Q2 : Nat), Only (fun _ => False) w7 W → (W.cell? ⟨Q, 0, none⟩ = some (.iface 55 (.agg #[.int .i64 (k : Int)])) ∧ W.cell? ⟨Q, 1, none⟩ = some (.iface T1 z1)) → W.cell? ⟨Q2, 0, none⟩ = some (.string ⟨#[110, 116, 104]⟩) → Calls Tryz.prog 23 #[.slice (some ⟨Q, 0, none⟩) 2 2, .slice (some ⟨Q2, 0, none⟩) 1 1] W fun e w' => DlP (.error 4) (2 * d + 3) W e w') := fun W Q Q2 o h hn => by
              obtain ⟨S, t1, t2, s⟩ := HX.out
              obtain ⟨v1, v2, v3, v4, v5, v6, v7⟩ := HV.out
              have := do_r2 (x := inT (k : Int)) (y := A) o30.c (in_ti w7 S (2 * d) (k : Int)) t1 s (in_sm HN64.out) v1.sm o (HTx.out W o) h hn
              rw [d_nth_out v1 H24.out.1 hf (by rw [← HM.out.1]; omega) (Nat.le_refl _)] at this
              exact this
            have HD14 : Hid (∀ (W : World) (Q Q2 : Nat), Only (fun _ => False) w7 W → (W.cell? ⟨Q, 0, none⟩ = some (.iface 55 (.agg #[.int .i64 (j : Int)])) ∧ W.cell? ⟨Q, 1, none⟩ = some (.iface T2 z2)) → W.cell? ⟨Q2, 0, none⟩ = some (.string ⟨#[110, 116, 104]⟩) → Calls Tryz.prog 23 #[.slice (some ⟨Q, 0, none⟩) 2 2, .slice (some ⟨Q2, 0, none⟩) 1 1] W fun e w' => OkP el (2 * d + 3) W e w') := fun W Q Q2 o h hn => by
              obtain ⟨S, t1, t2, s⟩ := HX.out
              obtain ⟨v1, v2, v3, v4, v5, v6, v7⟩ := HV.out
              obtain ⟨m1, m2, m3, m4, m5, m6, m7⟩ := HM.out
              refine (do_r2 (x := inT (j : Int)) (y := Z) o30.c (in_ti w7 S (2 * d) (j : Int)) t2 s (in_sm (by have := HN64.out; omega)) v2.sm o (HTx.out W o) h hn).mono fun e w' g => ?_
              have hk' : lnT A ≤ k := by rw [← m1]; omega
              have e1 := el_right v1 v2 v5 hk'
              rw [← v4, ← hel, ← m1, ← hj] at e1
              rw [d_nth_in v2 H24.out.2.1 (by rw [← m2]; omega) (Nat.le_refl _), ← e1] at g
              exact ok_of g
            clear hf ho HO1 HV HM H24 HU hel hl hj
            go_wp2_with fail
            refine (show Calls Tryz.prog 23 _ _ _ from HD12.out _ _ _ ((R21.out.alloc _).alloc _) ((O21.out.alloc _).alloc _) (by simp [go_sem]) (by simp [go_sem])).mono ?_
            rintro e w22 ⟨go1, qo, co, uo, rfl, G22⟩
            have O22 : Hid (Only (fun _ => False) w7 w22) := ((O21.out.alloc _).alloc _).trans G22.out.2 (fun _ _ g => g)
            have P22 : Hid (Ok1 el (2 * d + 5) w22 go1 qo co uo) := G22.out.1
            have F22 : Hid (Only (fun _ => False) w22 w22) := Only.refl _ _
            clear HD12 G22 O21 R21 u21
            go_wp2_with fail
            refine (show Calls Tryz.prog 27 _ _ _ from HIn.out _).mono ?_
            rintro e w23 ⟨rfl, hw⟩
            obtain rfl := hw.symm
            clear HIn
            go_wp2_with fail
            refine (show Calls Tryz.prog 23 _ _ _ from HD13.out _ _ _ ((O22.out.alloc _).alloc _) (by simp [go_sem]) (by simp [go_sem])).mono ?_
            rintro e w23 ⟨rfl, _, o23⟩
            have O23 : Hid (Only (fun _ => False) w7 w23) := ((O22.out.alloc _).alloc _).trans o23 (fun _ _ g => g)
            have F23 : Hid (Only (fun _ => False) w22 w23) := ((F22.out.alloc _).alloc _).trans o23 (fun _ _ g => g)
            clear HD13 o23 O22 F22
            go_wp2_with fail
            refine (show Calls Tryz.prog 23 _ _ _ from HD14.out _ _ _ ((O23.out.alloc _).alloc _) (by simp [go_sem]) (by simp [go_sem])).mono ?_
            rintro e w24 ⟨gp, qp, cp, up, rfl, G24⟩
            have O24 : Hid (Only (fun _ => False) w7 w24) := ((O23.out.alloc _).alloc _).trans G24.out.2 (fun _ _ g => g)
            have F24 : Hid (Only (fun _ => False) w22 w24) := ((F23.out.alloc _).alloc _).trans G24.out.2 (fun _ _ g => g)
            have P24 : Hid (Ok1 el (2 * d + 3) w24 gp qp cp up) := G24.out.1
            clear HD14 G24 O23 F23
            go_wp2_with fail
            refine (show Calls Tryz.prog 10 _ _ _ from HTr1.out w22 _ _ _ _ _ _ P22.out F24.out).mono ?_
            rintro e w25 ⟨a25, c25, rfl, G25⟩
            have O25 : Hid (Only (fun _ => False) w7 w25) := O24.out.trans G25.out.2 (fun _ _ g => g)
            have V25 : Hid (∃ S, VsAt w25 S (2 * d + 5 + 1) [el] (.slice a25 1 c25)) := G25.out.1
            have E25 : Hid (Only (fun _ => False) w24 w25) := G25.out.2
            clear G25 P22 F24 O24
            go_wp2_with fail
            refine (show Calls Tryz.prog 10 _ _ _ from HTr1.out w24 _ _ _ _ _ _ P24.out E25.out).mono ?_
            rintro e w26 ⟨a26, c26, rfl, G26⟩
            have O26 : Hid (Only (fun _ => False) w7 w26) := O25.out.trans G26.out.2 (fun _ _ g => g)
            have V26 : Hid (∃ S, VsAt w26 S (2 * d + 3 + 1) [el] (.slice a26 1 c26)) := G26.out.1
            have E26 : Hid (Only (fun _ => False) w25 w26) := G26.out.2
            clear G26 P24 E25 O25 HTr1
            go_wp2_with fail
            refine (show Calls Tryz.prog 14 _ _ _ from HSA.out w25 w26 _ _ _ V25.out V26.out E26.out (Only.refl _ _)).mono ?_
            rintro e w27 ⟨rfl, o27⟩
            have O27 : Hid (Only (fun _ => False) w w27) := (OW7.out.trans O26.out (fun _ _ g => g)).trans o27 (fun _ _ g => g)
            clear o27 HSA V25 V26 E26 O26
            go_wp2
            go_ret
            exact ⟨rfl, O27.out⟩
      · have hf' : fitN n = false := by simpa using hf
        rw [hf'] at HIn
        have HD12 : Hid (∀ (W : World) (Q Q2 : Nat), Only (fun _ => False) w8 W → Only (fun _ => False) w7 W → (W.cell? ⟨Q, 0, none⟩ = some (.iface 55 (.agg #[.int .i64 n])) ∧ W.cell? ⟨Q, 1, none⟩ = some (.iface T3 z3)) → W.cell? ⟨Q2, 0, none⟩ = some (.string ⟨#[110, 116, 104]⟩) → Calls Tryz.prog 23 #[.slice (some ⟨Q, 0, none⟩) 2 2, .slice (some ⟨Q2, 0, none⟩) 1 1] W fun e w' => DlP (.error 1) (2 * d + 5) W e w') := fun W Q Q2 o o7 h hn => by
          obtain ⟨S, _, t1, s1⟩ := (HO1.out W o).at'
          obtain ⟨v1, v2, v3, v4, v5, v6, v7⟩ := HV.out
          have := do_r2 (x := inT n) (y := Cj) o30.c (in_ti W S (2 * d + 2) n) t1 s1 (in_sm HN64.out) v3.sm (Only.refl _ _) (HTx.out W o7) h hn
          rw [d_nth_bad (d := d) hf' (by omega)] at this
          exact this
        clear hf hf' HX HO1 HV HM H24 HTx HU
        go_wp2_with fail
        refine (show Calls Tryz.prog 23 _ _ _ from HD12.out _ _ _ ((R21.out.alloc _).alloc _) ((O21.out.alloc _).alloc _) (by simp [go_sem]) (by simp [go_sem])).mono ?_
        rintro e w22 ⟨rfl, _, o22⟩
        have O22 : Hid (Only (fun _ => False) w w22) := (OW7.out.trans ((O21.out.alloc _).alloc _) (fun _ _ g => g)).trans o22 (fun _ _ g => g)
        clear HD12 o22 O21 R21
        go_wp2_with fail
        refine (show Calls Tryz.prog 27 _ _ _ from HIn.out _).mono ?_
        rintro e w23 ⟨rfl, hw⟩
        obtain rfl := hw.symm
        clear HIn
        go_wp2
        go_ret
        exact ⟨rfl, O22.out⟩
end Go.Proofs.YtbhpjakjlfkfiaaGreatDoor
