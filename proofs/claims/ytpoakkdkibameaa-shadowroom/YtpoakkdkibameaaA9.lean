/- What work does: a script's puts, drops, commits and rollbacks. -/
import Derived.Test.YtpoakkdkibameaaIn4
namespace Go.Proofs.Ytpoakkdkibameaa
open Go.RowKit Go.Maps Go.Shelf
set_option linter.unusedSimpArgs false
set_option linter.unusedVariables false

/-- What puts, drops, rollbacks and commits keep. -/
structure Stable (J : SS → DS → Prop) : Prop where
  put : ∀ {w B0 s p S x d}, PairAt w B0 s p S x d → ∀ (i : Int) (zs : List Nat), 0 ≤ i ∧ i < 728 → zs.length ≤ 116 → J x d → J { x with now := putL x.now i (0, zs) } d
  drop : ∀ {w B0 s p S x d}, PairAt w B0 s p S x d → ∀ (i : Int), J x d → J { x with now := delL x.now i } d
  roll : ∀ {w B0 s p S x d}, PairAt w B0 s p S x d → J x d → J { x with now := x.com } d
  next : ∀ {w B0 s p S x d}, PairAt w B0 s p S x d → needN x ≤ freeN x x.size → J x d → J x.next (cmX x d).2
/-- Put leaves all blocks that were made since w0 as they are. -/
theorem pair_put2 {J : SS → DS → Prop} (hJ : Stable J) {w0 w : World} {B0 s p S : Nat} {x : SS} {d : DS} (hx : J x d) (h : PairAt w0 B0 s p S x d) (ho : Only (fun _ => False) w0 w) (i : Int) (v : Value) (zs : List Nat) (hv : BytesAt w v zs) :
    Calls Try.prog 16 #[.pointer (some ⟨s, 0, none⟩), .int .i64 i, v] w fun e w' => ∃ r x', e = .returned (.int .i64 r) ∧ Hid (Left w B0 s p S x' d w' ∧ J x' d) ∧ Hid (∀ R, w0.heap.size ≤ R → R < w.heap.size → w'.heap[R]? = w.heap[R]?) := by
  obtain ⟨pv, mc, mn, tv, B, h1, h2, h3, h4⟩ := h.all
  have hmn := h3.now.lt
  have h' := h.still ho
  have h3' := h3.still ho
  have h1' : DiskAt w B p S pv d := h1.frame ho (fun _ _ e => e)
  by_cases hi : 0 ≤ i ∧ i < 728
  · by_cases hl : zs.length ≤ 116
    · refine (put_ok h3' (fun k hk => (h1'.lt k hk).2) i hi v zs hv hl).mono ?_
      rintro e w' ⟨rfl, q1, q2⟩
      refine ⟨0, { x with now := putL x.now i (0, zs) }, rfl, ⟨⟨{ h' with all := ⟨pv, mc, mn, tv, B, h1'.frame q2 (fun k e e' => h3.k3 (e' ▸ e)), Nat.le_trans h2 (Nat.le_trans ho.size q2.size), q1, h4⟩ }, q2.mono (fun k _ e => h4 k (.inr (.inr (.inl e))))⟩, hJ.put h i zs hi hl hx⟩, fun R r1 r2 => q2.block R r2 (by omega)⟩
    · obtain ⟨a, c, rfl, _⟩ := hv.form
      refine (put_large h3' i hi a _ c (by omega)).mono ?_
      rintro e w' ⟨rfl, rfl⟩
      exact ⟨_, x, rfl, ⟨Left.still h' (Only.refl _ _), hx⟩, fun _ _ _ => rfl⟩
  · refine (put_out h3' i (by omega) v).mono ?_
    rintro e w' ⟨rfl, rfl⟩
    exact ⟨_, x, rfl, ⟨Left.still h' (Only.refl _ _), hx⟩, fun _ _ _ => rfl⟩
theorem RowAt.older {W W' : World} {v : Value} {k size : Nat} {f : Nat → Value} (h : RowAt W v k size f) (ho : Only (fun b => W.heap.size ≤ b) W W') : RowAt W' v k size f := by
  rcases h with h | ⟨ad, c, hv, hkc, hc⟩
  · exact .inl h
  · exact .inr ⟨ad, c, hv, hkc, fun j hj => ho.cell (hc j hj) (by have := World.block_lt_of_cell? W _ (hc j hj); omega)⟩
theorem BytesAt.older {W W' : World} {v : Value} {zs : List Nat} (h : BytesAt W v zs) (ho : Only (fun b => W.heap.size ≤ b) W W') : BytesAt W' v zs := ⟨h.1.older ho, h.2⟩
/-- A store with its disk, and what it was made over. -/
def WkI (J : SS → DS → Prop) (w : World) (B0 s p S n : Nat) (W : World) : Prop := ∃ x d, PairAt W B0 s p S x d ∧ J x d ∧ d.n = n ∧ Only (fun k => B0 ≤ k) w W
theorem WkI.step {J : SS → DS → Prop} {w : World} {B0 s p S n : Nat} {W W' : World} {x' : SS} {d' : DS} (ho : Only (fun k => B0 ≤ k) w W) (h : Left W B0 s p S x' d' W') (hj : J x' d') (hn : d'.n = n) : WkI J w B0 s p S n W' := ⟨x', d', h.1, hj, hn, ho.trans h.2 (fun _ _ e => e)⟩
theorem cm_n {w : World} {B0 s p S : Nat} {x : SS} {d : DS} (h : PairAt w B0 s p S x d) (hf : needN x ≤ freeN x x.size) : (cmX x d).2.n = d.n := by
  obtain ⟨pv, mc, mn, tv, B, h1, h2, h3, h4⟩ := h.all
  exact (cm_live h3.wf hf h.life h.size h.byte h.good h3.now.rise h.bytes).2.2.1

section
variable {J : SS → DS → Prop} (hJ : Stable J) {w W : World} {B0 s p S n : Nat} {x : SS} {d : DS} (hx : J x d)
include hJ hx
theorem drop_wk (h : PairAt W B0 s p S x d) (hn : d.n = n) (ho : Only (fun k => B0 ≤ k) w W) (i : Int) : Calls Try.prog 19 #[.pointer (some ⟨s, 0, none⟩), .int .i64 i] W fun e w' => ∃ r, e = .returned (.int .i64 r) ∧ Hid (WkI J w B0 s p S n w') := by
  refine (pair_drop h i).mono ?_
  rintro e w' (⟨_, rfl, q⟩ | ⟨_, _, rfl, q⟩ | ⟨_, _, rfl, q⟩)
  · exact ⟨_, rfl, WkI.step ho q hx hn⟩
  · exact ⟨_, rfl, WkI.step ho q hx hn⟩
  · exact ⟨_, rfl, WkI.step ho q (hJ.drop h i hx) hn⟩
theorem commit_wk (h : PairAt W B0 s p S x d) (hB : B0 ≤ W.heap.size) (hn : d.n = n) (ho : Only (fun k => B0 ≤ k) w W) : Calls Try.prog 12 #[.pointer (some ⟨s, 0, none⟩)] W fun e w' => ∃ r, e = .returned (.int .i64 r) ∧ Hid (WkI J w B0 s p S n w') := by
  refine (pair_commit h hB).mono ?_
  rintro e w' (⟨_, rfl, q⟩ | ⟨hf, rfl, q⟩)
  · exact ⟨_, rfl, WkI.step ho q hx hn⟩
  · exact ⟨_, rfl, WkI.step ho q (hJ.next h hf hx) (by rw [cm_n h hf]; exact hn)⟩
theorem roll_wk (h : PairAt W B0 s p S x d) (hB : B0 ≤ W.heap.size) (hn : d.n = n) (ho : Only (fun k => B0 ≤ k) w W) : Calls Try.prog 23 #[.pointer (some ⟨s, 0, none⟩)] W fun e w' => ∃ r, e = .returned (.int .i64 r) ∧ Hid (WkI J w B0 s p S n w') := by
  refine (pair_roll h hB).mono ?_
  rintro e w' ⟨rfl, q⟩
  exact ⟨_, rfl, WkI.step ho q (hJ.roll h hx) hn⟩
end
set_option maxRecDepth 100000 in
set_option maxHeartbeats 2000000 in
theorem work_any {J : SS → DS → Prop} (hJ : Stable J) {w : World} {B0 s p S n : Nat} (v : Value) (os : List OpS) (W0 : World) (hsc : ScriptAt W0 v os) (hB0 : B0 = W0.heap.size) (h0 : Only (fun k => B0 ≤ k) W0 w) (h : WkI J w B0 s p S n w) :
    Calls Try.prog 8 #[.pointer (some ⟨s, 0, none⟩), v] w fun e w' => e = .returned (.tuple #[]) ∧ WkI J w B0 s p S n w' := by
  obtain ⟨a, c, rfl⟩ := hsc.form
  have hsz := h0.size
  have hos := hsc.2.1
  have HSC : Hid (ScriptAt W0 (.slice a os.length c) os) := hsc
  obtain ⟨m, hm⟩ : ∃ m, m = os.length := ⟨_, rfl⟩
  have HM : Hid (m = os.length) := hm
  rw [← hm] at hos ⊢
  have HW : Hid (WkI J w B0 s p S n w) := h
  clear h hsc hm
  go_enter Try.func8, Try.ntmps8
  go_wp2
  go_loopw [4] (fun t W => ∃ k : Nat, k ≤ m ∧ t = .int .i64 k ∧ WkI J w B0 s p S n W) (fun t _ => m - (intOf t).toNat)
  case atStart => exact ⟨0, Nat.zero_le _, rfl, HW.out⟩
  case round =>
    clear HW
    obtain ⟨k, hk, rfl, hI⟩ := hrel
    obtain ⟨W, rfl⟩ : ∃ W, W = wr := ⟨_, rfl⟩
    by_cases hlt : k < m
    · obtain ⟨x, d, hp, hx, hn, ho⟩ := hI
      have hkl : k < os.length := by have := HM.out; omega
      obtain ⟨g, o, c', hv, hrg, _⟩ := HSC.out.get k hkl
      injection hv with hv hv1 hv2
      clear hv1 hv2
      obtain ⟨ok, hok⟩ : ∃ ok, ok = os[k] := ⟨_, rfl⟩
      have hokk : ok.ok W0 := by rw [hok]; exact HSC.out.2.2 _ (List.getElem_mem hkl)
      rw [← hok] at hrg
      obtain ⟨kd, oi, on, oc, zz, ob, ov⟩ := ok
      subst hv
      have hgl : g < B0 := by
        have := World.block_lt_of_cell? W0 _ (hrg 0 _ rfl)
        simp only at this
        omega
      have oW : Only (fun k => B0 ≤ k) W0 W := h0.trans ho (fun _ _ e => e)
      have y0 : W.cell? ⟨g, o + k * 6, none⟩ = some (.int .i64 kd) := oW.cell (hrg 0 _ rfl) (by simp; omega)
      have y1 : W.cell? ⟨g, o + k * 6 + 1, none⟩ = some (.int .i64 oi) := oW.cell (hrg 1 _ rfl) (by simp; omega)
      have y2 : W.cell? ⟨g, o + k * 6 + 2, none⟩ = some (.int .i64 on) := oW.cell (hrg 2 _ rfl) (by simp; omega)
      have y3 : W.cell? ⟨g, o + k * 6 + 3, none⟩ = some (.int .i64 oc) := oW.cell (hrg 3 _ rfl) (by simp; omega)
      have y4 : W.cell? ⟨g, o + k * 6 + 4, none⟩ = some ob := oW.cell (hrg 4 _ rfl) (by simp; omega)
      have y5 : W.cell? ⟨g, o + k * 6 + 5, none⟩ = some ov := oW.cell (hrg 5 _ rfl) (by simp; omega)
      have k0 : (0 : Int) ≤ (k : Int) := by omega
      have k1 : (k : Int) < (m : Int) := by omega
      obtain ⟨hokb, av, nv, cv, hov⟩ := hokk
      obtain ⟨ab, cb, hob, _⟩ := BytesAt.form hokb
      simp only at hov hob hokb
      subst hov
      rw [hob] at y4 hokb
      obtain ⟨nb, hnb⟩ : ∃ nb, nb = zz.length := ⟨_, rfl⟩
      rw [← hnb] at y4 hokb
      obtain ⟨wq, hwq⟩ : ∃ q, q = W.alloc (.cells #[.int .i64 kd, .int .i64 oi, .int .i64 on, .int .i64 oc, .slice ab nb cb, .slice av nv cv] 31) := ⟨_, rfl⟩
      have HWQ : Hid (wq = W.alloc (.cells #[.int .i64 kd, .int .i64 oi, .int .i64 on, .int .i64 oc, .slice ab nb cb, .slice av nv cv] 31)) := hwq
      have oq : Only (fun _ => False) W wq := by rw [hwq]; exact (Only.refl _ W).alloc _
      have bq : wq.heap[W.heap.size]? = some (.cells #[.int .i64 kd, .int .i64 oi, .int .i64 on, .int .i64 oc, .slice ab nb cb, .slice av nv cv] 31 (0, 0)) := by rw [hwq]; exact heap_alloc_new W _
      have HBQ : Hid _ := bq
      have hpq : PairAt wq B0 s p S x d := hp.still oq
      have hB : B0 ≤ wq.heap.size := by have := oW.size; have := oq.size; omega
      have hWB : B0 ≤ W.heap.size := by have := oW.size; omega
      have hbq : BytesAt wq (.slice ab nb cb) zz := by
        rw [hB0] at oW
        exact (hokb.older oW).keep oq (fun _ _ e => e)
      have HP0 : Hid (PairAt W B0 s p S x d) := hp
      have HX : Hid (J x d) := hx
      clear hwq bq hp hrg hok hob hnb
      by_cases hk2 : kd = 2
      · subst hk2
        have HD : Hid (Calls Try.prog 19 _ _ _) := drop_wk hJ hx hpq hn (ho.trans oq (fun _ _ e => e.elim)) oi
        clear hpq oq ho hokb hx
        go_wp2_with fail
        rw [← HWQ.out]
        refine (show Calls Try.prog 19 _ _ _ from HD.out).mono ?_
        rintro e w2 ⟨r, rfl, HW2⟩
        clear HD
        go_wp2
        go_roundw
        case rel => exact ⟨k + 1, by omega, by go_num, HW2.out⟩
        case measure => simp [intOf]; omega
      by_cases hk3 : kd = 3
      · subst hk3
        have HD : Hid (Calls Try.prog 12 _ _ _) := commit_wk hJ hx hpq hB hn (ho.trans oq (fun _ _ e => e.elim))
        clear hpq oq ho hokb hx
        go_wp2_with fail
        rw [← HWQ.out]
        refine (show Calls Try.prog 12 _ _ _ from HD.out).mono ?_
        rintro e w2 ⟨r, rfl, HW2⟩
        clear HD
        go_wp2
        go_roundw
        case rel => exact ⟨k + 1, by omega, by go_num, HW2.out⟩
        case measure => simp [intOf]; omega
      by_cases hk4 : kd = 4
      · subst hk4
        have HD : Hid (Calls Try.prog 23 _ _ _) := roll_wk hJ hx hpq hB hn (ho.trans oq (fun _ _ e => e.elim))
        clear hpq oq ho hokb hx
        go_wp2_with fail
        rw [← HWQ.out]
        refine (show Calls Try.prog 23 _ _ _ from HD.out).mono ?_
        rintro e w2 ⟨r, rfl, HW2⟩
        clear HD
        go_wp2
        go_roundw
        case rel => exact ⟨k + 1, by omega, by go_num, HW2.out⟩
        case measure => simp [intOf]; omega
      by_cases hk1 : kd = 1
      · subst hk1
        have HW2 : Hid (WkI J w B0 s p S n wq) := ⟨x, d, hpq, hx, hn, ho.trans oq (fun _ _ e => e.elim)⟩
        clear hpq oq ho hokb hx
        go_wp2
        rw [← HWQ.out]
        go_roundw
        case rel => exact ⟨k + 1, by omega, by go_num, HW2.out⟩
        case measure => simp [intOf]; omega
      by_cases hk5 : kd = 5
      · subst hk5
        have HW2 : Hid (WkI J w B0 s p S n wq) := ⟨x, d, hpq, hx, hn, ho.trans oq (fun _ _ e => e.elim)⟩
        clear hpq oq ho hokb hx
        go_wp2
        rw [← HWQ.out]
        go_roundw
        case rel => exact ⟨k + 1, by omega, by go_num, HW2.out⟩
        case measure => simp [intOf]; omega
      by_cases hk6 : kd = 6
      · subst hk6
        have HW2 : Hid (WkI J w B0 s p S n wq) := ⟨x, d, hpq, hx, hn, ho.trans oq (fun _ _ e => e.elim)⟩
        clear hpq oq ho hokb hx
        go_wp2
        rw [← HWQ.out]
        go_roundw
        case rel => exact ⟨k + 1, by omega, by go_num, HW2.out⟩
        case measure => simp [intOf]; omega
      by_cases hk7 : kd = 7
      · subst hk7
        have HW2 : Hid (WkI J w B0 s p S n wq) := ⟨x, d, hpq, hx, hn, ho.trans oq (fun _ _ e => e.elim)⟩
        clear hpq oq ho hokb hx
        go_wp2
        rw [← HWQ.out]
        go_roundw
        case rel => exact ⟨k + 1, by omega, by go_num, HW2.out⟩
        case measure => simp [intOf]; omega
      by_cases hk8 : kd = 8
      · subst hk8
        have HW2 : Hid (WkI J w B0 s p S n wq) := ⟨x, d, hpq, hx, hn, ho.trans oq (fun _ _ e => e.elim)⟩
        clear hpq oq ho hokb hx
        go_wp2
        rw [← HWQ.out]
        go_roundw
        case rel => exact ⟨k + 1, by omega, by go_num, HW2.out⟩
        case measure => simp [intOf]; omega
      by_cases hk9 : kd = 9
      · subst hk9
        have HW2 : Hid (WkI J w B0 s p S n wq) := ⟨x, d, hpq, hx, hn, ho.trans oq (fun _ _ e => e.elim)⟩
        clear hpq oq ho hokb hx
        go_wp2
        rw [← HWQ.out]
        go_roundw
        case rel => exact ⟨k + 1, by omega, by go_num, HW2.out⟩
        case measure => simp [intOf]; omega
      have e1 : (kd == 1) = false := by simpa using hk1
      have e2 : (kd == 2) = false := by simpa using hk2
      have e3 : (kd == 3) = false := by simpa using hk3
      have e4 : (kd == 4) = false := by simpa using hk4
      have e5 : (kd == 5) = false := by simpa using hk5
      have e6 : (kd == 6) = false := by simpa using hk6
      have e7 : (kd == 7) = false := by simpa using hk7
      have e8 : (kd == 8) = false := by simpa using hk8
      have e9 : (kd == 9) = false := by simpa using hk9
      have HOQ : Hid (Only (fun _ => False) W wq ∧ Only (fun k => B0 ≤ k) w wq ∧ d.n = n) := ⟨oq, ho.trans oq (fun _ _ e => e.elim), hn⟩
      have HSS : Hid (∀ (w2 : World), w2.heap[W.heap.size]? = wq.heap[W.heap.size]? → w2.cell? ⟨W.heap.size, 1, none⟩ = some (.int .i64 oi) ∧ w2.cell? ⟨W.heap.size, 4, none⟩ = some (.slice ab nb cb)) := fun w2 h2 => by
        rw [HBQ.out] at h2
        exact ⟨by rw [cell_of_row _ _ _ _ _ _ h2]; rfl, by rw [cell_of_row _ _ _ _ _ _ h2]; rfl⟩
      have HOw : Hid (Calls Try.prog 17 #[.slice ab nb cb] wq.drew fun e w2 => ∃ u, e = .returned u ∧ Hid (BytesAt w2 u zz ∧ Only (fun _ => False) wq w2)) := by
        have od : Only (fun _ => False) wq wq.drew := (Only.refl _ wq).drew
        refine (own_any (.slice ab nb cb) zz wq.drew (hbq.frame od)).mono ?_
        rintro e w2 ⟨u, rfl, q1, q2⟩
        exact ⟨u, rfl, q1.bytes, od.trans q2 (fun _ _ e => e)⟩
      have hRl : W.heap.size < wq.heap.size := (Array.getElem?_eq_some_iff.1 HBQ.out).1
      clear hpq oq ho hokb hx hbq hk1 hk2 hk3 hk4 hk5 hk6 hk7 hk8 hk9 oW
      go_wp2_with fail
      rw [← HWQ.out]
      refine wp_region_held_drew (S := fun w2 => w2.cell? ⟨W.heap.size, 1, none⟩ = some (.int .i64 oi) ∧ w2.cell? ⟨W.heap.size, 4, none⟩ = some (.slice ab nb cb)) (by kernel_rfl) (HSS.out wq.drew rfl) (fun hHeld => ?_)
      refine wpAnyH_take (i := 0) (v := .pointer (some ⟨s, 0, none⟩)) rfl (by kernel_rfl) (by kernel_rfl) (by kernel_rfl) (fun _ _ _ h => h) (Or.inl ⟨by rfl, fun wx hSw => by go_simp⟩) hHeld ?_
      simp only [Act.put, List.setIfInBounds_toArray, List.set_cons_zero, List.set_cons_succ, List.getElem_toArray, List.getElem_cons_zero, List.getElem_cons_succ]
      refine wpAnyH_take (i := 1) (v := .pointer (some ⟨W.heap.size, 1, none⟩)) rfl (by kernel_rfl) (by kernel_rfl) (by kernel_rfl) (fun _ _ _ h => h) (Or.inl ⟨by rfl, fun wx hSw => by go_simp⟩) hHeld ?_
      simp only [Act.put, List.setIfInBounds_toArray, List.set_cons_zero, List.set_cons_succ, List.getElem_toArray, List.getElem_cons_zero, List.getElem_cons_succ]
      refine wpAnyH_take (i := 2) (v := .int .i64 oi) rfl (by kernel_rfl) (by kernel_rfl) (by kernel_rfl) (fun _ _ _ h => h) (Or.inl ⟨by rfl, fun wx hSw => by go_simp⟩) hHeld ?_
      simp only [Act.put, List.setIfInBounds_toArray, List.set_cons_zero, List.set_cons_succ, List.getElem_toArray, List.getElem_cons_zero, List.getElem_cons_succ]
      refine wpAnyH_take (i := 3) (v := .pointer (some ⟨W.heap.size, 4, none⟩)) rfl (by kernel_rfl) (by kernel_rfl) (by kernel_rfl) (fun _ _ _ h => h) (Or.inl ⟨by rfl, fun wx hSw => by go_simp⟩) hHeld ?_
      simp only [Act.put, List.setIfInBounds_toArray, List.set_cons_zero, List.set_cons_succ, List.getElem_toArray, List.getElem_cons_zero, List.getElem_cons_succ]
      refine wpAnyH_take (i := 4) (v := .slice ab nb cb) rfl (by kernel_rfl) (by kernel_rfl) (by kernel_rfl) (fun _ _ _ h => h) (Or.inl ⟨by rfl, fun wx hSw => by go_simp⟩) hHeld ?_
      simp only [Act.put, List.setIfInBounds_toArray, List.set_cons_zero, List.set_cons_succ, List.getElem_toArray, List.getElem_cons_zero, List.getElem_cons_succ]
      refine wpAnyH_ready (rs := [5]) (by kernel_rfl) (by simp) ?_
      refine AllReadyH.cons rfl (fun K hK => ?_) AllReadyH.nil
      rw [if_pos (by rfl)]
      refine wp_call_func #[.tmp 22] #[28] rfl #[.slice ab nb cb] (by simp [Act.eval]) (enters_of Try.func17 (by kernel_rfl) rfl) (show Calls Try.prog 17 _ _ _ from HOw.out) (fun e w2 he => ?_)
      obtain ⟨u, rfl, HU2⟩ := he
      refine ⟨_, rfl, hK _ _ (HSS.out w2 (HU2.out.2.block _ hRl (fun e => e))) (fun hHeld => ?_)⟩
      clear hK K HOw
      simp only [Act.put, List.setIfInBounds_toArray, List.set_cons_zero, List.set_cons_succ, List.getElem_toArray, List.getElem_cons_zero, List.getElem_cons_succ]
      have HPt : Hid (Calls Try.prog 16 _ _ _) := pair_put2 hJ HX.out HP0.out (HOQ.out.1.trans HU2.out.2 (fun _ _ e => e)) oi u zz HU2.out.1
      refine wpAnyH_ready (rs := [6]) (by kernel_rfl) (by simp) ?_
      refine AllReadyH.cons rfl (fun K hK => ?_) AllReadyH.nil
      rw [if_pos (by rfl)]
      refine wp_call_func #[.tmp 18, .tmp 20, .tmp 23] #[24, 3, 28] rfl #[.pointer (some ⟨s, 0, none⟩), .int .i64 oi, u] (by simp [Act.eval]) (enters_of Try.func16 (by kernel_rfl) rfl) (show Calls Try.prog 16 _ _ _ from HPt.out) (fun e w3 he => ?_)
      obtain ⟨r, x', rfl, HL3, HR3⟩ := he
      have s2 := HU2.out.2.size
      refine ⟨_, rfl, hK _ _ (HSS.out w3 ((HR3.out _ (Nat.le_refl _) (by omega)).trans (HU2.out.2.block _ hRl (fun e => e)))) (fun hHeld => ?_)⟩
      clear hK K HPt
      simp only [Act.put, List.setIfInBounds_toArray, List.set_cons_zero, List.set_cons_succ, List.getElem_toArray, List.getElem_cons_zero, List.getElem_cons_succ]
      refine wpAnyH_done (by kernel_rfl) ?_ _
      have HW2 : Hid (WkI J w B0 s p S n w3) := WkI.step (HOQ.out.2.1.trans HU2.out.2 (fun _ _ e => e.elim)) HL3.out.1 HL3.out.2 HOQ.out.2.2
      clear hHeld HSS HU2 HL3 HR3
      go_wp2
      go_roundw
      case rel => exact ⟨k + 1, by omega, by go_num, HW2.out⟩
      case measure => simp [intOf]; omega
    · have HI : Hid _ := hI
      clear hI
      go_wp2
      go_end0
      exact ⟨rfl, HI.out⟩
end Go.Proofs.Ytpoakkdkibameaa
