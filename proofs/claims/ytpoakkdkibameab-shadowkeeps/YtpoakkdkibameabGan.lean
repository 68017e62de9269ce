/- What work does: a script's puts, drops, commits and rollbacks. What grown makes. The calls on a nil store; that the law's first look at the program comes out true. What SameBytes answers of the same bytes; the calls on a store, for the laws' walks; the walk of ShadowPuts. What ShadowKeeps wants: numbers by their places with what was given, the iterator's round. The walk of ShadowKeeps. -/
import Derived.Test.YtpoakkdkibameabGam
import Derived.Test.YtpoakkdkibameabGae
import Derived.Test.YtpoakkdkibameabGaj
import Derived.Test.YtpoakkdkibameabGaf
import Derived.LoopNIn
namespace Go.Proofs.Ytpoakkdkibameab
open Go.RowKit Go.Maps Go.Shelf
set_option linter.unusedSimpArgs false
set_option linter.unusedVariables false

/-- What puts, drops, rollbacks and commits keep. -/
structure Stable (J : SS → DS → Prop) : Prop where
  put : ∀ {w B0 s p S x d}, PairAt w B0 s p S x d → ∀ (i : Int) (zs : List Nat), 0 ≤ i ∧ i < 728 → zs.length ≤ 116 → J x d → J { x with now := putL x.now i (0, zs) } d
  drop : ∀ {w B0 s p S x d}, PairAt w B0 s p S x d → ∀ (i : Int), J x d → J { x with now := delL x.now i } d
  roll : ∀ {w B0 s p S x d}, PairAt w B0 s p S x d → J x d → J { x with now := x.com } d
  next : ∀ {w B0 s p S x d}, PairAt w B0 s p S x d → needN x ≤ freeN x x.size → J x d → J x.next (cmX x d).2
/-- Put leaves all blocks that were made since w0 as they are. -/
theorem pair_put2 {J : SS → DS → Prop} (hJ : Stable J) {w0 w : World} {B0 s p S : Nat} {x : SS} {d : DS} (hx : J x d) (h : PairAt w0 B0 s p S x d) (ho : Only (fun _ => False) w0 w) (i : Int) (v : Value) (zs : List Nat) (hv : BytesAt w v zs) :
    Calls Try.prog 7 #[.pointer (some ⟨s, 0, none⟩), .int .i64 i, v] w fun e w' => ∃ r x', e = .returned (.int .i64 r) ∧ Hid (Left w B0 s p S x' d w' ∧ J x' d) ∧ Hid (∀ R, w0.heap.size ≤ R → R < w.heap.size → w'.heap[R]? = w.heap[R]?) := by
  obtain ⟨pv, mc, mn, tv, B, h1, h2, h3, h4⟩ := h.all
  have hmn := h3.now.lt
  have h' := h.still ho
  have h3' := h3.still ho
  have h1' : DiskAt w B p S pv d := h1.frame ho (fun _ _ e => e)
  by_cases hi : 0 ≤ i ∧ i < 728
  · by_cases hl : zs.length ≤ 116
    · refine (put_ok h3' (fun k hk => (h1'.lt k hk).2) i hi v zs hv hl).mono ?_
      rintro e w' ⟨rfl, q1, q2⟩
      refine ⟨0, { x with now := putL x.now i (0, zs) }, rfl, ⟨⟨{ h' with all := ⟨pv, mc, mn, tv, B, h1'.frame q2 (fun k e e' => h3.k3 (e' ▸ e)), Nat.le_trans h2 (Nat.le_trans ho.size q2.size), q1, h4⟩ }, q2.mono (fun k _ e => h4 k (.inr (.inr (.inl e))))⟩, hJ.put h i zs hi hl hx⟩, fun R r1 r2 => q2.block R r2 (by omega)⟩
    · obtain ⟨a, c, rfl, _⟩ := hv.form
      refine (put_large h3' i hi a _ c (by omega)).mono ?_
      rintro e w' ⟨rfl, rfl⟩
      exact ⟨_, x, rfl, ⟨Left.still h' (Only.refl _ _), hx⟩, fun _ _ _ => rfl⟩
  · refine (put_out h3' i (by omega) v).mono ?_
    rintro e w' ⟨rfl, rfl⟩
    exact ⟨_, x, rfl, ⟨Left.still h' (Only.refl _ _), hx⟩, fun _ _ _ => rfl⟩
theorem RowAt.older {W W' : World} {v : Value} {k size : Nat} {f : Nat → Value} (h : RowAt W v k size f) (ho : Only (fun b => W.heap.size ≤ b) W W') : RowAt W' v k size f := by
  rcases h with h | ⟨ad, c, hv, hkc, hc⟩
  · exact .inl h
  · exact .inr ⟨ad, c, hv, hkc, fun j hj => ho.cell (hc j hj) (by have := World.block_lt_of_cell? W _ (hc j hj); omega)⟩
theorem BytesAt.older {W W' : World} {v : Value} {zs : List Nat} (h : BytesAt W v zs) (ho : Only (fun b => W.heap.size ≤ b) W W') : BytesAt W' v zs := ⟨h.1.older ho, h.2⟩
/-- A store with its disk, and what it was made over. -/
def WkI (J : SS → DS → Prop) (w : World) (B0 s p S n : Nat) (W : World) : Prop := ∃ x d, PairAt W B0 s p S x d ∧ J x d ∧ d.n = n ∧ Only (fun k => B0 ≤ k) w W
theorem WkI.step {J : SS → DS → Prop} {w : World} {B0 s p S n : Nat} {W W' : World} {x' : SS} {d' : DS} (ho : Only (fun k => B0 ≤ k) w W) (h : Left W B0 s p S x' d' W') (hj : J x' d') (hn : d'.n = n) : WkI J w B0 s p S n W' := ⟨x', d', h.1, hj, hn, ho.trans h.2 (fun _ _ e => e)⟩
theorem cm_n {w : World} {B0 s p S : Nat} {x : SS} {d : DS} (h : PairAt w B0 s p S x d) (hf : needN x ≤ freeN x x.size) : (cmX x d).2.n = d.n := by
  obtain ⟨pv, mc, mn, tv, B, h1, h2, h3, h4⟩ := h.all
  exact (cm_live h3.wf hf h.life h.size h.byte h.good h3.now.rise h.bytes).2.2.1

theorem drop_wk {J : SS → DS → Prop} (hJ : Stable J) {w W : World} {B0 s p S n : Nat} {x : SS} {d : DS} (hx : J x d) (h : PairAt W B0 s p S x d) (hn : d.n = n) (ho : Only (fun k => B0 ≤ k) w W) (i : Int) : Calls Try.prog 13 #[.pointer (some ⟨s, 0, none⟩), .int .i64 i] W fun e w' => ∃ r, e = .returned (.int .i64 r) ∧ Hid (WkI J w B0 s p S n w') := by
  refine (pair_drop h i).mono ?_
  rintro e w' (⟨_, rfl, q⟩ | ⟨_, _, rfl, q⟩ | ⟨_, _, rfl, q⟩)
  · exact ⟨_, rfl, WkI.step ho q hx hn⟩
  · exact ⟨_, rfl, WkI.step ho q hx hn⟩
  · exact ⟨_, rfl, WkI.step ho q (hJ.drop h i hx) hn⟩
theorem commit_wk {J : SS → DS → Prop} (hJ : Stable J) {w W : World} {B0 s p S n : Nat} {x : SS} {d : DS} (hx : J x d) (h : PairAt W B0 s p S x d) (hB : B0 ≤ W.heap.size) (hn : d.n = n) (ho : Only (fun k => B0 ≤ k) w W) : Calls Try.prog 17 #[.pointer (some ⟨s, 0, none⟩)] W fun e w' => ∃ r, e = .returned (.int .i64 r) ∧ Hid (WkI J w B0 s p S n w') := by
  refine (pair_commit h hB).mono ?_
  rintro e w' (⟨_, rfl, q⟩ | ⟨hf, rfl, q⟩)
  · exact ⟨_, rfl, WkI.step ho q hx hn⟩
  · exact ⟨_, rfl, WkI.step ho q (hJ.next h hf hx) (by rw [cm_n h hf]; exact hn)⟩
theorem roll_wk {J : SS → DS → Prop} (hJ : Stable J) {w W : World} {B0 s p S n : Nat} {x : SS} {d : DS} (hx : J x d) (h : PairAt W B0 s p S x d) (hB : B0 ≤ W.heap.size) (hn : d.n = n) (ho : Only (fun k => B0 ≤ k) w W) : Calls Try.prog 18 #[.pointer (some ⟨s, 0, none⟩)] W fun e w' => ∃ r, e = .returned (.int .i64 r) ∧ Hid (WkI J w B0 s p S n w') := by
  refine (pair_roll h hB).mono ?_
  rintro e w' ⟨rfl, q⟩
  exact ⟨_, rfl, WkI.step ho q (hJ.roll h hx) hn⟩
set_option maxRecDepth 100000 in
set_option maxHeartbeats 2000000 in
theorem work_any {J : SS → DS → Prop} (hJ : Stable J) {w : World} {B0 s p S n : Nat} (v : Value) (os : List OpS) (W0 : World) (hsc : ScriptAt W0 v os) (hB0 : B0 = W0.heap.size) (h0 : Only (fun k => B0 ≤ k) W0 w) (h : WkI J w B0 s p S n w) :
    Calls Try.prog 16 #[.pointer (some ⟨s, 0, none⟩), v] w fun e w' => e = .returned (.tuple #[]) ∧ WkI J w B0 s p S n w' := by
  obtain ⟨a, c, rfl⟩ := hsc.form
  have hsz := h0.size
  have hos := hsc.2.1
  have HSC : Hid (ScriptAt W0 (.slice a os.length c) os) := hsc
  obtain ⟨m, hm⟩ : ∃ m, m = os.length := ⟨_, rfl⟩
  have HM : Hid (m = os.length) := hm
  rw [← hm] at hos ⊢
  have HW : Hid (WkI J w B0 s p S n w) := h
  clear h hsc hm
  go_enter Try.func16, Try.ntmps16
  go_wp2
  go_loopw [4] (fun t W => ∃ k : Nat, k ≤ m ∧ t = .int .i64 k ∧ WkI J w B0 s p S n W) (fun t _ => m - (intOf t).toNat)
  case atStart => exact ⟨0, Nat.zero_le _, rfl, HW.out⟩
  case round =>
    clear HW
    obtain ⟨k, hk, rfl, hI⟩ := hrel
    obtain ⟨W, rfl⟩ : ∃ W, W = wr := ⟨_, rfl⟩
    by_cases hlt : k < m
    · obtain ⟨x, d, hp, hx, hn, ho⟩ := hI
      have hkl : k < os.length := by have := HM.out; omega
      obtain ⟨g, o, c', hv, hrg, _⟩ := HSC.out.get k hkl
      injection hv with hv hv1 hv2
      clear hv1 hv2
      obtain ⟨ok, hok⟩ : ∃ ok, ok = os[k] := ⟨_, rfl⟩
      have hokk : ok.ok W0 := by rw [hok]; exact HSC.out.2.2 _ (List.getElem_mem hkl)
      rw [← hok] at hrg
      obtain ⟨kd, oi, on, oc, zz, ob, ov⟩ := ok
      subst hv
      have hgl : g < B0 := by
        have := World.block_lt_of_cell? W0 _ (hrg 0 _ rfl)
        simp only at this
        omega
      have oW : Only (fun k => B0 ≤ k) W0 W := h0.trans ho (fun _ _ e => e)
      have y0 : W.cell? ⟨g, o + k * 6, none⟩ = some (.int .i64 kd) := oW.cell (hrg 0 _ rfl) (by simp; omega)
      have y1 : W.cell? ⟨g, o + k * 6 + 1, none⟩ = some (.int .i64 oi) := oW.cell (hrg 1 _ rfl) (by simp; omega)
      have y2 : W.cell? ⟨g, o + k * 6 + 2, none⟩ = some (.int .i64 on) := oW.cell (hrg 2 _ rfl) (by simp; omega)
      have y3 : W.cell? ⟨g, o + k * 6 + 3, none⟩ = some (.int .i64 oc) := oW.cell (hrg 3 _ rfl) (by simp; omega)
      have y4 : W.cell? ⟨g, o + k * 6 + 4, none⟩ = some ob := oW.cell (hrg 4 _ rfl) (by simp; omega)
      have y5 : W.cell? ⟨g, o + k * 6 + 5, none⟩ = some ov := oW.cell (hrg 5 _ rfl) (by simp; omega)
      have k0 : (0 : Int) ≤ (k : Int) := by omega
      have k1 : (k : Int) < (m : Int) := by omega
      obtain ⟨hokb, av, nv, cv, hov⟩ := hokk
      obtain ⟨ab, cb, hob, _⟩ := BytesAt.form hokb
      simp only at hov hob hokb
      subst hov
      rw [hob] at y4 hokb
      obtain ⟨nb, hnb⟩ : ∃ nb, nb = zz.length := ⟨_, rfl⟩
      rw [← hnb] at y4 hokb
      obtain ⟨wq, hwq⟩ : ∃ q, q = W.alloc (.cells #[.int .i64 kd, .int .i64 oi, .int .i64 on, .int .i64 oc, .slice ab nb cb, .slice av nv cv] 83) := ⟨_, rfl⟩
      have HWQ : Hid (wq = W.alloc (.cells #[.int .i64 kd, .int .i64 oi, .int .i64 on, .int .i64 oc, .slice ab nb cb, .slice av nv cv] 83)) := hwq
      have oq : Only (fun _ => False) W wq := by rw [hwq]; exact (Only.refl _ W).alloc _
      have bq : wq.heap[W.heap.size]? = some (.cells #[.int .i64 kd, .int .i64 oi, .int .i64 on, .int .i64 oc, .slice ab nb cb, .slice av nv cv] 83 (0, 0)) := by rw [hwq]; exact heap_alloc_new W _
      have HBQ : Hid _ := bq
      have hpq : PairAt wq B0 s p S x d := hp.still oq
      have hB : B0 ≤ wq.heap.size := by have := oW.size; have := oq.size; omega
      have hWB : B0 ≤ W.heap.size := by have := oW.size; omega
      have hbq : BytesAt wq (.slice ab nb cb) zz := by
        rw [hB0] at oW
        exact (hokb.older oW).keep oq (fun _ _ e => e)
      have HP0 : Hid (PairAt W B0 s p S x d) := hp
      have HX : Hid (J x d) := hx
      clear hwq bq hp hrg hok hob hnb
      by_cases hk2 : kd = 2
      · subst hk2
        have HD : Hid (Calls Try.prog 13 _ _ _) := drop_wk hJ hx hpq hn (ho.trans oq (fun _ _ e => e.elim)) oi
        clear hpq oq ho hokb hx
        go_wp2_with fail
        rw [← HWQ.out]
        refine (show Calls Try.prog 13 _ _ _ from HD.out).mono ?_
        rintro e w2 ⟨r, rfl, HW2⟩
        clear HD
        go_wp2
        go_roundw
        case rel => exact ⟨k + 1, by omega, by go_num, HW2.out⟩
        case measure => simp [intOf]; omega
      by_cases hk3 : kd = 3
      · subst hk3
        have HD : Hid (Calls Try.prog 17 _ _ _) := commit_wk hJ hx hpq hB hn (ho.trans oq (fun _ _ e => e.elim))
        clear hpq oq ho hokb hx
        go_wp2_with fail
        rw [← HWQ.out]
        refine (show Calls Try.prog 17 _ _ _ from HD.out).mono ?_
        rintro e w2 ⟨r, rfl, HW2⟩
        clear HD
        go_wp2
        go_roundw
        case rel => exact ⟨k + 1, by omega, by go_num, HW2.out⟩
        case measure => simp [intOf]; omega
      by_cases hk4 : kd = 4
      · subst hk4
        have HD : Hid (Calls Try.prog 18 _ _ _) := roll_wk hJ hx hpq hB hn (ho.trans oq (fun _ _ e => e.elim))
        clear hpq oq ho hokb hx
        go_wp2_with fail
        rw [← HWQ.out]
        refine (show Calls Try.prog 18 _ _ _ from HD.out).mono ?_
        rintro e w2 ⟨r, rfl, HW2⟩
        clear HD
        go_wp2
        go_roundw
        case rel => exact ⟨k + 1, by omega, by go_num, HW2.out⟩
        case measure => simp [intOf]; omega
      by_cases hk1 : kd = 1
      · subst hk1
        have HW2 : Hid (WkI J w B0 s p S n wq) := ⟨x, d, hpq, hx, hn, ho.trans oq (fun _ _ e => e.elim)⟩
        clear hpq oq ho hokb hx
        go_wp2
        rw [← HWQ.out]
        go_roundw
        case rel => exact ⟨k + 1, by omega, by go_num, HW2.out⟩
        case measure => simp [intOf]; omega
      by_cases hk5 : kd = 5
      · subst hk5
        have HW2 : Hid (WkI J w B0 s p S n wq) := ⟨x, d, hpq, hx, hn, ho.trans oq (fun _ _ e => e.elim)⟩
        clear hpq oq ho hokb hx
        go_wp2
        rw [← HWQ.out]
        go_roundw
        case rel => exact ⟨k + 1, by omega, by go_num, HW2.out⟩
        case measure => simp [intOf]; omega
      by_cases hk6 : kd = 6
      · subst hk6
        have HW2 : Hid (WkI J w B0 s p S n wq) := ⟨x, d, hpq, hx, hn, ho.trans oq (fun _ _ e => e.elim)⟩
        clear hpq oq ho hokb hx
        go_wp2
        rw [← HWQ.out]
        go_roundw
        case rel => exact ⟨k + 1, by omega, by go_num, HW2.out⟩
        case measure => simp [intOf]; omega
      by_cases hk7 : kd = 7
      · subst hk7
        have HW2 : Hid (WkI J w B0 s p S n wq) := ⟨x, d, hpq, hx, hn, ho.trans oq (fun _ _ e => e.elim)⟩
        clear hpq oq ho hokb hx
        go_wp2
        rw [← HWQ.out]
        go_roundw
        case rel => exact ⟨k + 1, by omega, by go_num, HW2.out⟩
        case measure => simp [intOf]; omega
      by_cases hk8 : kd = 8
      · subst hk8
        have HW2 : Hid (WkI J w B0 s p S n wq) := ⟨x, d, hpq, hx, hn, ho.trans oq (fun _ _ e => e.elim)⟩
        clear hpq oq ho hokb hx
        go_wp2
        rw [← HWQ.out]
        go_roundw
        case rel => exact ⟨k + 1, by omega, by go_num, HW2.out⟩
        case measure => simp [intOf]; omega
      by_cases hk9 : kd = 9
      · subst hk9
        have HW2 : Hid (WkI J w B0 s p S n wq) := ⟨x, d, hpq, hx, hn, ho.trans oq (fun _ _ e => e.elim)⟩
        clear hpq oq ho hokb hx
        go_wp2
        rw [← HWQ.out]
        go_roundw
        case rel => exact ⟨k + 1, by omega, by go_num, HW2.out⟩
        case measure => simp [intOf]; omega
      have e1 : (kd == 1) = false := by simpa using hk1
      have e2 : (kd == 2) = false := by simpa using hk2
      have e3 : (kd == 3) = false := by simpa using hk3
      have e4 : (kd == 4) = false := by simpa using hk4
      have e5 : (kd == 5) = false := by simpa using hk5
      have e6 : (kd == 6) = false := by simpa using hk6
      have e7 : (kd == 7) = false := by simpa using hk7
      have e8 : (kd == 8) = false := by simpa using hk8
      have e9 : (kd == 9) = false := by simpa using hk9
      have HOQ : Hid (Only (fun _ => False) W wq ∧ Only (fun k => B0 ≤ k) w wq ∧ d.n = n) := ⟨oq, ho.trans oq (fun _ _ e => e.elim), hn⟩
      have HSS : Hid (∀ (w2 : World), w2.heap[W.heap.size]? = wq.heap[W.heap.size]? → w2.cell? ⟨W.heap.size, 1, none⟩ = some (.int .i64 oi) ∧ w2.cell? ⟨W.heap.size, 4, none⟩ = some (.slice ab nb cb)) := fun w2 h2 => by
        rw [HBQ.out] at h2
        exact ⟨by rw [cell_of_row _ _ _ _ _ _ h2]; rfl, by rw [cell_of_row _ _ _ _ _ _ h2]; rfl⟩
      have HOw : Hid (Calls Try.prog 6 #[.slice ab nb cb] wq.drew fun e w2 => ∃ u, e = .returned u ∧ Hid (BytesAt w2 u zz ∧ Only (fun _ => False) wq w2)) := by
        have od : Only (fun _ => False) wq wq.drew := (Only.refl _ wq).drew
        refine (own_any (.slice ab nb cb) zz wq.drew (hbq.frame od)).mono ?_
        rintro e w2 ⟨u, rfl, q1, q2⟩
        exact ⟨u, rfl, q1.bytes, od.trans q2 (fun _ _ e => e)⟩
      have hRl : W.heap.size < wq.heap.size := (Array.getElem?_eq_some_iff.1 HBQ.out).1
      clear hpq oq ho hokb hx hbq hk1 hk2 hk3 hk4 hk5 hk6 hk7 hk8 hk9 oW
      go_wp2_with fail
      rw [← HWQ.out]
      refine wp_region_held_drew (S := fun w2 => w2.cell? ⟨W.heap.size, 1, none⟩ = some (.int .i64 oi) ∧ w2.cell? ⟨W.heap.size, 4, none⟩ = some (.slice ab nb cb)) (by kernel_rfl) (HSS.out wq.drew rfl) (fun hHeld => ?_)
      refine wpAnyH_take (i := 0) (v := .pointer (some ⟨s, 0, none⟩)) rfl (by kernel_rfl) (by kernel_rfl) (by kernel_rfl) (fun _ _ _ h => h) (Or.inl ⟨by rfl, fun wx hSw => by go_simp⟩) hHeld ?_
      simp only [Act.put, List.setIfInBounds_toArray, List.set_cons_zero, List.set_cons_succ, List.getElem_toArray, List.getElem_cons_zero, List.getElem_cons_succ]
      refine wpAnyH_take (i := 1) (v := .pointer (some ⟨W.heap.size, 1, none⟩)) rfl (by kernel_rfl) (by kernel_rfl) (by kernel_rfl) (fun _ _ _ h => h) (Or.inl ⟨by rfl, fun wx hSw => by go_simp⟩) hHeld ?_
      simp only [Act.put, List.setIfInBounds_toArray, List.set_cons_zero, List.set_cons_succ, List.getElem_toArray, List.getElem_cons_zero, List.getElem_cons_succ]
      refine wpAnyH_take (i := 2) (v := .int .i64 oi) rfl (by kernel_rfl) (by kernel_rfl) (by kernel_rfl) (fun _ _ _ h => h) (Or.inl ⟨by rfl, fun wx hSw => by go_simp⟩) hHeld ?_
      simp only [Act.put, List.setIfInBounds_toArray, List.set_cons_zero, List.set_cons_succ, List.getElem_toArray, List.getElem_cons_zero, List.getElem_cons_succ]
      refine wpAnyH_take (i := 3) (v := .pointer (some ⟨W.heap.size, 4, none⟩)) rfl (by kernel_rfl) (by kernel_rfl) (by kernel_rfl) (fun _ _ _ h => h) (Or.inl ⟨by rfl, fun wx hSw => by go_simp⟩) hHeld ?_
      simp only [Act.put, List.setIfInBounds_toArray, List.set_cons_zero, List.set_cons_succ, List.getElem_toArray, List.getElem_cons_zero, List.getElem_cons_succ]
      refine wpAnyH_take (i := 4) (v := .slice ab nb cb) rfl (by kernel_rfl) (by kernel_rfl) (by kernel_rfl) (fun _ _ _ h => h) (Or.inl ⟨by rfl, fun wx hSw => by go_simp⟩) hHeld ?_
      simp only [Act.put, List.setIfInBounds_toArray, List.set_cons_zero, List.set_cons_succ, List.getElem_toArray, List.getElem_cons_zero, List.getElem_cons_succ]
      refine wpAnyH_ready (rs := [5]) (by kernel_rfl) (by simp) ?_
      refine AllReadyH.cons rfl (fun K hK => ?_) AllReadyH.nil
      rw [if_pos (by rfl)]
      refine wp_call_func #[.tmp 22] #[23] rfl #[.slice ab nb cb] (by simp [Act.eval]) (enters_of Try.func6 (by kernel_rfl) rfl) (show Calls Try.prog 6 _ _ _ from HOw.out) (fun e w2 he => ?_)
      obtain ⟨u, rfl, HU2⟩ := he
      refine ⟨_, rfl, hK _ _ (HSS.out w2 (HU2.out.2.block _ hRl (fun e => e))) (fun hHeld => ?_)⟩
      clear hK K HOw
      simp only [Act.put, List.setIfInBounds_toArray, List.set_cons_zero, List.set_cons_succ, List.getElem_toArray, List.getElem_cons_zero, List.getElem_cons_succ]
      have HPt : Hid (Calls Try.prog 7 _ _ _) := pair_put2 hJ HX.out HP0.out (HOQ.out.1.trans HU2.out.2 (fun _ _ e => e)) oi u zz HU2.out.1
      refine wpAnyH_ready (rs := [6]) (by kernel_rfl) (by simp) ?_
      refine AllReadyH.cons rfl (fun K hK => ?_) AllReadyH.nil
      rw [if_pos (by rfl)]
      refine wp_call_func #[.tmp 18, .tmp 20, .tmp 23] #[25, 3, 23] rfl #[.pointer (some ⟨s, 0, none⟩), .int .i64 oi, u] (by simp [Act.eval]) (enters_of Try.func7 (by kernel_rfl) rfl) (show Calls Try.prog 7 _ _ _ from HPt.out) (fun e w3 he => ?_)
      obtain ⟨r, x', rfl, HL3, HR3⟩ := he
      have s2 := HU2.out.2.size
      refine ⟨_, rfl, hK _ _ (HSS.out w3 ((HR3.out _ (Nat.le_refl _) (by omega)).trans (HU2.out.2.block _ hRl (fun e => e)))) (fun hHeld => ?_)⟩
      clear hK K HPt
      simp only [Act.put, List.setIfInBounds_toArray, List.set_cons_zero, List.set_cons_succ, List.getElem_toArray, List.getElem_cons_zero, List.getElem_cons_succ]
      refine wpAnyH_done (by kernel_rfl) ?_ _
      have HW2 : Hid (WkI J w B0 s p S n w3) := WkI.step (HOQ.out.2.1.trans HU2.out.2 (fun _ _ e => e.elim)) HL3.out.1 HL3.out.2 HOQ.out.2.2
      clear hHeld HSS HU2 HL3 HR3
      go_wp2
      go_roundw
      case rel => exact ⟨k + 1, by omega, by go_num, HW2.out⟩
      case measure => simp [intOf]; omega
    · have HI : Hid _ := hI
      clear hI
      go_wp2
      go_end0
      exact ⟨rfl, HI.out⟩
end Go.Proofs.Ytpoakkdkibameab
namespace Go.Proofs.Ytpoakkdkibameab
open Go.RowKit Go.Maps Go.Shelf
set_option linter.unusedSimpArgs false
set_option linter.unusedVariables false

/-- A disk that Format made a store of. -/
def fmtD (N : Nat) : DS := (((⟨N, fun _ _ => 0, [], -1⟩ : DS).keep 4 (byF zeros32)).2.keep 0 (byF (rootB 1 0 0))).2
theorem fmtD_eq (N : Nat) (h : 12 ≤ N) : ((⟨N, fun _ _ => 0, [], -1⟩ : DS).keep 4 (byF zeros32)).1 = 0 ∧ (((⟨N, fun _ _ => 0, [], -1⟩ : DS).keep 4 (byF zeros32)).2.keep 0 (byF (rootB 1 0 0))).1 = 0 ∧ fmtD N = ⟨N, upd (upd (fun _ _ => 0) 4 (byF zeros32)) 0 (byF (rootB 1 0 0)), [], -1⟩ := by
  have k1 := keep_lives (d := ⟨N, fun _ _ => 0, [], -1⟩) rfl 4 (by show 4 < N; omega) (byF zeros32)
  have k2 := keep_lives (d := ⟨N, upd (fun _ _ => 0) 4 (byF zeros32), [], -1⟩) rfl 0 (by show 0 < N; omega) (byF (rootB 1 0 0))
  have e4 : ((4 : Nat) : Int) = 4 := rfl
  have e0 : ((0 : Nat) : Int) = 0 := rfl
  rw [e4] at k1
  rw [e0] at k2
  unfold fmtD
  rw [k1]
  refine ⟨rfl, ?_, ?_⟩
  · rw [k2]
  · rw [k2]
theorem zeros32_lt : ∀ z ∈ zeros32, z < 256 := by
  intro z hz
  unfold zeros32 at hz
  rw [List.eq_of_mem_replicate hz]
  omega
/-- How many sectors there are. -/
def secsN (n : Int) : Nat := if n < 12 ∨ 400 < n then 80 else n.toNat
theorem secsN_ge (n : Int) : 12 ≤ secsN n ∧ secsN n ≤ 400 := by
  unfold secsN
  split <;> omega
set_option maxRecDepth 100000 in
set_option maxHeartbeats 2000000 in
theorem grown_core {J : SS → DS → Prop} (hJ : Stable J) (N : Nat) (hN : 12 ≤ N ∧ N ≤ 400) (hJ0 : J (SS.new (N / 4)) (fmtD N)) (n : Int) (hn : secsN n = N) (v : Value) (os : List OpS) (w : World) (hsc : ScriptAt w v os) :
    Calls Try.prog 4 #[.int .i64 n, v] w fun e w' => ∃ p s S, e = .returned (.tuple #[.pointer (some ⟨p, 0, none⟩), .pointer (some ⟨s, 0, none⟩)]) ∧ Hid (WkI J w w.heap.size s p S N w' ∧ w.heap.size ≤ s) := by
  have hnw := new_ok N w (by omega) (by omega)
  obtain ⟨k1, k2, k3⟩ := fmtD_eq N hN.1
  have HF : Hid (∀ w1, DiskAt w1 w.heap.size (w.heap.size + 1) w.heap.size (.slice none 0 0) ⟨N, fun _ _ => 0, [], -1⟩ → Only (fun _ => False) w w1 → w1.heap.size = w.heap.size + 2 → Calls Try.prog 15 #[.pointer (some ⟨w.heap.size + 1, 0, none⟩)] w1 fun e w2 => ∃ s, e = .returned (.tuple #[.pointer (some ⟨s, 0, none⟩), .int .i64 0]) ∧ Hid (WkI J w w.heap.size s (w.heap.size + 1) w.heap.size N w2 ∧ w.heap.size ≤ s)) := by
    intro w1 hd ho hs
    refine (format_ok (w.heap.size + 1) w.heap.size w.heap.size (.slice none 0 0) _ w1 hd (by omega) (by simp) (by show 3 ≤ N / 4; omega) k1 k2).mono ?_
    rintro e w2 ⟨s, mc, mn, pv', rfl, hh⟩
    obtain ⟨q1, q2, q3, q4, q5, q6, q7⟩ := hh.out
    have q3s := q3.size
    refine ⟨s, rfl, ⟨SS.new (N / 4), fmtD N, { all := ⟨pv', mc, mn, .slice none 0 0, w.heap.size, q1, by omega, q2, ?_⟩, byte := ?_, good := ?_, pend := ?_, life := ?_, size := ?_ }, hJ0, by rw [k3], (ho.mono (fun _ _ e => e.elim)).trans q3 (fun k hk e => ?_)⟩, by omega⟩
    · rintro k (e | e | e | e | e | e)
      · omega
      · omega
      · omega
      · omega
      · omega
      · rcases q4 k e with e | e
        · cases e
        · omega
    · rw [k3]
      exact ⟨byt_upd (byt_upd (fun _ _ => ⟨by simp, by simp⟩) _ _ (byF_byt zeros32_lt)) _ _ (byF_byt (rootB_lt _ _ _)), by simp, by simp⟩
    · rw [k3]; exact Good.nil _ _ _
    · rw [k3]
    · rw [k3]
    · rw [k3]; rfl
    · rcases e with e | e | e
      · omega
      · omega
      · cases e
  have HWk : Hid (∀ s p S w1, WkI J w w.heap.size s p S N w1 → Calls Try.prog 16 #[.pointer (some ⟨s, 0, none⟩), v] w1 fun e w2 => e = .returned (.tuple #[]) ∧ Hid (WkI J w w.heap.size s p S N w2)) := by
    intro s p S w1 h1
    obtain ⟨x, d, hp, hx, hn', ho⟩ := h1
    refine (work_any hJ v os w hsc rfl ho ⟨x, d, hp, hx, hn', Only.refl _ _⟩).mono ?_
    rintro e w2 ⟨rfl, x2, d2, hp2, hx2, hn2, ho2⟩
    exact ⟨rfl, x2, d2, hp2, hx2, hn2, ho.trans ho2 (fun _ _ e => e)⟩
  have HNw : Hid (Calls Try.prog 14 _ _ _) := hnw
  obtain ⟨B0, hB0⟩ : ∃ B0, B0 = w.heap.size := ⟨_, rfl⟩
  rw [← hB0] at HF HWk HNw ⊢
  have HB : Hid (B0 = w.heap.size) := hB0
  have HSC : Hid (∃ a c, v = .slice a os.length c) := hsc.form
  clear hnw hB0 hsc k1 k2 k3
  obtain ⟨a, c, rfl⟩ := HSC.out
  clear HSC
  by_cases hc : n < 12 ∨ 400 < n
  · have e80 : N = 80 := by rw [← hn]; unfold secsN; rw [if_pos hc]
    subst e80
    rcases hc with hc | hc
    · go_enter Try.func4, Try.ntmps4
      go_wp2_with fail
      refine (show Calls Try.prog 14 _ _ _ from HNw.out).mono ?_
      rintro e w1 ⟨rfl, hd1, ho1, hs1⟩
      clear HNw
      have HFm : Hid (Calls Try.prog 15 _ _ _) := HF.out w1 hd1 ho1 hs1
      clear hd1 ho1 hs1 HF
      go_wp2_with fail
      refine (show Calls Try.prog 15 _ _ _ from HFm.out).mono ?_
      rintro e w2 ⟨s, rfl, HW2⟩
      clear HFm
      have HWo : Hid (Calls Try.prog 16 _ _ _) := HWk.out s _ _ w2 HW2.out.1
      have hs0 := HW2.out.2
      clear HWk HW2
      go_wp2_with fail
      refine (show Calls Try.prog 16 _ _ _ from HWo.out).mono ?_
      rintro e w3 ⟨rfl, HW3⟩
      clear HWo
      have HCm : Hid (Calls Try.prog 17 #[.pointer (some ⟨s, 0, none⟩)] w3 fun e w4 => ∃ r, e = .returned (.int .i64 r) ∧ Hid (WkI J w B0 s (B0 + 1) B0 80 w4)) := by
        obtain ⟨x, d, hp, hx, hn', ho⟩ := HW3.out
        exact commit_wk hJ hx hp (by have := ho.size; have := HB.out; omega) hn' ho
      clear HW3
      go_wp2_with fail
      refine (show Calls Try.prog 17 _ _ _ from HCm.out).mono ?_
      rintro e w4 ⟨r, rfl, HW4⟩
      clear HCm
      by_cases hr : r = 0
      · subst hr
        go_wp2
        go_ret2
        exact ⟨_, s, B0, rfl, HW4.out, hs0⟩
      · have hr' : (r == 0) = false := by simpa using hr
        have HRo : Hid (Calls Try.prog 18 #[.pointer (some ⟨s, 0, none⟩)] w4 fun e w5 => ∃ r, e = .returned (.int .i64 r) ∧ Hid (WkI J w B0 s (B0 + 1) B0 80 w5)) := by
          obtain ⟨x, d, hp, hx, hn', ho⟩ := HW4.out
          exact roll_wk hJ hx hp (by have := ho.size; have := HB.out; omega) hn' ho
        clear HW4
        go_wp2_with fail
        refine (show Calls Try.prog 18 _ _ _ from HRo.out).mono ?_
        rintro e w5 ⟨r5, rfl, HW5⟩
        clear HRo
        go_wp2
        go_ret2
        exact ⟨_, s, B0, rfl, HW5.out, hs0⟩
    · have hc0 : ¬ n < 12 := by omega
      go_enter Try.func4, Try.ntmps4
      go_wp2_with fail
      refine (show Calls Try.prog 14 _ _ _ from HNw.out).mono ?_
      rintro e w1 ⟨rfl, hd1, ho1, hs1⟩
      clear HNw
      have HFm : Hid (Calls Try.prog 15 _ _ _) := HF.out w1 hd1 ho1 hs1
      clear hd1 ho1 hs1 HF
      go_wp2_with fail
      refine (show Calls Try.prog 15 _ _ _ from HFm.out).mono ?_
      rintro e w2 ⟨s, rfl, HW2⟩
      clear HFm
      have HWo : Hid (Calls Try.prog 16 _ _ _) := HWk.out s _ _ w2 HW2.out.1
      have hs0 := HW2.out.2
      clear HWk HW2
      go_wp2_with fail
      refine (show Calls Try.prog 16 _ _ _ from HWo.out).mono ?_
      rintro e w3 ⟨rfl, HW3⟩
      clear HWo
      have HCm : Hid (Calls Try.prog 17 #[.pointer (some ⟨s, 0, none⟩)] w3 fun e w4 => ∃ r, e = .returned (.int .i64 r) ∧ Hid (WkI J w B0 s (B0 + 1) B0 80 w4)) := by
        obtain ⟨x, d, hp, hx, hn', ho⟩ := HW3.out
        exact commit_wk hJ hx hp (by have := ho.size; have := HB.out; omega) hn' ho
      clear HW3
      go_wp2_with fail
      refine (show Calls Try.prog 17 _ _ _ from HCm.out).mono ?_
      rintro e w4 ⟨r, rfl, HW4⟩
      clear HCm
      by_cases hr : r = 0
      · subst hr
        go_wp2
        go_ret2
        exact ⟨_, s, B0, rfl, HW4.out, hs0⟩
      · have hr' : (r == 0) = false := by simpa using hr
        have HRo : Hid (Calls Try.prog 18 #[.pointer (some ⟨s, 0, none⟩)] w4 fun e w5 => ∃ r, e = .returned (.int .i64 r) ∧ Hid (WkI J w B0 s (B0 + 1) B0 80 w5)) := by
          obtain ⟨x, d, hp, hx, hn', ho⟩ := HW4.out
          exact roll_wk hJ hx hp (by have := ho.size; have := HB.out; omega) hn' ho
        clear HW4
        go_wp2_with fail
        refine (show Calls Try.prog 18 _ _ _ from HRo.out).mono ?_
        rintro e w5 ⟨r5, rfl, HW5⟩
        clear HRo
        go_wp2
        go_ret2
        exact ⟨_, s, B0, rfl, HW5.out, hs0⟩
  · have hc1 : ¬ n < 12 := by omega
    have hc2 : ¬ 400 < n := by omega
    have en : n = (N : Int) := by rw [← hn]; unfold secsN; rw [if_neg hc]; omega
    subst en
    clear hc hn
    go_enter Try.func4, Try.ntmps4
    go_wp2_with fail
    refine (show Calls Try.prog 14 _ _ _ from HNw.out).mono ?_
    rintro e w1 ⟨rfl, hd1, ho1, hs1⟩
    clear HNw
    have HFm : Hid (Calls Try.prog 15 _ _ _) := HF.out w1 hd1 ho1 hs1
    clear hd1 ho1 hs1 HF
    go_wp2_with fail
    refine (show Calls Try.prog 15 _ _ _ from HFm.out).mono ?_
    rintro e w2 ⟨s, rfl, HW2⟩
    clear HFm
    have HWo : Hid (Calls Try.prog 16 _ _ _) := HWk.out s _ _ w2 HW2.out.1
    have hs0 := HW2.out.2
    clear HWk HW2
    go_wp2_with fail
    refine (show Calls Try.prog 16 _ _ _ from HWo.out).mono ?_
    rintro e w3 ⟨rfl, HW3⟩
    clear HWo
    have HCm : Hid (Calls Try.prog 17 #[.pointer (some ⟨s, 0, none⟩)] w3 fun e w4 => ∃ r, e = .returned (.int .i64 r) ∧ Hid (WkI J w B0 s (B0 + 1) B0 N w4)) := by
      obtain ⟨x, d, hp, hx, hn', ho⟩ := HW3.out
      exact commit_wk hJ hx hp (by have := ho.size; have := HB.out; omega) hn' ho
    clear HW3
    go_wp2_with fail
    refine (show Calls Try.prog 17 _ _ _ from HCm.out).mono ?_
    rintro e w4 ⟨r, rfl, HW4⟩
    clear HCm
    by_cases hr : r = 0
    · subst hr
      go_wp2
      go_ret2
      exact ⟨_, s, B0, rfl, HW4.out, hs0⟩
    · have hr' : (r == 0) = false := by simpa using hr
      have HRo : Hid (Calls Try.prog 18 #[.pointer (some ⟨s, 0, none⟩)] w4 fun e w5 => ∃ r, e = .returned (.int .i64 r) ∧ Hid (WkI J w B0 s (B0 + 1) B0 N w5)) := by
        obtain ⟨x, d, hp, hx, hn', ho⟩ := HW4.out
        exact roll_wk hJ hx hp (by have := ho.size; have := HB.out; omega) hn' ho
      clear HW4
      go_wp2_with fail
      refine (show Calls Try.prog 18 _ _ _ from HRo.out).mono ?_
      rintro e w5 ⟨r5, rfl, HW5⟩
      clear HRo
      go_wp2
      go_ret2
      exact ⟨_, s, B0, rfl, HW5.out, hs0⟩
end Go.Proofs.Ytpoakkdkibameab
namespace Go.Proofs.Ytpoakkdkibameab
open Go.RowKit Go.Maps
set_option linter.unusedSimpArgs false
set_option linter.unusedVariables false

set_option maxRecDepth 100000 in
set_option maxHeartbeats 400000 in
theorem get_nil (i : Int) (w : World) : Calls Try.prog 8 #[.pointer none, .int .i64 i] w fun e w' => e = .returned (.tuple #[.slice none 0 0, .int .i64 2]) ∧ w' = w := by
  go_enter Try.func8, Try.ntmps8
  go_wp2_with (go_at_call 22; refine (holds_nil _ _).mono ?_; rintro e w' ⟨rfl, rfl⟩)
  go_ret2
  exact ⟨rfl, rfl⟩
set_option maxRecDepth 100000 in
set_option maxHeartbeats 400000 in
theorem put_nil (i : Int) (v : Value) (w : World) : Calls Try.prog 7 #[.pointer none, .int .i64 i, v] w fun e w' => e = .returned (.int .i64 2) ∧ w' = w := by
  go_enter Try.func7, Try.ntmps7
  go_wp2_with (go_at_call 20; refine (sreach_nil _ _).mono ?_; rintro e w' ⟨rfl, rfl⟩)
  go_ret
  exact ⟨rfl, rfl⟩
set_option maxRecDepth 100000 in
set_option maxHeartbeats 400000 in
theorem drop_nil (i : Int) (w : World) : Calls Try.prog 13 #[.pointer none, .int .i64 i] w fun e w' => e = .returned (.int .i64 2) ∧ w' = w := by
  go_enter Try.func13, Try.ntmps13
  go_wp2_with (go_at_call 22; refine (holds_nil _ _).mono ?_; rintro e w' ⟨rfl, rfl⟩)
  go_ret
  exact ⟨rfl, rfl⟩
set_option maxRecDepth 100000 in
set_option maxHeartbeats 400000 in
theorem commit_nil (w : World) : Calls Try.prog 17 #[.pointer none] w fun e w' => e = .returned (.int .i64 2) ∧ w' = w := by
  go_enter Try.func17, Try.ntmps17
  go_wp2_with (go_at_call 27; refine (usable_nil _).mono ?_; rintro e w' ⟨rfl, rfl⟩)
  go_ret
  exact ⟨rfl, rfl⟩
set_option maxRecDepth 100000 in
set_option maxHeartbeats 400000 in
theorem rollback_nil (w : World) : Calls Try.prog 18 #[.pointer none] w fun e w' => e = .returned (.int .i64 2) ∧ w' = w := by
  go_enter Try.func18, Try.ntmps18
  go_wp2_with (go_at_call 27; refine (usable_nil _).mono ?_; rintro e w' ⟨rfl, rfl⟩)
  go_ret
  exact ⟨rfl, rfl⟩
set_option maxRecDepth 100000 in
set_option maxHeartbeats 400000 in
theorem epoch_nil (w : World) : Calls Try.prog 19 #[.pointer none] w fun e w' => e = .returned (.int .u64 0) ∧ w' = w := by
  go_enter Try.func19, Try.ntmps19
  go_wp2_with (go_at_call 27; refine (usable_nil _).mono ?_; rintro e w' ⟨rfl, rfl⟩)
  go_ret
  exact ⟨rfl, rfl⟩
set_option maxRecDepth 100000 in
set_option maxHeartbeats 400000 in
theorem format_nil (w : World) : Calls Try.prog 15 #[.pointer none] w fun e w' => e = .returned (.tuple #[.pointer none, .int .i64 2]) ∧ w' = w := by
  go_enter Try.func15, Try.ntmps15
  go_wp2
  go_ret2
  exact ⟨rfl, rfl⟩
set_option maxRecDepth 100000 in
set_option maxHeartbeats 400000 in
theorem pages_nil (w : World) : Calls Try.prog 12 #[.pointer none] w (PagesIs [] w) := by
  have HV : ∀ w, Calls Try.prog 28 #[.slice none 0 0] w _ := fun w => (callsIn_wide (n := 5)).1 (values_in 5 none 0 0 w)
  go_enter Try.func12, Try.ntmps12
  go_wp2_with (first | (go_at_call 27; refine (usable_nil _).mono ?_; rintro e w' ⟨rfl, rfl⟩) | (go_at_call 28; refine (HV _).mono ?_; rintro e w1 ⟨rfl, rfl⟩))
  go_ret
  exact ⟨_, w'.heap.size, _, rfl, (Boxed.new _ _ _).cell, .inl ⟨rfl, rfl⟩, by simp, (Only.refl _ _).alloc _⟩
theorem listed_nil (w : World) : Calls Try.prog 11 #[.pointer none] w fun e w' => ∃ a c, e = .returned (.tuple #[.slice a 0 c, .bool true]) ∧ Only (fun _ => False) w w' := by
  refine (callsIn_wide (n := 6)).1 ((listed_core [] (by simp) none w (fun w1 _ => (callsIn_wide (n := 5)).2 (pages_nil w1))).mono ?_)
  rintro e w' ⟨v, rfl, h, ho⟩
  obtain ⟨a, c, rfl⟩ := ownsRow_slice h
  exact ⟨a, c, rfl, ho⟩

/-- keep on a disk without an end to its life. -/
theorem keep_live (d : DS) (k : Nat) (f : Nat → Int) (hl : d.life = -1) (hk : k < d.n) : d.keep k f = (0, { d with sec := upd d.sec k f, pend := [], life := -1 }) := by
  have hw : d.write (k : Int) f 32 = (0, { d with sec := upd d.sec k f, pend := d.pend ++ [⟨k, d.sec k, f⟩], life := -1 }) := by
    have h1 : ¬ ((k : Int) < 0 ∨ (d.n : Int) ≤ k) := by omega
    simp [DS.write, hl, hk, aged]
  simp [DS.keep, hw, DS.barrier, aged]
theorem format_live (p S B : Nat) (pv : Value) (d : DS) (w : World) (h : DiskAt w B p S pv d) (hB : B ≤ w.heap.size) (hby : (d.pend.length + 2) * 72 ≤ 140737488355328) (hn : 12 ≤ d.n) (hl : d.life = -1) :
    Calls Try.prog 15 #[.pointer (some ⟨p, 0, none⟩)] w fun e w' => ∃ s mc mn pv', e = .returned (.tuple #[.pointer (some ⟨s, 0, none⟩), .int .i64 0]) ∧ Hid (DiskAt w' B p S pv' ⟨d.n, upd (upd d.sec 4 (byF zeros32)) 0 (byF (rootB 1 0 0)), [], -1⟩ ∧
      StAt w' (diskB p S pv') s p mc mn (.slice none 0 0) (SS.new (d.n / 4)) ∧ Only (diskB p S pv) w w' ∧ (∀ b, pv'.ownBlock = some b → pv.ownBlock = some b ∨ w.heap.size ≤ b) ∧ w.heap.size ≤ s ∧ w.heap.size ≤ mc ∧ w.heap.size ≤ mn) := by
  have e1 := keep_live d 4 (byF zeros32) hl (by omega)
  have e2 := keep_live { d with sec := upd d.sec 4 (byF zeros32), pend := [], life := -1 } 0 (byF (rootB 1 0 0)) rfl (by simp; omega)
  have e1' : d.keep 4 (byF zeros32) = (0, { d with sec := upd d.sec 4 (byF zeros32), pend := [], life := -1 }) := e1
  have e2' : (d.keep 4 (byF zeros32)).2.keep 0 (byF (rootB 1 0 0)) = (0, ⟨d.n, upd (upd d.sec 4 (byF zeros32)) 0 (byF (rootB 1 0 0)), [], -1⟩) := by rw [e1']; exact e2
  have := format_ok p S B pv d w h hB hby (by omega) (by rw [e1']) (by rw [e2'])
  rw [e2'] at this
  exact this

theorem one_nine (w : World) : BytesAt (w.alloc (.cells #[.int .u8 9] 5)) (.slice (some ⟨w.heap.size, 0, none⟩) 1 1) [9] := by
  refine ⟨.inr ⟨_, _, rfl, by simp, fun j hj => ?_⟩, by simp, by simp⟩
  have : j = 0 := by simp at hj; omega
  subst this
  rw [Addr.add_mid, cell_of_row _ _ _ _ _ _ (heap_alloc_new w _)]
  rfl
set_option maxRecDepth 100000 in
set_option maxHeartbeats 2000000 in
/-- A program that does something. -/
theorem awake_any (w : World) : Calls Try.prog 5 #[] w fun e w' => e = .returned (.bool true) ∧ Only (fun _ => False) w w' := by
  have HN : Hid (Calls Try.prog 14 _ _ _) := new_any 16 w (by omega) (by omega)
  go_enter Try.func5, Try.ntmps5
  go_wp2_with fail
  refine (show Calls Try.prog 14 _ _ _ from HN.out).mono ?_
  rintro e w1 ⟨p, S, rfl, hd1, ho1⟩
  have HF : Hid (Calls Try.prog 15 _ _ _) := format_live p S w.heap.size _ _ w1 hd1 ho1.size (by simp) (by simp) rfl
  have H1 : Hid (DiskAt w1 w.heap.size p S (.slice none 0 0) ⟨16, fun _ _ => 0, [], -1⟩ ∧ Only (fun _ => False) w w1) := ⟨hd1, ho1⟩
  clear HN hd1 ho1
  go_wp2_with fail
  refine (show Calls Try.prog 15 _ _ _ from HF.out).mono ?_
  rintro e w2 ⟨s, mc, mn, pv, rfl, H2⟩
  obtain ⟨hd2, hs2, ho2, hp2, hsl, hml, hnl⟩ := H2.out
  have oA : Only (fun _ => False) w2 (w2.alloc (.cells #[.int .u8 9] 5)) := (Only.refl _ w2).alloc _
  have lt2 : ∀ k, diskB p S pv k → k < w2.heap.size := fun k hk => (hd2.lt k hk).2
  have HP : Hid (Calls Try.prog 7 _ _ _) := put_ok (hs2.still oA) (fun k hk => Nat.lt_of_lt_of_le (lt2 k hk) oA.size) 3 (by omega) _ [9] (one_nine w2) (by simp)
  have H2' : Hid (Only (diskB p S (.slice none 0 0)) w1 w2 ∧ w1.heap.size ≤ mn ∧ mn < w2.heap.size) := ⟨ho2, hnl, hs2.now.lt⟩
  clear HF H2 hd2 hs2 ho2 hp2 hsl hml hnl oA lt2
  go_wp2_with fail
  refine (show Calls Try.prog 7 _ _ _ from HP.out).mono ?_
  rintro e w3 ⟨rfl, hs3, ho3⟩
  have HG : Hid (Calls Try.prog 8 _ _ _) := get_some hs3 3 (by omega) (a := 0) (zs := [9]) rfl
  have HS3 : Hid _ := hs3
  have H3 : Hid (Only (fun k => k = mn) (w2.alloc (.cells #[.int .u8 9] 5)) w3) := ho3
  clear HP hs3 ho3
  go_wp2_with fail
  refine (show Calls Try.prog 8 _ _ _ from HG.out).mono ?_
  rintro e w4 ⟨u, rfl, hf4, ho4⟩
  obtain ⟨a, c, hu, _, hc⟩ := hf4.bytes.form
  obtain ⟨g, o, rfl, hc0⟩ := hc 0 (by simp)
  obtain rfl : u = .slice (some ⟨g, o, none⟩) 1 c := hu
  have hc0' : w4.cell? ⟨g, o, none⟩ = some (.int .u8 9) := hc0
  clear hc0
  have HE : Hid (Calls Try.prog 19 _ _ _) := epoch_ok (HS3.out.still ho4)
  have H4 : Hid (Only (fun _ => False) w w4) := by
    have o1 := H1.out.2
    have l1 := H1.out.1.lt
    have s1 := o1.size
    have o2 : Only (fun _ => False) w w2 := o1.trans H2'.out.1 (fun k hk e => by have := (l1 k e).1; omega)
    have o3 : Only (fun _ => False) w w3 := (o2.alloc _).trans H3.out (fun k hk e => by have := H2'.out.2.1; omega)
    exact o3.trans ho4 (fun _ _ e => e)
  clear HG HS3 H3 H2' H1 hf4 ho4 hc
  go_wp2_with (go_at_call 19; refine (show Calls Try.prog 19 _ _ _ from HE.out).mono ?_; rintro e w5 ⟨rfl, rfl⟩)
  go_ret
  exact ⟨rfl, H4.out⟩
end Go.Proofs.Ytpoakkdkibameab
namespace Go.Proofs.Ytpoakkdkibameab
open Go.RowKit Go.Maps Go.Shelf
set_option linter.unusedSimpArgs false
set_option linter.unusedVariables false

set_option maxRecDepth 100000 in
set_option maxHeartbeats 1000000 in
theorem same_any (v1 v2 : Value) (zs : List Nat) (w : World) (h1 : BytesAt w v1 zs) (h2 : BytesAt w v2 zs) :
    Calls Try.prog 9 #[v1, v2] w fun e w' => e = .returned (.bool true) ∧ Only (fun _ => False) w w' := by
  obtain ⟨a1, c1, rfl, _, f1⟩ := h1.form
  obtain ⟨a2, c2, rfl, _, f2⟩ := h2.form
  obtain ⟨m, hm⟩ : ∃ m, m = zs.length := ⟨_, rfl⟩
  have hm2 : m ≤ 140737488355328 := hm ▸ h1.2.1
  rw [← hm]
  rw [← hm] at f1 f2
  clear h1 h2 hm
  go_enter Try.func9, Try.ntmps9
  go_wp2
  go_loopw [5] (fun t wr => ∃ k : Nat, k ≤ m ∧ t = .int .i64 k ∧ Only (fun _ => False) w wr) (fun t _ => m - (intOf t).toNat)
  case atStart => exact ⟨0, Nat.zero_le _, rfl, Only.refl _ _⟩
  case round =>
    obtain ⟨k, hk, rfl, ho⟩ := hrel
    by_cases hlt : k < m
    · obtain ⟨g1, o1, rfl, x1⟩ := f1 k hlt
      obtain ⟨g2, o2, rfl, x2⟩ := f2 k hlt
      have y1 := ho.cell x1 (fun e => e)
      have y2 := ho.cell x2 (fun e => e)
      have k0 : (0 : Int) ≤ (k : Int) := Int.natCast_nonneg _
      have k1 : (k : Int) < (m : Int) := by omega
      obtain ⟨z, hz⟩ : ∃ z, z = zs.getD k 0 := ⟨_, rfl⟩
      rw [← hz] at y1 y2
      have HO : Hid (Only (fun _ => False) w wr) := ho
      clear f1 f2 x1 x2 ho hz
      go_wp2_with fail
      go_region_held3 (fun w' => w'.cell? ⟨g1, o1 + k, none⟩ = some (.int .u8 (z : Nat)) ∧ w'.cell? ⟨g2, o2 + k, none⟩ = some (.int .u8 (z : Nat))) (go_keep) (fail)
      go_wp2
      go_roundw
      case rel => exact ⟨k + 1, by omega, by go_num, HO.out.drew⟩
      case measure => simp [intOf]; omega
    · obtain rfl : k = m := by omega
      clear f1 f2
      go_wp2
      go_ret
      exact ⟨rfl, ho⟩

/-- What Get answers. -/
def gErr (x : SS) (i : Int) : Int := if 0 ≤ i ∧ i < 728 then (if (pgAt x.now i).isSome then 0 else 6) else 4
def gDat (x : SS) (i : Int) : List Nat := if 0 ≤ i ∧ i < 728 then ((pgAt x.now i).getD (0, [])).2 else []
section
variable {w : World} {dk : Nat → Prop} {s p mc mn : Nat} {tv : Value} {x : SS}
theorem get_all (h : StAt w dk s p mc mn tv x) (i : Int) :
    Calls Try.prog 8 #[.pointer (some ⟨s, 0, none⟩), .int .i64 i] w fun e w' => ∃ u, e = .returned (.tuple #[u, .int .i64 (gErr x i)]) ∧ Hid (Fresh w' w.heap.size u (gDat x i) ∧ Only (fun _ => False) w w') := by
  unfold gErr gDat
  by_cases hi : 0 ≤ i ∧ i < 728
  · rw [if_pos hi, if_pos hi]
    cases hg : pgAt x.now i with
    | some y =>
      obtain ⟨a, zs⟩ := y
      refine (get_some h i hi hg).mono ?_
      rintro e w' ⟨u, rfl, q1, q2⟩
      exact ⟨u, rfl, q1, q2⟩
    | none =>
      refine (get_none h i hi hg).mono ?_
      rintro e w' ⟨rfl, q2⟩
      exact ⟨_, rfl, Fresh.nil _ _, q2⟩
  · rw [if_neg hi, if_neg hi]
    refine (get_out h i (by omega)).mono ?_
    rintro e w' ⟨rfl, rfl⟩
    exact ⟨_, rfl, Fresh.nil _ _, Only.refl _ _⟩
end
theorem stable_true : Stable (fun _ _ => True) := ⟨fun _ _ _ _ _ _ => trivial, fun _ _ _ => trivial, fun _ _ => trivial, fun _ _ _ => trivial⟩
theorem pgAt_put_same {x : Pgs} (h : Rise x) (i : Int) (zs : List Nat) : pgAt (putL x i (0, zs)) i = some (0, zs) := getL_put_same h i _
theorem pgAt_put_other {x : Pgs} (h : Rise x) {i k : Int} (hk : k ≠ i) (zs : List Nat) : pgAt (putL x i (0, zs)) k = pgAt x k := getL_put_other h hk _
theorem pgAt_del_same (x : Pgs) (i : Int) : pgAt (delL x i) i = none := getL_del_same _ _

end Go.Proofs.Ytpoakkdkibameab
namespace Go.Proofs.Ytpoakkdkibameab
open Go.RowKit Go.Maps Go.Shelf
set_option linter.unusedSimpArgs false
set_option linter.unusedVariables false

/-- slices.Values gives the numbers, each by its place; where it is stopped, a beginning of them was given. -/
theorem values_pre (m Bs Pb : Nat) (sv : Value) (zs : List Int) (w : World) (hl : zs.length ≤ maxLen) (hBs : w.cell? ⟨Bs, 0, none⟩ = some sv) (hi : IntsIn w Pb sv zs) (hP : Pb < w.heap.size) :
    SeqStopsK Fence.wide m Try.prog 42 #[.pointer (some ⟨Bs, 0, none⟩)] (nthEnc zs) (KpP Pb) (fun ys => ys = List.range zs.length) (fun ys => ys = List.range ys.length) zs.length w := fun lo J Jx W hW _ _ hY h0 => by
  have hBl := World.block_lt_of_cell? w _ hBs
  have hBs' : W.cell? ⟨Bs, 0, none⟩ = some sv := (hW.cell (p := ⟨Bs, 0, none⟩) hBl).trans hBs
  rcases hi with ⟨rfl, rfl⟩ | ⟨off, cap, rfl, hc⟩
  · exact (values_none m lo Bs (J []) W hBs' h0).mono fun e W' ⟨he, hj⟩ => ⟨he, .inl ⟨_, rfl, hj⟩⟩
  · have key : ∀ k, k < zs.length → List.range (zs.take k ++ [zs.getD k 0]).length = List.range (zs.take k).length ++ [k] := fun k hk => by
      rw [List.length_append, List.length_take, Nat.min_eq_left (by omega)]
      exact List.range_succ
    refine (values_core m lo Bs Pb off cap zs hl (fun ys W => J (List.range ys.length) W) (fun ys W => Jx (List.range ys.length) W) (fun k W1 hk hJ => ?_) W hBs' (fun j hj => (hW.cell (p := ⟨Pb, off + j, none⟩) hP).trans (hc j hj)) h0).mono ?_
    · have := hY (List.range (zs.take k).length) k W1 hJ (by rw [List.length_range, List.length_take]; omega)
      simp only [key k hk]
      exact this
    · rintro e W' ⟨he, hj | ⟨k, _, hj⟩⟩
      · exact ⟨he, .inl ⟨_, rfl, hj⟩⟩
      · exact ⟨he, .inr ⟨_, by simp, hj⟩⟩
/-- A counter at block nb; nothing else was turned. -/
structure CtI (wl : World) (nb : Nat) (pre : List Nat) (W : World) : Prop where
  box : Boxed W nb 3 (.int .i64 (pre.length : Nat))
  only : Only (fun k => k = nb) wl W
theorem CtI.frame {wl W W' : World} {nb : Nat} {pre : List Nat} {row : Option Nat} (h : CtI wl nb pre W) (hb : nb < wl.heap.size) (hg : W.grownBy W' row) (hr : ∀ r, row = some r → wl.heap.size ≤ r ∧ ∃ o : Obj, W.heap[r]? = some o ∧ o.isCells = false) : CtI wl nb pre W' :=
  ⟨h.box.kept hg (fun e => by have := (hr nb e.symm).1; omega), h.only.grown hg (fun k e hk => by have := (hr k e).1; omega)⟩
/-- What the two rounds of ShadowKeeps want: the bound, the result, the numbers wanted, the iterator. -/
structure KpAt (w W : World) (zs : List Int) (Bs Pb : Nat) (sv : Value) (bw : Nat) (aw : Option Addr) (cw : Nat) (cut : Int) : Prop where
  cutB : Boxed W w.heap.size 3 (.int .i64 cut)
  resB : Boxed W (w.heap.size + 1) 4 (.bool false)
  want : Boxed W bw 41 (.slice aw zs.length cw)
  row : ∃ g o, (0 < zs.length → aw = some ⟨g, o, none⟩) ∧ ∀ j, j < zs.length → W.cell? ⟨g, o + j, none⟩ = some (.int .i64 (zs.getD j 0))
  it : W.cell? ⟨Bs, 0, none⟩ = some sv
  ints : IntsIn W Pb sv zs
  pb : Pb < W.heap.size
  len : zs.length ≤ 728
  only : Only (fun k => w.heap.size ≤ k) w W
theorem KpAt.frame {w W W' : World} {zs : List Int} {Bs Pb : Nat} {sv : Value} {bw : Nat} {aw : Option Addr} {cw : Nat} {cut : Int} {bs : Nat → Prop} (h : KpAt w W zs Bs Pb sv bw aw cw cut) (ho : Only bs W W') (hb : ∀ k, k < W.heap.size → ¬ bs k) : KpAt w W' zs Bs Pb sv bw aw cw cut := by
  have bx : ∀ {b t v}, Boxed W b t v → Boxed W' b t v := fun {b t v} hx => by
    unfold Boxed at hx ⊢
    have := (Array.getElem?_eq_some_iff.1 hx).1
    rw [ho.block b this (hb b this)]
    exact hx
  have cl : ∀ {a v}, W.cell? a = some v → W'.cell? a = some v := fun {a v} hx => ho.cell hx (hb _ (World.block_lt_of_cell? W _ hx))
  obtain ⟨g, o, r1, r2⟩ := h.row
  refine ⟨bx h.cutB, bx h.resB, bx h.want, ⟨g, o, r1, fun j hj => cl (r2 j hj)⟩, cl h.it, ?_, Nat.lt_of_lt_of_le h.pb ho.size, h.len, h.only.trans ho (fun k hk e => absurd e (hb k (Nat.lt_of_lt_of_le hk h.only.size)))⟩
  rcases h.ints with q | ⟨off, cap, q1, q2⟩
  · exact .inl q
  · exact .inr ⟨off, cap, q1, fun j hj => cl (q2 j hj)⟩
end Go.Proofs.Ytpoakkdkibameab
namespace Go.Proofs.Ytpoakkdkibameab
open Go.RowKit Go.Maps Go.Shelf
set_option linter.unusedSimpArgs false
set_option linter.unusedVariables false

theorem ScriptAt.still {W W' : World} {v : Value} {os : List OpS} (h : ScriptAt W v os) (ho : Only (fun _ => False) W W') : ScriptAt W' v os := by
  obtain ⟨h1, h2, h3⟩ := h
  refine ⟨?_, h2, fun o hm => (h3 o hm).frame ho⟩
  rcases h1 with h1 | ⟨ad, c, e1, e2, e3⟩
  · exact .inl h1
  · exact .inr ⟨ad, c, e1, e2, fun i hi j v hv => ho.cell (e3 i hi j v hv) (fun e => e)⟩
/-- A store whose data lie apart from the blocks from a to b as well. -/
theorem StAt.wide {w w' : World} {dk : Nat → Prop} {s p mc mn : Nat} {tv : Value} {x : SS} (h : StAt w dk s p mc mn tv x) (ho : Only (fun _ => False) w w') : StAt w' (fun k => dk k ∨ (w.heap.size ≤ k ∧ k < w'.heap.size)) s p mc mn tv x :=
  h.frame ho (fun _ _ e => e.elim) (fun k hk e => by
    rcases e with e | e
    · exact e
    · omega)
theorem Fresh.part {w : World} {B : Nat} {a : Option Addr} {m cap : Nat} {D E : List Nat} (h : Fresh w B (.slice a (m + E.length) cap) (D ++ E)) (hm : m = D.length) (hE : 0 < E.length) : ∃ fb fo, a = some ⟨fb, fo, none⟩ ∧ (B ≤ fb ∧ fb < w.heap.size) ∧ m + E.length ≤ cap ∧ BytesAt w (.slice a m cap) D ∧ (∀ j (hj : j < E.length), w.cell? ⟨fb, fo + (m + j), none⟩ = some (.int .u8 (E[j] : Nat))) ∧ w.there fb fo (m + E.length) := by
  have hW : Whole w (.slice a (m + E.length) cap) (D ++ E).length (fun j => .int .u8 ((D ++ E).getD j 0 : Nat)) := Whole.ofOwn h.1 (fun j hj => BL_cell _ j hj)
  have hlen : (D ++ E).length = m + E.length := by rw [List.length_append, hm]
  obtain ⟨a', c, e, hnc, hcm, h0, hpos⟩ := hW
  injection e with e1 e2 e3
  subst e1 e3
  obtain ⟨g, o, rfl, ht, hc⟩ := hpos (by omega)
  have hlt := h.1.lt g rfl
  have hcell : ∀ j, j < (D ++ E).length → w.cell? ⟨g, o + j, none⟩ = some (.int .u8 ((D ++ E).getD j 0 : Nat)) := hc
  refine ⟨g, o, rfl, hlt, by omega, ⟨.inr ⟨⟨g, o, none⟩, cap, by rw [hm], by omega, fun j hj => ?_⟩, by have := h.2.1; omega, fun z hz => h.2.2 z (List.mem_append_left _ hz)⟩, fun j hj => ?_, fun j hj => ht j (by omega)⟩
  · rw [Addr.add_mid, hcell j (by omega)]
    simp [List.getD, List.getElem?_append_left (show j < D.length by omega)]
  · rw [hcell (m + j) (by omega)]
    simp [List.getD, hm, List.getElem?_append_right, hj]
/-- Get, of what was put. -/
theorem get_put {w : World} {dk : Nat → Prop} {s p mc mn : Nat} {tv : Value} {x : SS} {i : Int} {D : List Nat} {m : Nat} (h : StAt w dk s p mc mn tv { x with now := putL x.now i (0, D) }) (hi : 0 ≤ i ∧ i < 728) (hm : m = D.length) :
    Calls Try.prog 8 #[.pointer (some ⟨s, 0, none⟩), .int .i64 i] w fun e w' => ∃ a c, e = .returned (.tuple #[.slice a m c, .int .i64 0]) ∧ Hid (Fresh w' w.heap.size (.slice a m c) D ∧ Only (fun _ => False) w w') := by
  have hg : pgAt (putL x.now i (0, D)) i = some (0, D) := (getL_mem h.now.rise i (0, D)).2 ((putL_mem _ _ _ _).2 (.inl rfl))
  refine (get_all h i).mono ?_
  rintro e w' ⟨u, rfl, hh⟩
  have e1 : gErr { x with now := putL x.now i (0, D) } i = 0 := by
    unfold gErr
    rw [if_pos hi]
    simp only
    rw [hg]
    rfl
  have e2 : gDat { x with now := putL x.now i (0, D) } i = D := by
    unfold gDat
    rw [if_pos hi]
    simp only
    rw [hg]
    rfl
  rw [e2] at hh
  obtain ⟨a, c, rfl⟩ := hh.out.1.form
  rw [e1, hm]
  exact ⟨a, c, rfl, hh.out⟩
end Go.Proofs.Ytpoakkdkibameab
