/- nth and slice. A row the other way round. reverse and slice. slice. Effects: bounded, and one behind another. Primitives: which there are. Primitives, some of them. The document on primitives, some of them. Primitives, some of them. The document on primitives, some of them. Primitives, some of them. -/
import Derived.Test.YtioffjdjnlibgaaGreatDoorGas
import Derived.Test.YtioffjdjnlibgaaGreatDoorGaq
import Derived.Deep.RegionHeld3
import Derived.Laws.Append
import Derived.Test.YtioffjdjnlibgaaGreatDoorGaa
import Derived.Test.YtioffjdjnlibgaaGreatDoorRows
namespace Go.Proofs.YtioffjdjnlibgaaGreatDoor
open Go.RowKit Go.Lib
set_option linter.unusedSimpArgs false
set_option linter.unusedVariables false
/-- the character or the value at a place -/
def ntR (n : Int) (t : Vt) : Except Int Vt :=
  match pcR n (n + 1) t with
  | .error e => .error e
  | .ok x => if x.k = 4 then .ok (x.l.getD 0 zT) else .ok x
theorem fb_10 {t : Vt} (h : fb t 10 = true) : t.k = 2 ∨ t.k = 4 := by
  unfold fb at h
  rcases kd_cases t with ⟨e, k⟩ | ⟨e, k⟩ | ⟨e, k⟩ | ⟨e, k⟩ | ⟨e, k⟩ | ⟨e, k⟩ | ⟨e, k⟩ <;> rw [k] at h <;> first | omega | (exfalso; revert h; decide)
theorem kd_4 (t : Vt) : kd t = 8 ↔ t.k = 4 := by
  rcases kd_cases t with ⟨e, k⟩ | ⟨e, k⟩ | ⟨e, k⟩ | ⟨e, k⟩ | ⟨e, k⟩ | ⟨e, k⟩ | ⟨e, k⟩ <;> rw [k] <;> omega
theorem pc_len {n m : Int} {t x : Vt} (h : pcR n m t = .ok x) (hk : x.k = 4) : t.k ≠ 2 ∧ x.l.length = m.toNat - n.toNat := by
  unfold pcR at h
  by_cases h2 : t.k = 2
  · rw [if_pos h2] at h
    split at h
    · cases h
      simp [stT] at hk
    · cases h
  · rw [if_neg h2] at h
    split at h
    · cases h
      exact ⟨h2, by simp; omega⟩
    · cases h
theorem pc_kind {n m : Int} {t x : Vt} (h : pcR n m t = .ok x) : x.k = 2 ∨ x.k = 4 := by
  unfold pcR at h
  split at h <;> split at h <;> cases h
  · exact .inl rfl
  · exact .inr rfl
theorem pc_in {n m : Int} {t x : Vt} (h : pcR n m t = .ok x) : 0 ≤ n ∧ n ≤ m := by
  unfold pcR at h
  split at h <;> split at h <;> cases h <;> omega
set_option maxRecDepth 100000 in
theorem nth_any {D : Nat} {x : Vt} {u : Value} {w : World} {S : Nat → Prop} (hx : TiAt w S D false x u) (hS : ∀ b, S b → b < w.heap.size) (kx : x.k = 2 ∨ x.k = 4) (sq : x.k = 2 → ∃ q, VL q ∧ x.s = tx q) (sx : x.k = 2 → x.s.size ≤ 4096) (lx : x.l.length ≤ 10000) (mx : ∃ e, SmT e x) (n : Int) (hn : cfit n = true) : Calls Tryz.prog 41 #[.int .i64 n, u] w fun e w' => MdP (ntR n x) D w e w' := by
  have hnb := cfit_true hn
  have i1 : IntKind.i64.wrap (n + 1) = n + 1 := by rw [IntKind.wrap_i64]; omega
  have HP : Hid _ := piece_any hx hS kx sq sx lx mx n (n + 1)
  unfold ntR
  have hin := fun t (h : pcR n (n + 1) x = .ok t) => pc_len h
  have hkk := fun t (h : pcR n (n + 1) x = .ok t) => pc_kind h
  have hii := fun t (h : pcR n (n + 1) x = .ok t) => pc_in h
  obtain ⟨Y, hY⟩ : ∃ Y, Y = pcR n (n + 1) x := ⟨_, rfl⟩
  rw [← hY] at HP hin hkk hii ⊢
  clear hx hS kx sq sx lx mx hn hnb hY
  cases Y with
  | error m =>
    dsimp only
    clear hin hkk hii
    go_enter Tryz.func41, Tryz.ntmps41
    go_wp2_with fail
    refine (show Calls Tryz.prog 42 _ _ _ from HP.out).mono ?_
    rintro e w1 ⟨v, rfl, hv, hm, o1⟩
    have HE : Hid (MdP (.error m) D w (.returned (.tuple #[v, .int .i64 m])) w1) := ⟨v, rfl, hv, hm, o1⟩
    clear HP o1
    have hm' : ¬ m = 0 := by simpa using hm
    clear hm
    rcases hv with rfl | ⟨T, y, rfl⟩
    all_goals
      go_wp2
      go_ret2
      exact HE.out
  | ok t =>
    dsimp only
    have hk := hkk t rfl
    have hl := hin t rfl
    have hi := hii t rfl
    clear hin hkk hii
    by_cases h4 : t.k = 4
    · rw [if_pos h4]
      obtain ⟨_, h1⟩ := hl h4
      have hlen : t.l.length = 1 := by omega
      obtain ⟨y, hy⟩ : ∃ y, t.l = [y] := List.length_eq_one_iff.1 hlen
      rw [hy]
      show Calls _ _ _ _ fun e w' => MdP (.ok y) D w e w'
      have hkd : kd t = 8 := (kd_4 t).2 h4
      clear hl hk
      go_enter Tryz.func41, Tryz.ntmps41
      go_wp2_with fail
      refine (show Calls Tryz.prog 42 _ _ _ from HP.out).mono ?_
      rintro e w1 ⟨v, rfl, ⟨S1, ht, hS1⟩, hsm, o1⟩
      have HK : Hid (∀ W, Calls Tryz.prog 23 #[v] W fun e w' => e = .returned (.int .i64 8) ∧ w' = W) := by rw [← hkd]; exact kind_any ht
      obtain ⟨a1, c1, hvv, g, q, u1, he, hc, HV⟩ : ∃ a1 c1, v = .iface 34 (.agg #[.slice a1 1 c1]) ∧ ∃ g q u1, a1 = some ⟨g, q, none⟩ ∧ w1.cell? ⟨g, q, none⟩ = some u1 ∧ Hid (MdP (.ok y) D w (.returned (.tuple #[u1, .int .i64 0])) w1) := by
        cases D with
        | zero => exact ht.elim
        | succ D =>
          rcases ht with ⟨e, _⟩ | ⟨e, _⟩ | ⟨e, _⟩ | ⟨e, _⟩ | ⟨e, _⟩ | ⟨_, a1, c1, hv, q1, p1⟩
          · omega
          · omega
          · omega
          · omega
          · omega
          rw [if_pos h4, hlen] at hv
          rw [show decide (t.k = 5) = false by rw [h4]; rfl] at p1
          obtain ⟨g, q, u1, ha, hg, hc, ht1⟩ := p1 0 y (by rw [hy]; rfl)
          exact ⟨a1, c1, hv, g, q, u1, ha, hc, ⟨u1, rfl, ⟨S1, ht1.step (fun _ g => g) (fun _ _ _ g => g) (by omega), hS1⟩, sm_parts hsm y (by rw [hy]; exact List.mem_cons_self ..), o1⟩⟩
      subst hvv
      subst he
      have HL : Hid (∀ W, Calls Tryz.prog 27 #[.iface 34 (.agg #[.slice (some ⟨g, q, none⟩) 1 c1])] W fun e w' => e = .returned (.slice (some ⟨g, q, none⟩) 1 c1) ∧ w' = W) := g_list _ 1 c1
      clear ht hS1 hsm o1 HP hi h4 h1 hlen hy hkd
      go_wp2_with fail
      refine (show Calls Tryz.prog 23 _ _ _ from HK.out _).mono ?_
      rintro e w2 ⟨rfl, hw2⟩
      obtain rfl := hw2.symm
      clear HK
      go_wp2_with fail
      refine (show Calls Tryz.prog 27 _ _ _ from HL.out _).mono ?_
      rintro e w2 ⟨rfl, hw2⟩
      obtain rfl := hw2.symm
      clear HL
      go_wp2
      go_ret2
      exact HV.out
    · rw [if_neg h4]
      have hkd : ¬ kd t = 8 := fun h => h4 ((kd_4 t).1 h)
      have hne : t.k ≠ 8 := by omega
      clear hl hi
      obtain ⟨K, hK⟩ : ∃ K, K = kd t := ⟨_, rfl⟩
      rw [← hK] at hkd
      go_enter Tryz.func41, Tryz.ntmps41
      go_wp2_with fail
      refine (show Calls Tryz.prog 42 _ _ _ from HP.out).mono ?_
      rintro e w1 ⟨v, rfl, ⟨S1, ht, hS1⟩, hsm, o1⟩
      have HK : Hid (∀ W, Calls Tryz.prog 23 #[v] W fun e w' => e = .returned (.int .i64 K) ∧ w' = W) := by rw [hK]; exact kind_any ht
      have HV : Hid (MdP (.ok t) D w (.returned (.tuple #[v, .int .i64 0])) w1) := ⟨v, rfl, ⟨S1, ht, hS1⟩, hsm, o1⟩
      obtain ⟨T1, y1, rfl⟩ := ht.iface (by omega)
      clear ht hS1 hsm o1 HP hk h4 hne hK
      go_wp2_with fail
      refine (show Calls Tryz.prog 23 _ _ _ from HK.out _).mono ?_
      rintro e w2 ⟨rfl, hw2⟩
      obtain rfl := hw2.symm
      clear HK
      go_wp2
      go_ret2
      exact HV.out
set_option maxRecDepth 100000 in
set_option maxHeartbeats 4000000 in
theorem md_nth : MdC ⟨#[110, 116, 104]⟩ [1, 10] (fun _ l => ntR (l.getD 0 zT).n (l.getD 1 zT)) := by
  intro d l G q w S hl hS hlen hsm hsd hf hT
  obtain ⟨x, y, rfl, hk, hk2⟩ := fit2 hlen hf
  obtain ⟨g, k, u, ha, hg, hc, ht⟩ := hl 0 x rfl
  cases ha
  obtain ⟨g2, k2, u2, ha2, hg2, hc2, ht2⟩ := hl 1 y rfl
  cases ha2
  have hu := ti_1 ht (fb_1 hk)
  subst hu
  have hsd' : sdB d x = true ∧ sdB d y = true := by simpa using hsd
  have f1 := sd_fit hsd'.1 (fb_1 hk)
  show Calls Tryz.prog 28 #[_, .slice (some ⟨G, q, none⟩) 2 2] w fun e w' => MdP (ntR x.n y) (d + 2) w e w'
  obtain ⟨n, hn⟩ : ∃ n, n = x.n := ⟨_, rfl⟩
  rw [← hn] at f1 hc ⊢
  obtain ⟨Y, hY⟩ : ∃ Y, Y = ntR n y := ⟨_, rfl⟩
  have HE : Hid (∀ W, Only (fun _ => False) w W → Calls Tryz.prog 41 #[.int .i64 n, u2] W fun e w' => MdP Y (d + 2) W e w') := fun W o => by
    rw [hY]
    exact nth_any ((ht2.only o (fun _ _ g => g)).step (fun _ g => g) (fun _ _ _ g => g) (by omega)) (fun b hb => Nat.lt_of_lt_of_le (hS b hb) o.size) (fb_10 hk2) (sd_q hsd'.2) (sd_str hsd'.2) (by have := sd_len hsd'.2; omega) (hsm y (by simp)) n f1
  have HC : Hid (∀ W, Only (fun _ => False) w W → W.cell? ⟨G, q, none⟩ = some (.iface 27 (.agg #[.int .i64 n])) ∧ W.cell? ⟨G, q + 1, none⟩ = some u2) := fun W o => ⟨o.cell hc (fun g => g), o.cell hc2 (fun g => g)⟩
  obtain ⟨T2, y2, rfl⟩ := ht2.iface (by have := fb_10 hk2; omega)
  have HN : Hid (∀ W, Calls Tryz.prog 37 #[.iface 27 (.agg #[.int .i64 n])] W fun e w' => e = .returned (.int .i64 n) ∧ w' = W) := g_number n
  rw [← hY]
  have O0 : Hid (Only (fun _ => False) w w) := Only.refl _ _
  obtain ⟨c0, c1⟩ := HC.out w (Only.refl _ _)
  clear hl hS hlen hsm hsd hf hT hk hg hc ht hk2 hg2 hc2 ht2 hsd' hY f1 hn
  cases Y with
  | error er =>
    have HP : Hid (∀ w1 w' v, Only (fun _ => False) w w1 → Only (fun _ => False) w1 w' → (v = .nilIface ∨ ∃ T y, v = .iface T y) → (er == 0) = false → MdP (.error er) (d + 2) w (.returned (.tuple #[v, .int .i64 er])) w') := fun w1 w' v o o' a b => ⟨v, rfl, a, b, o.trans o' (fun _ _ g => g)⟩
    go_enter Tryz.func28, Tryz.ntmps28
    go_wp2
    go_region_held3 (fun W => W.cell? ⟨G, q, none⟩ = some (.iface 27 (.agg #[.int .i64 n])) ∧ W.cell? ⟨G, q + 1, none⟩ = some (.iface T2 y2))
      (first | with_reducible exact HC.out _ O0.out | with_reducible exact HC.out _ O0.out.drew | with_reducible exact HC.out _ O0.out.drew.drew | with_reducible exact HC.out _ O4.out)
      (first
        | (go_at_call 41; refine (show Calls Tryz.prog 41 _ _ _ from HE.out _ (by first | exact O0.out | exact O0.out.drew | exact O0.out.drew.drew)).mono ?_; rintro ex w4 ⟨v, rfl, hv, hn, o4⟩; have O4 : Hid (Only (fun _ => False) w w4) := (by first | exact O0.out.drew.trans o4 (fun _ _ g => g) | exact O0.out.trans o4 (fun _ _ g => g)))
        | (go_at_call 37; refine (show Calls Tryz.prog 37 _ _ _ from HN.out _).mono ?_; rintro ex w4 ⟨rfl, rfl⟩))
    all_goals
      go_wp2
      go_ret2
      exact HP.out _ _ _ O0.out O4.out hv hn
  | ok t =>
    go_enter Tryz.func28, Tryz.ntmps28
    go_wp2
    go_region_held3 (fun W => W.cell? ⟨G, q, none⟩ = some (.iface 27 (.agg #[.int .i64 n])) ∧ W.cell? ⟨G, q + 1, none⟩ = some (.iface T2 y2))
      (first | with_reducible exact HC.out _ O0.out | with_reducible exact HC.out _ O0.out.drew | with_reducible exact HC.out _ O0.out.drew.drew | with_reducible exact HC.out _ O4.out)
      (first
        | (go_at_call 41; refine (show Calls Tryz.prog 41 _ _ _ from HE.out _ (by first | exact O0.out | exact O0.out.drew | exact O0.out.drew.drew)).mono ?_; rintro ex w4 ⟨v, rfl, hv, hm, o4⟩; have O4 : Hid (Only (fun _ => False) w w4) := (by first | exact O0.out.drew.trans o4 (fun _ _ g => g) | exact O0.out.trans o4 (fun _ _ g => g)); have HV : Hid ((∃ S, TiAt w4 S (d + 2) false t v ∧ ∀ b, S b → b < w4.heap.size) ∧ ∃ e, SmT e t) := ⟨hv, hm⟩; clear hv hm o4)
        | (go_at_call 37; refine (show Calls Tryz.prog 37 _ _ _ from HN.out _).mono ?_; rintro ex w4 ⟨rfl, rfl⟩))
    all_goals
      go_wp2
      go_ret2
      exact ⟨_, rfl, HV.out.1, HV.out.2, O4.out⟩
end Go.Proofs.YtioffjdjnlibgaaGreatDoor
namespace Go.Proofs.YtioffjdjnlibgaaGreatDoor
open Go.RowKit Go.Lib
set_option linter.unusedSimpArgs false
set_option linter.unusedVariables false
/-- the place that a place's value comes from when k from each end have changed -/
def rvI (n k j : Nat) : Nat := if j < k ∨ n - k ≤ j then n - 1 - j else j
/-- a row of its own, in a new block -/
def RoP (w w' : World) (g n : Nat) (f : Nat → Option Value) : Prop := w.heap.size ≤ g ∧ (∀ j, j < n → w'.cell? ⟨g, j, none⟩ = f j ∧ w'.frozen? ⟨g, j, none⟩ = false) ∧ Only (fun _ => False) w w'
theorem RoP.swap {w w' : World} {g n k : Nat} {us : List Value} {x y : Value} (h : RoP w w' g n (fun j => us[rvI n k j]?)) (hk : 2 * k + 1 < n) (hl : us.length = n) (hx : us[k]? = some x) (hy : us[n - 1 - k]? = some y) : RoP w ((w'.setCell ⟨g, k, none⟩ y).setCell ⟨g, n - 1 - k, none⟩ x) g n (fun j => us[rvI n (k + 1) j]?) := by
  obtain ⟨h1, h2, h3⟩ := h
  refine ⟨h1, fun j hj => ⟨?_, ?_⟩, (h3.setCell _ _ (fun q => absurd q (by dsimp only; omega))).setCell _ _ (fun q => absurd q (by dsimp only; omega))⟩
  · have ne : ∀ (W : World) (i j : Nat) (v : Value), i ≠ j → (W.setCell ⟨g, i, none⟩ v).cell? ⟨g, j, none⟩ = W.cell? ⟨g, j, none⟩ := fun W i j v g => by apply World.cell?_setCell_other; intro e; exact g (by injection e)
    have hs : ∀ i, i < n → ∃ u, w'.cell? ⟨g, i, none⟩ = some u := fun i hi => by
      have h4 := (h2 i hi).1
      dsimp only at h4
      have h5 : rvI n k i < us.length := by unfold rvI; split <;> omega
      rw [List.getElem?_eq_getElem h5] at h4
      exact ⟨_, h4⟩
    by_cases e1 : j = n - 1 - k
    · subst e1
      obtain ⟨u, hu⟩ := hs (n - 1 - k) hj
      rw [World.cell?_setCell_same' _ _ _ (by rw [ne _ _ _ _ (by omega), hu]; rfl)]
      dsimp only
      rw [show rvI n (k + 1) (n - 1 - k) = k by unfold rvI; split <;> omega, hx]
    · rw [ne _ _ _ _ (fun e => e1 e.symm)]
      by_cases e2 : j = k
      · subst e2
        obtain ⟨u, hu⟩ := hs j hj
        rw [World.cell?_setCell_same' _ _ _ (by rw [hu]; rfl)]
        dsimp only
        rw [show rvI n (j + 1) j = n - 1 - j by unfold rvI; split <;> omega, hy]
      · rw [ne _ _ _ _ (fun e => e2 e.symm), (h2 j hj).1]
        have : rvI n (k + 1) j = rvI n k j := by
          unfold rvI
          split <;> split <;> omega
        dsimp only
        rw [this]
  · rw [World.frozen?_setCell, World.frozen?_setCell]
    exact (h2 j hj).2
set_option maxRecDepth 100000 in
theorem inf_r : ∃ i z, Tryz.prog.info? 21 = some i ∧ i.zero = some z ∧ i.size = 1 ∧ i.bytes = 4 := ⟨_, _, rfl, rfl, rfl, rfl⟩
set_option maxRecDepth 100000 in
theorem clone_r {n c : Nat} {us : List Value} {ad : Addr} {w : World} (hl : us.length = n) (h0 : 0 < n) (hn : n ≤ 10000) (hu : ∀ j u, us[j]? = some u → w.cell? (ad.add j) = some u) : Calls Tryz.prog 76 #[.slice (some ad) n c] w fun e w' => ∃ g c', e = .returned (.slice (some ⟨g, 0, none⟩) n c') ∧ Hid (n ≤ c' ∧ RoP w w' g n (fun j => us[j]?)) := by
  obtain ⟨i, z, hi, hz, hs, hb⟩ := inf_r
  have hap : ∀ (W : World) (b : Addr), Only (fun _ => False) w W → ∃ c' cur, (∀ ty, (Builtin.append_ #[121, 121] ty #[.slice (some b) 0 0, .slice (some ad) n c]).run Tryz.prog W = .ok (.slice (some ⟨W.heap.size, 0, none⟩) n c') (W.drew.alloc (.cells cur 21))) ∧ n ≤ c' ∧ ∀ j, j < n → cur[j]? = us[j]? := fun W b o => by
    refine ⟨grownCap W n 0 21, us.toArray ++ Builtin.zeroCells z.cells (grownCap W n 0 21 - n), fun ty => ?_, grownCap_ge W n 0 21, fun j hj => ?_⟩
    · have h := run_append_grow (P := Tryz.prog) (w := W) 121 ty 21 i z Tryz.underlying121 hi hz b 0 0 [] (by simp) (fun j v h => by simp at h) ad n c us (by rw [hs, hl, Nat.mul_one]) (fun j u h => o.cell (hu j u h) (fun g => g)) (by omega) (by omega) (by rw [hb, Nat.zero_add, nextslicecap_zero h0]; omega)
      simpa using h
    · rw [Array.getElem?_append_left (by simp; omega)]
      simp
  have O0 : Hid (Only (fun _ => False) w w) := Only.refl _ _
  have HH : Hid (∀ (W : World) (c' g : Nat) (cur : Array Value), g = W.heap.size → Only (fun _ => False) w W → n ≤ c' → (∀ j, j < n → cur[j]? = us[j]?) → n ≤ c' ∧ RoP w (W.alloc (.cells cur 21)).drew g n (fun j => us[j]?)) := fun W c' g cur hg o a1 a3 => by
    have hb : (W.alloc (.cells cur 21)).drew.heap[g]? = some (.cells cur 21) := valloc_at W _ _ hg
    exact ⟨a1, by have := o.size; omega, fun j hj => ⟨(blk_cells hb j).trans (a3 j hj), blk_froz hb j⟩, (o.alloc _).drew⟩
  obtain ⟨c1, cur1, hap1, hc1, hcu1⟩ := hap (w.alloc (.cells #[] 21)) ⟨w.heap.size, 0, none⟩ (O0.out.alloc _)
  have HR : Hid _ := HH.out (w.alloc (.cells #[] 21)) c1 (w.heap.size + 1) cur1 (by simp) (O0.out.alloc _) hc1 hcu1
  have hne : ¬ n = 0 := by omega
  have hne2 : ¬ n ≤ 0 := by omega
  clear hi hz hs hb hl hn hu hap HH hc1 hcu1
  go_enter Tryz.func76, Tryz.ntmps76
  have hnil : ∀ W, (binOp .eql 121 (.slice (some ad) n c) (.slice none 0 0)).run Tryz.prog W = .ok (.bool false) W := fun W => by
    have := Lib.run_eql_slice_nil (P := Tryz.prog) W 121 21 (some ad) n c 0 0 Tryz.underlying121
    simpa using this
  have HA : Hid (∀ ty, (Builtin.append_ #[121, 121] ty #[.slice (some ⟨w.heap.size, 0, none⟩) 0 0, .slice (some ad) n c]).run Tryz.prog (w.alloc (.cells #[] 21)) = .ok (.slice (some ⟨(w.alloc (.cells #[] 21)).heap.size, 0, none⟩) n c1) ((w.alloc (.cells #[] 21)).drew.alloc (.cells cur1 21))) := hap1
  clear hap1
  go_wp2_with (at_builtin; refine vwpList_append_run rfl _ _ 121 rfl _ _ _ rfl rfl HA.out ?_)
  go_wp2
  go_ret
  exact ⟨_, _, rfl, HR⟩
set_option maxRecDepth 100000 in
theorem reverse_r {n c g : Nat} {us : List Value} {w0 w : World} (hl : us.length = n) (h0 : 0 < n) (hn : n ≤ 10000) (h1 : ∀ u ∈ us, ∃ b : Int, u = .int .i32 b) (h : RoP w0 w g n (fun j => us[j]?)) : Calls Tryz.prog 77 #[.slice (some ⟨g, 0, none⟩) n c] w fun e w' => e = .returned (.tuple #[]) ∧ Hid (RoP w0 w' g n (fun j => us[n - 1 - j]?)) := by
  have HI0 : Hid (RoP w0 w g n (fun j => us[rvI n 0 j]?)) := ⟨h.1, fun j hj => ⟨(h.2.1 j hj).1.trans (by dsimp only; rw [show rvI n 0 j = j by unfold rvI; split <;> omega]), (h.2.1 j hj).2⟩, h.2.2⟩
  have HS : Hid (∀ k W, 2 * k + 1 < n → RoP w0 W g n (fun j => us[rvI n k j]?) → ∃ x y, W.cell? ⟨g, k, none⟩ = some x ∧ W.cell? ⟨g, n - 1 - k, none⟩ = some y ∧ (∃ b : Int, x = .int .i32 b) ∧ (∃ b : Int, y = .int .i32 b) ∧ W.frozen? ⟨g, k, none⟩ = false ∧ W.frozen? ⟨g, n - 1 - k, none⟩ = false ∧ Hid (RoP w0 ((W.setCell ⟨g, k, none⟩ y).setCell ⟨g, n - 1 - k, none⟩ x) g n (fun j => us[rvI n (k + 1) j]?))) := fun k W hk hR => by
    have hx : us[k]? = some (us[k]'(by omega)) := List.getElem?_eq_getElem _
    have hy : us[n - 1 - k]? = some (us[n - 1 - k]'(by omega)) := List.getElem?_eq_getElem _
    refine ⟨_, _, (hR.2.1 k (by omega)).1.trans ((congrArg (fun i => us[i]?) (show rvI n k k = k by unfold rvI; split <;> omega)).trans hx), (hR.2.1 (n - 1 - k) (by omega)).1.trans ((congrArg (fun i => us[i]?) (show rvI n k (n - 1 - k) = n - 1 - k by unfold rvI; split <;> omega)).trans hy), h1 _ (List.getElem_mem _), h1 _ (List.getElem_mem _), (hR.2.1 k (by omega)).2, (hR.2.1 (n - 1 - k) (by omega)).2, hR.swap hk hl hx hy⟩
  have HE : Hid (∀ k W, ¬ 2 * k + 1 < n → 2 * k ≤ n → RoP w0 W g n (fun j => us[rvI n k j]?) → RoP w0 W g n (fun j => us[n - 1 - j]?)) := fun k W hk hk2 hR => ⟨hR.1, fun j hj => ⟨(hR.2.1 j hj).1.trans (congrArg (fun i => us[i]?) (show rvI n k j = n - 1 - j by unfold rvI; split <;> omega)), (hR.2.1 j hj).2⟩, hR.2.2⟩
  have i0 : IntKind.i64.wrap ((n : Int) - 1) = ((n - 1 : Nat) : Int) := by rw [IntKind.wrap_i64]; omega
  clear hl h1 h
  go_enter Tryz.func77, Tryz.ntmps77
  go_wp2
  go_loopw [2, 3] (fun r x wr => ∃ k : Nat, r = .int .i64 (k : Int) ∧ x = .int .i64 ((n - 1 - k : Nat) : Int) ∧ 2 * k ≤ n ∧ Hid (RoP w0 wr g n (fun j => us[rvI n k j]?))) (fun r _ _ => n - vuOf r)
  case atStart => exact ⟨0, rfl, rfl, by omega, HI0⟩
  case round =>
    obtain ⟨k, rfl, rfl, hk, HI⟩ := hrel
    obtain ⟨w5, hw5⟩ : ∃ w5, w5 = wr := ⟨_, rfl⟩
    rw [← hw5] at HI ⊢
    clear hw5 HI0
    by_cases hk2 : 2 * k + 1 < n
    · obtain ⟨x, y, hx, hy, ox, oy, fx, fy, HN⟩ := HS.out k w5 hk2 HI.out
      obtain ⟨m, hm⟩ : ∃ m, m = n - 1 - k := ⟨_, rfl⟩
      rw [← hm] at hy fy HN ⊢
      have i1 : (k : Int) < (m : Int) := by omega
      have i2 : (k : Int) < (n : Int) := by omega
      have i3 : (m : Int) < (n : Int) := by omega
      have i4 : (0 : Int) ≤ (k : Int) := by omega
      have i5 : (0 : Int) ≤ (m : Int) := by omega
      have i6 : IntKind.i64.wrap ((m : Int) - 1) = ((n - 1 - (k + 1) : Nat) : Int) := by rw [IntKind.wrap_i64]; omega
      have fy2 : (w5.setCell ⟨g, k, none⟩ y).frozen? ⟨g, m, none⟩ = false := by rw [World.frozen?_setCell]; exact fy
      have hy2 : (w5.setCell ⟨g, k, none⟩ y).cell? ⟨g, m, none⟩ = some y := by rw [World.cell?_setCell_other _ _ _ _ (by intro e; injection e; omega)]; exact hy
      have hxd : w5.drew.cell? ⟨g, k, none⟩ = some x := hx
      have hyd : w5.drew.cell? ⟨g, m, none⟩ = some y := hy
      have fxd : w5.drew.frozen? ⟨g, k, none⟩ = false := fx
      have hyd2 : (w5.setCell ⟨g, k, none⟩ y).drew.cell? ⟨g, m, none⟩ = some y := hy2
      have fyd2 : (w5.setCell ⟨g, k, none⟩ y).drew.frozen? ⟨g, m, none⟩ = false := fy2
      subst hm
      clear HI
      obtain ⟨x0, rfl⟩ := ox; obtain ⟨y0, rfl⟩ := oy
      all_goals
        go_wp2
        go_region
        go_wp2
        go_roundw
        case rel => exact ⟨k + 1, by go_num, rfl, by omega, HN.out.1, HN.out.2.1, HN.out.2.2.drew⟩
        case measure => simp only [vuOf]; omega
    · have i1 : ¬ (k : Int) < ((n - 1 - k : Nat) : Int) := by omega
      have HR : Hid _ := HE.out k w5 hk2 hk HI.out
      clear HI HS HE
      go_wp2
      go_end0
      exact ⟨rfl, HR⟩
set_option maxRecDepth 100000 in
theorem inf_v : ∃ i z, Tryz.prog.info? 37 = some i ∧ i.zero = some z ∧ i.size = 1 ∧ i.bytes = 16 := ⟨_, _, rfl, rfl, rfl, rfl⟩
set_option maxRecDepth 100000 in
theorem clone_v {n c : Nat} {us : List Value} {ad : Addr} {w : World} (hl : us.length = n) (h0 : 0 < n) (hn : n ≤ 10000) (hu : ∀ j u, us[j]? = some u → w.cell? (ad.add j) = some u) : Calls Tryz.prog 78 #[.slice (some ad) n c] w fun e w' => ∃ g c', e = .returned (.slice (some ⟨g, 0, none⟩) n c') ∧ Hid (n ≤ c' ∧ RoP w w' g n (fun j => us[j]?)) := by
  obtain ⟨i, z, hi, hz, hs, hb⟩ := inf_v
  have hap : ∀ (W : World) (b : Addr), Only (fun _ => False) w W → ∃ c' cur, (∀ ty, (Builtin.append_ #[24, 24] ty #[.slice (some b) 0 0, .slice (some ad) n c]).run Tryz.prog W = .ok (.slice (some ⟨W.heap.size, 0, none⟩) n c') (W.drew.alloc (.cells cur 37))) ∧ n ≤ c' ∧ ∀ j, j < n → cur[j]? = us[j]? := fun W b o => by
    refine ⟨grownCap W n 0 37, us.toArray ++ Builtin.zeroCells z.cells (grownCap W n 0 37 - n), fun ty => ?_, grownCap_ge W n 0 37, fun j hj => ?_⟩
    · have h := run_append_grow (P := Tryz.prog) (w := W) 24 ty 37 i z Tryz.underlying24 hi hz b 0 0 [] (by simp) (fun j v h => by simp at h) ad n c us (by rw [hs, hl, Nat.mul_one]) (fun j u h => o.cell (hu j u h) (fun g => g)) (by omega) (by omega) (by rw [hb, Nat.zero_add, nextslicecap_zero h0]; omega)
      simpa using h
    · rw [Array.getElem?_append_left (by simp; omega)]
      simp
  have O0 : Hid (Only (fun _ => False) w w) := Only.refl _ _
  have HH : Hid (∀ (W : World) (c' g : Nat) (cur : Array Value), g = W.heap.size → Only (fun _ => False) w W → n ≤ c' → (∀ j, j < n → cur[j]? = us[j]?) → n ≤ c' ∧ RoP w (W.alloc (.cells cur 37)).drew g n (fun j => us[j]?)) := fun W c' g cur hg o a1 a3 => by
    have hb : (W.alloc (.cells cur 37)).drew.heap[g]? = some (.cells cur 37) := valloc_at W _ _ hg
    exact ⟨a1, by have := o.size; omega, fun j hj => ⟨(blk_cells hb j).trans (a3 j hj), blk_froz hb j⟩, (o.alloc _).drew⟩
  obtain ⟨c1, cur1, hap1, hc1, hcu1⟩ := hap (w.alloc (.cells #[] 37)) ⟨w.heap.size, 0, none⟩ (O0.out.alloc _)
  have HR : Hid _ := HH.out (w.alloc (.cells #[] 37)) c1 (w.heap.size + 1) cur1 (by simp) (O0.out.alloc _) hc1 hcu1
  have hne : ¬ n = 0 := by omega
  have hne2 : ¬ n ≤ 0 := by omega
  clear hi hz hs hb hl hn hu hap HH hc1 hcu1
  go_enter Tryz.func78, Tryz.ntmps78
  have hnil : ∀ W, (binOp .eql 24 (.slice (some ad) n c) (.slice none 0 0)).run Tryz.prog W = .ok (.bool false) W := fun W => by
    have := Lib.run_eql_slice_nil (P := Tryz.prog) W 24 37 (some ad) n c 0 0 Tryz.underlying24
    simpa using this
  have HA : Hid (∀ ty, (Builtin.append_ #[24, 24] ty #[.slice (some ⟨w.heap.size, 0, none⟩) 0 0, .slice (some ad) n c]).run Tryz.prog (w.alloc (.cells #[] 37)) = .ok (.slice (some ⟨(w.alloc (.cells #[] 37)).heap.size, 0, none⟩) n c1) ((w.alloc (.cells #[] 37)).drew.alloc (.cells cur1 37))) := hap1
  clear hap1
  go_wp2_with (at_builtin; refine vwpList_append_run rfl _ _ 24 rfl _ _ _ rfl rfl HA.out ?_)
  go_wp2
  go_ret
  exact ⟨_, _, rfl, HR⟩
set_option maxRecDepth 100000 in
theorem reverse_v {n c g : Nat} {us : List Value} {w0 w : World} (hl : us.length = n) (h0 : 0 < n) (hn : n ≤ 10000) (h1 : ∀ u ∈ us, u = .nilIface ∨ ∃ T z, u = .iface T z) (h : RoP w0 w g n (fun j => us[j]?)) : Calls Tryz.prog 79 #[.slice (some ⟨g, 0, none⟩) n c] w fun e w' => e = .returned (.tuple #[]) ∧ Hid (RoP w0 w' g n (fun j => us[n - 1 - j]?)) := by
  have HI0 : Hid (RoP w0 w g n (fun j => us[rvI n 0 j]?)) := ⟨h.1, fun j hj => ⟨(h.2.1 j hj).1.trans (by dsimp only; rw [show rvI n 0 j = j by unfold rvI; split <;> omega]), (h.2.1 j hj).2⟩, h.2.2⟩
  have HS : Hid (∀ k W, 2 * k + 1 < n → RoP w0 W g n (fun j => us[rvI n k j]?) → ∃ x y, W.cell? ⟨g, k, none⟩ = some x ∧ W.cell? ⟨g, n - 1 - k, none⟩ = some y ∧ (x = .nilIface ∨ ∃ T z, x = .iface T z) ∧ (y = .nilIface ∨ ∃ T z, y = .iface T z) ∧ W.frozen? ⟨g, k, none⟩ = false ∧ W.frozen? ⟨g, n - 1 - k, none⟩ = false ∧ Hid (RoP w0 ((W.setCell ⟨g, k, none⟩ y).setCell ⟨g, n - 1 - k, none⟩ x) g n (fun j => us[rvI n (k + 1) j]?))) := fun k W hk hR => by
    have hx : us[k]? = some (us[k]'(by omega)) := List.getElem?_eq_getElem _
    have hy : us[n - 1 - k]? = some (us[n - 1 - k]'(by omega)) := List.getElem?_eq_getElem _
    refine ⟨_, _, (hR.2.1 k (by omega)).1.trans ((congrArg (fun i => us[i]?) (show rvI n k k = k by unfold rvI; split <;> omega)).trans hx), (hR.2.1 (n - 1 - k) (by omega)).1.trans ((congrArg (fun i => us[i]?) (show rvI n k (n - 1 - k) = n - 1 - k by unfold rvI; split <;> omega)).trans hy), h1 _ (List.getElem_mem _), h1 _ (List.getElem_mem _), (hR.2.1 k (by omega)).2, (hR.2.1 (n - 1 - k) (by omega)).2, hR.swap hk hl hx hy⟩
  have HE : Hid (∀ k W, ¬ 2 * k + 1 < n → 2 * k ≤ n → RoP w0 W g n (fun j => us[rvI n k j]?) → RoP w0 W g n (fun j => us[n - 1 - j]?)) := fun k W hk hk2 hR => ⟨hR.1, fun j hj => ⟨(hR.2.1 j hj).1.trans (congrArg (fun i => us[i]?) (show rvI n k j = n - 1 - j by unfold rvI; split <;> omega)), (hR.2.1 j hj).2⟩, hR.2.2⟩
  have i0 : IntKind.i64.wrap ((n : Int) - 1) = ((n - 1 : Nat) : Int) := by rw [IntKind.wrap_i64]; omega
  clear hl h1 h
  go_enter Tryz.func79, Tryz.ntmps79
  go_wp2
  go_loopw [2, 3] (fun r x wr => ∃ k : Nat, r = .int .i64 (k : Int) ∧ x = .int .i64 ((n - 1 - k : Nat) : Int) ∧ 2 * k ≤ n ∧ Hid (RoP w0 wr g n (fun j => us[rvI n k j]?))) (fun r _ _ => n - vuOf r)
  case atStart => exact ⟨0, rfl, rfl, by omega, HI0⟩
  case round =>
    obtain ⟨k, rfl, rfl, hk, HI⟩ := hrel
    obtain ⟨w5, hw5⟩ : ∃ w5, w5 = wr := ⟨_, rfl⟩
    rw [← hw5] at HI ⊢
    clear hw5 HI0
    by_cases hk2 : 2 * k + 1 < n
    · obtain ⟨x, y, hx, hy, ox, oy, fx, fy, HN⟩ := HS.out k w5 hk2 HI.out
      obtain ⟨m, hm⟩ : ∃ m, m = n - 1 - k := ⟨_, rfl⟩
      rw [← hm] at hy fy HN ⊢
      have i1 : (k : Int) < (m : Int) := by omega
      have i2 : (k : Int) < (n : Int) := by omega
      have i3 : (m : Int) < (n : Int) := by omega
      have i4 : (0 : Int) ≤ (k : Int) := by omega
      have i5 : (0 : Int) ≤ (m : Int) := by omega
      have i6 : IntKind.i64.wrap ((m : Int) - 1) = ((n - 1 - (k + 1) : Nat) : Int) := by rw [IntKind.wrap_i64]; omega
      have fy2 : (w5.setCell ⟨g, k, none⟩ y).frozen? ⟨g, m, none⟩ = false := by rw [World.frozen?_setCell]; exact fy
      have hy2 : (w5.setCell ⟨g, k, none⟩ y).cell? ⟨g, m, none⟩ = some y := by rw [World.cell?_setCell_other _ _ _ _ (by intro e; injection e; omega)]; exact hy
      have hxd : w5.drew.cell? ⟨g, k, none⟩ = some x := hx
      have hyd : w5.drew.cell? ⟨g, m, none⟩ = some y := hy
      have fxd : w5.drew.frozen? ⟨g, k, none⟩ = false := fx
      have hyd2 : (w5.setCell ⟨g, k, none⟩ y).drew.cell? ⟨g, m, none⟩ = some y := hy2
      have fyd2 : (w5.setCell ⟨g, k, none⟩ y).drew.frozen? ⟨g, m, none⟩ = false := fy2
      subst hm
      clear HI
      rcases ox with rfl | ⟨T1, z1, rfl⟩ <;> rcases oy with rfl | ⟨T2, z2, rfl⟩
      all_goals
        go_wp2
        go_region
        go_wp2
        go_roundw
        case rel => exact ⟨k + 1, by go_num, rfl, by omega, HN.out.1, HN.out.2.1, HN.out.2.2.drew⟩
        case measure => simp only [vuOf]; omega
    · have i1 : ¬ (k : Int) < ((n - 1 - k : Nat) : Int) := by omega
      have HR : Hid _ := HE.out k w5 hk2 hk HI.out
      clear HI HS HE
      go_wp2
      go_end0
      exact ⟨rfl, HR⟩
end Go.Proofs.YtioffjdjnlibgaaGreatDoor
namespace Go.Proofs.YtioffjdjnlibgaaGreatDoor
open Go.RowKit Go.Lib
set_option linter.unusedSimpArgs false
set_option linter.unusedVariables false
set_option maxRecDepth 100000 in
theorem clone0_r (ao : Option Addr) (c : Nat) (w : World) : Calls Tryz.prog 76 #[.slice ao 0 c] w fun e w' => ∃ a' c', e = .returned (.slice a' 0 c') ∧ Only (fun _ => False) w w' := by
  obtain ⟨i, z, hi, hz, hs, hb⟩ := inf_r
  have O0 : Hid (Only (fun _ => False) w w) := Only.refl _ _
  cases ao with
  | none =>
    have hnil : ∀ W, (binOp .eql 121 (.slice none 0 c) (.slice none 0 0)).run Tryz.prog W = .ok (.bool true) W := fun W => by
      have := Lib.run_eql_slice_nil (P := Tryz.prog) W 121 21 none 0 c 0 0 Tryz.underlying121
      simpa using this
    clear hi hz hs hb
    go_enter Tryz.func76, Tryz.ntmps76
    go_wp2
    go_ret
    exact ⟨_, _, rfl, O0.out⟩
  | some ad =>
    have hnil : ∀ W, (binOp .eql 121 (.slice (some ad) 0 c) (.slice none 0 0)).run Tryz.prog W = .ok (.bool false) W := fun W => by
      have := Lib.run_eql_slice_nil (P := Tryz.prog) W 121 21 (some ad) 0 c 0 0 Tryz.underlying121
      simpa using this
    have HA : Hid (∀ ty, (Builtin.append_ #[121, 121] ty #[.slice (some ⟨w.heap.size, 0, none⟩) 0 0, .slice (some ad) 0 c]).run Tryz.prog (w.alloc (.cells #[] 21)) = .ok (.slice (some ⟨w.heap.size, 0, none⟩) 0 0) (w.alloc (.cells #[] 21))) := fun ty => by
      have hf := run_firstCells_some (P := Tryz.prog) (w.alloc (.cells #[] 21)) i.size 0 ad 0 c [] (by simp) (fun j v h => by simp at h)
      simp [Builtin.append_, run_underlying Tryz.underlying121, sizeOf, typeInfo, hi, Builtin.lenOf, hf, storeCells, loadCellsFrom, loadCells]
    clear hi hz hs hb
    go_enter Tryz.func76, Tryz.ntmps76
    go_wp2_with (at_builtin; refine vwpList_append_run rfl _ _ 121 rfl _ _ _ rfl rfl HA.out ?_)
    go_wp2
    go_ret
    exact ⟨_, _, rfl, O0.out.alloc _⟩
set_option maxRecDepth 100000 in
theorem reverse0_r (ao : Option Addr) (c : Nat) (w : World) : Calls Tryz.prog 77 #[.slice ao 0 c] w fun e w' => e = .returned (.tuple #[]) ∧ w' = w := by
  go_enter Tryz.func77, Tryz.ntmps77
  go_wp2
  go_loopw [2, 3] (fun r x wr => r = .int .i64 0 ∧ x = .int .i64 (-1) ∧ wr = w) (fun _ _ _ => 0)
  case atStart => exact ⟨rfl, rfl, rfl⟩
  case round =>
    obtain ⟨rfl, rfl, rfl⟩ := hrel
    go_wp2
    go_end0
    exact ⟨rfl, rfl⟩
set_option maxRecDepth 100000 in
theorem backwards0_r (ao : Option Addr) (c : Nat) (w : World) : Calls Tryz.prog 62 #[.slice ao 0 c] w fun e w' => ∃ a' c', e = .returned (.slice a' 0 c') ∧ Only (fun _ => False) w w' := by
  have HC : Hid _ := clone0_r ao c w
  have HR : Hid (∀ a' c' W, Calls Tryz.prog 77 #[.slice a' 0 c'] W fun e w' => e = .returned (.tuple #[]) ∧ w' = W) := reverse0_r
  go_enter Tryz.func62, Tryz.ntmps62
  go_wp2_with fail
  refine (show Calls Tryz.prog 76 _ _ _ from HC.out).mono ?_
  rintro e w1 ⟨a1, c1, rfl, o1⟩
  have O1 : Hid (Only (fun _ => False) w w1) := o1
  clear HC o1
  go_wp2_with fail
  refine (show Calls Tryz.prog 77 _ _ _ from HR.out _ _ _).mono ?_
  rintro e w2 ⟨rfl, hw⟩
  obtain rfl := hw.symm
  clear HR
  go_wp2
  go_ret
  exact ⟨_, _, rfl, O1.out⟩
set_option maxRecDepth 100000 in
theorem backwards_r {n c : Nat} {us : List Value} {ad : Addr} {w : World} (hl : us.length = n) (h0 : 0 < n) (hn : n ≤ 10000) (h1 : ∀ u ∈ us, ∃ b : Int, u = .int .i32 b) (hu : ∀ j u, us[j]? = some u → w.cell? (ad.add j) = some u) : Calls Tryz.prog 62 #[.slice (some ad) n c] w fun e w' => ∃ g c', e = .returned (.slice (some ⟨g, 0, none⟩) n c') ∧ Hid (n ≤ c' ∧ RoP w w' g n (fun j => us[n - 1 - j]?)) := by
  have HC : Hid _ := clone_r (c := c) hl h0 hn hu
  have HR : Hid (∀ g c' W, RoP w W g n (fun j => us[j]?) → Calls Tryz.prog 77 #[.slice (some ⟨g, 0, none⟩) n c'] W fun e w' => e = .returned (.tuple #[]) ∧ Hid (RoP w w' g n (fun j => us[n - 1 - j]?))) := fun g c' W h => reverse_r hl h0 hn h1 h
  clear hl h0 hn h1 hu
  go_enter Tryz.func62, Tryz.ntmps62
  go_wp2_with fail
  refine (show Calls Tryz.prog 76 _ _ _ from HC.out).mono ?_
  rintro e w1 ⟨g, c1, rfl, G1⟩
  clear HC
  go_wp2_with fail
  refine (show Calls Tryz.prog 77 _ _ _ from HR.out _ _ _ G1.out.2).mono ?_
  rintro e w2 ⟨rfl, G2⟩
  have HP : Hid (n ≤ c1 ∧ RoP w w2 g n (fun j => us[n - 1 - j]?)) := ⟨G1.out.1, G2.out⟩
  clear HR G1 G2
  go_wp2
  go_ret
  exact ⟨_, _, rfl, HP⟩
set_option maxRecDepth 100000 in
theorem clone0_v (ao : Option Addr) (c : Nat) (w : World) : Calls Tryz.prog 78 #[.slice ao 0 c] w fun e w' => ∃ a' c', e = .returned (.slice a' 0 c') ∧ Only (fun _ => False) w w' := by
  obtain ⟨i, z, hi, hz, hs, hb⟩ := inf_v
  have O0 : Hid (Only (fun _ => False) w w) := Only.refl _ _
  cases ao with
  | none =>
    have hnil : ∀ W, (binOp .eql 24 (.slice none 0 c) (.slice none 0 0)).run Tryz.prog W = .ok (.bool true) W := fun W => by
      have := Lib.run_eql_slice_nil (P := Tryz.prog) W 24 37 none 0 c 0 0 Tryz.underlying24
      simpa using this
    clear hi hz hs hb
    go_enter Tryz.func78, Tryz.ntmps78
    go_wp2
    go_ret
    exact ⟨_, _, rfl, O0.out⟩
  | some ad =>
    have hnil : ∀ W, (binOp .eql 24 (.slice (some ad) 0 c) (.slice none 0 0)).run Tryz.prog W = .ok (.bool false) W := fun W => by
      have := Lib.run_eql_slice_nil (P := Tryz.prog) W 24 37 (some ad) 0 c 0 0 Tryz.underlying24
      simpa using this
    have HA : Hid (∀ ty, (Builtin.append_ #[24, 24] ty #[.slice (some ⟨w.heap.size, 0, none⟩) 0 0, .slice (some ad) 0 c]).run Tryz.prog (w.alloc (.cells #[] 37)) = .ok (.slice (some ⟨w.heap.size, 0, none⟩) 0 0) (w.alloc (.cells #[] 37))) := fun ty => by
      have hf := run_firstCells_some (P := Tryz.prog) (w.alloc (.cells #[] 37)) i.size 0 ad 0 c [] (by simp) (fun j v h => by simp at h)
      simp [Builtin.append_, run_underlying Tryz.underlying24, sizeOf, typeInfo, hi, Builtin.lenOf, hf, storeCells, loadCellsFrom, loadCells]
    clear hi hz hs hb
    go_enter Tryz.func78, Tryz.ntmps78
    go_wp2_with (at_builtin; refine vwpList_append_run rfl _ _ 24 rfl _ _ _ rfl rfl HA.out ?_)
    go_wp2
    go_ret
    exact ⟨_, _, rfl, O0.out.alloc _⟩
set_option maxRecDepth 100000 in
theorem reverse0_v (ao : Option Addr) (c : Nat) (w : World) : Calls Tryz.prog 79 #[.slice ao 0 c] w fun e w' => e = .returned (.tuple #[]) ∧ w' = w := by
  go_enter Tryz.func79, Tryz.ntmps79
  go_wp2
  go_loopw [2, 3] (fun r x wr => r = .int .i64 0 ∧ x = .int .i64 (-1) ∧ wr = w) (fun _ _ _ => 0)
  case atStart => exact ⟨rfl, rfl, rfl⟩
  case round =>
    obtain ⟨rfl, rfl, rfl⟩ := hrel
    go_wp2
    go_end0
    exact ⟨rfl, rfl⟩
set_option maxRecDepth 100000 in
theorem backwards0_v (ao : Option Addr) (c : Nat) (w : World) : Calls Tryz.prog 63 #[.slice ao 0 c] w fun e w' => ∃ a' c', e = .returned (.slice a' 0 c') ∧ Only (fun _ => False) w w' := by
  have HC : Hid _ := clone0_v ao c w
  have HR : Hid (∀ a' c' W, Calls Tryz.prog 79 #[.slice a' 0 c'] W fun e w' => e = .returned (.tuple #[]) ∧ w' = W) := reverse0_v
  go_enter Tryz.func63, Tryz.ntmps63
  go_wp2_with fail
  refine (show Calls Tryz.prog 78 _ _ _ from HC.out).mono ?_
  rintro e w1 ⟨a1, c1, rfl, o1⟩
  have O1 : Hid (Only (fun _ => False) w w1) := o1
  clear HC o1
  go_wp2_with fail
  refine (show Calls Tryz.prog 79 _ _ _ from HR.out _ _ _).mono ?_
  rintro e w2 ⟨rfl, hw⟩
  obtain rfl := hw.symm
  clear HR
  go_wp2
  go_ret
  exact ⟨_, _, rfl, O1.out⟩
set_option maxRecDepth 100000 in
theorem backwards_v {n c : Nat} {us : List Value} {ad : Addr} {w : World} (hl : us.length = n) (h0 : 0 < n) (hn : n ≤ 10000) (h1 : ∀ u ∈ us, u = .nilIface ∨ ∃ T z, u = .iface T z) (hu : ∀ j u, us[j]? = some u → w.cell? (ad.add j) = some u) : Calls Tryz.prog 63 #[.slice (some ad) n c] w fun e w' => ∃ g c', e = .returned (.slice (some ⟨g, 0, none⟩) n c') ∧ Hid (n ≤ c' ∧ RoP w w' g n (fun j => us[n - 1 - j]?)) := by
  have HC : Hid _ := clone_v (c := c) hl h0 hn hu
  have HR : Hid (∀ g c' W, RoP w W g n (fun j => us[j]?) → Calls Tryz.prog 79 #[.slice (some ⟨g, 0, none⟩) n c'] W fun e w' => e = .returned (.tuple #[]) ∧ Hid (RoP w w' g n (fun j => us[n - 1 - j]?))) := fun g c' W h => reverse_v hl h0 hn h1 h
  clear hl h0 hn h1 hu
  go_enter Tryz.func63, Tryz.ntmps63
  go_wp2_with fail
  refine (show Calls Tryz.prog 78 _ _ _ from HC.out).mono ?_
  rintro e w1 ⟨g, c1, rfl, G1⟩
  clear HC
  go_wp2_with fail
  refine (show Calls Tryz.prog 79 _ _ _ from HR.out _ _ _ G1.out.2).mono ?_
  rintro e w2 ⟨rfl, G2⟩
  have HP : Hid (n ≤ c1 ∧ RoP w w2 g n (fun j => us[n - 1 - j]?)) := ⟨G1.out.1, G2.out⟩
  clear HR G1 G2
  go_wp2
  go_ret
  exact ⟨_, _, rfl, HP⟩
theorem uexists_list {α : Type} : ∀ (len : Nat) (p : Nat → α → Prop), (∀ i, i < len → ∃ x, p i x) → ∃ l : List α, l.length = len ∧ ∀ i (h : i < l.length), p i l[i]
  | 0, _, _ => ⟨[], rfl, fun i h => by simp at h⟩
  | n + 1, p, hp => by
    obtain ⟨l, hl, hq⟩ := uexists_list n p (fun i hi => hp i (by omega))
    obtain ⟨x, hx⟩ := hp n (by omega)
    refine ⟨l ++ [x], by simp [hl], fun i hi => ?_⟩
    by_cases e : i < l.length
    · rw [List.getElem_append_left e]; exact hq i e
    · have : i = l.length := by simp at hi; omega
      subst this
      rw [List.getElem_append_right (by omega)]
      simpa [hl] using hx
/-- the other way round -/
def rvT (t : Vt) : Vt := if t.k = 2 then stT (tx (rns t.s).reverse) else ⟨4, 0, ⟨#[]⟩, t.l.reverse⟩
set_option maxRecDepth 100000 in
theorem turned_str {q : List Nat} (hv : VL q) (hq : (tx q).size ≤ 4096) (w : World) : Calls Tryz.prog 43 #[.iface 56 (.agg #[.string (tx q)])] w fun e w' => e = .returned (.iface 56 (.agg #[.string (tx q.reverse)])) ∧ Only (fun _ => False) w w' := by
  obtain ⟨C, A, hc1, hc2, hc3⟩ := cv_runes hv hq
  have hi := uas_hit 56 37 _ Tryz.underlying56 (by intro m h; cases h)
  have hlen : q.length ≤ 4096 := by have := len_wl q; rw [tx_size] at hq; omega
  have HB : Hid (∀ (W : World) (g : Nat), g = W.heap.size → Calls Tryz.prog 62 #[.slice (some ⟨g, 0, none⟩) q.length (C W)] (W.alloc (.cells (A W) 21)).drew fun e w' => ∃ a c', e = .returned (.slice a q.length c') ∧ (convert 121 9 (.slice a q.length c')).run Tryz.prog w' = .ok (.string (tx q.reverse)) w' ∧ Hid (Only (fun _ => False) (W.alloc (.cells (A W) 21)).drew w')) := fun W g hg => by
    subst hg
    rw [show (W.alloc (.cells (A W) 21)).drew = W.drew.alloc (.cells (A W) 21) from rfl]
    by_cases h0 : q.length = 0
    · rw [h0]
      have hq0 : q = [] := List.length_eq_zero_iff.1 h0
      refine (backwards0_r _ (C W) _).mono fun e w' g => ?_
      obtain ⟨a', c', he, o⟩ := g
      refine ⟨a', c', he, ?_, o⟩
      cases a' with
      | none =>
        rw [run_convert_runes_nil (P := Tryz.prog) w' 121 9 21 0 c' Tryz.underlying121 Tryz.underlying21 Tryz.underlying9, hq0]
        rfl
      | some a =>
        have := run_convert_runes (P := Tryz.prog) w' 121 9 21 a 0 c' [] (by simp) Tryz.underlying121 Tryz.underlying21 Tryz.underlying9 (fun j hj => by simp at hj)
        rw [this, hq0]
        rfl
    · have hus : ∀ j, ((q.map fun (r : Nat) => Value.int .i32 (r : Int)))[j]? = (q[j]?).map fun (r : Nat) => Value.int .i32 (r : Int) := fun j => by rw [List.getElem?_map]
      refine (backwards_r (us := q.map fun (r : Nat) => Value.int .i32 (r : Int)) (c := C W) (by simp) (by omega) (by omega) (fun u hu => by obtain ⟨r, _, rfl⟩ := List.mem_map.1 hu; exact ⟨_, rfl⟩) (fun j u hu => ?_)).mono fun e w' g => ?_
      · rw [hus] at hu
        obtain ⟨r, hr, rfl⟩ := Option.map_eq_some_iff.1 hu
        rw [Addr.add_mid, Nat.zero_add, hc3 W j (List.getElem?_eq_some_iff.1 hr).1, List.getD_eq_getElem?_getD, hr]
        rfl
      · obtain ⟨g, c', he, g2⟩ := g
        obtain ⟨g3, g4, g5, g6⟩ := g2.out
        refine ⟨_, c', he, ?_, g6⟩
        have := cv_mid (W := w') (g := g) (a := 0) (c := c') (L := 0) (q := q.reverse) (vl_rev hv) (fun j hj => by
          rw [List.length_reverse] at hj
          rw [(g5 j hj).1]
          dsimp only
          rw [hus, List.getD_eq_getElem?_getD, List.getElem?_reverse hj, List.getElem?_eq_getElem (show q.length - 1 - j < q.length by omega)]
          rfl) 0 q.length (by rw [List.length_reverse]; omega) (fun _ => rfl)
        rw [List.drop_zero, List.take_of_length_le (by rw [List.length_reverse]; exact Nat.le_refl _)] at this
        exact this
  obtain ⟨s, hs⟩ : ∃ s, s = tx q := ⟨_, rfl⟩
  obtain ⟨L, hL⟩ : ∃ L, L = q.length := ⟨_, rfl⟩
  obtain ⟨r, hr⟩ : ∃ r, r = tx q.reverse := ⟨_, rfl⟩
  rw [← hs] at hc1 ⊢
  rw [← hL] at hc1 HB
  rw [← hr] at HB ⊢
  have O0 : Hid (Only (fun _ => False) w w) := Only.refl _ _
  clear hv hq hc2 hc3 hs hL hr hlen
  go_enter Tryz.func43, Tryz.ntmps43
  go_wp2_with fail
  refine (show Calls Tryz.prog 62 _ _ _ from HB.out (w.alloc (.cells #[.string s] 56)) _ (by simp)).mono ?_
  rintro e w1 ⟨a, c', rfl, hcv, o1⟩
  have O1 : Hid (Only (fun _ => False) w w1) := ((O0.out.alloc _).alloc _).drew.trans o1.out (fun _ _ g => g)
  clear HB o1
  go_wp2
  go_ret
  exact ⟨rfl, O1.out⟩
/-- what comes of a list -/
def TlP (d : Nat) (l : List Vt) (S : Nat → Prop) (w : World) (e : Ending) (w' : World) : Prop :=
  ∃ ao' c', e = .returned (.iface 34 (.agg #[.slice ao' l.length c'])) ∧ l.length ≤ c' ∧ (∃ S', PsAt w' S' d false l.reverse ao' ∧ ∀ b, S' b → b < w'.heap.size) ∧ Only (fun _ => False) w w'
set_option maxRecDepth 100000 in
theorem turned_list {d : Nat} {l : List Vt} {ao : Option Addr} {c : Nat} {w : World} {S : Nat → Prop} (hl : PsAt w S d false l ao) (hS : ∀ b, S b → b < w.heap.size) (hc : l.length ≤ c) (hb : l.length ≤ 10000) : Calls Tryz.prog 43 #[.iface 34 (.agg #[.slice ao l.length c])] w fun e w' => TlP d l S w e w' := by
  have mStr := uas_miss 34 56 37 _ Tryz.underlying56 (by intro m h; cases h) (by decide) _ uzero_Str
  have hi := uas_hit 34 37 _ Tryz.underlying34 (by intro m h; cases h)
  have O0 : Hid (Only (fun _ => False) w w) := Only.refl _ _
  obtain ⟨L, hL⟩ : ∃ L, L = l.length := ⟨_, rfl⟩
  have HB : Hid (∀ (W : World), Only (fun _ => False) w W → Calls Tryz.prog 63 #[.slice ao L c] W fun e w' => ∃ a c', e = .returned (.slice a L c') ∧ Hid (TlP d l S w (.returned (.iface 34 (.agg #[.slice a L c']))) w')) := fun W o => by
    rw [hL]
    by_cases h0 : l.length = 0
    · rw [h0]
      have hl0 : l = [] := List.length_eq_zero_iff.1 h0
      refine (backwards0_v _ c W).mono fun e w' g => ?_
      obtain ⟨a', c', he, o2⟩ := g
      refine ⟨a', c', he, a', c', by rw [h0], by omega, ⟨fun _ => False, fun j x hx => by rw [hl0] at hx; simp at hx, fun _ g => g.elim⟩, o.trans o2 (fun _ _ g => g)⟩
    · obtain ⟨g0, q0, u0, ha, _⟩ := hl 0 l[0] (List.getElem?_eq_getElem (by omega))
      subst ha
      have hex : ∀ j, j < l.length → ∃ u, w.cell? ⟨g0, q0 + j, none⟩ = some u ∧ TiAt w S d false (l.getD j zT) u := fun j hj => by
        obtain ⟨g, q, u, p1, p2, p3, p4⟩ := hl j l[j] (List.getElem?_eq_getElem hj)
        cases p1
        refine ⟨u, p3, ?_⟩
        rw [List.getD_eq_getElem?_getD, List.getElem?_eq_getElem hj]
        exact p4
      obtain ⟨us, hul, hus⟩ := uexists_list l.length (fun j u => w.cell? ⟨g0, q0 + j, none⟩ = some u ∧ TiAt w S d false (l.getD j zT) u) hex
      refine (backwards_v (us := us) (c := c) hul (by omega) hb (fun u hu => ?_) (fun j u hu => ?_)).mono fun e w' g => ?_
      · obtain ⟨j, hj, rfl⟩ := List.getElem_of_mem hu
        exact (hus j hj).2.shape2
      · obtain ⟨hj, rfl⟩ := List.getElem?_eq_some_iff.1 hu
        rw [Addr.add_mid]
        exact o.cell (hus j hj).1 (fun g => g)
      · obtain ⟨g, c', he, g2⟩ := g
        obtain ⟨g3, g4, g5, g6⟩ := g2.out
        refine ⟨_, c', he, _, c', rfl, g3, ⟨fun b => S b ∨ b = g, fun j x hx => ?_, fun b hb => ?_⟩, o.trans g6 (fun _ _ g => g)⟩
        · have hj : j < l.length := by have := (List.getElem?_eq_some_iff.1 hx).1; simpa using this
          rw [List.getElem?_reverse hj] at hx
          have hj2 : l.length - 1 - j < us.length := by omega
          have hcell := (g5 j hj).1
          dsimp only at hcell
          rw [List.getElem?_eq_getElem hj2] at hcell
          refine ⟨g, 0, _, rfl, .inr rfl, by rw [Nat.zero_add]; exact hcell, ?_⟩
          have ht := (hus (l.length - 1 - j) hj2).2
          rw [List.getD_eq_getElem?_getD, hx] at ht
          exact ((ht.only o (fun _ _ g => g)).only g6 (fun _ _ g => g)).step (fun _ g => .inl g) (fun _ _ _ g => g) (Nat.le_refl _)
        · rcases hb with hb | rfl
          · exact Nat.lt_of_lt_of_le (hS b hb) (Nat.le_trans o.size g6.size)
          · have := (g5 0 (by omega)).1
            dsimp only at this
            rw [List.getElem?_eq_getElem (show l.length - 1 - 0 < us.length by omega)] at this
            exact World.block_lt_of_cell? w' _ this
  rw [← hL]
  clear hl hS hc hb hL
  go_enter Tryz.func43, Tryz.ntmps43
  go_wp2_with fail
  refine (show Calls Tryz.prog 63 _ _ _ from HB.out _ (O0.out.alloc _)).mono ?_
  rintro e w1 ⟨a, c', rfl, HP⟩
  clear HB
  go_wp2
  go_ret
  exact HP.out
/-- the other way round -/
theorem turned_any {D : Nat} {x : Vt} {u : Value} {w : World} {S : Nat → Prop} (hx : TiAt w S D false x u) (hS : ∀ b, S b → b < w.heap.size) (kx : x.k = 2 ∨ x.k = 4) (sq : x.k = 2 → ∃ q, VL q ∧ x.s = tx q) (sx : x.k = 2 → x.s.size ≤ 4096) (lx : x.l.length ≤ 10000) (mx : ∃ e, SmT e x) : Calls Tryz.prog 43 #[u] w fun e w' => ∃ T y, e = .returned (.iface T y) ∧ (∃ S, TiAt w' S D false (rvT x) (.iface T y) ∧ ∀ b, S b → b < w'.heap.size) ∧ (∃ e, SmT e (rvT x)) ∧ Only (fun _ => False) w w' := by
  unfold rvT
  cases D with
  | zero => exact hx.elim
  | succ D =>
  by_cases h2 : x.k = 2
  · rw [if_pos h2]
    obtain ⟨q, hv, hs⟩ := sq h2
    have e1 := ti_2 hx h2
    subst e1
    have hz := sx h2
    rw [hs] at hz ⊢
    rw [rns_tx hv]
    refine (turned_str hv hz w).mono fun e w' g => ?_
    obtain ⟨he, o⟩ := g
    refine ⟨_, _, he, ⟨fun _ => False, st_ti w' _ D _, fun _ g => g.elim⟩, st_sm ?_, o⟩
    have := tx_rev q
    omega
  · rw [if_neg h2]
    have k4 : x.k = 4 := by omega
    rcases hx with ⟨e, _⟩ | ⟨e, _⟩ | ⟨e, _⟩ | ⟨e, _⟩ | ⟨e, _⟩ | ⟨_, a1, c1, rfl, q1, p1⟩
    · omega
    · omega
    · omega
    · omega
    · omega
    rw [if_pos k4]
    rw [show decide (x.k = 5) = false by rw [k4]; rfl] at p1
    refine (turned_list (c := c1) p1 hS q1 lx).mono fun e w' g => ?_
    obtain ⟨ao', c', he, g1, ⟨S', g2, g3⟩, o⟩ := g
    refine ⟨_, _, he, ⟨S', ?_, g3⟩, jl_sm (.inl rfl) (fun t ht => sm_parts mx t (List.mem_reverse.1 ht)) (by rw [List.length_reverse]; omega), o⟩
    refine .inr (.inr (.inr (.inr (.inr ⟨.inl rfl, ao', c', ?_, ?_, ?_⟩))))
    · dsimp only
      rw [List.length_reverse]
      rfl
    · dsimp only
      rw [List.length_reverse]
      exact g1
    · exact g2
set_option maxRecDepth 100000 in
theorem md_reverse : MdC ⟨#[114, 101, 118, 101, 114, 115, 101]⟩ [10] (fun _ l => .ok (rvT (l.getD 0 zT))) := by
  intro d l G q w S hl hS hlen hsm hsd hf hT
  obtain ⟨x, rfl, hk⟩ := fit1 hlen hf
  obtain ⟨g, k, u, ha, hg, hc, ht⟩ := hl 0 x rfl
  cases ha
  have hsx : sdB d x = true := by simpa using hsd
  have HL : Hid _ := turned_any (ht.step (fun _ g => g) (fun _ _ _ g => g) (show d ≤ d + 2 by omega)) hS (fb_10 hk) (sd_q hsx) (sd_str hsx) (by have := sd_len hsx; omega) (hsm x (by simp))
  show Calls Tryz.prog 28 #[_, .slice (some ⟨G, q, none⟩) 1 1] w fun e w' => MdP (.ok (rvT x)) (d + 2) w e w'
  have hc0 : w.cell? ⟨G, q, none⟩ = some u := hc
  obtain ⟨T1, y1, rfl⟩ := ht.iface (by have := fb_10 hk; omega)
  obtain ⟨R, hR⟩ : ∃ R, R = rvT x := ⟨_, rfl⟩
  rw [← hR] at HL ⊢
  clear hl hS hlen hsm hsd hf hT hk hg hc ht hsx hR
  go_enter Tryz.func28, Tryz.ntmps28
  go_wp2_with fail
  refine (show Calls Tryz.prog 43 _ _ _ from HL.out).mono ?_
  rintro e w1 ⟨T, y, rfl, h1, h2, o1⟩
  have HP : Hid (MdP (.ok R) (d + 2) w (.returned (.tuple #[.iface T y, .int .i64 0])) w1) := ⟨_, rfl, h1, h2, o1⟩
  clear HL o1 h1 h2
  go_wp2
  go_ret2
  exact HP.out
end Go.Proofs.YtioffjdjnlibgaaGreatDoor
namespace Go.Proofs.YtioffjdjnlibgaaGreatDoor
open Go.RowKit Go.Lib
set_option linter.unusedSimpArgs false
set_option linter.unusedVariables false
set_option maxRecDepth 100000 in
set_option maxHeartbeats 8000000 in
theorem md_slice : MdC ⟨#[115, 108, 105, 99, 101]⟩ [1, 1, 10] (fun _ l => pcR (l.getD 0 zT).n (l.getD 1 zT).n (l.getD 2 zT)) := by
  intro d l G q w S hl hS hlen hsm hsd hf hT
  obtain ⟨x, y, z, rfl, hk, hk2, hk3⟩ := fit3 hlen hf
  obtain ⟨g, k, u, ha, hg, hc, ht⟩ := hl 0 x rfl
  cases ha
  obtain ⟨g2, k2, u2, ha2, hg2, hc2, ht2⟩ := hl 1 y rfl
  cases ha2
  obtain ⟨g3, k3, u3, ha3, hg3, hc3, ht3⟩ := hl 2 z rfl
  cases ha3
  have hu := ti_1 ht (fb_1 hk)
  subst hu
  have hu2 := ti_1 ht2 (fb_1 hk2)
  subst hu2
  have hsd' : sdB d x = true ∧ sdB d y = true ∧ sdB d z = true := by simpa [and_assoc] using hsd
  show Calls Tryz.prog 28 #[_, .slice (some ⟨G, q, none⟩) 3 3] w fun e w' => MdP (pcR x.n y.n z) (d + 2) w e w'
  obtain ⟨n, hn⟩ : ∃ n, n = x.n := ⟨_, rfl⟩
  obtain ⟨m, hm⟩ : ∃ m, m = y.n := ⟨_, rfl⟩
  rw [← hn] at hc
  rw [← hm] at hc2
  rw [← hn, ← hm]
  obtain ⟨Y, hY⟩ : ∃ Y, Y = pcR n m z := ⟨_, rfl⟩
  have HE : Hid (∀ W, Only (fun _ => False) w W → Calls Tryz.prog 42 #[.int .i64 n, .int .i64 m, u3] W fun e w' => MdP Y (d + 2) W e w') := fun W o => by
    rw [hY]
    exact piece_any ((ht3.only o (fun _ _ g => g)).step (fun _ g => g) (fun _ _ _ g => g) (by omega)) (fun b hb => Nat.lt_of_lt_of_le (hS b hb) o.size) (fb_10 hk3) (sd_q hsd'.2.2) (sd_str hsd'.2.2) (by have := sd_len hsd'.2.2; omega) (hsm z (by simp)) n m
  have HC : Hid (∀ W, Only (fun _ => False) w W → W.cell? ⟨G, q, none⟩ = some (.iface 27 (.agg #[.int .i64 n])) ∧ W.cell? ⟨G, q + 1, none⟩ = some (.iface 27 (.agg #[.int .i64 m])) ∧ W.cell? ⟨G, q + 2, none⟩ = some u3) := fun W o => ⟨o.cell hc (fun g => g), o.cell hc2 (fun g => g), o.cell hc3 (fun g => g)⟩
  obtain ⟨T2, y2, rfl⟩ := ht3.iface (by have := fb_10 hk3; omega)
  have HN : Hid (∀ W, Calls Tryz.prog 37 #[.iface 27 (.agg #[.int .i64 n])] W fun e w' => e = .returned (.int .i64 n) ∧ w' = W) := g_number n
  have HN2 : Hid (∀ W, Calls Tryz.prog 37 #[.iface 27 (.agg #[.int .i64 m])] W fun e w' => e = .returned (.int .i64 m) ∧ w' = W) := g_number m
  rw [← hY]
  have O0 : Hid (Only (fun _ => False) w w) := Only.refl _ _
  obtain ⟨c0, c1, c2⟩ := HC.out w (Only.refl _ _)
  clear hl hS hlen hsm hsd hf hT hk hg hc ht hk2 hg2 hc2 ht2 hk3 hg3 hc3 ht3 hsd' hY hn hm
  cases Y with
  | error v =>
    have HP : Hid (∀ w1 w' a, Only (fun _ => False) w w1 → Only (fun _ => False) w1 w' → (a = .nilIface ∨ ∃ T y, a = .iface T y) → (v == 0) = false → MdP (.error v) (d + 2) w (.returned (.tuple #[a, .int .i64 v])) w') := fun w1 w' a o o' h b => ⟨a, rfl, h, b, o.trans o' (fun _ _ g => g)⟩
    go_enter Tryz.func28, Tryz.ntmps28
    go_wp2
    go_region_held3 (fun W => W.cell? ⟨G, q, none⟩ = some (.iface 27 (.agg #[.int .i64 n])) ∧ W.cell? ⟨G, q + 1, none⟩ = some (.iface 27 (.agg #[.int .i64 m])) ∧ W.cell? ⟨G, q + 2, none⟩ = some (.iface T2 y2))
      (first | with_reducible exact HC.out _ O0.out | with_reducible exact HC.out _ O0.out.drew | with_reducible exact HC.out _ O0.out.drew.drew | with_reducible exact HC.out _ O4.out)
      (first
        | (go_at_call 42; refine (show Calls Tryz.prog 42 _ _ _ from HE.out _ (by first | exact O0.out | exact O0.out.drew | exact O0.out.drew.drew)).mono ?_; rintro ex w4 ⟨v, rfl, hv, hn, o4⟩; have O4 : Hid (Only (fun _ => False) w w4) := (by first | exact O0.out.drew.trans o4 (fun _ _ g => g) | exact O0.out.trans o4 (fun _ _ g => g)))
        | (go_at_call 37; refine (show Calls Tryz.prog 37 _ _ _ from HN.out _).mono ?_; rintro ex w4 ⟨rfl, rfl⟩)
        | (go_at_call 37; refine (show Calls Tryz.prog 37 _ _ _ from HN2.out _).mono ?_; rintro ex w4 ⟨rfl, rfl⟩))
    all_goals
      go_wp2
      go_ret2
      exact HP.out _ _ _ O0.out O4.out hv hn
  | ok t =>
    go_enter Tryz.func28, Tryz.ntmps28
    go_wp2
    go_region_held3 (fun W => W.cell? ⟨G, q, none⟩ = some (.iface 27 (.agg #[.int .i64 n])) ∧ W.cell? ⟨G, q + 1, none⟩ = some (.iface 27 (.agg #[.int .i64 m])) ∧ W.cell? ⟨G, q + 2, none⟩ = some (.iface T2 y2))
      (first | with_reducible exact HC.out _ O0.out | with_reducible exact HC.out _ O0.out.drew | with_reducible exact HC.out _ O0.out.drew.drew | with_reducible exact HC.out _ O4.out)
      (first
        | (go_at_call 42; refine (show Calls Tryz.prog 42 _ _ _ from HE.out _ (by first | exact O0.out | exact O0.out.drew | exact O0.out.drew.drew)).mono ?_; rintro ex w4 ⟨v, rfl, hv, hm, o4⟩; have O4 : Hid (Only (fun _ => False) w w4) := (by first | exact O0.out.drew.trans o4 (fun _ _ g => g) | exact O0.out.trans o4 (fun _ _ g => g)); have HV : Hid ((∃ S, TiAt w4 S (d + 2) false t v ∧ ∀ b, S b → b < w4.heap.size) ∧ ∃ e, SmT e t) := ⟨hv, hm⟩; clear hv hm o4)
        | (go_at_call 37; refine (show Calls Tryz.prog 37 _ _ _ from HN.out _).mono ?_; rintro ex w4 ⟨rfl, rfl⟩)
        | (go_at_call 37; refine (show Calls Tryz.prog 37 _ _ _ from HN2.out _).mono ?_; rintro ex w4 ⟨rfl, rfl⟩))
    all_goals
      go_wp2
      go_ret2
      exact ⟨_, rfl, HV.out.1, HV.out.2, O4.out⟩
end Go.Proofs.YtioffjdjnlibgaaGreatDoor
namespace Go.Proofs.YtioffjdjnlibgaaGreatDoor
open Go.RowKit
set_option linter.unusedSimpArgs false
set_option linter.unusedVariables false
/-- is an effect one that a word may have? -/
def bdB (x y : Int) : Bool := decide (0 ≤ x ∧ x ≤ 16 ∧ 0 ≤ y ∧ y ≤ 16)
/-- an effect's value -/
def efV (x y : Int) : Value := .agg #[.int .i64 x, .int .i64 y]
/-- an effect behind another -/
def thR (a b c d : Int) : Int × Int × Int :=
  if bdB a b && bdB c d then (if bdB (a + max 0 (c - b)) (d + max 0 (b - c)) then (a + max 0 (c - b), d + max 0 (b - c), 0) else (0, 0, 11)) else (0, 0, 2)
theorem eblk_cells {w : World} {B : Nat} {c : Array Value} {t : TypeId} (h : w.heap[B]? = some (.cells c t)) (j : Nat) : w.cell? ⟨B, j, none⟩ = c[j]? := by
  simp [World.cell?, h]
theorem eblk_froz {w : World} {B : Nat} {c : Array Value} {t : TypeId} (h : w.heap[B]? = some (.cells c t)) (j : Nat) : w.frozen? ⟨B, j, none⟩ = false := by
  simp [World.frozen?, h]
theorem ealloc_at (W : World) (o : Obj) (n : Nat) (h : n = W.heap.size) : (W.alloc o).heap[n]? = some o := by
  subst h
  exact Array.getElem?_push_size ..
theorem Only.at {w w1 : World} {B : Nat} {o : Obj} (h : Only (fun _ => False) w w1) (g : w.heap[B]? = some o) : w1.heap[B]? = some o :=
  (h.block B (Array.getElem?_eq_some_iff.1 g).1 (fun g => g)).trans g
theorem alloc_old {W : World} {o p : Obj} {n : Nat} (h : W.heap[n]? = some o) : (W.alloc p).heap[n]? = some o :=
  ((Only.refl (fun _ => False) W).alloc p).at h
end Go.Proofs.YtioffjdjnlibgaaGreatDoor
namespace Go.Proofs.YtioffjdjnlibgaaGreatDoor
open Go.RowKit
set_option linter.unusedSimpArgs false
set_option linter.unusedVariables false
/-- the primitives that have effects of their own -/
def pmL : List (List UInt8 × Int × Int) := [([100, 114, 111, 112], 1, 0), ([46], 1, 0), ([110, 101, 103], 1, 1), ([97, 98, 115], 1, 1), ([110, 111, 116], 1, 1), ([105, 110, 116, 63], 1, 1), ([115, 116, 114, 63], 1, 1), ([98, 111, 111, 108, 63], 1, 1), ([108, 105, 115, 116, 63], 1, 1), ([113, 117, 111, 116, 63], 1, 1), ([98, 111, 120, 63], 1, 1), ([108, 101, 110, 103, 116, 104], 1, 1), ([119, 114, 97, 112], 1, 1), ([114, 101, 118, 101, 114, 115, 101], 1, 1), ([62, 115, 116, 114], 1, 1), ([62, 105, 110, 116], 1, 1), ([98, 111, 120], 1, 1), ([103, 101, 116], 1, 1), ([100, 117, 112], 1, 2), ([117, 110, 112, 97, 105, 114], 1, 2), ([112, 117, 116], 2, 0), ([110, 105, 112], 2, 1), ([43], 2, 1), ([45], 2, 1), ([42], 2, 1), ([47], 2, 1), ([109, 111, 100], 2, 1), ([109, 105, 110], 2, 1), ([109, 97, 120], 2, 1), ([60], 2, 1), ([62], 2, 1), ([61], 2, 1), ([97, 110, 100], 2, 1), ([111, 114], 2, 1), ([97, 112, 112, 101, 110, 100], 2, 1), ([110, 116, 104], 2, 1), ([112, 97, 105, 114], 2, 1), ([99, 117, 114, 114, 121], 2, 1), ([99, 111, 109, 112, 111, 115, 101], 2, 1), ([115, 119, 97, 112], 2, 2), ([111, 118, 101, 114], 2, 3), ([116, 117, 99, 107], 2, 3), ([115, 108, 105, 99, 101], 3, 1), ([114, 111, 116], 3, 3)]
def pmF (l : List UInt8) : List (List UInt8 × Int × Int) → Int × Int × Bool
  | [] => (0, 0, false)
  | x :: r => if l = x.1 then (x.2.1, x.2.2, true) else pmF l r
/-- a primitive's effect, if it has one -/
def pmR (s : ByteArray) : Int × Int × Bool := pmF s.toList pmL
theorem pmF_no (l : List UInt8) : ∀ q : List (List UInt8 × Int × Int), (∀ x ∈ q, l ≠ x.1) → pmF l q = (0, 0, false)
  | [], _ => rfl
  | x :: r, h => by
    unfold pmF
    rw [if_neg (h x (by simp)), pmF_no l r (fun y hy => h y (by simp [hy]))]
theorem to_lit {s : ByteArray} {l : List UInt8} (h : s.toList = l) : s = ⟨l.toArray⟩ := by
  subst h
  obtain ⟨⟨d⟩⟩ := s
  simp [ByteArray.toList_eq]
end Go.Proofs.YtioffjdjnlibgaaGreatDoor
namespace Go.Proofs.YtioffjdjnlibgaaGreatDoor
open Go.RowKit
set_option linter.unusedSimpArgs false
set_option linter.unusedVariables false
end Go.Proofs.YtioffjdjnlibgaaGreatDoor
namespace Go.Proofs.YtioffjdjnlibgaaGreatDoor
open Go.RowKit
set_option linter.unusedSimpArgs false
set_option linter.unusedVariables false
end Go.Proofs.YtioffjdjnlibgaaGreatDoor
namespace Go.Proofs.YtioffjdjnlibgaaGreatDoor
open Go.RowKit
set_option linter.unusedSimpArgs false
set_option linter.unusedVariables false
end Go.Proofs.YtioffjdjnlibgaaGreatDoor
namespace Go.Proofs.YtioffjdjnlibgaaGreatDoor
open Go.RowKit
set_option linter.unusedSimpArgs false
set_option linter.unusedVariables false
end Go.Proofs.YtioffjdjnlibgaaGreatDoor
namespace Go.Proofs.YtioffjdjnlibgaaGreatDoor
open Go.RowKit
set_option linter.unusedSimpArgs false
set_option linter.unusedVariables false
end Go.Proofs.YtioffjdjnlibgaaGreatDoor
