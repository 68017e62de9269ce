/-  -/
import Derived.Test.YtlcglapcmdpkfaaGreatGaa
import Derived.Test.YtlcglapcmdpkfaaGreatGav
namespace Go.Proofs.YtlcglapcmdpkfaaGreat
open Go.RowKit
set_option linter.unusedSimpArgs false
set_option linter.unusedVariables false
set_option maxRecDepth 100000
set_option maxHeartbeats 16000000
def RcIs (E : Nat → Prop) (x : SS) (d : DS) (w : World) (B r q K : Nat) (rv nv : Value) (rs : List RW) (e : Ending) (w' : World) : Prop :=
 ((cmX x d).1 ≠ 0 ∧ e = .returned (.bool false) ∧ ∃ w1 x', Only (fun _ => False) w w1 ∧ Und E w1 B r q K rv nv rs (cmX x d).2 x' w') ∨
 ((cmX x d).1 = 0 ∧ e = .returned (.bool true) ∧ ∃ w1, Only (fun _ => False) w w1 ∧ Und E w1 B r q K rv nv rs (cmX x d).2 x.next w')
theorem pl_get {x : SS} (hw : x.Wf) (hfit : needN x ≤ freeN x x.size) {m : Nat} (hm : m < putN x) : (plA x).getD m 0 = ((freeL x x.size).take (needN x)).getD m 0 ∧ 2 ≤ (plA x).getD m 0 ∧ (plA x).getD m 0 < x.size := by
 have hp := plA_true hw hfit
 have hpn : putN x ≤ needN x := by unfold needN needA; omega
 have hl : m < (freeL x x.size).length := by rw [freeL_len]; omega
 have e1 : (plA x).getD m 0 = (freeL x x.size)[m] := by
  rw [hp]; simp [List.getD, hm, hl]
 have e2 : ((freeL x x.size).take (needN x)).getD m 0 = (freeL x x.size)[m] := by
  have : m < needN x := by omega
  simp [List.getD, this, hl]
 have hmem := freeL_mem.1 (List.getElem_mem hl)
 rw [e1, e2]
 exact ⟨rfl, used_two hmem.2, hmem.1⟩
theorem fresh_prefix (l : Pgs) (j : Nat) : freshN (l.take j) = (freshN l).take (freshN (l.take j)).length := by
 have e : freshN l = freshN (l.take j) ++ freshN (l.drop j) := by
  unfold freshN
  rw [← List.map_append, ← List.filter_append, List.take_append_drop]
 conv => rhs; rw [e]
 exact List.take_left.symm
theorem cm_third {x : SS} {d dk dj : DS} (h : wfR (layP x.now (plA x)) d (freshN x.now) = (0, dk)) (h2 : (wtR (tabB (layP x.now (plA x))) (tbs x) dk (List.range (tabN (tabB (layP x.now (plA x))).length))).2 = (0, dj)) :
  cmX x d = if dj.barrier.1 ≠ 0 then dj.barrier else dj.barrier.2.keep ((4 - x.sector : Nat) : Int) (byF (rootB ((x.epoch + 1) % 18446744073709551616) ((tbs x).getD 0 0) (tbs x).length)) := by
 unfold cmX cmR
 rw [show laid x = layP x.now (plA x) from rfl, h, if_neg (by simp)]
 simp only
 rw [h2, if_neg (by simp)]
theorem cm_second {x : SS} {d dk : DS} {j : Nat} {y : Int × DS} (h : wfR (layP x.now (plA x)) d (freshN x.now) = (0, dk)) (hj : j ≤ tabN (tabB (layP x.now (plA x))).length) (h2 : (wtR (tabB (layP x.now (plA x))) (tbs x) dk (List.range j)).2 = y) (h0 : y.1 ≠ 0) : cmX x d = y := by
 have e := wt_whole (tabB (layP x.now (plA x))) (tbs x) dk j _ hj (by rw [h2]; exact h0)
 rw [h2] at e
 unfold cmX cmR
 rw [show laid x = layP x.now (plA x) from rfl, h, if_neg (by simp)]
 simp only
 rw [e, if_pos h0]
theorem cm_first {x : SS} {d : DS} {j : Nat} {y : Int × DS} (h : wfR (layP x.now (plA x)) d (freshN (x.now.take j)) = y) (h0 : y.1 ≠ 0) : cmX x d = y := by
 have e := wf_whole (layP x.now (plA x)) d (freshN x.now) (freshN (x.now.take j)).length (by rw [← fresh_prefix, h]; exact h0)
 rw [← fresh_prefix, h] at e
 unfold cmX cmR
 rw [show laid x = layP x.now (plA x) from rfl, e, if_pos h0]
theorem freshN_le {l : Pgs} {k : Nat} : (freshN (l.take k)).length ≤ (freshN l).length := by
 unfold freshN
 simp only [List.length_map]
 exact ((List.take_sublist k l).filter _).length_le
theorem rcommit_core {E : Nat → Prop} {w : World} {B r q K : Nat} {rv tv kv nv : Value} {rs : List RW} {x : SS} {d : DS} {lk ln : List RPg} (h : RsAt w (refE E w.heap.size q K rv rs) B r q tv kv nv x lk ln) (hd : RefAt w B q K rv d rs) (hB : B ≤ w.heap.size) (hb : ByteD d) (hg : Good d) (hp : d.pend.length ≤ 9000000000) (hsz : d.n / 4 = x.size) (hfit : needN x ≤ freeN x x.size) (hby : ∀ p ∈ x.now, ∀ z ∈ p.2.2, z < 256)
  (v : Value) (hv : IntsAt w v ((freeL x x.size).take (needN x))) (hvb : ∀ b, v.ownBlock = some b → ¬ refB q K rv rs b ∧ nv.ownBlock ≠ some b ∧ b ≠ r) (hv0 : ∃ B0, FreshI w B0 v ((freeL x x.size).take (needN x))) :
  Calls Tryz.prog 61 #[.pointer (some ⟨r, 0, none⟩), v] w fun e w' => Hid (RcIs E x d w B r q K rv nv rs e w') := by
 have HFr : Hid (Calls Tryz.prog 87 _ _ _) := rfresh_any h
 rw [show (freshN x.now).length = putN x from rfl] at HFr
 have hwf := h.wf
 have hn7 := h.n728
 have hpn : putN x ≤ needN x := by unfold needN needA; omega
 have hPl : ((freeL x x.size).take (needN x)).length = needN x := by rw [List.length_take, freeL_len]; omega
 obtain ⟨B0, hfi⟩ := hv0
 obtain ⟨a1, c1, s1, hi1, hob1⟩ := hfi.to (putN x) (by rw [hPl]; exact hpn)
 obtain ⟨av, cv, hvf, _⟩ := hfi.form
 rw [hPl] at hvf
 rw [List.take_take, Nat.min_eq_left hpn, ← plA_true hwf hfit] at hi1
 have HTb : Hid (Calls Tryz.prog 90 _ _ _) := rtable_any h (.slice a1 (putN x) c1) (plA x) hi1 (by rw [plA_length]; exact Nat.le_refl _) (plA_small hwf)
 obtain ⟨a9, c9, s9, hi9, hob9⟩ := slice_fresh hfi (putN x) (by rw [hPl]; exact hpn)
 rw [hPl] at s9 hi9 hob9
 have hfree := freeN_le x x.size
 have hsz2 := hwf.size
 obtain ⟨n, hn⟩ : ∃ n, n = putN x := ⟨_, rfl⟩
 obtain ⟨nd, hnd⟩ : ∃ nd, nd = needN x := ⟨_, rfl⟩
 obtain ⟨N, hN⟩ : ∃ N, N = x.now.length := ⟨_, rfl⟩
 obtain ⟨tab, htab⟩ : ∃ t, t = tabB (layP x.now (plA x)) := ⟨_, rfl⟩
 obtain ⟨T, hT⟩ : ∃ T, T = tab.length := ⟨_, rfl⟩
 have hT9 : T ≤ 2912 := by rw [hT, htab]; exact tab_small hwf hn7 (plA_small hwf)
 have HE : Hid (n = putN x ∧ nd = needN x ∧ N = x.now.length ∧ tab = tabB (layP x.now (plA x)) ∧ T = tab.length ∧ nd = n + tabN T) := ⟨hn, hnd, hN, htab, hT, by rw [hnd, hn, hT, htab]; rfl⟩
 rw [← htab, ← hT, ← hn] at HTb
 rw [← hn, ← hnd] at s9 hi9 hob9
 have HSL : Hid (IntsAt w (.slice a9 (nd - n) c9) (tbs x) ∧ ∀ b, (Value.slice a9 (nd - n) c9).ownBlock = some b → v.ownBlock = some b) := ⟨by unfold tbs; rw [← hn, ← hnd]; exact hi9, hob9⟩
 obtain ⟨M, hM⟩ : ∃ M, M = nd - n := ⟨_, rfl⟩
 rw [← hM] at s9 HSL
 have HM : Hid (M = tabN T ∧ (tbs x).length = M) := by
  have e1 : M = tabN T := by rw [hM, hnd, hn, show needN x = putN x + tabN (tabB (layP x.now (plA x))).length from rfl, ← htab, ← hT]; omega
  exact ⟨e1, by rw [tbs_length hfit, e1, hT, htab]; rfl⟩
 have hM9 : M ≤ 27 := by have := HM.out.1; unfold tabN at this; omega
 rw [← hn] at HFr s1
 rw [← hnd] at hvf
 have hnd9 : nd ≤ 2048 := by omega
 have hn9 : n ≤ nd := by omega
 have hN9 : N ≤ 728 := by rw [hN]; exact hn7
 have HH : Hid (RsAt w (refE E w.heap.size q K rv rs) B r q tv kv nv x lk ln ∧ RefAt w B q K rv d rs ∧ B ≤ w.heap.size ∧ ByteD d ∧ Good d ∧ d.pend.length ≤ 9000000000 ∧ d.n / 4 = x.size ∧ needN x ≤ freeN x x.size) := ⟨h, hd, hB, hb, hg, hp, hsz, hfit⟩
 have HV : Hid (IntsAt w v ((freeL x x.size).take (needN x)) ∧ ∀ b, v.ownBlock = some b → ¬ refB q K rv rs b ∧ nv.ownBlock ≠ some b ∧ b ≠ r) := ⟨hv, hvb⟩
 have HVL : Hid (∀ b, v.ownBlock = some b → b < w.heap.size) := fun b e => (hfi.1.lt b e).2
 have HBY : Hid (∀ i y, getL (layP x.now (plA x)) i = some y → ∀ z ∈ y.2, z < 256) := fun i y hy z hz => by
  have hm := (getL_mem (layP_rise h.nowR _) _ _).1 hy
  have hdt := layK_data x.now (plA x) (freshN x.now).length
  have : (i, y.2) ∈ (layP x.now (plA x)).map (fun p => (p.1, p.2.2)) := List.mem_map.2 ⟨_, hm, rfl⟩
  unfold layP at this
  rw [hdt] at this
  obtain ⟨p, hp', he⟩ := List.mem_map.1 this
  have : p.2.2 = y.2 := (Prod.mk.inj he).2
  exact hby p hp' z (by rw [this]; exact hz)
 have i0 : (n : Int) ≤ (cv : Int) := by
  rcases hfi.1.2 with ⟨hv', h0⟩ | ⟨g', cap', cur', hv', _, _, hcap, _⟩
  ·rw [hvf] at hv'; simp only [Value.slice.injEq] at hv'; rw [hPl] at h0; omega
  ·rw [hvf] at hv'; simp only [Value.slice.injEq] at hv'; have := hv'.2.2; rw [hPl] at hcap; omega
 clear hn hnd hN htab hT h hd hb hg hp hsz hv hvb hfi hi1 hob1 hPl hby hpn hfree hi9 hob9 hM
 subst hvf
 go_enter Tryz.func61, Tryz.ntmps61
 go_wp2_with fail
 refine (show Calls Tryz.prog 87 _ _ _ from HFr.out).mono ?_
 rintro e w0 ⟨rfl, rfl⟩
 clear HFr
 go_wp2_with fail
 refine (show Calls Tryz.prog 90 _ _ _ from HTb.out).mono ?_
 rintro e w1 ⟨ab, cb, rfl, H1⟩
 clear HTb
 have HU0 : Hid (Und E w1 B r q K rv nv rs d x w1) := by
  obtain ⟨h1, h2, _⟩ := HH.out
  exact ⟨rv, rs, tv, kv, lk, ln, ⟨h2.frame H1.out.2 (fun _ _ e => e), Only.refl _ _, fun b e => .inl e⟩, h1.frame H1.out.2 (fun _ _ e => e.elim) (fun k hk e => e.imp id (fun e => ⟨e.1, hk⟩))⟩
 have HBb : Hid (∀ b, (Value.slice ab T cb).ownBlock = some b → ¬ refB q K rv rs b ∧ nv.ownBlock ≠ some b ∧ b ≠ r) := fun b e => by
  have := (H1.out.1.1.lt b e).1
  obtain ⟨h1, h2, _⟩ := HH.out
  exact ⟨fun e' => by have := (h2.lt b e').2; omega, fun e' => by have := (h1.now.lt b e').2; omega, fun e' => by have := h1.lt; omega⟩
 go_wp2_with fail
 go_loopw [4, 7, 8] (fun u4 t7 t8 wr => ∃ k m : Nat, k ≤ N ∧ m ≤ k ∧ u4 = .bool false ∧ t7 = .int .i64 m ∧ t8 = .int .i64 k ∧ Hid (m = (freshN (x.now.take k)).length ∧ ∃ dk, wfR (layP x.now (plA x)) d (freshN (x.now.take k)) = (0, dk) ∧ Und E w1 B r q K rv nv rs dk { x with now := layTo x.now (plA x) k } wr)) (fun _ _ t _ => N - (intOf t).toNat)
 case atStart => exact ⟨0, 0, Nat.zero_le _, Nat.le_refl _, rfl, rfl, rfl, by simp [freshN], d, by simp [freshN, wfR], by rw [layTo_zero]; exact HU0.out⟩
 case round =>
  obtain ⟨k, m, hk, hmk, rfl, rfl, rfl, HI⟩ := hrel
  obtain ⟨hm, dk, hdk, hU⟩ := HI.out
  clear HI
  obtain ⟨wq, rfl⟩ : ∃ q, q = wr := ⟨_, rfl⟩
  have hfacts := wf_facts (layP x.now (plA x)) HBY.out (freshN (x.now.take k)) (0, d) HH.out.2.2.2.1 HH.out.2.2.2.2.1
  rw [show (freshN (x.now.take k)).foldl (wfStep (layP x.now (plA x))) (0, d) = (0, dk) from hdk] at hfacts
  obtain ⟨hbk, hgk, hpk, hnk⟩ := hfacts
  have hcs := hU.cells
  obtain ⟨y0, _, _, y5, _, _⟩ := hcs
  by_cases hlt : k < N
  ·have hkx : k < x.now.length := by rw [← HE.out.2.2.1]; exact hlt
   have hkt : k < (layTo x.now (plA x) k).length := by rw [layTo_length]; exact hkx
   have hget : (layTo x.now (plA x) k)[k] = x.now[k] := by
    have := layTo_get (plA x) hkx
    rw [List.getElem?_eq_getElem hkt] at this
    exact Option.some.inj this
   obtain ⟨g, c', v', hnv', z0', z5', zi, za, zd, zb⟩ := hU.page k hkt
   simp only [hget] at zi za zb
   rw [layTo_length, ← HE.out.2.2.1] at hnv'
   have j0 : (0 : Int) ≤ (k : Int) := Int.natCast_nonneg _
   have j1 : (k : Int) < (N : Int) := by omega
   obtain ⟨P, hP⟩ : ∃ P, P = (x.now[k]).2.1 := ⟨_, rfl⟩
   rw [← hP] at za
   have z5 := z5'
   rw [hnv'] at z5
   by_cases h0 : P = 0
   ·have hlt2 := freshN_succ hkx
    rw [if_pos (by rw [← hP]; exact h0)] at hlt2
    have hmn : m < n := by
     have h1 := freshN_le (l := x.now) (k := k + 1)
     rw [hlt2, List.length_append, ← hm] at h1
     simp only [List.length_cons, List.length_nil] at h1
     have := HE.out.1
     unfold putN at this
     omega
    obtain ⟨pg1, pg2, pg3⟩ := pl_get hwf HH.out.2.2.2.2.2.2.2 (m := m) (by rw [← HE.out.1]; exact hmn)
    obtain ⟨a, ha⟩ : ∃ a, a = (plA x).getD m 0 := ⟨_, rfl⟩
    rw [← ha] at pg1 pg2 pg3
    obtain ⟨g2, c2, hnv2, _, ⟨u, hu⟩, hfz, hU2⟩ := hU.layAt k a hkt ⟨pg2, pg3⟩
    have hg2 : g = g2 := by
     rw [hnv'] at hnv2
     simp only [Value.slice.injEq, Option.some.injEq, Addr.mk.injEq, and_true] at hnv2
     exact hnv2.1
    subst hg2
    have hst : (layTo x.now (plA x) k).set k (((layTo x.now (plA x) k)[k]).1, a, ((layTo x.now (plA x) k)[k]).2.2) = layTo x.now (plA x) (k + 1) := by
     rw [layTo_succ (plA x) hkx, if_pos (by rw [← hP]; exact h0), hget, ← hm, ← ha]
    simp only [hst] at hU2
    have hU3 : Und E w1 B r q K rv nv rs dk { x with now := layTo x.now (plA x) (k + 1) } (wq.setCell ⟨g, k * 3 + 1, none⟩ (.int .i64 (a : Nat))).drew := hU2.still ((Only.refl _ _).drew)
    have hpl := hU.ints (v := .slice av nd cv) (RowAt.frame HV.out.1 H1.out.2 (fun _ e => e.elim)) HV.out.2
    obtain ⟨av', cv', hve, hvc⟩ := hpl.shape
    simp only [Value.slice.injEq] at hve
    obtain ⟨rfl, hndl, rfl⟩ := hve
    obtain ⟨gp, op, hgp, zp⟩ := hvc m (by omega)
    rw [← pg1] at zp
    subst hgp
    have m0 : (0 : Int) ≤ (m : Int) := Int.natCast_nonneg _
    have m1 : (m : Int) < (nd : Int) := by omega
    have hkt3 : k < (layTo x.now (plA x) (k + 1)).length := by rw [layTo_length]; exact hkx
    have hget3 : (layTo x.now (plA x) (k + 1))[k] = ((x.now[k]).1, a, (x.now[k]).2.2) := by
     have h9 : (layTo x.now (plA x) (k + 1))[k]? = some ((x.now[k]).1, a, (x.now[k]).2.2) := by
      rw [layTo_succ (plA x) hkx, if_pos (by rw [← hP]; exact h0), List.getElem?_set, if_pos rfl, if_pos hkt, ← hm, ← ha]
     rw [List.getElem?_eq_getElem hkt3] at h9
     exact Option.some.inj h9
    obtain ⟨g3, c3, v3, hnv3, x0, x5, xi, xa, xd, xb⟩ := hU3.page k hkt3
    simp only [hget3] at xi xa xb
    have hg3 : g = g3 := by
     rw [hnv'] at hnv3
     simp only [Value.slice.injEq, Option.some.injEq, Addr.mk.injEq, and_true] at hnv3
     exact hnv3.1
    subst hg3
    rw [hnv'] at x5
    have h01 := (hwf.now _ (List.getElem_mem hkx)).1
    obtain ⟨I, hI⟩ : ∃ I : Nat, (I : Int) = (x.now[k]).1 := ⟨(x.now[k]).1.toNat, by omega⟩
    rw [← hI] at xi zi
    have hI9 : I < 728 := by omega
    have hid0 : IntKind.i64.wrap (256 * (I : Int)) = 256 * (I : Int) := by rw [IntKind.wrap_i64]; omega
    have hid1 : IntKind.i64.wrap (3 + 256 * (I : Int)) = 3 + 256 * (I : Int) := by rw [IntKind.wrap_i64]; omega
    have hid : IntKind.u32.wrap (3 + 256 * (I : Int)) = ((3 + 256 * I : Nat) : Int) := by rw [IntKind.wrap_u32]; omega
    have hU4 := hU3.still ((Only.refl (fun _ => False) _).drew)
    have HW : Hid (Calls Tryz.prog 91 _ _ _) := hU4.wpage (by have := HH.out.2.2.1; have := H1.out.2.size; omega) hU4.size (a : Int) (3 + 256 * I) v3 (x.now[k]).2.2 (xb.frame ((Only.refl (fun _ => False) _).drew)) (by omega) (by have := HH.out.2.2.2.2.2.1; have h9 := freshN_le (l := x.now) (k := k); have h8 := freshN_len x.now; simp only at hpk; omega) hbk hgk
    obtain ⟨y, hy⟩ : ∃ y, y = dk.wpage (a : Int) (3 + 256 * I) (x.now[k]).2.2 := ⟨_, rfl⟩
    rw [← hy] at HW
    have HNX : Hid (wfR (layP x.now (plA x)) d (freshN (x.now.take (k + 1))) = y) := by
     have h9 : wfR (layP x.now (plA x)) d (freshN (x.now.take (k + 1))) = y := by
      rw [hlt2, wfR_snoc, hdk]
      unfold wfStep
      rw [if_neg (by simp)]
      have e1 : ((x.now[k]).1.toNat : Int) = (x.now[k]).1 := by omega
      rw [e1, layP_at HH.out.1.nowR (plA x) hkx (by rw [← hP]; exact h0), ← hm, ← ha, hy]
      have e2 : (x.now[k]).1.toNat = I := by omega
      rw [e2]
      rfl
     exact h9
    have HMM : Hid (m + 1 = (freshN (x.now.take (k + 1))).length) := by
     have h9 : m + 1 = (freshN (x.now.take (k + 1))).length := by rw [hlt2, List.length_append, ← hm]; rfl
     exact h9
    obtain ⟨av3, nv3, cv3, hv3f⟩ : ∃ a n c, v3 = .slice a n c := by obtain ⟨a, c, e, _⟩ := xb.form; exact ⟨a, _, c, e⟩
    subst hv3f
    have w9 : wq.heap.size = (wq.setCell ⟨g, k * 3 + 1, none⟩ (.int .i64 (a : Nat))).heap.size := by simp [World.setCell]
    rw [h0] at za
    have HX : Hid ((wq.setCell ⟨g, k * 3 + 1, none⟩ (.int .i64 (a : Nat))).drew.cell? ⟨r, 0, none⟩ = some (.pointer (some ⟨q, 0, none⟩)) ∧ (wq.setCell ⟨g, k * 3 + 1, none⟩ (.int .i64 (a : Nat))).drew.cell? ⟨r, 5, none⟩ = some (.slice (some ⟨g, 0, none⟩) N c') ∧ (wq.setCell ⟨g, k * 3 + 1, none⟩ (.int .i64 (a : Nat))).drew.cell? ⟨g, k * 3, none⟩ = some (.int .i64 (I : Nat)) ∧ (wq.setCell ⟨g, k * 3 + 1, none⟩ (.int .i64 (a : Nat))).drew.cell? ⟨g, k * 3 + 1, none⟩ = some (.int .i64 (a : Nat)) ∧ (wq.setCell ⟨g, k * 3 + 1, none⟩ (.int .i64 (a : Nat))).drew.cell? ⟨g, k * 3 + 2, none⟩ = some (.slice av3 nv3 cv3)) := ⟨x0, x5, xi, xa, xd⟩
    have hgo : nv.ownBlock = some g := by rw [hnv']; rfl
    clear hU hU2 hU3 hU4 hdk hbk hgk hpk hnk hm hlt2 pg1 ha hst hpl hvc hndl hget hget3 hkt hkt3 hnv2 hnv3 xb zb hP hI h01 hy w9 z5' y5 hkx z0' x0 x5 xi xa xd
    go_wp2_with fail
    go_region
    go_wp2_with fail
    obtain ⟨x0, x5, xi, xa, xd⟩ := HX.out
    obtain ⟨W2, hW2⟩ : ∃ W, W = (wq.setCell ⟨g, k * 3 + 1, none⟩ (.int .i64 (a : Nat))).drew := ⟨_, rfl⟩
    rw [← hW2] at HW x0 x5 xi xa xd
    rw [← hW2]
    have HW2 : Hid (W2 = _) := hW2
    clear hW2 HX z5 zi za zd hu hfz zp y0
    go_region_held3 (fun W => W.cell? ⟨r, 0, none⟩ = some (.pointer (some ⟨q, 0, none⟩)) ∧ W.cell? ⟨r, 5, none⟩ = some (.slice (some ⟨g, 0, none⟩) N c') ∧ W.cell? ⟨g, k * 3, none⟩ = some (.int .i64 (I : Nat)) ∧ W.cell? ⟨g, k * 3 + 1, none⟩ = some (.int .i64 (a : Nat)) ∧ W.cell? ⟨g, k * 3 + 2, none⟩ = some (.slice av3 nv3 cv3)) (first | exact ⟨x0, x5, xi, xa, xd⟩ | exact ⟨H5.out.2 _ _ _ (.inr rfl) x0, H5.out.2 _ _ _ (.inr rfl) x5, H5.out.2 _ _ _ (.inl hgo) xi, H5.out.2 _ _ _ (.inl hgo) xa, H5.out.2 _ _ _ (.inl hgo) xd⟩ | go_keep)
     (first | (go_at_call 91; refine (show Calls Tryz.prog 91 _ _ _ from HW.out).mono ?_; rintro e w5 ⟨rfl, H5⟩))
    clear HW x0 x5 xi xa xd hgo
    by_cases hy0 : y.1 = 0
    ·have HOK : Hid (wfR (layP x.now (plA x)) d (freshN (x.now.take (k + 1))) = (0, y.2) ∧ Und E w1 B r q K rv nv rs y.2 { x with now := layTo x.now (plA x) (k + 1) } w5) := ⟨by rw [HNX.out, ← hy0], H5.out.1⟩
     rw [hy0]
     clear hy0 H5 HNX
     go_wp2
     go_roundw
     case rel => exact ⟨k + 1, m + 1, by omega, by omega, rfl, by go_num, by go_num, HMM.out, y.2, HOK.out.1, HOK.out.2⟩
     case measure => simp [intOf]; omega
    ·have HQ : Hid (RcIs E x d w0 B r q K rv nv rs (.returned (.bool false)) w5) := by
      have e := cm_first HNX.out hy0
      exact .inl ⟨by rw [e]; exact hy0, rfl, w1, _, H1.out.2, by rw [e]; exact H5.out.1⟩
     obtain ⟨z, hz⟩ : ∃ z, z = y.1 := ⟨_, rfl⟩
     rw [← hz] at hy0 ⊢
     have hzb : (z != 0) = true := by simpa using hy0
     clear hy0 hz H5 HNX
     go_wp2
     go_ret
     exact HQ
   ·have hb0 : (0 : Int) < (P : Int) := by omega
    have hlt2 := freshN_succ hkx
    rw [if_neg (by rw [← hP]; exact h0)] at hlt2
    have HOK : Hid (m = (freshN (x.now.take (k + 1))).length ∧ ∃ dk, wfR (layP x.now (plA x)) d (freshN (x.now.take (k + 1))) = (0, dk) ∧ Und E w1 B r q K rv nv rs dk { x with now := layTo x.now (plA x) (k + 1) } wq) := by
     rw [hlt2, layTo_keep (plA x) hkx (by rw [← hP]; exact h0)]
     exact ⟨hm, dk, hdk, hU⟩
    clear hU hdk hbk hgk hpk hnk hm hlt2 hget hkt zb hP z5' y5 hkx z0' zi zd y0
    go_wp2
    go_roundw
    case rel => exact ⟨k + 1, m, by omega, by omega, rfl, rfl, by go_num, HOK⟩
    case measure => simp [intOf]; omega
  ·obtain rfl : k = N := by omega
   have hall : x.now.take k = x.now := List.take_of_length_le (by rw [HE.out.2.2.1]; exact Nat.le_refl _)
   rw [hall] at hdk hpk
   rw [layTo_all _ _ _ (by rw [HE.out.2.2.1]; exact Nat.le_refl _)] at hU
   have HDK : Hid (wfR (layP x.now (plA x)) d (freshN x.now) = (0, dk) ∧ ByteD dk ∧ Good dk ∧ dk.pend.length ≤ 9000003000) := ⟨hdk, hbk, hgk, by have := HH.out.2.2.2.2.2.1; have h8 := freshN_len x.now; simp only at hpk; omega⟩
   have HUK : Hid (Und E w1 B r q K rv nv rs dk { x with now := layP x.now (plA x) } wq) := hU
   obtain ⟨an, cn, hnv⟩ := hU.form
   rw [layP_length, ← HE.out.2.2.1] at hnv
   rw [hnv] at y5
   have HNV : Hid (nv = .slice an k cn) := hnv
   have HAB : Hid (∀ b, (Value.slice a9 M c9).ownBlock = some b → ¬ refB q K rv rs b ∧ nv.ownBlock ≠ some b ∧ b ≠ r) := fun b e => HV.out.2 b (HSL.out.2 b e)
   clear hU hdk hbk hgk hpk hnk hm hall hnv
   go_wp2_with fail
   clear y5 y0
   go_loopw [4, 10, 11, 12] (fun u4 t10 u11 u12 wr => ∃ j : Nat, j ≤ M ∧ u4 = .bool false ∧ t10 = .int .i64 j ∧ Hid (∃ dj, (wtR tab (tbs x) dk (List.range j)).2 = (0, dj) ∧ Und E w1 B r q K rv nv rs dj { x with now := layP x.now (plA x) } wr)) (fun _ t _ _ _ => M - (intOf t).toNat)
   case atStart => exact ⟨0, Nat.zero_le _, rfl, rfl, dk, rfl, HUK.out⟩
   case round =>
    obtain ⟨j, hj, rfl, rfl, HI⟩ := hrel
    obtain ⟨dj, hdj, hU⟩ := HI.out
    clear HI HUK
    obtain ⟨wq2, rfl⟩ : ∃ q, q = wr := ⟨_, rfl⟩
    have htb : ∀ z ∈ tab, z < 256 := by rw [HE.out.2.2.2.1]; exact tabB_byte _
    have hfacts := wtF_facts tab (tbs x) htb (List.range j) (0, 0, dk) HDK.out.2.1 HDK.out.2.2.1
    rw [show ((List.range j).foldl (wtStep tab (tbs x)) (0, 0, dk)).2.2 = dj by have := congrArg Prod.snd hdj; exact this] at hfacts
    obtain ⟨hbj, hgj, hpj⟩ := hfacts
    by_cases hlt2 : j < M
    ·have hl9 := hU.ints (RowAt.frame HSL.out.1 H1.out.2 (fun _ e => e.elim)) HAB.out
     obtain ⟨a9', c9', h9e, h9c⟩ := hl9.shape
     rw [HM.out.2] at h9e h9c
     simp only [Value.slice.injEq] at h9e
     obtain ⟨rfl, _, rfl⟩ := h9e
     obtain ⟨gl, ol, hgl, zj⟩ := h9c j hlt2
     subst hgl
     obtain ⟨pj, hpje⟩ : ∃ p, p = (tbs x).getD j 0 := ⟨_, rfl⟩
     obtain ⟨nx, hnx⟩ : ∃ p, p = (tbs x).getD (j + 1) 0 := ⟨_, rfl⟩
     have hnx9 : nx < 2048 := by
      rw [hnx]
      simp only [List.getD]
      cases hgx : (tbs x)[j + 1]? with
      | none => simp
      | some t =>
        have hmem := List.mem_of_getElem? hgx
        unfold tbs at hmem
        have := (freeL_mem.1 (List.mem_of_mem_take (List.mem_of_mem_drop hmem))).1
        simp only [Option.getD_some]; omega
     rw [← hpje] at zj
     have HNX1 : Hid (j + 1 < M → wq2.cell? ⟨gl, ol + (j + 1), none⟩ = some (.int .i64 (nx : Nat))) := fun h1 => by
      obtain ⟨g', o', he', hc'⟩ := h9c (j + 1) h1
      simp only [Option.some.injEq, Addr.mk.injEq, and_true] at he'
      obtain ⟨rfl, rfl⟩ := he'
      rw [hnx]; exact hc'
     have HNX2 : Hid (¬ j + 1 < M → nx = 0) := fun h1 => by
      rw [hnx]
      simp only [List.getD]
      rw [List.getElem?_eq_none (by have := HM.out.2; omega)]
      rfl
     -- the part of the table
     have hTl : T = tab.length := HE.out.2.2.2.2.1
     have hTM : M = (T + 111) / 112 := HM.out.1
     obtain ⟨e, he⟩ : ∃ e, e = min T (112 * j + 112) := ⟨_, rfl⟩
     have he1 : 112 * j < e := by omega
     have he2 : e ≤ T := by omega
     have hbB := hU.bytes (v := .slice ab T cb) H1.out.1.bytes HBb.out
     obtain ⟨gb, ob, hab, hTcb, hbp⟩ := bytes_mid2 hbB hTl (112 * j) e he1 he2
     have hpt : (tab.drop (112 * j)).take (e - 112 * j) = (tab.drop (112 * j)).take 112 := by
      by_cases h1 : T ≤ 112 * j + 112
      ·rw [List.take_of_length_le (by rw [List.length_drop]; omega), List.take_of_length_le (by rw [List.length_drop]; omega)]
      ·rw [show e - 112 * j = 112 by omega]
     rw [hpt] at hbp
     obtain ⟨pl, hpl⟩ : ∃ pl, pl = e - 112 * j := ⟨_, rfl⟩
     have hpl2 : ((tab.drop (112 * j)).take 112).length = pl := by rw [← hpt, List.length_take, List.length_drop]; omega
     rw [← hpl] at hbp
     obtain ⟨sv, hsv⟩ : ∃ sv, sv = 112 * j := ⟨_, rfl⟩
     obtain ⟨ap, hap⟩ : ∃ ap, ap = some (⟨gb, ob + 112 * j, none⟩ : Addr) := ⟨_, rfl⟩
     obtain ⟨cp, hcp⟩ : ∃ cp, cp = cb - 112 * j := ⟨_, rfl⟩
     rw [← hap, ← hcp] at hbp
     have HL : Hid (Calls Tryz.prog 92 #[.int .u64 (nx : Nat), .int .i64 4] wq2.drew fun e w' => ∃ a c, e = .returned (.slice a 4 c) ∧ Hid (∃ a3 c3 w3, (∀ ty, (Builtin.append_ #[37, 37] ty #[.slice a 4 c, .slice ap pl cp]).run Tryz.prog w' = .ok (.slice a3 (4 + pl) c3) w3) ∧ BytesAt w3 (.slice a3 (4 + pl) c3) (layB nx 4 ++ (tab.drop (112 * j)).take 112) ∧ Only (fun _ => False) wq2 w3)) := by
      refine (layk_any nx 4 (by omega) wq2.drew (by omega)).mono ?_
      rintro e w5 ⟨a, c, rfl, H5⟩
      have od : Only (fun _ => False) wq2 wq2.drew := (Only.refl _ _).drew
      have o5 := od.trans H5.out.2 (fun _ _ e => e)
      obtain ⟨a3, c3, w3, hr3, hf3, ho3⟩ := app_fresh H5.out.1 (hbp.frame o5) H5.out.2.size (by rw [layB_length, hpl2]; omega)
      rw [layB_length, hpl2] at hr3 hf3
      exact ⟨a, c, rfl, a3, c3, w3, hr3, hf3.bytes, o5.trans ho3 (fun i hi e => by have : wq2.drew.heap.size = wq2.heap.size := rfl; omega)⟩
     obtain ⟨y, hy⟩ : ∃ y, y = dj.wpage (pj : Int) 2 (layB nx 4 ++ (tab.drop (112 * j)).take 112) := ⟨_, rfl⟩
     have HNX : Hid ((wtR tab (tbs x) dk (List.range (j + 1))).2 = y) := by
      have h9 : (wtR tab (tbs x) dk (List.range (j + 1))).2 = y := by
       rw [List.range_succ, wtR_snoc]
       unfold wtStep
       rw [wtR_fst, List.length_range, hdj, if_neg (by simp), hy, hpje, hnx]
      exact h9
     have HWR : Hid (∀ (w6 : World) (a6 : Option Addr) (c6 : Nat), Only (fun _ => False) wq2 w6 → BytesAt w6 (.slice a6 (4 + pl) c6) (layB nx 4 ++ (tab.drop (112 * j)).take 112) → w6.cell? ⟨r, 0, none⟩ = some (.pointer (some ⟨q, 0, none⟩)) ∧ w6.cell? ⟨gl, ol + j, none⟩ = some (.int .i64 (pj : Nat)) ∧
       Calls Tryz.prog 91 #[.pointer (some ⟨q, 0, none⟩), .int .i64 (pj : Nat), .int .u32 2, .slice a6 (4 + pl) c6] w6.drew fun e W => e = .returned (.int .i64 y.1) ∧ Hid (Und E w1 B r q K rv nv rs y.2 { x with now := layP x.now (plA x) } W ∧ W.cell? ⟨r, 0, none⟩ = some (.pointer (some ⟨q, 0, none⟩)) ∧ W.cell? ⟨gl, ol + j, none⟩ = some (.int .i64 (pj : Nat)))) := fun w6 a6 c6 ho6 hb6 => by
      have od : Only (fun _ => False) w6 w6.drew := (Only.refl _ _).drew
      have hU6 := (hU.still ho6).still od
      refine ⟨(hU.still ho6).cells.1, ho6.cell zj (fun e => e), ?_⟩
      refine (hU6.wpage (by have := HH.out.2.2.1; have := H1.out.2.size; omega) hU6.size (pj : Int) 2 (.slice a6 (4 + pl) c6) _ (hb6.frame od) (by omega) (by have h8 := HDK.out.2.2.2; simp only [List.length_range] at hpj; omega) hbj hgj).mono ?_
      rintro e W ⟨rfl, HU⟩
      rw [← hy] at HU ⊢
      refine ⟨rfl, HU.out.1, HU.out.1.cells.1, ?_⟩
      have hl := HU.out.1.ints (RowAt.frame HSL.out.1 H1.out.2 (fun _ e => e.elim)) HAB.out
      obtain ⟨a', c', h9e', h9c'⟩ := hl.shape
      rw [HM.out.2] at h9e' h9c'
      simp only [Value.slice.injEq] at h9e'
      obtain ⟨e1, _, _⟩ := h9e'
      obtain ⟨g', o', hg', hc'⟩ := h9c' j hlt2
      rw [← e1] at hg'
      simp only [Option.some.injEq, Addr.mk.injEq, and_true] at hg'
      obtain ⟨rfl, rfl⟩ := hg'
      rw [hpje]; exact hc'
     have hu1 : IntKind.u64.wrap (nx : Int) = (nx : Int) := by rw [IntKind.wrap_u64]; omega
     have q0 : (0 : Int) ≤ (j : Int) := Int.natCast_nonneg _
     have q1 : (j : Int) < (M : Int) := by omega
     have HEQ : Hid ((e : Int) = if 112 * (j : Int) + 112 < (T : Int) then 112 * (j : Int) + 112 else (T : Int)) := by
      show (e : Int) = _
      split <;> omega
     have hs8 : 112 * (j : Int) = (sv : Int) := by omega
     have hew : IntKind.i64.wrap (sv : Int) = (sv : Int) := by rw [IntKind.wrap_i64]; omega
     have hew2 : IntKind.i64.wrap ((sv : Int) + 112) = (sv : Int) + 112 := by rw [IntKind.wrap_i64]; omega
     have t0 : (0 : Int) ≤ (sv : Int) := by omega
     have t1 : (sv : Int) ≤ (e : Int) := by omega
     have t2 : (e : Int) ≤ (cb : Int) := by omega
     have t3 : (sv : Int) ≤ (cb : Int) := by omega
     have t4 : ((e : Int) - (sv : Int)).toNat = pl := by omega
     have t5 : ((cb : Int) - (sv : Int)).toNat = cp := by omega
     have t6 : ¬ cp = 0 := by omega
     have hwe : IntKind.i64.wrap (e : Int) = (e : Int) := by rw [IntKind.wrap_i64]; omega
     have hz0 : IntKind.u64.wrap 0 = 0 := by rw [IntKind.wrap_u64]; omega
     have t7 : ¬ cb = sv := by omega
     rw [← hsv] at hap
     subst hap hab
     have hE0 : (112 * (j : Int) + 112 < (T : Int)) ↔ ((sv : Int) + 112 < (T : Int)) := by omega
     clear hU hdj hbj hgj hpj htb hl9 h9c hnx hpje hbB hbp hpt hpl2 hy hTl hTM he he1 he2 hTcb hcp hpl hsv
     by_cases hE : (sv : Int) + 112 < (T : Int)
     ·have e9 : (e : Int) = 112 * (j : Int) + 112 := by rw [HEQ.out, if_pos (hE0.2 hE)]
      have e8 : (sv : Int) + 112 = (e : Int) := by omega
      have hn1 : j + 1 < M := by have := HM.out.1; unfold tabN at this; omega
      have zn := HNX1.out hn1
      have r1 : (j : Int) + 1 < (M : Int) := by omega
      have r2 : ((j : Int) + 1).toNat = j + 1 := by omega
      clear HEQ e9 HNX1 HNX2 hE0
      go_wp2_with fail
      clear zn zj
      refine wp_region_held_drew (S := fun _ => True) (by kernel_rfl) trivial (fun hHeld => ?_)
      refine t8 (i := 0) (v := .int .i64 (nx : Nat)) rfl hHeld ?_
      simp only [Act.put, z9]
      refine t8 (i := 1) (v := .int .u64 (nx : Nat)) rfl hHeld ?_
      simp only [Act.put, z9]
      refine t8 (i := 3) (v := .slice (some ⟨gb, ob, none⟩) T cb) rfl hHeld ?_
      simp only [Act.put, z9]
      refine t8 (i := 4) (v := .int .i64 (j : Nat)) rfl hHeld ?_
      simp only [Act.put, z9]
      refine t8 (i := 5) (v := .int .i64 (sv : Nat)) rfl hHeld ?_
      simp only [Act.put, z9]
      refine t8 (i := 6) (v := .slice (some ⟨gb, ob, none⟩) T cb) rfl hHeld ?_
      simp only [Act.put, z9]
      refine t8 (i := 7) (v := .int .i64 (T : Nat)) rfl hHeld ?_
      simp only [Act.put, z9]
      refine t8 (i := 8) (v := .int .i64 (j : Nat)) rfl hHeld ?_
      simp only [Act.put, z9]
      refine t8 (i := 9) (v := .int .i64 (sv : Nat)) rfl hHeld ?_
      simp only [Act.put, z9]
      refine t8 (i := 10) (v := .int .i64 ((sv : Int) + 112)) rfl hHeld ?_
      simp only [Act.put, z9]
      refine t8 (i := 11) (v := .int .i64 (e : Nat)) rfl hHeld ?_ (Or.inl ⟨by rfl, fun wx hSw => by go_simp <;> omega⟩)
      simp only [Act.put, z9]
      refine t8 (i := 12) (v := .slice (some ⟨gb, ob + sv, none⟩) pl cp) rfl hHeld ?_ (Or.inl ⟨by rfl, fun wx hSw => by go_simp <;> omega⟩)
      simp only [Act.put, z9]
      refine wpAnyH_ready (rs := [2]) (by kernel_rfl) (by simp) ?_
      refine AllReadyH.cons rfl (fun K hK => ?_) AllReadyH.nil
      rw [if_pos (by rfl)]
      refine wp_call_func #[.tmp 104, .const (.int .i64 4)] #[49, 3] rfl #[.int .u64 (nx : Nat), .int .i64 4] (by simp [Act.eval]) (enters_of Tryz.func92 (by kernel_rfl) rfl) (show Calls Tryz.prog 92 _ _ _ from HL.out) (fun e5 w5 he5 => ?_)
      obtain ⟨a5, c5, rfl, H5⟩ := he5
      refine ⟨_, rfl, hK _ _ trivial (fun hHeld => ?_)⟩
      clear hK K
      simp only [Act.put, z9]
      obtain ⟨a6, c6, w6, hr6, hb6, ho6⟩ := H5.out
      have HB6 : Hid (BytesAt w6 (.slice a6 (4 + pl) c6) (layB nx 4 ++ (tab.drop (112 * j)).take 112) ∧ Only (fun _ => False) wq2 w6) := ⟨hb6, ho6⟩
      clear hb6 ho6 H5
      refine wpAnyH_ready (rs := [13]) (by kernel_rfl) (by simp) ?_
      refine AllReadyH.cons rfl (fun K hK => ?_) AllReadyH.nil
      rw [if_pos (by rfl)]
      refine wp_append_run (.tmp 105) (.tmp 115) 37 rfl (.slice a5 4 c5) (.slice (some ⟨gb, ob + sv, none⟩) pl cp) (.slice a6 (4 + pl) c6) rfl rfl (hr6 _) ?_
      refine hK _ _ trivial (fun hHeld => ?_)
      clear hK K hr6
      simp only [Act.put, z9]
      refine t8 (i := 14) (v := .slice a6 (4 + pl) c6) rfl hHeld ?_
      simp only [Act.put, z9]
      refine wpAnyH_done (by kernel_rfl) ?_ _
      clear HL
      have HW := HWR.out w6 a6 c6 HB6.out.2 HB6.out.1
      obtain ⟨x0, xj, HWc⟩ := HW
      have HWC : Hid (Calls Tryz.prog 91 _ _ _) := HWc
      clear HWc HB6 HWR
      go_wp2_with fail
      go_region_held3 (fun W => W.cell? ⟨r, 0, none⟩ = some (.pointer (some ⟨q, 0, none⟩)) ∧ W.cell? ⟨gl, ol + j, none⟩ = some (.int .i64 (pj : Nat))) (first | exact ⟨x0, xj⟩ | exact H7.out.2 | go_keep)
       (first | (go_at_call 91; refine (show Calls Tryz.prog 91 _ _ _ from HWC.out).mono ?_; rintro e7 w7 ⟨rfl, H7⟩))
      clear HWC x0 xj
      by_cases hy0 : y.1 = 0
      ·have HOK : Hid (∃ dj, (wtR tab (tbs x) dk (List.range (j + 1))).2 = (0, dj) ∧ Und E w1 B r q K rv nv rs dj { x with now := layP x.now (plA x) } w7) := ⟨y.2, by rw [HNX.out, ← hy0], H7.out.1⟩
       rw [hy0]
       clear hy0 H7 HNX
       go_wp2
       go_roundw
       case rel => exact ⟨j + 1, by omega, rfl, by go_num, HOK⟩
       case measure => simp [intOf]; omega
      ·have HQ : Hid (RcIs E x d w0 B r q K rv nv rs (.returned (.bool false)) w7) := by
        have e := cm_second HDK.out.1 (j := j + 1) (by rw [← HE.out.2.2.2.1, ← HE.out.2.2.2.2.1, ← HM.out.1]; omega) (by rw [← HE.out.2.2.2.1]; exact HNX.out) hy0
        exact .inl ⟨by rw [e]; exact hy0, rfl, w1, _, H1.out.2, by rw [e]; exact H7.out.1⟩
       obtain ⟨z, hz⟩ : ∃ z, z = y.1 := ⟨_, rfl⟩
       rw [← hz] at hy0 ⊢
       have hzb : (z != 0) = true := by simpa using hy0
       clear hy0 hz H7 HNX
       go_wp2
       go_ret
       exact HQ
     ·have e9 : (e : Int) = (T : Int) := by rw [HEQ.out, if_neg (fun e' => hE (hE0.1 e'))]
      have hn1 : ¬ j + 1 < M := by have := HM.out.1; unfold tabN at this; omega
      obtain rfl : nx = 0 := HNX2.out hn1
      have r1 : ¬ (j : Int) + 1 < (M : Int) := by omega
      have HL0 : Hid (Calls Tryz.prog 92 #[.int .u64 0, .int .i64 4] wq2.drew fun e w' => ∃ a c, e = .returned (.slice a 4 c) ∧ Hid (∃ a3 c3 w3, (∀ ty, (Builtin.append_ #[37, 37] ty #[.slice a 4 c, .slice (some ⟨gb, ob + sv, none⟩) pl cp]).run Tryz.prog w' = .ok (.slice a3 (4 + pl) c3) w3) ∧ BytesAt w3 (.slice a3 (4 + pl) c3) (layB 0 4 ++ (tab.drop (112 * j)).take 112) ∧ Only (fun _ => False) wq2 w3)) := HL.out
      have e9' : (T : Int) = (e : Int) := e9.symm
      have t1' : (sv : Int) ≤ (T : Int) := by omega
      have t2' : (T : Int) ≤ (cb : Int) := by omega
      have t4' : ((T : Int) - (sv : Int)).toNat = pl := by omega
      clear HEQ e9 e9' HNX1 HNX2 HL hu1 hE0 t1 t2 t4
      go_wp2_with fail
      clear zj
      refine wp_region_held_drew (S := fun _ => True) (by kernel_rfl) trivial (fun hHeld => ?_)
      refine t8 (i := 0) (v := .int .i64 0) rfl hHeld ?_
      simp only [Act.put, z9]
      refine t8 (i := 1) (v := .int .u64 0) rfl hHeld ?_
      simp only [Act.put, z9]
      refine t8 (i := 3) (v := .slice (some ⟨gb, ob, none⟩) T cb) rfl hHeld ?_
      simp only [Act.put, z9]
      refine t8 (i := 4) (v := .int .i64 (j : Nat)) rfl hHeld ?_
      simp only [Act.put, z9]
      refine t8 (i := 5) (v := .int .i64 (sv : Nat)) rfl hHeld ?_
      simp only [Act.put, z9]
      refine t8 (i := 6) (v := .slice (some ⟨gb, ob, none⟩) T cb) rfl hHeld ?_
      simp only [Act.put, z9]
      refine t8 (i := 7) (v := .int .i64 (T : Nat)) rfl hHeld ?_
      simp only [Act.put, z9]
      refine t8 (i := 8) (v := .int .i64 (j : Nat)) rfl hHeld ?_
      simp only [Act.put, z9]
      refine t8 (i := 9) (v := .int .i64 (sv : Nat)) rfl hHeld ?_
      simp only [Act.put, z9]
      refine t8 (i := 10) (v := .int .i64 ((sv : Int) + 112)) rfl hHeld ?_
      simp only [Act.put, z9]
      refine t8 (i := 11) (v := .int .i64 (T : Nat)) rfl hHeld ?_ (Or.inl ⟨by rfl, fun wx hSw => by go_simp <;> omega⟩)
      simp only [Act.put, z9]
      refine t8 (i := 12) (v := .slice (some ⟨gb, ob + sv, none⟩) pl cp) rfl hHeld ?_ (Or.inl ⟨by rfl, fun wx hSw => by go_simp <;> omega⟩)
      simp only [Act.put, z9]
      refine wpAnyH_ready (rs := [2]) (by kernel_rfl) (by simp) ?_
      refine AllReadyH.cons rfl (fun K hK => ?_) AllReadyH.nil
      rw [if_pos (by rfl)]
      refine wp_call_func #[.tmp 104, .const (.int .i64 4)] #[49, 3] rfl #[.int .u64 0, .int .i64 4] (by simp [Act.eval]) (enters_of Tryz.func92 (by kernel_rfl) rfl) (show Calls Tryz.prog 92 _ _ _ from HL0.out) (fun e5 w5 he5 => ?_)
      obtain ⟨a5, c5, rfl, H5⟩ := he5
      refine ⟨_, rfl, hK _ _ trivial (fun hHeld => ?_)⟩
      clear hK K
      simp only [Act.put, z9]
      obtain ⟨a6, c6, w6, hr6, hb6, ho6⟩ := H5.out
      have HB6 : Hid (BytesAt w6 (.slice a6 (4 + pl) c6) (layB 0 4 ++ (tab.drop (112 * j)).take 112) ∧ Only (fun _ => False) wq2 w6) := ⟨hb6, ho6⟩
      clear hb6 ho6 H5
      refine wpAnyH_ready (rs := [13]) (by kernel_rfl) (by simp) ?_
      refine AllReadyH.cons rfl (fun K hK => ?_) AllReadyH.nil
      rw [if_pos (by rfl)]
      refine wp_append_run (.tmp 105) (.tmp 115) 37 rfl (.slice a5 4 c5) (.slice (some ⟨gb, ob + sv, none⟩) pl cp) (.slice a6 (4 + pl) c6) rfl rfl (hr6 _) ?_
      refine hK _ _ trivial (fun hHeld => ?_)
      clear hK K hr6
      simp only [Act.put, z9]
      refine t8 (i := 14) (v := .slice a6 (4 + pl) c6) rfl hHeld ?_
      simp only [Act.put, z9]
      refine wpAnyH_done (by kernel_rfl) ?_ _
      clear HL0
      have HW := HWR.out w6 a6 c6 HB6.out.2 HB6.out.1
      obtain ⟨x0, xj, HWc⟩ := HW
      have HWC : Hid (Calls Tryz.prog 91 _ _ _) := HWc
      clear HWc HB6 HWR
      go_wp2_with fail
      go_region_held3 (fun W => W.cell? ⟨r, 0, none⟩ = some (.pointer (some ⟨q, 0, none⟩)) ∧ W.cell? ⟨gl, ol + j, none⟩ = some (.int .i64 (pj : Nat))) (first | exact ⟨x0, xj⟩ | exact H7.out.2 | go_keep)
       (first | (go_at_call 91; refine (show Calls Tryz.prog 91 _ _ _ from HWC.out).mono ?_; rintro e7 w7 ⟨rfl, H7⟩))
      clear HWC x0 xj
      by_cases hy0 : y.1 = 0
      ·have HOK : Hid (∃ dj, (wtR tab (tbs x) dk (List.range (j + 1))).2 = (0, dj) ∧ Und E w1 B r q K rv nv rs dj { x with now := layP x.now (plA x) } w7) := ⟨y.2, by rw [HNX.out, ← hy0], H7.out.1⟩
       rw [hy0]
       clear hy0 H7 HNX
       go_wp2
       go_roundw
       case rel => exact ⟨j + 1, by omega, rfl, by go_num, HOK⟩
       case measure => simp [intOf]; omega
      ·have HQ : Hid (RcIs E x d w0 B r q K rv nv rs (.returned (.bool false)) w7) := by
        have e := cm_second HDK.out.1 (j := j + 1) (by rw [← HE.out.2.2.2.1, ← HE.out.2.2.2.2.1, ← HM.out.1]; omega) (by rw [← HE.out.2.2.2.1]; exact HNX.out) hy0
        exact .inl ⟨by rw [e]; exact hy0, rfl, w1, _, H1.out.2, by rw [e]; exact H7.out.1⟩
       obtain ⟨z, hz⟩ : ∃ z, z = y.1 := ⟨_, rfl⟩
       rw [← hz] at hy0 ⊢
       have hzb : (z != 0) = true := by simpa using hy0
       clear hy0 hz H7 HNX
       go_wp2
       go_ret
       exact HQ
    ·obtain rfl : j = M := by omega
     have hy0' := hU.cells
     obtain ⟨y0, y1, y2, y5, yf, _⟩ := hy0'
     have HB1 : Hid (Calls Tryz.prog 72 _ _ _) := hU.barrier hgj (by have h8 := HDK.out.2.2.2; simp only [List.length_range] at hpj; omega)
     have HC3 : Hid (cmX x d = if dj.barrier.1 ≠ 0 then dj.barrier else dj.barrier.2.keep ((4 - x.sector : Nat) : Int) (byF (rootB ((x.epoch + 1) % 18446744073709551616) ((tbs x).getD 0 0) (tbs x).length))) := by
      have h9 := cm_third (x := x) (dj := dj) HDK.out.1 (by rw [← HE.out.2.2.2.1, ← HE.out.2.2.2.2.1, ← HM.out.1]; exact hdj)
      exact h9
     have hg3 : Good dj.barrier.2 := good_barrier hgj
     have hp3 := barrier_pend dj
     obtain ⟨z1, hz1⟩ : ∃ z, z = dj.barrier := ⟨_, rfl⟩
     rw [← hz1] at HB1 HC3 hg3 hp3
     have hp4 : z1.2.pend.length ≤ 9000010000 := by have h8 := HDK.out.2.2.2; simp only [List.length_range] at hpj; omega
     have HG3 : Hid (Good z1.2 ∧ z1.2.pend.length ≤ 9000010000) := ⟨hg3, hp4⟩
     clear hU hdj hbj hgj hpj htb hg3 hp3 hp4 hz1 hlt2 y1 y2 y5 yf
     go_wp2_with fail
     refine (show Calls Tryz.prog 72 _ _ _ from HB1.out).mono ?_
     rintro e3 w3 ⟨rfl, H3⟩
     clear HB1 y0
     by_cases hb1 : z1.1 = 0
     ·have hl3 := H3.out.ints (RowAt.frame HSL.out.1 H1.out.2 (fun _ e => e.elim)) HAB.out
      obtain ⟨a4, c4, w4, hr4, hf4, ho4⟩ := copy_ints w3 (.slice a9 j c9) (tbs x) hl3 (by rw [HM.out.2]; omega)
      have hwt : SS.Wf { x with now := layP x.now (plA x), tabs := tbs x } := by
       have hx := next_wf hwf HH.out.2.2.2.2.2.2.2
       exact ⟨hx.size, hwf.epoch, hwf.sector, hx.tabs, hwf.com, fun p hp => hx.now p hp⟩
      have hU4 := H3.out.setTabs ho4 a4 (tbs x) c4 hf4 hwt
      rw [HM.out.2] at hr4 hU4
      obtain ⟨ep, hep⟩ : ∃ ep, ep = (x.epoch + 1) % 18446744073709551616 := ⟨_, rfl⟩
      have hwe : SS.Wf { x with now := layP x.now (plA x), tabs := tbs x, epoch := ep } := ⟨hwt.size, by rw [hep]; exact Nat.mod_lt _ (by omega), hwt.sector, hwt.tabs, hwt.com, hwt.now⟩
      have hU5 := hU4.setEpoch ep hwe
      obtain ⟨c40, c41, c42, c45, c4f, _⟩ := hU4.cells
      obtain ⟨c30, c31, c32, c35, c3f, _⟩ := H3.out.cells
      have y43 : ∃ u, w4.cell? ⟨r, 3, none⟩ = some u := by
       obtain ⟨rv', rs', tv', kv', lk', ln', h1', h2'⟩ := H3.out.all
       exact ⟨tv', ho4.cell h2'.c3 (fun e => e)⟩
      obtain ⟨u43, y43⟩ := y43
      have rlt3 : r < w3.heap.size := World.block_lt_of_cell? w3 ⟨r, 0, none⟩ c30
      have yf43 : w4.frozen? ⟨r, 3, none⟩ = false := (ho4.frozen (a := ⟨r, 3, none⟩) rlt3 (fun e => e)).trans (c3f 3 (by omega))
      have hu9 : IntKind.u64.wrap ((x.epoch : Int) + 1) = (ep : Nat) := by rw [IntKind.wrap_u64, hep]; omega
      obtain ⟨w5, hw5⟩ : ∃ w, w = (w4.setCell ⟨r, 3, none⟩ (.slice a4 j c4)).setCell ⟨r, 2, none⟩ (.int .u64 (ep : Nat)) := ⟨_, rfl⟩
      rw [← hw5] at hU5
      have HU5 : Hid (Und E w1 B r q K rv nv rs z1.2 { x with now := layP x.now (plA x), tabs := tbs x, epoch := ep } w5) := hU5
      have HR4 : Hid _ := hr4
      have HEP : Hid (ep = (x.epoch + 1) % 18446744073709551616) := hep
      have hem := emptyI
      have c42' := c42
      have f42 := c4f 2 (by omega)
      rw [hb1]
      have HB9 : Hid (z1.1 = 0) := hb1
      have HW5 : Hid (w5 = _) := hw5
      clear hb1 hl3 hf4 ho4 hwt hwe hU4 hU5 hr4 hep H3 c30 c31 c32 c35 c3f c40 c41 c45 c4f hw5
      go_wp2_with (at_builtin; refine wpList_append_run rfl _ _ 76 rfl (.slice (some ⟨w3.heap.size, 0, none⟩) 0 0) (.slice a9 j c9) (.slice a4 j c4) rfl rfl HR4.out ?_)
      rw [← HW5.out]
      obtain ⟨x50, x51, _, _, _, _⟩ := HU5.out.cells
      simp only at x51
      obtain ⟨s4, hs4⟩ : ∃ s4, s4 = x.sector / 4 := ⟨_, rfl⟩
      have HS4 : Hid (x.sector / 4 = s4) := hs4.symm
      rw [← hs4] at x51
      have hsc := hwf.sector
      have s41 : s4 ≤ 1 := by omega
      have s42 : (s4 : Int) ≤ 1 := by omega
      have s43 : (0 : Int) ≤ (s4 : Int) := by omega
      have e81 : IntKind.i64.wrap (1 - (s4 : Int)) = 1 - (s4 : Int) := by rw [IntKind.wrap_i64]; omega
      have e91 : IntKind.i64.wrap (4 * (1 - (s4 : Int))) = ((4 - x.sector : Nat) : Int) := by rw [IntKind.wrap_i64]; omega
      have e92 : 4 * (1 - (s4 : Int)) = ((4 - x.sector : Nat) : Int) := by omega
      have e93 : IntKind.i64.wrap ((4 - x.sector : Nat) : Int) = ((4 - x.sector : Nat) : Int) := by rw [IntKind.wrap_i64]; omega
      have e94 : (((4 - x.sector) / 4 : Nat) : Int) = 1 - (s4 : Int) := by omega
      have od5 : Only (fun _ => False) w5 w5.drew := (Only.refl _ _).drew
      have HRT : Hid (Calls Tryz.prog 73 _ _ _) := (HU5.out.still od5).root
      obtain ⟨f9, hf9⟩ : ∃ f, f = byF (rootB ep ((tbs x).getD 0 0) (tbs x).length) := ⟨_, rfl⟩
      obtain ⟨z2, hz2⟩ : ∃ z, z = z1.2.write ((4 - x.sector : Nat) : Int) f9 32 := ⟨_, rfl⟩
      obtain ⟨z3, hz3⟩ : ∃ z, z = z2.2.barrier := ⟨_, rfl⟩
      have HPT : Hid (∀ (w6 : World) (a7 : Option Addr) (c7 : Nat), Fresh w6 w5.drew.heap.size (.slice a7 32 c7) (rootB ep ((tbs x).getD 0 0) (tbs x).length) → Only (fun _ => False) w5.drew w6 → Calls Tryz.prog 42 #[.pointer (some ⟨q, 0, none⟩), .int .i64 ((4 - x.sector : Nat) : Int), .slice a7 32 c7] w6 fun e W => e = .returned (.int .i64 z2.1) ∧ Hid (Und E w1 B r q K rv nv rs z2.2 { x with now := layP x.now (plA x), tabs := tbs x, epoch := ep } W)) := fun w6 a7 c7 hf ho => by
       have hU6 := (HU5.out.still od5).still ho
       have hrow := hf.bytes.1
       rw [rootB_length] at hrow
       have h9 := hU6.put (by have := HH.out.2.2.1; have := H1.out.2.size; omega) hU6.size a7 c7 ((4 - x.sector : Nat) : Int) f9 (by rw [hf9]; exact hrow) (by have := HG3.out.2; omega)
       rw [← hz2] at h9
       exact h9
      have HBR : Hid (∀ W : World, Und E w1 B r q K rv nv rs z2.2 { x with now := layP x.now (plA x), tabs := tbs x, epoch := ep } W → Calls Tryz.prog 72 #[.pointer (some ⟨q, 0, none⟩)] W fun e W2 => e = .returned (.int .i64 z3.1) ∧ Hid (Und E w1 B r q K rv nv rs z3.2 { x with now := layP x.now (plA x), tabs := tbs x, epoch := ep } W2)) := fun W hW => by
       have hg2 : Good z2.2 := by rw [hz2]; exact HG3.out.1.write _ _ _
       have hp2 : z2.2.pend.length ≤ 9000010001 := by rw [hz2]; have := write_pend z1.2 ((4 - x.sector : Nat) : Int) f9 32; have := HG3.out.2; omega
       have h9 := hW.barrier hg2 (by omega)
       rw [← hz3] at h9
       exact h9
      have HCM : Hid (cmX x d = if z2.1 ≠ 0 then z2 else z3) := by
       have h9 : cmX x d = if z2.1 ≠ 0 then z2 else z3 := by
        rw [HC3.out, if_neg (by rw [HB9.out]; simp), ← HEP.out, ← hf9]
        unfold DS.keep
        rw [← hz2, ← hz3]
       exact h9
      clear HC3 HB9 hs4 hf9 hz2 hz3 od5 HG3 hsc
      by_cases hb2 : z2.1 = 0
      ·rw [hb2] at HPT
       refine wp_region_held_drew (S := fun W => W.cell? ⟨r, 0, none⟩ = some (.pointer (some ⟨q, 0, none⟩)) ∧ W.cell? ⟨r, 1, none⟩ = some (.int .i64 (s4 : Nat))) (by kernel_rfl) ⟨x50, x51⟩ (fun hHeld => ?_)
       refine t8 (i := 0) (v := .pointer (some ⟨r, 0, none⟩)) rfl hHeld ?_
       simp only [Act.put, z9]
       refine t8 (i := 1) (v := .pointer (some ⟨r, 0, none⟩)) rfl hHeld ?_
       simp only [Act.put, z9]
       refine t8 (i := 2) (v := .pointer (some ⟨r, 0, none⟩)) rfl hHeld ?_
       simp only [Act.put, z9]
       refine t8 (i := 3) (v := .pointer (some ⟨q, 0, none⟩)) rfl hHeld ?_ (Or.inl ⟨by rfl, fun wx hSw => by obtain ⟨q0, q1⟩ := hSw; go_simp⟩)
       simp only [Act.put, z9]
       refine t8 (i := 4) (v := .pointer (some ⟨r, 0, none⟩)) rfl hHeld ?_
       simp only [Act.put, z9]
       refine t8 (i := 5) (v := .pointer (some ⟨r, 0, none⟩)) rfl hHeld ?_
       simp only [Act.put, z9]
       refine t8 (i := 6) (v := .pointer (some ⟨r, 1, none⟩)) rfl hHeld ?_
       simp only [Act.put, z9]
       refine t8 (i := 7) (v := .int .i64 (s4 : Nat)) rfl hHeld ?_ (Or.inl ⟨by rfl, fun wx hSw => by obtain ⟨q0, q1⟩ := hSw; go_simp⟩)
       simp only [Act.put, z9]
       refine t8 (i := 8) (v := .int .i64 (1 - (s4 : Int))) rfl hHeld ?_
       simp only [Act.put, z9]
       refine t8 (i := 9) (v := .int .i64 ((4 - x.sector : Nat) : Int)) rfl hHeld ?_
       simp only [Act.put, z9]
       refine t8 (i := 10) (v := .pointer (some ⟨r, 0, none⟩)) rfl hHeld ?_
       simp only [Act.put, z9]
       refine wpAnyH_ready (rs := [11]) (by kernel_rfl) (by simp) ?_
       refine AllReadyH.cons rfl (fun K hK => ?_) AllReadyH.nil
       rw [if_pos (by rfl)]
       refine wp_call_func #[.tmp 157] #[33] rfl #[.pointer (some ⟨r, 0, none⟩)] (by simp [Act.eval]) (enters_of Tryz.func73 (by kernel_rfl) rfl) (show Calls Tryz.prog 73 _ _ _ from HRT.out) (fun e6 w6 he6 => ?_)
       obtain ⟨a7, c7, rfl, H6⟩ := he6
       refine ⟨_, rfl, hK _ _ ⟨H6.out.2.cell x50 (fun e => e), H6.out.2.cell x51 (fun e => e)⟩ (fun hHeld => ?_)⟩
       clear hK K
       simp only [Act.put, z9]
       have HPT2 : Hid (Calls Tryz.prog 42 _ _ _) := HPT.out w6 a7 c7 H6.out.1 H6.out.2
       refine wpAnyH_ready (rs := [12]) (by kernel_rfl) (by simp) ?_
       refine AllReadyH.cons rfl (fun K hK => ?_) AllReadyH.nil
       rw [if_pos (by rfl)]
       refine wp_call_func #[.tmp 150, .tmp 156, .tmp 158] #[28, 3, 37] rfl #[.pointer (some ⟨q, 0, none⟩), .int .i64 ((4 - x.sector : Nat) : Int), .slice a7 32 c7] (by simp [Act.eval]) (enters_of Tryz.func42 (by kernel_rfl) rfl) (show Calls Tryz.prog 42 _ _ _ from HPT2.out) (fun e7 w7 he7 => ?_)
       obtain ⟨rfl, H7⟩ := he7
       obtain ⟨x70, x71, _, _, _, _⟩ := H7.out.cells
       simp only at x71
       rw [HS4.out] at x71
       refine ⟨_, rfl, hK _ _ ⟨x70, x71⟩ (fun hHeld => ?_)⟩
       clear hK K HPT2 H6
       simp only [Act.put, z9]
       refine t8 (i := 13) (v := .bool false) rfl hHeld ?_
       simp only [Act.put, z9]
       refine t8 (i := 14) (v := .bool false) rfl hHeld ?_
       simp only [Act.put, z9]
       refine t8 (i := 15) (v := .pointer (some ⟨r, 0, none⟩)) rfl hHeld ?_
       simp only [Act.put, z9]
       refine t8 (i := 16) (v := .pointer (some ⟨r, 0, none⟩)) rfl hHeld ?_
       simp only [Act.put, z9]
       refine t8 (i := 17) (v := .pointer (some ⟨r, 0, none⟩)) rfl hHeld ?_
       simp only [Act.put, z9]
       refine t8 (i := 18) (v := .pointer (some ⟨q, 0, none⟩)) rfl hHeld ?_ (Or.inl ⟨by rfl, fun wx hSw => by obtain ⟨q0, q1⟩ := hSw; go_simp⟩)
       simp only [Act.put, z9]
       refine wpAnyH_ready (rs := [19]) (by kernel_rfl) (by simp) ?_
       refine AllReadyH.cons rfl (fun K hK => ?_) AllReadyH.nil
       rw [if_pos (by rfl)]
       have HBR2 : Hid (Calls Tryz.prog 72 _ _ _) := HBR.out w7 H7.out
       refine wp_call_func #[.tmp 165] #[28] rfl #[.pointer (some ⟨q, 0, none⟩)] (by simp [Act.eval]) (enters_of Tryz.func72 (by kernel_rfl) rfl) (show Calls Tryz.prog 72 _ _ _ from HBR2.out) (fun e8 w8 he8 => ?_)
       obtain ⟨rfl, H8⟩ := he8
       obtain ⟨x80, x81, _, _, _, _⟩ := H8.out.cells
       simp only at x81
       rw [HS4.out] at x81
       refine ⟨_, rfl, hK _ _ ⟨x80, x81⟩ (fun hHeld => ?_)⟩
       clear hK K HBR2 H7
       simp only [Act.put, z9]
       by_cases hb3 : z3.1 = 0
       ·have HC9 : Hid (cmX x d = z3 ∧ z3.1 = 0) := ⟨by rw [HCM.out, if_neg (by rw [hb2]; simp)], hb3⟩
        have hnx := next_wf hwf HH.out.2.2.2.2.2.2.2
        have hU9 := H8.out.setSector (4 - x.sector) ⟨hnx.size, by rw [HEP.out]; exact Nat.mod_lt _ (by omega), hnx.sector, hnx.tabs, hwf.com, fun p hp => hnx.now p hp⟩
        rw [e94] at hU9
        have HU9 : Hid (Und E w1 B r q K rv nv rs z3.2 { x with now := layP x.now (plA x), tabs := tbs x, epoch := ep, sector := 4 - x.sector } (w8.setCell ⟨r, 1, none⟩ (.int .i64 (1 - (s4 : Int))))) := hU9
        obtain ⟨_, _, _, x85, x8f, _⟩ := H8.out.cells
        have f81 := x8f 1 (by omega)
        obtain ⟨_, _, _, x95, x9f, _⟩ := hU9.cells
        have HCP : Hid (Calls Tryz.prog 62 _ _ _) := hU9.copied (by have := HH.out.2.2.1; have := H1.out.2.size; omega) ⟨hnx.size, by rw [HEP.out]; exact Nat.mod_lt _ (by omega), hnx.sector, hnx.tabs, fun p hp => hnx.com p hp, fun p hp => hnx.now p hp⟩
        simp only [layP_length] at HCP
        rw [← HE.out.2.2.1, HNV.out] at HCP
        rw [HNV.out] at x95
        have f94 := x9f 4 (by omega)
        have x94 : ∃ u, (w8.setCell ⟨r, 1, none⟩ (.int .i64 (1 - (s4 : Int)))).cell? ⟨r, 4, none⟩ = some u := by
         obtain ⟨rv', rs', tv', kv', lk', ln', h1', h2'⟩ := hU9.all
         exact ⟨kv', h2'.c4⟩
        obtain ⟨u94, x94⟩ := x94
        have rlt9 : r < (w8.setCell ⟨r, 1, none⟩ (.int .i64 (1 - (s4 : Int)))).heap.size := World.block_lt_of_cell? _ ⟨r, 4, none⟩ x94
        rw [hb3]
        refine t8 (i := 20) (v := .bool false) rfl hHeld ?_
        simp only [Act.put, z9]
        refine t8 (i := 21) (v := .bool false) rfl hHeld ?_
        simp only [Act.put, z9]
        refine wpAnyH_done (by kernel_rfl) ?_ _
        clear hU9 x85 x8f x9f hnx hb3 hHeld x70 x71 x80 H8 HCM hb2
        go_wp2_with fail
        refine (show Calls Tryz.prog 62 _ _ _ from HCP.out).mono ?_
        rintro e10 w10 ⟨a10, c10, rfl, H10⟩
        have y94 := H10.out.2.cell x94 (fun e => e)
        have yf94 : w10.frozen? ⟨r, 4, none⟩ = false := (H10.out.2.frozen (a := ⟨r, 4, none⟩) rlt9 (fun e => e)).trans f94
        have HQ : Hid (RcIs E x d w0 B r q K rv nv rs (.returned (.bool true)) (w10.setCell ⟨r, 4, none⟩ (.slice a10 k c10))) := by
         refine .inr ⟨by rw [HC9.out.1]; exact HC9.out.2, rfl, w1, H1.out.2, ?_⟩
         rw [HC9.out.1]
         have h9 := H10.out.1
         rw [HEP.out, ← HNV.out] at h9
         exact h9
        clear HCP x94 x95 f94 H10 HC9 HU9
        go_wp2
        go_ret
        exact HQ
       ·have HQ0 : Hid (RcIs E x d w0 B r q K rv nv rs (.returned (.bool false)) w8) := by
         have e : cmX x d = z3 := by rw [HCM.out, if_neg (by rw [hb2]; simp)]
         exact .inl ⟨by rw [e]; exact hb3, rfl, w1, _, H1.out.2, by rw [e]; exact H8.out⟩
        obtain ⟨zz, hzz⟩ : ∃ zz, zz = z3.1 := ⟨_, rfl⟩
        rw [← hzz] at hb3 ⊢
        have hzb : (zz != 0) = true := by simpa using hb3
        have hzb2 : (zz == 0) = false := by simpa using hb3
        clear hb3 hzz HCM
        refine t8 (i := 20) (v := .bool true) rfl hHeld ?_
        simp only [Act.put, z9]
        refine t8 (i := 21) (v := .bool true) rfl hHeld ?_
        simp only [Act.put, z9]
        refine wpAnyH_done (by kernel_rfl) ?_ _
        clear H8 hHeld
        go_wp2
        go_ret
        exact HQ0
      ·obtain ⟨zz, hzz⟩ : ∃ zz, zz = z2.1 := ⟨_, rfl⟩
       rw [← hzz] at HPT
       have hzb : (zz != 0) = true := by rw [hzz]; simpa using hb2
       have hzb2 : (zz == 0) = false := by rw [hzz]; simpa using hb2
       have HBAD : Hid (∀ W : World, Und E w1 B r q K rv nv rs z2.2 { x with now := layP x.now (plA x), tabs := tbs x, epoch := ep } W → RcIs E x d w0 B r q K rv nv rs (.returned (.bool false)) W) := fun W hW => by
        have e : cmX x d = z2 := by rw [HCM.out, if_pos hb2]
        exact .inl ⟨by rw [e]; exact hb2, rfl, w1, _, H1.out.2, by rw [e]; exact hW⟩
       clear hb2 hzz HCM
       refine wp_region_held_drew (S := fun W => W.cell? ⟨r, 0, none⟩ = some (.pointer (some ⟨q, 0, none⟩)) ∧ W.cell? ⟨r, 1, none⟩ = some (.int .i64 (s4 : Nat))) (by kernel_rfl) ⟨x50, x51⟩ (fun hHeld => ?_)
       refine t8 (i := 0) (v := .pointer (some ⟨r, 0, none⟩)) rfl hHeld ?_
       simp only [Act.put, z9]
       refine t8 (i := 1) (v := .pointer (some ⟨r, 0, none⟩)) rfl hHeld ?_
       simp only [Act.put, z9]
       refine t8 (i := 2) (v := .pointer (some ⟨r, 0, none⟩)) rfl hHeld ?_
       simp only [Act.put, z9]
       refine t8 (i := 3) (v := .pointer (some ⟨q, 0, none⟩)) rfl hHeld ?_ (Or.inl ⟨by rfl, fun wx hSw => by obtain ⟨q0, q1⟩ := hSw; go_simp⟩)
       simp only [Act.put, z9]
       refine t8 (i := 4) (v := .pointer (some ⟨r, 0, none⟩)) rfl hHeld ?_
       simp only [Act.put, z9]
       refine t8 (i := 5) (v := .pointer (some ⟨r, 0, none⟩)) rfl hHeld ?_
       simp only [Act.put, z9]
       refine t8 (i := 6) (v := .pointer (some ⟨r, 1, none⟩)) rfl hHeld ?_
       simp only [Act.put, z9]
       refine t8 (i := 7) (v := .int .i64 (s4 : Nat)) rfl hHeld ?_ (Or.inl ⟨by rfl, fun wx hSw => by obtain ⟨q0, q1⟩ := hSw; go_simp⟩)
       simp only [Act.put, z9]
       refine t8 (i := 8) (v := .int .i64 (1 - (s4 : Int))) rfl hHeld ?_
       simp only [Act.put, z9]
       refine t8 (i := 9) (v := .int .i64 ((4 - x.sector : Nat) : Int)) rfl hHeld ?_
       simp only [Act.put, z9]
       refine t8 (i := 10) (v := .pointer (some ⟨r, 0, none⟩)) rfl hHeld ?_
       simp only [Act.put, z9]
       refine wpAnyH_ready (rs := [11]) (by kernel_rfl) (by simp) ?_
       refine AllReadyH.cons rfl (fun K hK => ?_) AllReadyH.nil
       rw [if_pos (by rfl)]
       refine wp_call_func #[.tmp 157] #[33] rfl #[.pointer (some ⟨r, 0, none⟩)] (by simp [Act.eval]) (enters_of Tryz.func73 (by kernel_rfl) rfl) (show Calls Tryz.prog 73 _ _ _ from HRT.out) (fun e6 w6 he6 => ?_)
       obtain ⟨a7, c7, rfl, H6⟩ := he6
       refine ⟨_, rfl, hK _ _ ⟨H6.out.2.cell x50 (fun e => e), H6.out.2.cell x51 (fun e => e)⟩ (fun hHeld => ?_)⟩
       clear hK K
       simp only [Act.put, z9]
       have HPT2 : Hid (Calls Tryz.prog 42 _ _ _) := HPT.out w6 a7 c7 H6.out.1 H6.out.2
       refine wpAnyH_ready (rs := [12]) (by kernel_rfl) (by simp) ?_
       refine AllReadyH.cons rfl (fun K hK => ?_) AllReadyH.nil
       rw [if_pos (by rfl)]
       refine wp_call_func #[.tmp 150, .tmp 156, .tmp 158] #[28, 3, 37] rfl #[.pointer (some ⟨q, 0, none⟩), .int .i64 ((4 - x.sector : Nat) : Int), .slice a7 32 c7] (by simp [Act.eval]) (enters_of Tryz.func42 (by kernel_rfl) rfl) (show Calls Tryz.prog 42 _ _ _ from HPT2.out) (fun e7 w7 he7 => ?_)
       obtain ⟨rfl, H7⟩ := he7
       obtain ⟨x70, x71, _, _, _, _⟩ := H7.out.cells
       simp only at x71
       rw [HS4.out] at x71
       refine ⟨_, rfl, hK _ _ ⟨x70, x71⟩ (fun hHeld => ?_)⟩
       clear hK K HPT2 H6
       simp only [Act.put, z9]
       refine t8 (i := 13) (v := .bool true) rfl hHeld ?_
       simp only [Act.put, z9]
       refine t8 (i := 14) (v := .bool true) rfl hHeld ?_
       simp only [Act.put, z9]
       refine t9 (i := 15) rfl hHeld ?_
       simp only [Act.put, z9]
       refine t9 (i := 16) rfl hHeld ?_
       simp only [Act.put, z9]
       refine t9 (i := 17) rfl hHeld ?_
       simp only [Act.put, z9]
       refine t9 (i := 18) rfl hHeld ?_
       simp only [Act.put, z9]
       refine t9 (i := 19) rfl hHeld ?_
       simp only [Act.put, z9]
       refine t9 (i := 20) rfl hHeld ?_
       simp only [Act.put, z9]
       refine t8 (i := 21) (v := .bool true) rfl hHeld ?_
       simp only [Act.put, z9]
       refine wpAnyH_done (by kernel_rfl) ?_ _
       have HQ : Hid (RcIs E x d w0 B r q K rv nv rs (.returned (.bool false)) w7) := HBAD.out w7 H7.out
       clear H7 HBAD hHeld
       go_wp2
       go_ret
       exact HQ
     ·have HQ : Hid (RcIs E x d w0 B r q K rv nv rs (.returned (.bool false)) w3) := by
       have e : cmX x d = z1 := by rw [HC3.out, if_pos hb1]
       exact .inl ⟨by rw [e]; exact hb1, rfl, w1, _, H1.out.2, by rw [e]; exact H3.out⟩
      obtain ⟨z, hz⟩ : ∃ z, z = z1.1 := ⟨_, rfl⟩
      rw [← hz] at hb1 ⊢
      have hzb : (z != 0) = true := by simpa using hb1
      clear hb1 hz H3 HC3
      go_wp2
      go_ret
      exact HQ
end Go.Proofs.YtlcglapcmdpkfaaGreat
