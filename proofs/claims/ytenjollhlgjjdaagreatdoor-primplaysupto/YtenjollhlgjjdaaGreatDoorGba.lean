import Derived.Test.YtenjollhlgjjdaaGreatDoorGaz
import Derived.Test.YtenjollhlgjjdaaGreatDoorGas
import Derived.Test.YtenjollhlgjjdaaGreatDoorGau
import Derived.Test.YtenjollhlgjjdaaGreatDoorGam
import Derived.Test.YtenjollhlgjjdaaGreatDoorGaa
import Derived.Deep.Slices
import Derived.Deep.MidRow
import Derived.ChangeArms
import Derived.ChangeMaps5
/-      -/
set_option linter.unusedSimpArgs false
set_option linter.unusedVariables false
set_option maxRecDepth 100000
set_option maxHeartbeats 40000000
namespace Go.Proofs.YtenjollhlgjjdaaGreatDoor
open Go.RowKit Go.Lib
theorem take_one {α : Type} {l : List α} {a : Nat} {x : α} (h : l[a]? = some x) : (l.drop a).take 1 = [x] := by
 obtain ⟨ha, rfl⟩ := List.getElem?_eq_some_iff.1 h
 rw [List.drop_eq_getElem_cons ha, List.take_succ_cons, List.take_zero]
theorem jn_t {d D : Nat} {l : List Vt} (hg : Gd d D l) {x y : Vt} (hx : x ∈ l) (hy : y ∈ l) (kx : x.k = 2 ∨ x.k = 4 ∨ x.k = 5) (he : y.k = x.k) : jnR x y = .ok ⟨x.k, 0, x.s ++ y.s, x.l ++ y.l⟩ := by
 have hkd : kd x = kd y := by unfold kd; rw [he]
 unfold jnR
 rw [if_pos hkd]
 by_cases h2 : x.k = 2
 ·obtain ⟨_, _, _, hl, _⟩ := gd_q hg hx h2
  obtain ⟨_, _, _, hl', _⟩ := gd_q hg hy (he.trans h2)
  rw [if_pos h2, hl, hl', h2]
  rfl
 ·rw [if_neg h2, (gd_r hg hx (by omega)).2, (gd_r hg hy (by omega)).2, ba_nil]
theorem jt_sm {d D : Nat} {l : List Vt} (hg : Gd d D l) {x y : Vt} (hx : x ∈ l) (hy : y ∈ l) (kx : x.k = 2 ∨ x.k = 4 ∨ x.k = 5) (he : y.k = x.k) : ∃ e, SmT e ⟨x.k, 0, x.s ++ y.s, x.l ++ y.l⟩ := by
 by_cases h2 : x.k = 2
 ·obtain ⟨_, _, _, hl, _⟩ := gd_q hg hx h2
  obtain ⟨_, _, _, hl', _⟩ := gd_q hg hy (he.trans h2)
  rw [h2, hl, hl']
  exact st_sm (s := x.s ++ y.s) (by rw [ByteArray.size_append]; have := (hg x hx).2.2.2.2.2; have := (hg y hy).2.2.2.2.2; omega)
 ·rw [(gd_r hg hx (by omega)).2, (gd_r hg hy (by omega)).2, ba_nil]
  exact jn_sm hg hx hy (by omega)
theorem apc_29 : ApC q29 := by
 intro d D l g o c w S hd hD hl hS hlen hg
 by_cases hfit : fitB l q29.ks = true
 ·have hfm := fr_29.fit hg hlen
  rw [hfit] at hfm
  obtain ⟨x, y, rfl, kx, ky⟩ := fit2 hlen hfit
  rw [hfit, ← hfm]
  have kx' := fb_26 kx
  have ky' := fb_26 ky
  have hx := hg x (by simp)
  have hy := hg y (by simp)
  obtain ⟨a0, c0, v0, t0⟩ := vs_v4 hl 0 (x := x) rfl
  obtain ⟨a1, c1, v1, t1⟩ := vs_v4 hl 1 (x := y) rfl
  have u0 : V4 w g o x.k x.n x.s (.slice a0 x.l.length c0) := by simpa using v0
  have u1 : V4 w g (o + 4) y.k y.n y.s (.slice a1 y.l.length c1) := by simpa using v1
  have hN : ∀ W, Oz w W → Cz 39 #[.string q29.name, .slice (some ⟨g, o, none⟩) [x, y].length c] W fun e w' => e = .returned (.tuple #[.slice none 0 0, .bool false]) ∧ w' = W := fun W q => mnd_29 _ ⟨_, _, _, rfl⟩ W
  by_cases he : y.k = x.k
  ·have e : q29.cy d [x, y] = .ok [⟨x.k, 0, x.s ++ y.s, x.l ++ y.l⟩] := by
    show oneR (jnR x y) = _
    rw [jn_t hg (by simp) (by simp) kx' he]
    rfl
   rw [e]
   refine rapply_any g o c (D + 1) hl kn_29 fr_29.len fr_29.my (by simp) (by simp) (by simp) (fun qs h => by cases h; exact one_few (jt_sm hg (by simp) (by simp) kx' he)) (fun _ => .inr ⟨rfl, by simp, x.k, y.k, u0.1, u1.1, .inr ⟨he.symm, hN, kq0_29, fun W q => ?_⟩⟩)
   obtain ⟨E, rfl⟩ : ∃ E, D = E + 1 := ⟨D - 1, by omega⟩
   have w0 : V4 W g o x.k x.n x.s (.slice a0 x.l.length c0) := ⟨q.cell u0.1 (fun g => g), q.cell u0.2.1 (fun g => g), q.cell u0.2.2.1 (fun g => g), q.cell u0.2.2.2 (fun g => g)⟩
   have w1 : V4 W g (o + 4) y.k y.n y.s (.slice a1 y.l.length c1) := ⟨q.cell u1.1 (fun g => g), q.cell u1.2.1 (fun g => g), q.cell u1.2.2.1 (fun g => g), q.cell u1.2.2.2 (fun g => g)⟩
   exact (rro_append g o c x y a0 a1 c0 c1 E S W w0 w1 (t0.only q) (t1.only q) (fun b hb => Nat.lt_of_lt_of_le (hS b hb) q.size) (fun z hz => sm_parts hx.1 z hz) ⟨hx.2.2.2.2.1, hy.2.2.2.2.1⟩ ⟨hx.2.2.2.2.2, hy.2.2.2.2.2⟩).mono fun e w' h => h.up (by omega)
  ·have e : q29.cy d [x, y] = .error 17 := by
    show oneR (jnR x y) = _
    unfold jnR
    rw [if_neg (fun h => he ((kd_245 kx' ky').1 h).symm)]
    rfl
   rw [e]
   exact rapply_any g o c (D + 1) hl kn_29 fr_29.len fr_29.my (by simp) (by simp) (by simp) (fun qs h => by cases h) (fun _ => .inr ⟨rfl, by simp, x.k, y.k, u0.1, u1.1, .inl ⟨fun h => he h.symm, rfl⟩⟩)
 ·exact apc_nofit fr_29 hl hlen hg (by simpa using hfit) _
def lenT (y : Vt) : Nat := if y.k = 2 then (rns y.s).length else y.l.length
theorem pc_no {n m : Int} {z : Vt} (h : ¬ (0 ≤ n ∧ n ≤ m ∧ m ≤ (lenT z : Int))) : pcR n m z = .error 4 := by
 unfold lenT at h
 unfold pcR
 by_cases h2 : z.k = 2
 ·rw [if_pos h2] at h ⊢
  rw [if_neg h]
 ·rw [if_neg h2] at h ⊢
  rw [if_neg h]
theorem nt_no {n : Int} {y : Vt} (h : n < 0 ∨ (lenT y : Int) ≤ n) : ntR n y = .error 4 := by
 unfold ntR
 rw [pc_no (by omega)]
theorem nt_str {y : Vt} {q : List Nat} {a : Nat} (hk : y.k = 2) (hq : rns y.s = q) (ha : a < q.length) : ntR (a : Int) y = .ok (stT (tx [q.getD a 0])) := by
 unfold ntR pcR
 rw [if_pos hk, hq, if_pos (by omega)]
 have e : (q.drop (a : Int).toNat).take (((a : Int) + 1).toNat - (a : Int).toNat) = [q.getD a 0] := by
  rw [show ((a : Int) + 1).toNat - (a : Int).toNat = 1 by omega, Int.toNat_natCast]
  exact take_one (by rw [List.getD, List.getElem?_eq_getElem ha]; rfl)
 rw [e]
 rfl
theorem nt_list {y : Vt} {a : Nat} (hk : y.k = 4) (ha : a < y.l.length) : ntR (a : Int) y = .ok (y.l.getD a zT) := by
 unfold ntR pcR
 rw [if_neg (by omega), if_pos (by omega)]
 have e : (y.l.drop (a : Int).toNat).take (((a : Int) + 1).toNat - (a : Int).toNat) = [y.l.getD a zT] := by
  rw [show ((a : Int) + 1).toNat - (a : Int).toNat = 1 by omega, Int.toNat_natCast]
  exact take_one (by rw [List.getD, List.getElem?_eq_getElem ha]; rfl)
 rw [e]
 rfl
theorem apc_30 : ApC q30 := by
 refine apc_rows fr_30 (by kernel_rfl) mnd_30 kq0_30 (fun d D l g o c w S hd hD hl hS hlen hg hf => ?_) (fun d D l rs hd hD hlen hg hf h => ?_)
 ·obtain ⟨x, y, rfl, kx, ky⟩ := fit2 hlen hf
  obtain ⟨a0, c0, v0, t0⟩ := vs_v4 hl 0 (x := x) rfl
  obtain ⟨a1, c1, v1, t1⟩ := vs_v4 hl 1 (x := y) rfl
  have u0 : V4 w g o x.k x.n x.s (.slice a0 x.l.length c0) := by simpa using v0
  have u1 : V4 w g (o + 4) y.k y.n y.s (.slice a1 y.l.length c1) := by simpa using v1
  have hy := hg y (by simp)
  have ky' := fb_10 ky
  obtain ⟨R, hR⟩ : ∃ R, R = ntR x.n y := ⟨_, rfl⟩
  have hcy : q30.cy d [x, y] = oneR R := by rw [hR]; rfl
  rw [hcy]
  have HL : ∀ W, Cz 66 #[.agg #[.int .i64 y.k, .int .i64 y.n, .string y.s, .slice a1 y.l.length c1]] W fun e w' => e = .returned (.int .i64 (lenT y : Int)) ∧ Oz W w' := fun W => rlen_any y.k y.n y.s (by omega) a1 y.l.length c1 W
  by_cases hn : x.n < 0
  ·rw [hR, nt_no (.inl hn)]
   exact (rro_nth_neg g o c x.n y.k y.n y.s a1 y.l.length c1 hn w u0.2.1 u1).mono fun e w' h => h.up (by omega)
  by_cases hN : (lenT y : Int) ≤ x.n
  ·rw [hR, nt_no (.inr hN)]
   exact (rro_nth_out g o c x.n y.k y.n y.s a1 y.l.length c1 (lenT y) hn hN w u0.2.1 u1 HL).mono fun e w' h => h.up (by omega)
  obtain ⟨a, hxa⟩ : ∃ a : Nat, x.n = (a : Int) := ⟨x.n.toNat, by omega⟩
  have ha : a < lenT y := by omega
  rw [hxa] at hR u0
  rcases ky' with k2 | k4
  ·obtain ⟨q, hv, hs, hl0, hn0⟩ := gd_q hg (x := y) (by simp) k2
   have hq : rns y.s = q := by rw [hs, rns_tx hv]
   have ha' : a < q.length := by unfold lenT at ha; rw [if_pos k2, hq] at ha; exact ha
   rw [hR, nt_str k2 hq ha']
   rw [k2] at u1
   exact (rro_nth_str g o c a y.n a1 y.l.length c1 hv (by rw [← hs]; omega) ha' y.s hs w u0.2.1 u1).mono fun e w' h => h.up (by omega)
  ·have ha' : a < y.l.length := by unfold lenT at ha; rw [if_neg (by omega)] at ha; exact ha
   rw [hR, nt_list k4 ha']
   rw [k4] at u1
   obtain ⟨E, rfl⟩ : ∃ E, D = E + 1 := ⟨D - 1, by omega⟩
   exact (rro_nth_list g o c a y.n a1 y.l.length c1 y ha' y.s (by omega) rfl hy.2.2.2.2.1 w u0.2.1 u1 t1).mono fun e w' h => h.up (by omega)
 ·obtain ⟨x, y, rfl, kx, ky⟩ := fit2 hlen hf
  have hy := hg y (by simp)
  have h2 : oneR (ntR x.n y) = .ok rs := h
  by_cases hN : x.n < 0 ∨ (lenT y : Int) ≤ x.n
  ·rw [nt_no hN] at h2
   cases h2
  obtain ⟨a, hxa⟩ : ∃ a : Nat, x.n = (a : Int) := ⟨x.n.toNat, by omega⟩
  rw [hxa] at h2 hN
  rcases fb_10 ky with k2 | k4
  ·obtain ⟨q, hv, hs, hl0, hn0⟩ := gd_q hg (x := y) (by simp) k2
   have hq : rns y.s = q := by rw [hs, rns_tx hv]
   have ha' : a < q.length := by unfold lenT at hN; rw [if_pos k2, hq] at hN; omega
   rw [nt_str k2 hq ha'] at h2
   exact ok_few h2 (st_sm (by
    have h3 := tx_mid q a 1
    have e : (q.drop a).take 1 = [q.getD a 0] := take_one (by rw [List.getD, List.getElem?_eq_getElem ha']; rfl)
    rw [e, ← hs] at h3
    omega))
  ·have ha' : a < y.l.length := by unfold lenT at hN; rw [if_neg (by omega)] at hN; omega
   rw [nt_list k4 ha'] at h2
   exact ok_few h2 (sm_parts hy.1 _ (by rw [List.getD, List.getElem?_eq_getElem ha']; exact List.getElem_mem _))
theorem apc_31 : ApC q31 := by
 refine apc_rows fr_31 (by kernel_rfl) mnd_31 kq0_31 (fun d D l g o c w S hd hD hl hS hlen hg hf => ?_) (fun d D l rs hd hD hlen hg hf h => ?_)
 ·obtain ⟨x, y, z, rfl, kx, ky, kz⟩ := fit3 hlen hf
  obtain ⟨a0, c0, v0, t0⟩ := vs_v4 hl 0 (x := x) rfl
  obtain ⟨a1, c1, v1, t1⟩ := vs_v4 hl 1 (x := y) rfl
  obtain ⟨a2, c2, v2, t2⟩ := vs_v4 hl 2 (x := z) rfl
  have u0 : V4 w g o x.k x.n x.s (.slice a0 x.l.length c0) := by simpa using v0
  have u1 : V4 w g (o + 4) y.k y.n y.s (.slice a1 y.l.length c1) := by simpa using v1
  have u2 : V4 w g (o + 8) z.k z.n z.s (.slice a2 z.l.length c2) := by simpa using v2
  have hz := hg z (by simp)
  obtain ⟨R, hR⟩ : ∃ R, R = pcR x.n y.n z := ⟨_, rfl⟩
  have hcy : q31.cy d [x, y, z] = oneR R := by rw [hR]; rfl
  rw [hcy]
  by_cases hr : 0 ≤ x.n ∧ x.n ≤ y.n ∧ y.n ≤ (lenT z : Int)
  ·rcases fb_10 kz with k2 | k4
   ·obtain ⟨q, hv, hs, hl0, hn0⟩ := gd_q hg (x := z) (by simp) k2
    have hq : rns z.s = q := by rw [hs, rns_tx hv]
    have hr' : 0 ≤ x.n ∧ x.n ≤ y.n ∧ y.n ≤ (q.length : Int) := by unfold lenT at hr; rw [if_pos k2, hq] at hr; exact hr
    have e : R = .ok (stT (tx ((q.drop x.n.toNat).take (y.n.toNat - x.n.toNat)))) := by rw [hR]; unfold pcR; rw [if_pos k2, hq, if_pos hr']
    rw [e]
    refine (show Cz 42 _ w _ from rro_slice_ok g o c x.n y.n z (stT (tx ((q.drop x.n.toNat).take (y.n.toNat - x.n.toNat)))) a2 z.l.length c2 1 w u0.2.1 u1.2.1 u2 (fun W o => ?_)).mono fun e w' h => h.up (by omega)
    rw [k2, hs]
    refine (rslice_str hv (by rw [← hs]; omega) x.n y.n z.n a2 z.l.length c2 W hr').mono fun e w' h => ?_
    exact ⟨none, 0, 0, h.1, ⟨⟨fun _ => False, ⟨none, 0, rfl, Nat.le_refl _, fun i u hu => by simp [stT] at hu⟩, fun b hb => hb.elim⟩, h.2⟩⟩
   ·have hr' : 0 ≤ x.n ∧ x.n ≤ y.n ∧ y.n ≤ (z.l.length : Int) := by unfold lenT at hr; rw [if_neg (by omega)] at hr; exact hr
    have e : R = .ok ⟨4, 0, ⟨#[]⟩, (z.l.drop x.n.toNat).take (y.n.toNat - x.n.toNat)⟩ := by rw [hR]; unfold pcR; rw [if_neg (by omega), if_pos hr']
    rw [e]
    obtain ⟨E, rfl⟩ : ∃ E, D = E + 1 := ⟨D - 1, by omega⟩
    refine (show Cz 42 _ w _ from rro_slice_ok g o c x.n y.n z ⟨4, 0, ⟨#[]⟩, (z.l.drop x.n.toNat).take (y.n.toNat - x.n.toNat)⟩ a2 z.l.length c2 (E + 1) w u0.2.1 u1.2.1 u2 (fun W o => ?_)).mono fun e w' h => h.up (by omega)
    rw [k4]
    refine (rslice_list k4 (t2.only o) hz.1 hz.2.2.2.2.1 x.n y.n hr' (by omega)).mono fun e w' h => ?_
    obtain ⟨a', c', he, h⟩ := h
    exact ⟨a', _, c', he, h⟩
  ·have e : R = .error 4 := by rw [hR]; exact pc_no hr
   rw [e]
   exact (rro_slice_no g o c x.n y.n z a2 z.l.length c2 w u0.2.1 u1.2.1 u2 (fun W o => rslice_no x.n y.n z.k z.n z.s (by omega) a2 z.l.length c2 W hr)).mono fun e w' h => h.up (by omega)
 ·obtain ⟨x, y, z, rfl, kx, ky, kz⟩ := fit3 hlen hf
  have hz := hg z (by simp)
  have h2 : oneR (pcR x.n y.n z) = .ok rs := h
  by_cases hr : 0 ≤ x.n ∧ x.n ≤ y.n ∧ y.n ≤ (lenT z : Int)
  ·rcases fb_10 kz with k2 | k4
   ·obtain ⟨q, hv, hs, hl0, hn0⟩ := gd_q hg (x := z) (by simp) k2
    have hq : rns z.s = q := by rw [hs, rns_tx hv]
    have hr' : 0 ≤ x.n ∧ x.n ≤ y.n ∧ y.n ≤ (q.length : Int) := by unfold lenT at hr; rw [if_pos k2, hq] at hr; exact hr
    unfold pcR at h2
    rw [if_pos k2, hq, if_pos hr'] at h2
    exact ok_few h2 (st_sm (by have h3 := tx_mid q x.n.toNat (y.n.toNat - x.n.toNat); rw [← hs] at h3; omega))
   ·have hr' : 0 ≤ x.n ∧ x.n ≤ y.n ∧ y.n ≤ (z.l.length : Int) := by unfold lenT at hr; rw [if_neg (by omega)] at hr; exact hr
    unfold pcR at h2
    rw [if_neg (by omega), if_pos hr'] at h2
    exact ok_few h2 (jl_sm (.inl rfl) (fun u hu => sm_parts hz.1 u (List.mem_of_mem_drop (List.mem_of_mem_take hu))) (by rw [List.length_take, List.length_drop]; omega))
  ·rw [pc_no hr] at h2
   cases h2
theorem nm_nm : ∀ (d D : Nat) (i : Bool) (t : Vt), d ≤ D → nm D i (nm d i t) = nm d i t
 | 0, D, i, t, _ => by
   cases D with
   | zero => rfl
   | succ D => cases i <;> rfl
 | d + 1, 0, i, t, h => by omega
 | d + 1, D + 1, i, t, h => by
   have hm : ∀ (j : Bool) (l : List Vt), (l.map (nm d j)).map (nm D j) = l.map (nm d j) := fun j l => by
    rw [List.map_map]
    exact List.map_congr_left fun x _ => nm_nm d D j x (by omega)
   by_cases h1 : t.k = 1
   ·have e : nm (d + 1) i t = ⟨1, t.n, ⟨#[]⟩, []⟩ := by unfold nm; rw [if_pos h1]
    rw [e]; rfl
   by_cases h2 : t.k = 2
   ·have e : nm (d + 1) i t = ⟨2, 0, t.s, []⟩ := by unfold nm; rw [if_neg h1, if_pos h2]
    rw [e]; rfl
   by_cases h3 : t.k = 3
   ·have e : nm (d + 1) i t = ⟨3, if t.n != 0 then 1 else 0, ⟨#[]⟩, []⟩ := by unfold nm; rw [if_neg h1, if_neg h2, if_pos h3]
    rw [e]
    cases t.n != 0 <;> rfl
   by_cases h4 : t.k = 4
   ·have e : nm (d + 1) i t = ⟨4, 0, ⟨#[]⟩, t.l.map (nm d false)⟩ := by unfold nm; rw [if_neg h1, if_neg h2, if_neg h3, if_pos h4]
    rw [e]
    show (⟨4, 0, ⟨#[]⟩, (t.l.map (nm d false)).map (nm D false)⟩ : Vt) = _
    rw [hm]
   by_cases h5 : t.k = 5
   ·have e : nm (d + 1) i t = ⟨5, 0, ⟨#[]⟩, t.l.map (nm d true)⟩ := by unfold nm; rw [if_neg h1, if_neg h2, if_neg h3, if_neg h4, if_pos h5]
    rw [e]
    show (⟨5, 0, ⟨#[]⟩, (t.l.map (nm d true)).map (nm D true)⟩ : Vt) = _
    rw [hm]
   by_cases h6 : t.k = 6
   ·have e : nm (d + 1) i t = ⟨6, t.n, ⟨#[]⟩, []⟩ := by unfold nm; rw [if_neg h1, if_neg h2, if_neg h3, if_neg h4, if_neg h5, if_pos h6]
    rw [e]; rfl
   by_cases h7 : i = true ∧ t.k = 7
   ·have e : nm (d + 1) i t = ⟨7, 0, t.s, []⟩ := by unfold nm; rw [if_neg h1, if_neg h2, if_neg h3, if_neg h4, if_neg h5, if_neg h6, if_pos h7]
    rw [e, h7.1]; rfl
   have e : nm (d + 1) i t = ⟨8, 0, ⟨#[]⟩, []⟩ := by unfold nm; rw [if_neg h1, if_neg h2, if_neg h3, if_neg h4, if_neg h5, if_neg h6, if_neg h7]
   rw [e]
   cases i <;> rfl
def LrC (p : Pr) : Prop := ∀ (d D : Nat) (l rs : List Vt), l.length = p.ks.length → Gd d D l → fitB l p.ks = true → p.cy d l = .ok rs → ∀ x ∈ rs, LfT (D + 1) x
theorem lf_lf0 (D : Nat) (k n : Int) (s : ByteArray) : LfT (D + 1) ⟨k, n, s, []⟩ := ⟨fun _ => rfl, fun x hx => by cases hx⟩
theorem lf_row {D : Nat} {k : Int} {l : List Vt} (hk : k = 4 ∨ k = 5) (h : ∀ x ∈ l, LfT D x) : LfT (D + 1) ⟨k, 0, ⟨#[]⟩, l⟩ := ⟨fun h => absurd hk h, h⟩
theorem lf_parts {D : Nat} {t : Vt} (h : LfT D t) : ∀ x ∈ t.l, LfT D x := fun x hx => by
 cases D with
 | zero => exact h.elim
 | succ D => exact (h.2 x hx).up (by omega)
theorem one_lf {D : Nat} {r : Except Int Vt} {rs : List Vt} (h : oneR r = .ok rs) (ht : ∀ t, r = .ok t → LfT (D + 1) t) : ∀ x ∈ rs, LfT (D + 1) x := by
 cases r with
 | error n => cases h
 | ok t =>
   cases h
   intro x hx
   simp only [List.mem_cons, List.not_mem_nil, or_false] at hx
   rw [hx]
   exact ht t rfl
theorem lr_mv (p : Pr) (ps : List Int) (hcy : ∀ d l, p.cy d l = .ok (lsR ps l)) : LrC p := by
 intro d D l rs hlen hg hf h x hx
 rw [hcy] at h
 cases h
 unfold lsR at hx
 obtain ⟨k, _, rfl⟩ := List.mem_map.1 hx
 cases hk : l[k.toNat]? with
 | none => exact lf_lf0 D 0 0 ⟨#[]⟩
 | some y => exact (hg y (List.mem_of_getElem? hk)).2.1.up (by omega)
theorem lr_one (p : Pr) (mk : Nat → List Vt → Except Int Vt) (hcy : ∀ d l, p.cy d l = oneR (mk d l)) (hm : ∀ d D l t, l.length = p.ks.length → Gd d D l → fitB l p.ks = true → mk d l = .ok t → LfT (D + 1) t) : LrC p := by
 intro d D l rs hlen hg hf h
 rw [hcy] at h
 exact one_lf h (fun t ht => hm d D l t hlen hg hf ht)
theorem nm_leaf {rk : Int → Int → Int × Int} {a b : Int} {t : Vt} (h : nmR rk a b = .ok t) (D : Nat) : LfT (D + 1) t := by
 unfold nmR at h
 split at h
 ·cases h; exact lf_lf0 D _ _ _
 ·cases h
theorem jn_lf {D : Nat} {x y t : Vt} (h : jnR x y = .ok t) (hx : ∀ z ∈ x.l, LfT D z) (hy : ∀ z ∈ y.l, LfT D z) (kx : x.k = 2 ∨ x.k = 4 ∨ x.k = 5) : LfT (D + 1) t := by
 unfold jnR at h
 split at h
 ·split at h
  ·cases h; exact lf_lf0 D _ _ _
  ·rename_i h2
   cases h
   exact lf_row (by omega) (fun z hz => (List.mem_append.1 hz).elim (hx z) (hy z))
 ·cases h
theorem pc_lf {D : Nat} {n m : Int} {z t : Vt} (h : pcR n m z = .ok t) (hz : ∀ u ∈ z.l, LfT D u) : LfT (D + 1) t := by
 unfold pcR at h
 split at h
 ·split at h
  ·cases h; exact lf_lf0 D _ _ _
  ·cases h
 ·split at h
  ·cases h; exact lf_row (.inl rfl) (fun u hu => hz u (List.mem_of_mem_drop (List.mem_of_mem_take hu)))
  ·cases h
theorem nt_lf {D : Nat} {n : Int} {z t : Vt} (h : ntR n z = .ok t) (hz : ∀ u ∈ z.l, LfT D u) : LfT (D + 1) t := by
 unfold ntR at h
 cases hp : pcR n (n + 1) z with
 | error e => rw [hp] at h; cases h
 | ok x =>
   rw [hp] at h
   have hx := pc_lf hp hz
   dsimp only at h
   split at h
   ·cases h
    cases hl : x.l with
    | nil => exact lf_lf0 D 0 0 ⟨#[]⟩
    | cons u l => exact (hx.2 u (by rw [hl]; simp)).up (by omega)
   ·cases h; exact hx
theorem lr_0 : LrC q0 := lr_mv q0 [0, 0] (fun d l => rfl)
theorem lr_1 : LrC q1 := lr_mv q1 [] (fun d l => rfl)
theorem lr_2 : LrC q2 := lr_mv q2 [1, 0] (fun d l => rfl)
theorem lr_3 : LrC q3 := lr_mv q3 [0, 1, 0] (fun d l => rfl)
theorem lr_4 : LrC q4 := lr_mv q4 [1, 2, 0] (fun d l => rfl)
theorem lr_5 : LrC q5 := lr_mv q5 [1] (fun d l => rfl)
theorem lr_6 : LrC q6 := lr_mv q6 [1, 0, 1] (fun d l => rfl)
theorem lr_7 : LrC q7 := lr_one q7 (fun _ l => (nmR (arK 43) (l.getD 0 zT).n (l.getD 1 zT).n)) (fun d l => rfl) (fun d D l t hlen hg hf h => by
 exact nm_leaf h D)
theorem lr_8 : LrC q8 := lr_one q8 (fun _ l => (nmR (arK 45) (l.getD 0 zT).n (l.getD 1 zT).n)) (fun d l => rfl) (fun d D l t hlen hg hf h => by
 exact nm_leaf h D)
theorem lr_9 : LrC q9 := lr_one q9 (fun _ l => (nmR (arK 42) (l.getD 0 zT).n (l.getD 1 zT).n)) (fun d l => rfl) (fun d D l t hlen hg hf h => by
 exact nm_leaf h D)
theorem lr_10 : LrC q10 := lr_one q10 (fun _ l => (nmR (arK 47) (l.getD 0 zT).n (l.getD 1 zT).n)) (fun d l => rfl) (fun d D l t hlen hg hf h => by
 exact nm_leaf h D)
theorem lr_11 : LrC q11 := lr_one q11 (fun _ l => (nmR (arK 37) (l.getD 0 zT).n (l.getD 1 zT).n)) (fun d l => rfl) (fun d D l t hlen hg hf h => by
 exact nm_leaf h D)
theorem lr_12 : LrC q12 := lr_one q12 (fun _ l => (nmR ngK (l.getD 0 zT).n (l.getD 0 zT).n)) (fun d l => rfl) (fun d D l t hlen hg hf h => by
 exact nm_leaf h D)
theorem lr_13 : LrC q13 := lr_one q13 (fun _ l => (nmR abK (l.getD 0 zT).n (l.getD 0 zT).n)) (fun d l => rfl) (fun d D l t hlen hg hf h => by
 exact nm_leaf h D)
theorem lr_14 : LrC q14 := lr_one q14 (fun _ l => (nmR miK (l.getD 0 zT).n (l.getD 1 zT).n)) (fun d l => rfl) (fun d D l t hlen hg hf h => by
 exact nm_leaf h D)
theorem lr_15 : LrC q15 := lr_one q15 (fun _ l => (nmR maK (l.getD 0 zT).n (l.getD 1 zT).n)) (fun d l => rfl) (fun d D l t hlen hg hf h => by
 exact nm_leaf h D)
theorem lr_16 : LrC q16 := lr_one q16 (fun _ l => (.ok (boT (decide ((l.getD 0 zT).n < (l.getD 1 zT).n))))) (fun d l => rfl) (fun d D l t hlen hg hf h => by
 cases h
 exact lf_lf0 D _ _ _)
theorem lr_17 : LrC q17 := lr_one q17 (fun _ l => (.ok (boT (decide ((l.getD 0 zT).n > (l.getD 1 zT).n))))) (fun d l => rfl) (fun d D l t hlen hg hf h => by
 cases h
 exact lf_lf0 D _ _ _)
theorem lr_18 : LrC q18 := lr_one q18 (fun d l => (eqR d l)) (fun d l => rfl) (fun d D l t hlen hg hf h => by
 cases h
 exact lf_lf0 D _ _ _)
theorem lr_19 : LrC q19 := lr_one q19 (fun _ l => (.ok (boT (flB (l.getD 0 zT) && flB (l.getD 1 zT))))) (fun d l => rfl) (fun d D l t hlen hg hf h => by
 cases h
 exact lf_lf0 D _ _ _)
theorem lr_20 : LrC q20 := lr_one q20 (fun _ l => (.ok (boT (flB (l.getD 0 zT) || flB (l.getD 1 zT))))) (fun d l => rfl) (fun d D l t hlen hg hf h => by
 cases h
 exact lf_lf0 D _ _ _)
theorem lr_21 : LrC q21 := lr_one q21 (fun _ l => (.ok (boT (!flB (l.getD 0 zT))))) (fun d l => rfl) (fun d D l t hlen hg hf h => by
 cases h
 exact lf_lf0 D _ _ _)
theorem lr_22 : LrC q22 := lr_one q22 (fun _ l => (.ok (boT (kd (l.getD 0 zT) == 1)))) (fun d l => rfl) (fun d D l t hlen hg hf h => by
 cases h
 exact lf_lf0 D _ _ _)
theorem lr_23 : LrC q23 := lr_one q23 (fun _ l => (.ok (boT (kd (l.getD 0 zT) == 2)))) (fun d l => rfl) (fun d D l t hlen hg hf h => by
 cases h
 exact lf_lf0 D _ _ _)
theorem lr_24 : LrC q24 := lr_one q24 (fun _ l => (.ok (boT (kd (l.getD 0 zT) == 4)))) (fun d l => rfl) (fun d D l t hlen hg hf h => by
 cases h
 exact lf_lf0 D _ _ _)
theorem lr_25 : LrC q25 := lr_one q25 (fun _ l => (.ok (boT (kd (l.getD 0 zT) == 8)))) (fun d l => rfl) (fun d D l t hlen hg hf h => by
 cases h
 exact lf_lf0 D _ _ _)
theorem lr_26 : LrC q26 := lr_one q26 (fun _ l => (.ok (boT (kd (l.getD 0 zT) == 16)))) (fun d l => rfl) (fun d D l t hlen hg hf h => by
 cases h
 exact lf_lf0 D _ _ _)
theorem lr_27 : LrC q27 := lr_one q27 (fun _ l => (.ok (boT (kd (l.getD 0 zT) == 32)))) (fun d l => rfl) (fun d D l t hlen hg hf h => by
 cases h
 exact lf_lf0 D _ _ _)
theorem lr_28 : LrC q28 := lr_one q28 (fun _ l => (.ok (inT (lnT (l.getD 0 zT))))) (fun d l => rfl) (fun d D l t hlen hg hf h => by
 cases h
 exact lf_lf0 D _ _ _)
theorem lr_29 : LrC q29 := lr_one q29 (fun _ l => (jnR (l.getD 0 zT) (l.getD 1 zT))) (fun d l => rfl) (fun d D l t hlen hg hf h => by
 obtain ⟨x, y, rfl, kx, ky⟩ := fit2 hlen hf
 exact jn_lf h (lf_parts (hg x (by simp)).2.1) (lf_parts (hg y (by simp)).2.1) (fb_26 kx))
theorem lr_30 : LrC q30 := lr_one q30 (fun _ l => (ntR (l.getD 0 zT).n (l.getD 1 zT))) (fun d l => rfl) (fun d D l t hlen hg hf h => by
 obtain ⟨x, y, rfl, kx, ky⟩ := fit2 hlen hf
 exact nt_lf h (lf_parts (hg y (by simp)).2.1))
theorem lr_31 : LrC q31 := lr_one q31 (fun _ l => (pcR (l.getD 0 zT).n (l.getD 1 zT).n (l.getD 2 zT))) (fun d l => rfl) (fun d D l t hlen hg hf h => by
 obtain ⟨x, y, z, rfl, kx, ky, kz⟩ := fit3 hlen hf
 exact pc_lf h (lf_parts (hg z (by simp)).2.1))
theorem lr_32 : LrC q32 := lr_one q32 (fun _ l => (.ok (lisT l))) (fun d l => rfl) (fun d D l t hlen hg hf h => by
 cases h
 exact lf_row (.inl rfl) (fun z hz => (hg z hz).2.1))
theorem lr_33 : LrC q33 := lr_one q33 (fun _ l => (.ok (lisT l))) (fun d l => rfl) (fun d D l t hlen hg hf h => by
 cases h
 exact lf_row (.inl rfl) (fun z hz => (hg z hz).2.1))
theorem lr_34 : LrC q34 := fun d D l rs hlen hg hf h => by
 obtain ⟨x, rfl, kx⟩ := fit1 hlen hf
 have h2 : unR [x] = .ok rs := h
 unfold unR at h2
 dsimp only at h2
 split at h2
 ·cases h2
  exact fun z hz => (lf_parts (hg x (by simp)).2.1 z hz).up (by omega)
 ·cases h2
theorem lr_35 : LrC q35 := lr_one q35 (fun _ l => (.ok (rvT (l.getD 0 zT)))) (fun d l => rfl) (fun d D l t hlen hg hf h => by
 obtain ⟨x, rfl, kx⟩ := fit1 hlen hf
 have h2 : (.ok (rvT x) : Except Int Vt) = .ok t := h
 cases h2
 unfold rvT
 split
 ·exact lf_lf0 D _ _ _
 ·exact lf_row (.inl rfl) (fun z hz => lf_parts (hg x (by simp)).2.1 z (List.mem_reverse.1 hz)))
theorem lr_36 : LrC q36 := lr_one q36 (fun _ l => (jnR (quoT [l.getD 0 zT]) (l.getD 1 zT))) (fun d l => rfl) (fun d D l t hlen hg hf h => by
 obtain ⟨x, y, rfl, kx, ky⟩ := fit2 hlen hf
 exact jn_lf (x := quoT [x]) h (fun z hz => by simp [quoT] at hz; subst hz; exact (hg z (by simp)).2.1) (lf_parts (hg y (by simp)).2.1) (.inr (.inr rfl)))
theorem lr_37 : LrC q37 := lr_one q37 (fun _ l => (jnR (l.getD 0 zT) (l.getD 1 zT))) (fun d l => rfl) (fun d D l t hlen hg hf h => by
 obtain ⟨x, y, rfl, kx, ky⟩ := fit2 hlen hf
 exact jn_lf h (lf_parts (hg x (by simp)).2.1) (lf_parts (hg y (by simp)).2.1) (.inr (.inr (fb_16 kx))))
theorem lr_38 : LrC q38 := lr_one q38 (fun d l => (txR d l)) (fun d l => rfl) (fun d D l t hlen hg hf h => by
 cases h
 exact lf_lf0 D _ _ _)
theorem lr_39 : LrC q39 := lr_one q39 (fun d l => (nuR d l)) (fun d l => rfl) (fun d D l t hlen hg hf h => by
 unfold nuR at h
 split at h
 ·cases h; exact lf_lf0 D _ _ _
 ·cases h)
theorem pr_apc {s : ByteArray} (h : s.toList ∈ tbL) : ∃ p k, p.name = s ∧ PrO p k ∧ ApC p ∧ LrC p ∧ k ≤ p.ks.length + 1 := by
 have inj : ∀ {t : ByteArray}, s.toList = t.toList → t = s := fun h => by
  apply ByteArray.ext
  have := congrArg List.toArray h.symm
  simpa [ByteArray.toList_eq] using this
 unfold tbL at h
 simp only [List.mem_cons, List.not_mem_nil, or_false] at h
 rcases h with h | h | h | h | h | h | h | h | h | h | h | h | h | h | h | h | h | h | h | h | h | h | h | h | h | h | h | h | h | h | h | h | h | h | h | h | h | h | h | h
 ·exact ⟨q0, _, inj (t := q0.name) (h.trans (by kernel_rfl)), o0, apc_0, lr_0, by decide⟩
 ·exact ⟨q1, _, inj (t := q1.name) (h.trans (by kernel_rfl)), o1, apc_1, lr_1, by decide⟩
 ·exact ⟨q2, _, inj (t := q2.name) (h.trans (by kernel_rfl)), o2, apc_2, lr_2, by decide⟩
 ·exact ⟨q3, _, inj (t := q3.name) (h.trans (by kernel_rfl)), o3, apc_3, lr_3, by decide⟩
 ·exact ⟨q4, _, inj (t := q4.name) (h.trans (by kernel_rfl)), o4, apc_4, lr_4, by decide⟩
 ·exact ⟨q5, _, inj (t := q5.name) (h.trans (by kernel_rfl)), o5, apc_5, lr_5, by decide⟩
 ·exact ⟨q6, _, inj (t := q6.name) (h.trans (by kernel_rfl)), o6, apc_6, lr_6, by decide⟩
 ·exact ⟨q7, _, inj (t := q7.name) (h.trans (by kernel_rfl)), o7, apc_7, lr_7, by decide⟩
 ·exact ⟨q8, _, inj (t := q8.name) (h.trans (by kernel_rfl)), o8, apc_8, lr_8, by decide⟩
 ·exact ⟨q9, _, inj (t := q9.name) (h.trans (by kernel_rfl)), o9, apc_9, lr_9, by decide⟩
 ·exact ⟨q10, _, inj (t := q10.name) (h.trans (by kernel_rfl)), o10, apc_10, lr_10, by decide⟩
 ·exact ⟨q11, _, inj (t := q11.name) (h.trans (by kernel_rfl)), o11, apc_11, lr_11, by decide⟩
 ·exact ⟨q12, _, inj (t := q12.name) (h.trans (by kernel_rfl)), o12, apc_12, lr_12, by decide⟩
 ·exact ⟨q13, _, inj (t := q13.name) (h.trans (by kernel_rfl)), o13, apc_13, lr_13, by decide⟩
 ·exact ⟨q14, _, inj (t := q14.name) (h.trans (by kernel_rfl)), o14, apc_14, lr_14, by decide⟩
 ·exact ⟨q15, _, inj (t := q15.name) (h.trans (by kernel_rfl)), o15, apc_15, lr_15, by decide⟩
 ·exact ⟨q16, _, inj (t := q16.name) (h.trans (by kernel_rfl)), o16, apc_16, lr_16, by decide⟩
 ·exact ⟨q17, _, inj (t := q17.name) (h.trans (by kernel_rfl)), o17, apc_17, lr_17, by decide⟩
 ·exact ⟨q18, _, inj (t := q18.name) (h.trans (by kernel_rfl)), o18, apc_18, lr_18, by decide⟩
 ·exact ⟨q19, _, inj (t := q19.name) (h.trans (by kernel_rfl)), o19, apc_19, lr_19, by decide⟩
 ·exact ⟨q20, _, inj (t := q20.name) (h.trans (by kernel_rfl)), o20, apc_20, lr_20, by decide⟩
 ·exact ⟨q21, _, inj (t := q21.name) (h.trans (by kernel_rfl)), o21, apc_21, lr_21, by decide⟩
 ·exact ⟨q22, _, inj (t := q22.name) (h.trans (by kernel_rfl)), o22, apc_22, lr_22, by decide⟩
 ·exact ⟨q23, _, inj (t := q23.name) (h.trans (by kernel_rfl)), o23, apc_23, lr_23, by decide⟩
 ·exact ⟨q24, _, inj (t := q24.name) (h.trans (by kernel_rfl)), o24, apc_24, lr_24, by decide⟩
 ·exact ⟨q25, _, inj (t := q25.name) (h.trans (by kernel_rfl)), o25, apc_25, lr_25, by decide⟩
 ·exact ⟨q26, _, inj (t := q26.name) (h.trans (by kernel_rfl)), o26, apc_26, lr_26, by decide⟩
 ·exact ⟨q27, _, inj (t := q27.name) (h.trans (by kernel_rfl)), o27, apc_27, lr_27, by decide⟩
 ·exact ⟨q28, _, inj (t := q28.name) (h.trans (by kernel_rfl)), o28, apc_28, lr_28, by decide⟩
 ·exact ⟨q29, _, inj (t := q29.name) (h.trans (by kernel_rfl)), o29, apc_29, lr_29, by decide⟩
 ·exact ⟨q30, _, inj (t := q30.name) (h.trans (by kernel_rfl)), o30, apc_30, lr_30, by decide⟩
 ·exact ⟨q31, _, inj (t := q31.name) (h.trans (by kernel_rfl)), o31, apc_31, lr_31, by decide⟩
 ·exact ⟨q32, _, inj (t := q32.name) (h.trans (by kernel_rfl)), o32, apc_32, lr_32, by decide⟩
 ·exact ⟨q33, _, inj (t := q33.name) (h.trans (by kernel_rfl)), o33, apc_33, lr_33, by decide⟩
 ·exact ⟨q34, _, inj (t := q34.name) (h.trans (by kernel_rfl)), o34, apc_34, lr_34, by decide⟩
 ·exact ⟨q35, _, inj (t := q35.name) (h.trans (by kernel_rfl)), o35, apc_35, lr_35, by decide⟩
 ·exact ⟨q36, _, inj (t := q36.name) (h.trans (by kernel_rfl)), o36, apc_36, lr_36, by decide⟩
 ·exact ⟨q37, _, inj (t := q37.name) (h.trans (by kernel_rfl)), o37, apc_37, lr_37, by decide⟩
 ·exact ⟨q38, _, inj (t := q38.name) (h.trans (by kernel_rfl)), o38, apc_38, lr_38, by decide⟩
 ·exact ⟨q39, _, inj (t := q39.name) (h.trans (by kernel_rfl)), o39, apc_39, lr_39, by decide⟩
def Zd (D : Nat) (zs : List Vt) : Prop := ∀ x ∈ zs, (∃ e, SmT e x) ∧ LfT D x ∧ ∃ e, NfT e x
theorem zd_gd {d D : Nat} {zs l : List Vt} (hz : Zd D zs) (hsub : ∀ x ∈ l, x ∈ zs) (hs : ∀ x ∈ l, sdB d x = true) : Gd d D l := fun x hx => by
 have h := hz x (hsub x hx)
 have hsd := hs x hx
 refine ⟨h.1, h.2.1, h.2.2, hsd, by have := sd_len hsd; omega, ?_⟩
 by_cases h2 : x.k = 2
 ·exact sd_str hsd h2
 ·obtain ⟨e, he⟩ := h.2.2
  cases e with
  | zero => exact he.elim
  | succ e =>
    have h3 := he.2.2.2.1
    unfold vss at h3
    have hk := sd_kinds hsd
    rw [if_neg (by omega)] at h3
    rw [h3]
    exact Nat.zero_le _
theorem all_ds {d D : Nat} {zs : List Vt} (hz : Zd D zs) (hd : 2 * D + 1 ≤ d) : zs.all (sdB d) = zs.all (dsB D) := by
 induction zs with
 | nil => rfl
 | cons x l ih =>
   rw [List.all_cons, List.all_cons, ds_sd (hz x (by simp)).2.1 hd, ih (fun y hy => hz y (List.mem_cons_of_mem _ hy))]
theorem all_ds2 {d D : Nat} {rs : List Vt} (h : ∀ x ∈ rs, LfT D x) (hd : 2 * D + 1 ≤ d) : rs.all (sdB d) = rs.all (dsB D) := by
 induction rs with
 | nil => rfl
 | cons x l ih =>
   rw [List.all_cons, List.all_cons, ds_sd (h x (by simp)) hd, ih (fun y hy => h y (List.mem_cons_of_mem _ hy))]
theorem sq_no {sd : Vt → Bool} {st : List Vt} {X : Except Int (List Vt)} (h : st.all sd = false) : sdQ sd st X = .error 1 := by unfold sdQ; rw [if_pos h]
theorem sq_yes {sd : Vt → Bool} {st : List Vt} {X : Except Int (List Vt)} (h : st.all sd = true) : sdQ sd st X = X := by unfold sdQ; rw [if_neg (by rw [h]; decide)]
theorem do_ap {d D : Nat} {p : Pr} {zs : List Vt} {b : Nat} (hb : zs.length = b + p.ks.length) (hall : zs.all (sdB d) = true) (hlr : ∀ rs, fitB (zs.drop b) p.ks = true → p.cy d (zs.drop b) = .ok rs → ∀ x ∈ rs, LfT (D + 1) x) (hd : 2 * D + 1 ≤ d) : doR d p.ks p.cy zs = addR (zs.take b) (apR (dsB (D + 1)) (fitB (zs.drop b) p.ks) (p.cy d (zs.drop b))) := by
 have e1 : zs.length - p.ks.length = b := by omega
 unfold doR
 rw [if_neg (by rw [hall]; decide), if_neg (by omega), e1]
 by_cases hf : fitB (zs.drop b) p.ks = true
 ·rw [if_neg (by rw [hf]; decide), hf]
  cases hc : p.cy d (zs.drop b) with
  | error n => rfl
  | ok rs =>
    have h := all_ds2 (hlr rs hf hc) (show 2 * (D + 1) + 1 ≤ d + 2 by omega)
    unfold fnR apR
    rw [if_neg (by decide)]
    dsimp only
    rw [h]
    by_cases ha : rs.all (dsB (D + 1)) = true
    ·rw [if_pos ha, if_pos ha]; rfl
    ·rw [if_neg ha, if_neg ha]; rfl
 ·have hf' : fitB (zs.drop b) p.ks = false := by simpa using hf
  rw [if_pos hf', ap_17 hf']
  rfl
theorem rdo_eq (s : ByteArray) (zs : List Vt) {d D : Nat} (hD : 1 ≤ D) (hd : 2 * D + 1 ≤ d) (hz : Zd D zs) (hlen : zs.length ≤ 1048576) : ∃ R : Except Int (List Vt), (∀ rs, R = .ok rs → rs.length ≤ zs.length + 1 ∧ ∀ x ∈ rs, LfT (D + 1) x) ∧
  (∀ (w : World) (sa : Option Addr) (c : Nat) (S : Nat → Prop), VsAt w S (D + 1) zs (.slice sa zs.length c) → (∀ b, S b → b < w.heap.size) → Cz 8 #[.string s, .slice sa zs.length c] w (fun e w' => DcP R (D + 2) w e w')) ∧
  (∀ (w : World) (ao : Option Addr) (cap : Nat) (S : Nat → Prop), PsAt w S d false zs ao → (∀ b, S b → b < w.heap.size) → Tx w → Cz 7 #[.string s, .slice ao zs.length cap] w (fun e w' => DoP R (d + 2) zs.length w e w')) := by
 have hsm : ∀ x ∈ zs, ∃ e, SmT e x := fun x hx => (hz x hx).1
 by_cases hs : s.toList ∈ tbL
 ·obtain ⟨p, k, rfl, hpo, hap, hlr, hk1⟩ := pr_apc hs
  refine ⟨doR d p.ks p.cy zs, ?_, ?_, fun w ao cap S h1 h2 hT => do_any (cap := cap) hpo.c.wt hpo.c.cy hpo.c.one hpo.c.few h1 h2 hsm (by omega) hT⟩
  ·intro rs hR
   by_cases hall : zs.all (sdB d) = true
   ·by_cases hlt : zs.length < p.ks.length
    ·unfold doR at hR
     rw [if_neg (by rw [hall]; decide), if_pos hlt] at hR
     cases hR
    ·obtain ⟨b, hb⟩ : ∃ b, zs.length = b + p.ks.length := ⟨zs.length - p.ks.length, by omega⟩
     have hg : Gd d D (zs.drop b) := zd_gd hz (fun x hx => List.mem_of_mem_drop hx) (fun x hx => List.all_eq_true.1 hall x (List.mem_of_mem_drop hx))
     have hlr' := fun rs hf hc => hlr d D (zs.drop b) rs (by rw [List.length_drop]; omega) hg hf hc
     rw [do_ap hb hall hlr' hd] at hR
     by_cases hf : fitB (zs.drop b) p.ks = true
     ·cases hc : p.cy d (zs.drop b) with
      | error n => rw [hc, hf] at hR; cases hR
      | ok ls =>
        rw [hc, hf] at hR
        unfold apR at hR
        rw [if_neg (by decide)] at hR
        dsimp only at hR
        split at hR
        ·cases hR
         refine ⟨by have := hpo.ok _ _ _ hc; rw [List.length_append, List.length_take]; omega, fun x hx => ?_⟩
         rcases List.mem_append.1 hx with hx | hx
         ·exact (hz x (List.mem_of_mem_take hx)).2.1.up (by omega)
         ·exact hlr' ls hf hc x hx
        ·cases hR
     ·rw [ap_17 (by simpa using hf)] at hR
      cases hR
   ·unfold doR at hR
    rw [if_pos (by simpa using hall)] at hR
    cases hR
  ·intro w sa c S hl hS
   have hT : ∀ w, Cz 19 #[.string p.name] w fun e w' => e = .returned (.tuple #[.int .i64 (p.ks.length : Int), .bool true]) ∧ Oz w w' := fun w => table_in hs ⟨by rw [hpo.ef], by rw [hpo.ef]⟩ w
   have h3 := hpo.c.few
   by_cases hlt : zs.length < p.ks.length
   ·have h := rdo_any (E := D + 1) hl (by omega) hsm (.error 16) (fun _ => .inr ⟨p.ks.length, h3, hT, .inl ⟨hlt, rfl⟩⟩)
    have e : sdQ (dsB D) zs (.error 16) = doR d p.ks p.cy zs := by
     unfold sdQ doR
     rw [← all_ds hz hd]
     by_cases hall : zs.all (sdB d) = false
     ·rw [if_pos hall, if_pos hall]
     ·rw [if_neg hall, if_neg hall, if_pos hlt]
    rw [e] at h
    exact h
   ·obtain ⟨b, hb⟩ : ∃ b, zs.length = b + p.ks.length := ⟨zs.length - p.ks.length, by omega⟩
    by_cases hall : zs.all (sdB d) = true
    ·have hg : Gd d D (zs.drop b) := zd_gd hz (fun x hx => List.mem_of_mem_drop hx) (fun x hx => List.all_eq_true.1 hall x (List.mem_of_mem_drop hx))
     have hdl : (zs.drop b).length = p.ks.length := by rw [List.length_drop]; omega
     have hlr' := fun rs hf hc => hlr d D (zs.drop b) rs hdl hg hf hc
     rw [do_ap hb hall hlr' hd]
     have hA : ∀ (g o c : Nat) (W : World), Oz w W → VsAt W S (D + 1) (zs.drop b) (.slice (some ⟨g, o, none⟩) p.ks.length c) → Cz 20 #[.string p.name, .slice (some ⟨g, o, none⟩) p.ks.length c] W fun e w' => DcP (apR (dsB (D + 1)) (fitB (zs.drop b) p.ks) (p.cy d (zs.drop b))) (D + 1 + 1) W e w' := fun g o c W q hv => by
      rw [← hdl] at hv ⊢
      exact hap d D (zs.drop b) g o c W S hd hD hv (fun b hb => Nat.lt_of_lt_of_le (hS b hb) q.size) hdl hg
     have hk : ∀ rs, apR (dsB (D + 1)) (fitB (zs.drop b) p.ks) (p.cy d (zs.drop b)) = .ok rs → rs.length ≤ 10003 := fun rs h => by
      unfold apR at h
      split at h
      ·cases h
      ·cases hc : p.cy d (zs.drop b) with
       | error n => rw [hc] at h; cases h
       | ok ls =>
         rw [hc] at h
         dsimp only at h
         split at h
         ·cases h
          have := hpo.ok _ _ _ hc
          have := hpo.lo
          omega
         ·cases h
     generalize hAR : apR (dsB (D + 1)) (fitB (zs.drop b) p.ks) (p.cy d (zs.drop b)) = A at hA hk ⊢
     have h := rdo_any (E := D + 1) hl (by omega) hsm (addR (zs.take b) A) (fun _ => .inr ⟨p.ks.length, h3, hT, .inr ⟨b, A, hb, hpo.c.one, by omega, hS, rfl, hk, hA⟩⟩)
     rw [sq_yes (by rw [← all_ds hz hd]; exact hall)] at h
     exact h
    ·have hall' : zs.all (sdB d) = false := by simpa using hall
     have hds : zs.all (dsB D) = false := by rw [← all_ds hz hd]; exact hall'
     have h := rdo_any (nm := p.name) (E := D + 1) hl (by omega) hsm (.error 1) (fun h => by rw [hds] at h; cases h)
     rw [sq_no hds] at h
     have e : doR d p.ks p.cy zs = .error 1 := by unfold doR; rw [if_pos hall']
     rw [e]
     exact h
 ·refine ⟨.error (if zs.all (sdB d) then 10 else 1), (fun rs h => by cases h), fun w sa c S hl hS => ?_, fun w ao cap S h1 h2 hT => (do_none (cap := cap) hs h1 h2 hsm (by omega) hT).mono fun e w' g => ⟨g.1, ?_, g.2⟩⟩
  ·have h := rdo_any (E := D + 1) hl (by omega) hsm (.error 10) (fun _ => .inl ⟨rfl, fun w => table_out hs w⟩)
   have e : sdQ (dsB D) zs (.error 10) = .error (if zs.all (sdB d) then 10 else 1) := by
    unfold sdQ
    rw [← all_ds hz hd]
    by_cases hall : zs.all (sdB d) = true
    ·rw [hall]; rfl
    ·rw [show zs.all (sdB d) = false by simpa using hall]; rfl
   rw [e] at h
   exact h
  ·split <;> decide
def erO (R : Except Int (List Vt)) : Int := match R with
 | .error n => n
 | .ok _ => 0
def lsO (R : Except Int (List Vt)) : List Vt := match R with
 | .error _ => []
 | .ok ls => ls
theorem dc_o {R : Except Int (List Vt)} {D : Nat} {w w' : World} {e : Ending} (h : DcP R (D + 1) w e w') : ∃ a c, e = .returned (.tuple #[.slice a (lsO R).length c, .int .i64 (erO R)]) ∧ Hid ((∃ S, VsAt w' S (D + 1) (lsO R) (.slice a (lsO R).length c)) ∧ Oz w w') := by
 cases R with
 | error n => exact ⟨none, 0, h.1, ⟨fun _ => False, none, 0, rfl, Nat.le_refl _, fun i x hx => by simp [lsO] at hx⟩, h.2.2⟩
 | ok ls => exact h
theorem do_o {R : Except Int (List Vt)} {D m : Nat} {w w' : World} {e : Ending} (h : DoP R D m w e w') : ∃ a c, e = .returned (.tuple #[.slice a (lsO R).length c, .int .i64 (erO R)]) ∧ Hid (RiAt w' w.heap.size 41 D false (.slice a (lsO R).length c) (lsO R) ∧ Oz w w' ∧ ∀ x ∈ lsO R, ∃ e, SmT e x) := by
 cases R with
 | error n => exact ⟨none, 0, h.1, ⟨ri_nil _ _ _ _ _, h.2.2, fun x hx => by simp [lsO] at hx⟩⟩
 | ok ls =>
   obtain ⟨a, c, he, h⟩ := h
   exact ⟨a, c, he, ⟨h.out.1, h.out.2.1, h.out.2.2.1⟩⟩
theorem plays_walk {s : ByteArray} {args : List Vt} {aa : Option Addr} {N cc : Nat} {d : Nat} {w : World} (ha : VsAt w (fun _ => True) (d + 1) args (.slice aa N cc)) (hlen : args.length + 1 ≤ 1048576) (sa : ∀ x ∈ args, SmT d x) (hT : Ty w) :
  Cz 3 #[.string s, .slice aa N cc] w fun e w' => e = .returned (.bool true) ∧ Oz w w' := by
 have hN : N = args.length := by
  obtain ⟨a', c', he⟩ := ha.form
  cases he
  rfl
 obtain ⟨zs, hzs⟩ : ∃ zs, zs = args.map (nm d false) := ⟨_, rfl⟩
 have hzl : zs.length = N := by rw [hzs, hN]; simp
 obtain ⟨D, hD⟩ : ∃ D, D = 2 * d + 1 := ⟨_, rfl⟩
 have hzsm : ∀ x ∈ zs, SmT D x := fun x hx => by
  rw [hzs] at hx
  obtain ⟨y, hy, rfl⟩ := List.mem_map.1 hx
  exact (nm_sm d false y (sa y hy)).mono (by omega)
 have hz : Zd D zs := fun x hx => by
  refine ⟨⟨D, hzsm x hx⟩, ?_⟩
  rw [hzs] at hx
  obtain ⟨y, hy, rfl⟩ := List.mem_map.1 hx
  exact ⟨(nm_lf d false y (sa y hy)).up (by omega), d, nm_nf d false y (sa y hy)⟩
 have hid : zs.map (nm D false) = zs := by
  rw [hzs, List.map_map]
  exact List.map_congr_left fun x _ => nm_nm d D false x (by omega)
 obtain ⟨R, hR1, hR2, hR3⟩ := rdo_eq s zs (d := 2 * D + 1) (D := D) (by omega) (Nat.le_refl _) hz (by omega)
 obtain ⟨L, hL⟩ : ∃ L, L = (lsO R).length := ⟨_, rfl⟩
 obtain ⟨E, hE⟩ : ∃ E, E = erO R := ⟨_, rfl⟩
 obtain ⟨ls, hls⟩ : ∃ ls, ls = lsO R := ⟨_, rfl⟩
 have hlsb : ls.length ≤ 1048576 ∧ ∀ x ∈ ls, LfT (D + 1) x := by
  rw [hls]
  cases R with
  | error n => exact ⟨Nat.zero_le _, fun x hx => by simp [lsO] at hx⟩
  | ok l => exact ⟨by have := (hR1 l rfl).1; show l.length ≤ 1048576; omega, (hR1 l rfl).2⟩
 have HA : Hid _ := awake12 w hT
 have HT : Hid (Ty w) := hT
 have O0 : Hid (Oz w w) := Only.refl _ _
 have HV : Hid (∀ W, Oz w W → Cz 6 #[.slice aa N cc] W fun e w' => ∃ ao cap, e = .returned (.slice ao N cap) ∧ Hid (RiAt w' W.heap.size 41 D false (.slice ao N cap) zs ∧ Oz W w')) := fun W o => by
  refine (values_all d args _ W _ (ha.only o) (by omega) sa).mono fun e w' g => ?_
  obtain ⟨ao, cap, he, g⟩ := g
  rw [← hN] at he g
  rw [hzs, hD]
  exact ⟨ao, cap, he, g⟩
 have HTr : Hid (∀ (W W1 : World) (B : Nat) (a : Option Addr) (c : Nat), RiAt W B 41 D false (.slice a N c) zs → Oz W W1 → Cz 5 #[.slice a N c] W1 fun e w' => ∃ a2 c2, e = .returned (.slice a2 N c2) ∧ Hid ((∃ S, VsAt w' S (D + 1) zs (.slice a2 N c2) ∧ ∀ b, S b → b < w'.heap.size) ∧ Oz W1 w')) := fun W W1 B a c h o => by
  rw [← hzl] at h ⊢
  obtain ⟨S3, q3, s3⟩ := h.pl
  refine (pk_trees (lo := 0) q3 (fun b hs => ⟨Nat.zero_le _, (s3 b hs).2.1⟩) (by omega) (fun x hx => (hz x hx).2.2) W1 (fun _ => False) o (fun _ _ _ g => g)).mono fun e w' g => ?_
  obtain ⟨a2, c2, he, g⟩ := g
  obtain ⟨S, h1, h2⟩ := g.out.1
  exact ⟨a2, c2, he, ⟨S, h1, fun b hb => (h2 b hb).2⟩, g.out.2⟩
 have HV2 : Hid (∀ (W : World) (a : Option Addr) (c : Nat) (S : Nat → Prop), VsAt W S (D + 1) zs (.slice a N c) → Cz 6 #[.slice a N c] W fun e w' => ∃ ao cap, e = .returned (.slice ao N cap) ∧ Hid (RiAt w' W.heap.size 41 (2 * D + 1) false (.slice ao N cap) zs ∧ Oz W w')) := fun W a c S h => by
  refine (values_all D zs _ W S h (by omega) hzsm).mono fun e w' g => ?_
  obtain ⟨ao, cap, he, g⟩ := g
  rw [hid, hzl] at g
  rw [hzl] at he
  exact ⟨ao, cap, he, g⟩
 have HDo : Hid (∀ (W W1 : World) (B : Nat) (a : Option Addr) (c : Nat), RiAt W B 41 (2 * D + 1) false (.slice a N c) zs → Oz W W1 → Ty W1 → Cz 7 #[.string s, .slice a N c] W1 fun e w' => ∃ a c, e = .returned (.tuple #[.slice a L c, .int .i64 E]) ∧ Hid (RiAt w' W1.heap.size 41 (2 * D + 1 + 2) false (.slice a L c) ls ∧ Oz W1 w' ∧ ∀ x ∈ ls, ∃ e, SmT e x)) := fun W W1 B a c h o hT1 => by
  rw [← hzl] at h ⊢
  obtain ⟨S3, q3, s3⟩ := h.pl
  refine (hR3 W1 a c S3 (fun j x hx => ?_) (fun b hb => Nat.lt_of_lt_of_le (s3 b hb).2.1 o.size) hT1.1).mono fun e w' g => ?_
  ·obtain ⟨ao, cp, e, _, hel⟩ := q3
   cases e
   obtain ⟨g, k, u, p1, p2, p3, p4⟩ := hel j x hx
   exact ⟨g, k, u, p1, p2, o.cell p3 (fun g => g), p4.only o (fun _ _ g => g)⟩
  ·have := do_o g
   rw [hL, hE, hls]
   exact this
 have HRd : Hid (∀ (W : World) (a : Option Addr) (c : Nat) (S : Nat → Prop), VsAt W S (D + 1) zs (.slice a N c) → (∀ b, S b → b < W.heap.size) → Cz 8 #[.string s, .slice a N c] W fun e w' => ∃ a c, e = .returned (.tuple #[.slice a L c, .int .i64 E]) ∧ Hid ((∃ S, VsAt w' S (D + 1 + 1) ls (.slice a L c)) ∧ Oz W w')) := fun W a c S h hS => by
  rw [← hzl] at h ⊢
  refine (hR2 W a c S h hS).mono fun e w' g => ?_
  have := dc_o g
  rw [hL, hE, hls]
  exact this
 have HTa : Hid (∀ (W W1 : World) (B : Nat) (a : Option Addr) (c : Nat), RiAt W B 41 (2 * D + 1 + 2) false (.slice a L c) ls → (∀ x ∈ ls, ∃ e, SmT e x) → Oz W W1 → ∃ F, (∀ x ∈ ls.map (nzT F), ∃ e, SmT e x) ∧ Cz 5 #[.slice a L c] W1 fun e w' => ∃ a2 c2, e = .returned (.slice a2 L c2) ∧ Hid ((∃ S, VsAt w' S (2 * D + 1 + 2 + 1) (ls.map (nzT F)) (.slice a2 L c2)) ∧ Oz W1 w')) := fun W W1 B a c h hs o => by
  obtain ⟨F, hF⟩ := sm_uni hs
  have hn := h.nz F
  have hll : L = (ls.map (nzT F)).length := by rw [List.length_map, hL, hls]
  refine ⟨F, fun x hx => ?_, ?_⟩
  ·obtain ⟨y, hy, rfl⟩ := List.mem_map.1 hx
   exact ⟨F, nz_sm (hF y hy)⟩
  rw [hll] at hn ⊢
  obtain ⟨S3, q3, s3⟩ := hn.pl
  refine (pk_trees (lo := 0) q3 (fun b hs => ⟨Nat.zero_le _, (s3 b hs).2.1⟩) (by rw [List.length_map]; exact hlsb.1) (fun x hx => by
   obtain ⟨y, hy, rfl⟩ := List.mem_map.1 hx
   exact ⟨F, nz_nf (hF y hy)⟩) W1 (fun _ => False) o (fun _ _ _ g => g)).mono fun e w' g => ?_
  obtain ⟨a2, c2, he, g⟩ := g
  obtain ⟨S, h1, h2⟩ := g.out.1
  exact ⟨a2, c2, he, ⟨S, h1⟩, g.out.2⟩
 have HSa : Hid (∀ (W : World) (va vb : Value) (F : Nat) (S1 S2 : Nat → Prop), VsAt W S1 (2 * D + 1 + 2 + 1) (ls.map (nzT F)) va → VsAt W S2 (D + 1 + 1) ls vb → (∀ x ∈ ls.map (nzT F), ∃ e, SmT e x) → (∀ x ∈ ls, ∃ e, SmT e x) → Cz 9 #[va, vb] W fun e w' => e = .returned (.bool true) ∧ Oz W w') := fun W va vb F S1 S2 h1 h2 hs1 hs2 => by
  have := (dsame_all (2 * D + 1 + 2 + 1)).1 (ls.map (nzT F)) ls va vb W S1 S2 h1 (h2.step (fun _ g => g) (fun _ _ _ g => g) (by omega)) (by rw [List.length_map]; exact hlsb.1) hlsb.1 hs1 hs2
  rw [smL_map _ _ _ (fun x hx => saV_nz (2 * D + 1 + 2 + 1 - 1) F x ((hlsb.2 x hx).up (by omega)))] at this
  exact this
 clear ha hlen sa hT hN hzs hzl hzsm hz hid hR1 hR2 hR3 hL hE hls hlsb
 go_enter Tryz.func3, Tryz.ntmps3
 go_wp2_with fail
 refine (show Cz 4 _ _ _ from HA.out).mono ?_
 rintro e w1 ⟨rfl, o1⟩
 have O1 : Hid (Oz w w1) := o1
 clear HA o1 O0
 go_wp2_with fail
 refine (show Cz 6 _ _ _ from HV.out _ O1.out).mono ?_
 rintro e w2 ⟨a2, c2, rfl, G2⟩
 have O2 : Hid (Oz w w2) := O1.out.trans G2.out.2 (fun _ _ g => g)
 clear HV
 go_wp2_with fail
 refine (show Cz 5 _ _ _ from HTr.out w2 w2 _ _ _ G2.out.1 (Only.refl _ _)).mono ?_
 rintro e w3 ⟨a3, c3, rfl, G3⟩
 have O3 : Hid (Oz w w3) := O2.out.trans G3.out.2 (fun _ _ g => g)
 clear HTr G2 O1 O2
 go_wp2_with fail
 refine (show Cz 6 _ _ _ from (by obtain ⟨S, h, _⟩ := G3.out.1; exact HV2.out _ _ _ _ h)).mono ?_
 rintro e w4 ⟨a4, c4, rfl, G4⟩
 have O4 : Hid (Oz w3 w4) := G4.out.2
 clear HV2
 go_wp2_with fail
 refine (show Cz 7 _ _ _ from HDo.out w4 w4 _ _ _ G4.out.1 (Only.refl _ _) (HT.out.frame (O3.out.trans O4.out (fun _ _ g => g)))).mono ?_
 rintro e w5 ⟨a5, c5, rfl, G5⟩
 have O5 : Hid (Oz w3 w5) := O4.out.trans G5.out.2.1 (fun _ _ g => g)
 clear HDo G4 O4
 go_wp2_with fail
 refine (show Cz 8 _ _ _ from (by obtain ⟨S, h, hS⟩ := G3.out.1; exact HRd.out w5 _ _ S (h.only O5.out) (fun b hb => Nat.lt_of_lt_of_le (hS b hb) O5.out.size))).mono ?_
 rintro e w6 ⟨a6, c6, rfl, G6⟩
 have O6 : Hid (Oz w5 w6) := G6.out.2
 clear HRd G3
 go_wp2_with fail
 obtain ⟨F, hF, hTa⟩ := HTa.out w5 w6 _ a5 c5 G5.out.1 G5.out.2.2 O6.out
 have HTb : Hid _ := hTa
 have HFs : Hid (∀ x ∈ ls.map (nzT F), ∃ e, SmT e x) := hF
 clear hF hTa HTa
 refine (show Cz 5 _ _ _ from HTb.out).mono ?_
 rintro e w7 ⟨a7, c7, rfl, G7⟩
 clear HTb
 go_wp2_with fail
 refine (show Cz 9 _ _ _ from (by obtain ⟨S7, h7⟩ := G7.out.1; obtain ⟨S6, h6⟩ := G6.out.1; exact HSa.out w7 _ _ F S7 S6 h7 (h6.only G7.out.2) HFs.out G5.out.2.2)).mono ?_
 rintro e w8 ⟨rfl, o8⟩
 have HZ : Hid (Oz w w8) := (((O3.out.trans O5.out (fun _ _ g => g)).trans O6.out (fun _ _ g => g)).trans G7.out.2 (fun _ _ g => g)).trans o8 (fun _ _ g => g)
 clear o8 G5 G6 G7 HSa HFs O3 O5 O6 HT
 go_wp2
 go_ret
 exact ⟨rfl, HZ.out⟩
end Go.Proofs.YtenjollhlgjjdaaGreatDoor
namespace Go.Proofs.YtenjollhlgjjdaaGreatDoor
open Go.RowKit Go.ChangeShapes Go.WideShapes
theorem vfour {α : Type} : ∀ (l : List α), l.length = 4 → ∃ a b c d, l = [a, b, c, d]
 | [a, b, c, d], _ => ⟨a, b, c, d, rfl⟩
theorem vexists_list {α : Type} : ∀ (len : Nat) (p : Nat → α → Prop), (∀ i, i < len → ∃ x, p i x) → ∃ l : List α, l.length = len ∧ ∀ i (h : i < l.length), p i l[i]
 | 0, _, _ => ⟨[], rfl, fun i h => by simp at h⟩
 | n + 1, p, hp => by
   obtain ⟨l, hl, hq⟩ := vexists_list n p (fun i hi => hp i (by omega))
   obtain ⟨x, hx⟩ := hp n (by omega)
   refine ⟨l ++ [x], by simp [hl], fun i hi => ?_⟩
   by_cases e : i < l.length
   ·rw [List.getElem_append_left e]; exact hq i e
   ·have : i = l.length := by simp at hi; omega
    subst this
    rw [List.getElem_append_right (by omega)]
    simpa [hl] using hx
theorem vuniform (q : Nat → Nat → Prop) (hm : ∀ i d d', d ≤ d' → q i d → q i d') : ∀ len, (∀ i, i < len → ∃ d, q i d) → ∃ D, ∀ i, i < len → q i D
 | 0, _ => ⟨0, fun i h => by omega⟩
 | n + 1, h => by
   obtain ⟨D, hD⟩ := vuniform q hm n (fun i hi => h i (by omega))
   obtain ⟨d, hd⟩ := h n (by omega)
   refine ⟨max D d, fun i hi => ?_⟩
   by_cases e : i < n
   ·exact hm i D _ (by omega) (hD i e)
   ·obtain rfl : i = n := by omega
    exact hm i d _ (by omega) hd
theorem vcellsI : Tryz.prog.cellsOf 3 = 1 := by kernel_rfl
theorem vcellsN : Tryz.prog.cellsOf 2 = 1 := by kernel_rfl
theorem vcellsS : Tryz.prog.cellsOf 9 = 1 := by kernel_rfl
theorem vcellsL : Tryz.prog.cellsOf 22 = 1 := by kernel_rfl
theorem vcellsV : Tryz.prog.cellsOf 38 = 4 := by kernel_rfl
section
variable {H : Type} {enc : TypeId × Value → H} {w : World} {base : Nat} {held : Bool}
theorem vcells_get {a : Addr} {n : Nat} {cs : List Value} (h : w.cells? base a n = some cs) : cs.length = n ∧ ∀ j v, cs[j]? = some v → w.cell? (a.add j) = some v := by
 unfold World.cells? at h
 split at h
 ·refine ⟨by simpa using mapM_some_length h, fun j v hv => ?_⟩
  have hj : j < n := by
   have := (List.getElem?_eq_some_iff.1 hv).1
   have hl : cs.length = n := by simpa using mapM_some_length h
   omega
  have := mapM_some_get h j j (by simp [hj])
  rw [this]; exact hv
 ·cases h
theorem vbulk_mem : ∀ (l : List (DataW H)) (d : DataW H), d ∈ l → Rows.uptoBulk d ≤ Rows.uptoBulkAll l
 | [], _, h => by cases h
 | a :: r, d, h => by
   simp only [Rows.uptoBulkAll]
   rcases List.mem_cons.1 h with rfl | h
   ·omega
   ·have := vbulk_mem r d h
    omega
theorem vbulk_pos (d : DataW H) : 0 < Rows.uptoBulk d := by
 rcases d with l | _ | _ | _ | _ | _ | _ | _ <;> try simp [Rows.uptoBulk]
 cases l <;> simp [Rows.uptoBulk]
theorem vbulk_len : ∀ (l : List (DataW H)), l.length ≤ Rows.uptoBulkAll l
 | [] => by simp [Rows.uptoBulkAll]
 | d :: r => by
   have := vbulk_len r
   have := vbulk_pos d
   simp only [Rows.uptoBulkAll, List.length_cons]
   omega
theorem vbounds {n : Int} (h : (Lit.int .i64 n).wf = true) : -9223372036854775808 ≤ n ∧ n ≤ 9223372036854775807 := by
 have := h
 simp only [Lit.wf, Bool.and_eq_true, decide_eq_true_eq] at this
 exact this
theorem read_v (fuel : Nat) : ∀ {cs : List Value} {x : DataW H × List MemPlace}, DataW.trod enc Tryz.prog w base (fun _ => true) held fuel 38 cs = some x → Rows.uptoBulk x.1 ≤ 1048576 → ∃ (t : Vt) (lv : Value) (d : Nat), cs = [.int .i64 t.k, .int .i64 t.n, .string t.s, lv] ∧ SmT d t ∧ VsAt w (fun _ => True) d t.l lv := by
 induction fuel using Nat.strongRecOn with
 | ind fuel ih =>
 intro cs x h hb
 obtain ⟨xs, n, hn, rfl, hl, hxl, hf⟩ := DataW.trod_struct Tryz.underlying38 h
 rw [vcellsV] at hl
 obtain ⟨c0, c1, c2, c3, rfl⟩ := vfour cs hl
 obtain ⟨y0, y1, y2, y3, rfl⟩ := vfour xs hxl
 have g0 : DataW.trod enc Tryz.prog w base (fun _ => true) held n 3 (([c0, c1, c2, c3].drop 0).take (Tryz.prog.cellsOf 3)) = some y0 := hf 0 _ rfl
 have g1 : DataW.trod enc Tryz.prog w base (fun _ => true) held n 2 (([c0, c1, c2, c3].drop 1).take (Tryz.prog.cellsOf 2)) = some y1 := hf 1 _ rfl
 have g2 : DataW.trod enc Tryz.prog w base (fun _ => true) held n 9 (([c0, c1, c2, c3].drop 2).take (Tryz.prog.cellsOf 9)) = some y2 := hf 2 _ rfl
 have g3 : DataW.trod enc Tryz.prog w base (fun _ => true) held n 22 (([c0, c1, c2, c3].drop 3).take (Tryz.prog.cellsOf 22)) = some y3 := hf 3 _ rfl
 rw [vcellsI] at g0
 rw [vcellsN] at g1
 rw [vcellsS] at g2
 rw [vcellsL] at g3
 simp only [List.drop_succ_cons, List.drop_zero, List.take_succ_cons, List.take_zero] at g0 g1 g2 g3
 obtain ⟨n0, e0, _, w0⟩ := DataW.trod_int Tryz.underlying3 g0
 obtain ⟨n1, e1, _, w1⟩ := DataW.trod_int Tryz.underlying2 g1
 obtain ⟨s, e2, hs2, _⟩ := DataW.trod_string Tryz.underlying9 g2
 simp only [List.cons.injEq, and_true] at e0 e1 e2
 subst e0 e1 e2
 simp only [List.map_cons, List.map_nil, Rows.uptoBulk, Rows.uptoBulkAll] at hb
 have hs : s.size ≤ 1048576 := by
  rw [hs2] at hb
  simp only [Rows.uptoBulk] at hb
  have : s.data.toList.length = s.size := Array.length_toList
  omega
 rcases DataW.trod_slice Tryz.underlying22 g3 with ⟨hcs, _⟩ | ⟨a, len, cap, elems, rest, m, hm, hcs, hx, _, hlc, _, hel, hget, _, _⟩
 ·simp only [List.cons.injEq, and_true] at hcs
  subst hcs
  exact ⟨⟨n0, n1, s, []⟩, _, 1, rfl, ⟨(by dsimp only; omega), Nat.zero_le _, vbounds w0, vbounds w1, fun x hx => by cases hx⟩, none, 0, rfl, Nat.zero_le _, fun i x hx => by simp at hx⟩
 ·simp only [List.cons.injEq, and_true] at hcs
  subst hcs
  have hb3 : Rows.uptoBulkAll (elems.map (·.1)) ≤ 1048576 := by
   rw [hx] at hb
   simp only [Rows.uptoBulk] at hb
   omega
  have hlen : len ≤ 1048576 := by
   have := vbulk_len (elems.map (·.1))
   simp at this
   omega
  obtain ⟨ts, htl, hts⟩ := vexists_list len (fun i (t : Vt) => ∃ lv d, (∀ j v, ([.int .i64 t.k, .int .i64 t.n, .string t.s, lv] : List Value)[j]? = some v → w.cell? (a.add (i * 4 + j)) = some v) ∧ SmT d t ∧ VsAt w (fun _ => True) d t.l lv) (fun i hi => by
   have h1 := hget i hi
   rw [vcellsV] at h1
   have hie : i < elems.length := by omega
   rw [List.getElem?_eq_getElem hie] at h1
   obtain ⟨cs', h2, h3⟩ := Option.bind_eq_some_iff.1 h1
   have hbi : Rows.uptoBulk (elems[i]).1 ≤ 1048576 := by
    have := vbulk_mem (elems.map (·.1)) (elems[i]).1 (List.mem_map.2 ⟨_, List.getElem_mem hie, rfl⟩)
    omega
   obtain ⟨t, lv, d, hc, q1, q2⟩ := ih m (by omega) h3 hbi
   refine ⟨t, lv, d, fun j v hv => ?_, q1, q2⟩
   rw [← hc] at hv
   rw [← Deep.add_add]
   exact (vcells_get h2).2 j v hv)
  obtain ⟨D, hD⟩ := vuniform (fun i d => ∀ (h : i < ts.length), ∃ lv, (∀ j v, ([.int .i64 ts[i].k, .int .i64 ts[i].n, .string ts[i].s, lv] : List Value)[j]? = some v → w.cell? (a.add (i * 4 + j)) = some v) ∧ SmT d ts[i] ∧ VsAt w (fun _ => True) d ts[i].l lv) (fun i d d' hd hq h => by
   obtain ⟨lv, q1, q2, q3⟩ := hq h
   exact ⟨lv, q1, q2.mono hd, q3.step (fun _ g => g) (fun _ _ _ g => g) hd⟩) ts.length (fun i hi => by
   obtain ⟨lv, d, q1, q2, q3⟩ := hts i hi
   exact ⟨d, fun _ => ⟨lv, q1, q2, q3⟩⟩)
  refine ⟨⟨n0, n1, s, ts⟩, _, D + 1, rfl, ⟨(by dsimp only; omega), by dsimp only; omega, vbounds w0, vbounds w1, fun x hx => ?_⟩, some a, cap, by dsimp only; rw [htl], by dsimp only; omega, fun i x hx => ?_⟩
  ·obtain ⟨i, hi, rfl⟩ := List.getElem_of_mem hx
   obtain ⟨lv, q1, q2, q3⟩ := hD i hi hi
   exact q2
  ·dsimp only at hx
   obtain ⟨hi, rfl⟩ := List.getElem?_eq_some_iff.1 hx
   obtain ⟨lv, q1, q2, q3⟩ := hD i hi hi
   have p0 := q1 0 _ rfl
   have p1 := q1 1 _ rfl
   have p2 := q1 2 _ rfl
   have p3 := q1 3 _ rfl
   have h0 : 0 < ts.length := by omega
   obtain ⟨lv0, z1, _, _⟩ := hD 0 h0 h0
   have hsp := World.cell?_spot (z1 0 _ rfl)
   obtain ⟨g, o, spot⟩ := a
   have hs0 : spot = none := by simpa [Addr.add] using hsp
   subst hs0
   rw [Addr.add_mid] at p0 p1 p2 p3
   exact ⟨g, o, lv, rfl, trivial, ⟨p0, by rw [Nat.add_assoc]; exact p1, by rw [Nat.add_assoc]; exact p2, by rw [Nat.add_assoc]; exact p3⟩, q3⟩
end
end Go.Proofs.YtenjollhlgjjdaaGreatDoor
