/- The document's Line, within a vocabulary. The document's Parse of vocabularies. Equal vocabularies: ref15.Same. A row behind a row; how great what is read is. The place of a fault is no great number; awake. -/
import Derived.Test.YtfecmpebnianpaaGreatDoorGba
import Derived.Test.YtfecmpebnianpaaGreatDoorGap
import Derived.Deep.DrawnRows
import Derived.Test.YtfecmpebnianpaaGreatDoorGao
namespace Go.Proofs.YtfecmpebnianpaaGreatDoor
open Go.RowKit
set_option linter.unusedSimpArgs false
set_option linter.unusedVariables false
/-- what is put behind the definitions -/
def inO (l : List Mf) (m : Mf) : Option Fm → Option DsX
  | none => none
  | some d => some (l, some (⟨m.nm, m.us, m.ds ++ [d]⟩, true))
/-- the uses of a line, where they may stand -/
def usO (b : Bool) (t : List UInt8) : Option (List ByteArray) := if b then none else nmX [117, 115, 101, 115] ((wdL t []).map bt)
theorem lnX_in (t : List UInt8) (l : List Mf) (m : Mf) (b : Bool) (h : b = false → m.us = [] ∧ m.ds = []) (he : bt t ≠ endB) : lnX t (l, some (m, b)) = match usO b t with
    | some us => some (l, some (⟨m.nm, us, []⟩, true))
    | none => inO l m (defO (bt t)) := by
  cases b with
  | true =>
    simp only [lnX, usO, if_true, inO]
    rw [if_neg he]
    cases defO (bt t) <;> rfl
  | false =>
    obtain ⟨h1, h2⟩ := h rfl
    simp only [lnX, usO]
    rw [if_neg he, show useB = bt ([117, 115, 101, 115] ++ [32]) from rfl, nmO_wd t [117, 115, 101, 115] (by decide)]
    simp only [Bool.false_eq_true, if_false]
    cases nmX [117, 115, 101, 115] ((wdL t []).map bt) with
    | some us => rfl
    | none =>
      cases defO (bt t) <;> simp [inO, h1, h2]
theorem lnX_end (t : List UInt8) (l : List Mf) (m : Mf) (b : Bool) (h : b = false → m.us = [] ∧ m.ds = []) (he : bt t = endB) : lnX t (l, some (m, b)) = some (l ++ [m], none) := by
  cases b with
  | true => simp only [lnX]; rw [if_pos he]
  | false =>
    obtain ⟨h1, h2⟩ := h rfl
    obtain ⟨nm, us, ds⟩ := m
    simp only at h1 h2
    subst h1
    subst h2
    simp only [lnX]
    rw [if_pos he]
set_option maxRecDepth 100000 in
set_option maxHeartbeats 16000000 in
theorem line_in (t : List UInt8) (ht : t.length ≤ 65536) {w : World} {R : Nat} {l : List Mf} {m : Mf} {b : Bool} (h : RdX w R (l, some (m, b))) (hl : l.length ≤ 65536) (hd : m.ds.length ≤ 65536) : Calls Tryz.prog 16 #[.pointer (some ⟨R, 0, none⟩), .string (bt t)] w (LnP R w (lnX t (l, some (m, b)))) := by
  obtain ⟨G, cc, D, uv, dv, h⟩ := h
  have hbare : b = false → m.us = [] ∧ m.ds = [] := fun e => by subst e; exact h.bare
  have hZe := lnX_end t l m b hbare
  have hZi := lnX_in t l m b hbare
  obtain ⟨st, hst⟩ : ∃ st : Int, st = if b then 2 else 1 := ⟨_, rfl⟩
  have hst0 : (st == 0) = false := by rw [hst]; cases b <;> rfl
  have hst1 : (st == 1) = !b := by rw [hst]; cases b <;> rfl
  obtain ⟨k, hk⟩ : ∃ k, k = l.length := ⟨_, rfl⟩
  obtain ⟨nn, hnn⟩ : ∃ nn, nn = l.length + 1 := ⟨_, rfl⟩
  have HB : Hid (RlX w R G cc D l m b uv dv ∧ k = l.length ∧ nn = l.length + 1 ∧ k ≤ 65536 ∧ t.length ≤ 65536 ∧ m.ds.length ≤ 65536 ∧ st = (if b then 2 else 1)) := ⟨h, hk, hnn, by omega, ht, hd, hst⟩
  obtain ⟨Z, hZ⟩ : ∃ Z, Z = lnX t (l, some (m, b)) := ⟨_, rfl⟩
  rw [← hZ] at hZe hZi ⊢
  have HZE : Hid _ := hZe
  have HZI : Hid _ := hZi
  have HW : Hid _ := words_k t w ht
  obtain ⟨T, hT⟩ : ∃ T, T = bt t := ⟨_, rfl⟩
  have HTT : Hid (T = bt t) := hT
  rw [← hT] at HW HZE HZI ⊢
  clear h hbare hZe hZi hst hk hnn ht hl hd hZ hT
  go_enter Tryz.func16, Tryz.ntmps16
  go_wp2_with fail
  refine (show Calls Tryz.prog 32 _ _ _ from HW.out).mono ?_
  rintro e w1 ⟨g, n, c, rfl, H1⟩
  clear HW
  have hRX := HB.out.1.only H1.out.2 (fun _ _ _ g => g)
  obtain ⟨_, _, _, _, _, c0, c1⟩ := hRX.cells
  rw [← HB.out.2.2.1] at c0
  rw [← HB.out.2.2.2.2.2.2] at c1
  have i1 : IntKind.i64.wrap ((nn : Int) - 1) = (k : Int) := by have := HB.out.2; rw [IntKind.wrap_i64]; omega
  have i2 : (k : Int) < (nn : Int) := by have := HB.out.2; omega
  have i3 : (0 : Int) ≤ (k : Int) := by omega
  have i4 : k ≤ 65536 := HB.out.2.2.2.1
  have i5 : k < nn := by have := HB.out.2; omega
  have i6 : nn ≤ 65537 := by have := HB.out.2; omega
  have HR1 : Hid (RlX w1 R G cc D l m b uv dv) := hRX
  clear hRX
  go_wp2
  go_quiet (fail)
  obtain ⟨W, hW⟩ : ∃ W, W = w1.drewN nq := ⟨_, rfl⟩
  have oW : Only (fun _ => False) w1 W := by rw [hW]; exact (Only.refl _ w1).drewN _
  rw [← hW]
  have HRW : Hid (RlX W R G cc D l m b uv dv ∧ Only (fun _ => False) w W) := ⟨HR1.out.only oW (fun _ _ _ g => g), H1.out.2.trans oW (fun _ _ g => g)⟩
  have HOW : Hid (Only (fun _ => False) w1 W) := oW
  clear hW oW HR1 c0 c1 i1 i2 i3 i5 i6
  obtain ⟨u1, u2, u3, u4, u5, u6, u7⟩ := HRW.out.1.cells
  rw [← HB.out.2.1] at u1 u2 u3 u4
  rw [← HB.out.2.2.1] at u6
  rw [← HB.out.2.2.2.2.2.2] at u7
  by_cases he : T = endB
  · have be : (T.toList == [101, 110, 100]) = true := by rw [beq_iff_eq, tl_bt]; exact he
    have hz := HZE.out he
    have HF : Hid (RdX (W.setCell ⟨R, 1, none⟩ (.int .i64 0)) R (l ++ [m], none) ∧ Only (fun x => R ≤ x) w (W.setCell ⟨R, 1, none⟩ (.int .i64 0))) := ⟨rd_end HRW.out.1, (HRW.out.2.mono (bs' := fun x => R ≤ x) (fun _ _ g => g.elim)).trans ((Only.refl (fun x => x = R) W).setCell _ _ (fun _ => rfl)) (fun x _ e => by omega)⟩
    subst hz
    clear he HZE HZI HRW HOW HB HTT H1
    go_wp2
    go_ret
    exact ⟨rfl, HF.out⟩
  · have be : (T.toList == [101, 110, 100]) = false := by rw [beq_eq_false_iff_ne]; intro e; exact he ((tl_bt _ _).1 e)
    have HZ : Hid _ := HZI.out he
    obtain ⟨hn, hc, hg1, hg2, hcl⟩ := H1.out.1.cells
    obtain ⟨x, xs, hws⟩ : ∃ x xs, wdL t [] = x :: xs := by
      cases hw : wdL t [] with
      | nil => exact absurd hw (wd_ne _ _)
      | cons x xs => exact ⟨x, xs, rfl⟩
    have hlw := wd_len t []
    rw [hws] at hn hlw
    simp only [List.length_cons] at hn hlw
    have a0 : W.cell? ⟨g, 0, none⟩ = some (.string (bt x)) := HOW.out.cell (hcl 0 x (by rw [hws]; rfl)) (fun g => g)
    have j1 : (0 : Int) < (n : Int) := by omega
    have j2 : n ≤ 65537 := by have := HB.out.2.2.2.2.1; omega
    have HC : Hid (n = xs.length + 1 ∧ n ≤ c ∧ w.heap.size ≤ g ∧ g < w1.heap.size ∧ wdL t [] = x :: xs ∧ ∀ (j : Nat) (x : List UInt8), (wdL t [])[j]? = some x → w1.cell? ⟨g, j, none⟩ = some (.string (bt x))) := ⟨hn, hc, hg1, hg2, hws, hcl⟩
    have HNM : Hid (2 ≤ n → ∀ w2, Only (fun _ => False) w1 w2 → Calls Tryz.prog 33 #[.slice (some ⟨g, 1, none⟩) (n - 1) (c - 1)] w2 fun e w' => e = .returned (.bool ((xs.map bt).all nameB)) ∧ Only (fun _ => False) w2 w') := fun h2 w2 o2 => by
      have := rest_names (bs := fun _ => False) H1.out h2 HB.out.2.2.2.2.1 w2 o2
      rw [hws] at this
      exact this
    have HSL : Hid (2 ≤ n → ∀ X : World, (Instr.slice 39 (.slice (some ⟨g, 0, none⟩) n c) (some (.int .i64 1)) none none).run Tryz.prog X = .ok (.slice (some ⟨g, 1, none⟩) (n - 1) (c - 1)) X) := fun h2 X => slice_1t g n c h2 hc X
    obtain ⟨X, hX⟩ : ∃ X, X = bt x := ⟨_, rfl⟩
    rw [← hX] at a0
    have HX : Hid (X = bt x) := hX
    obtain ⟨n1, hn1⟩ : ∃ n1, n1 = n - 1 := ⟨_, rfl⟩
    obtain ⟨c1, hc1⟩ : ∃ c1, c1 = c - 1 := ⟨_, rfl⟩
    rw [← hn1, ← hc1] at HNM HSL
    have HN1 : Hid (n1 = n - 1 ∧ c1 = c - 1) := ⟨hn1, hc1⟩
    clear hn hc hg1 hg2 hcl hws hlw HZE HZI he hX hn1 hc1
    by_cases hU : b = false ∧ X = (⟨#[117, 115, 101, 115]⟩ : ByteArray) ∧ 2 ≤ n ∧ (xs.map bt).all nameB = true
    · obtain ⟨hb, hX2, h2, hall⟩ := hU
      subst hb
      have hzu : Z = some (l, some (⟨m.nm, xs.map bt, []⟩, true)) := by
        rw [HZ.out]
        have : usO false t = some (xs.map bt) := by
          have hws := HC.out.2.2.2.2.1
          cases xs with
          | nil => have := HC.out.1; simp at this; omega
          | cons y ys =>
            simp only [usO, hws, List.map_cons, nmX, Bool.false_eq_true, if_false]
            rw [if_pos (by rw [← HX.out, hX2]; rfl), if_pos (show (bt y :: ys.map bt).all nameB = true from hall)]
        rw [this]
      have hb1 : (st == 1) = true := by rw [hst1]; rfl
      have b2 : (X.toList == [117, 115, 101, 115]) = true := by rw [beq_iff_eq, tl_bt]; exact hX2
      have j3 : (1 : Int) < (n : Int) := by omega
      have hsl := HSL.out h2
      have HNC : Hid _ := HNM.out h2 W HOW.out
      rw [hall] at HNC
      have HXS : Hid (n1 = (xs.map bt).length ∧ n1 ≤ c1 ∧ xs ≠ [] ∧ R < w1.heap.size ∧ G ≠ g) := by
        have := HC.out; have := HN1.out; have := HRW.out.1.lt; have h3 := HB.out.1.lt
        exact ⟨by rw [List.length_map]; omega, by omega, fun e => by subst e; simp at this; omega, by have := H1.out.2.size; omega, by omega⟩
      subst hzu
      clear hst1 hX2 h2 hall HNM HSL HZ
      go_wp2_with fail
      refine (show Calls Tryz.prog 33 _ _ _ from HNC.out).mono ?_
      rintro e w3 ⟨rfl, o3⟩
      have HR3 : Hid (RlX w3 R G cc D l m false uv dv ∧ Only (fun _ => False) w w3) := ⟨HRW.out.1.only o3 (fun _ _ _ g => g), HRW.out.2.trans o3 (fun _ _ g => g)⟩
      have HU3 : Hid (UsV w3 (fun x => x = g) (.slice (some ⟨g, 1, none⟩) n1 c1) (xs.map bt)) := by
        have hx := HXS.out
        refine .inr ⟨g, 1, c1, by rw [← hx.1], by rw [← hx.1]; exact hx.2.1, rfl, fun j y hy => ?_⟩
        rw [List.getElem?_map] at hy
        cases hz : xs[j]? with
        | none => rw [hz] at hy; cases hy
        | some z =>
          rw [hz] at hy
          simp only [Option.map_some, Option.some.injEq] at hy
          rw [← hy]
          have := HC.out.2.2.2.2.2 (1 + j) z (by rw [HC.out.2.2.2.2.1, Nat.add_comm]; simpa using hz)
          exact o3.cell (HOW.out.cell this (fun g => g)) (fun g => g)
      have hfin := rd_uses HR3.out.1 HU3.out (by simpa using HXS.out.2.2.1) (fun x hx => by
        subst hx
        have h1 := HC.out; have h3 := HB.out.1.lt
        exact ⟨by omega, by have := HOW.out.size; have := o3.size; omega, fun e => HXS.out.2.2.2.2 e.symm⟩)
      rw [← HB.out.2.1] at hfin
      have HFN : Hid (RdX ((w3.setCell ⟨G, k * 3 + 1, none⟩ (.slice (some ⟨g, 1, none⟩) n1 c1)).setCell ⟨R, 1, none⟩ (.int .i64 2)) R (l, some (⟨m.nm, xs.map bt, []⟩, true)) ∧ Only (fun x => R ≤ x) w ((w3.setCell ⟨G, k * 3 + 1, none⟩ (.slice (some ⟨g, 1, none⟩) n1 c1)).setCell ⟨R, 1, none⟩ (.int .i64 2))) := ⟨hfin.1, (HR3.out.2.mono (bs' := fun x => R ≤ x) (fun _ _ g => g.elim)).trans hfin.2 (fun _ _ g => g)⟩
      obtain ⟨v1, v2, v3, v4, v5, v6, v7⟩ := HR3.out.1.cells
      rw [← HB.out.2.1] at v1 v3
      have hGR : ¬ R = G := by have := HB.out.1.lt; omega
      have oS : Only (fun x => x = G) w3 (w3.setCell ⟨G, k * 3 + 1, none⟩ (.slice (some ⟨g, 1, none⟩) n1 c1)) := (Only.refl _ w3).setCell _ _ (fun _ => rfl)
      have v8 : (w3.setCell ⟨G, k * 3 + 1, none⟩ (.slice (some ⟨g, 1, none⟩) n1 c1)).frozen? ⟨R, 1, none⟩ = false := (oS.frozen (World.block_lt_of_cell? w3 _ v7) hGR).trans v5
      have v9 := oS.cell v7 hGR
      clear hfin oS hGR v2 v4 v5 v6 v7 HR3 HU3 HXS HNC HC HB HRW HOW H1 HTT HX HN1 u1 u2 u3 u4 u5 u6 u7 a0 o3
      go_wp2
      go_ret
      exact ⟨rfl, HFN.out⟩
    · have hzd : Z = inO l m (defO T) := by
        rw [HZ.out]
        have : usO b t = none := by
          have hws := HC.out.2.2.2.2.1
          cases b with
          | true => rfl
          | false =>
            cases xs with
            | nil => simp only [usO, hws, List.map_cons, List.map_nil, nmX, Bool.false_eq_true, if_false]
            | cons y ys =>
              simp only [usO, hws, List.map_cons, nmX, Bool.false_eq_true, if_false]
              by_cases e1 : bt x = bt [117, 115, 101, 115]
              · rw [if_pos e1]
                by_cases e2 : (bt y :: ys.map bt).all nameB = true
                · exact absurd ⟨rfl, by rw [HX.out, e1]; rfl, by have := HC.out.1; simp at this; omega, e2⟩ hU
                · rw [if_neg e2]
              · rw [if_neg e1]
        rw [this]
      have hdo : defO T = if (parR T).2.2 = 0 then (match (parR T).1 with | [fm] => if fm.d then some fm else none | _ => none) else none := rfl
      obtain ⟨fl, hfl⟩ : ∃ l, l = (parR T).1 := ⟨_, rfl⟩
      obtain ⟨E, hE⟩ : ∃ E, E = (parR T).2.2 := ⟨_, rfl⟩
      have HP : Hid (∀ w5, Calls Tryz.prog 34 #[.string T, .bool true] w5 fun e w' => ∃ ao cap p, e = .returned (.tuple #[.slice ao fl.length cap, .int .i64 p, .int .i64 E]) ∧ Hid (VfAt w' w5.heap.size 12401 (.slice ao fl.length cap) fl ∧ Only (fun _ => False) w5 w')) := fun w5 => by
        refine (rparse_any true T w5).mono fun e w' g => ?_
        unfold pdQ at g
        rw [parD_true, ← hfl, ← hE] at g
        obtain ⟨ao, cap, he, g⟩ := g
        exact ⟨ao, cap, _, he, g⟩
      rw [← hfl, ← hE] at hdo
      obtain ⟨Y, hY⟩ : ∃ Y, Y = defO T := ⟨_, rfl⟩
      rw [← hY] at hzd hdo
      have HY : Hid (Y = if E = 0 then (match fl with | [fm] => if fm.d then some fm else none | _ => none) else none) := hdo
      subst hzd
      clear hdo hfl hE HZ HSL hY
      -- the four ways past the uses
      have h4 : b = true ∨ (b = false ∧ (X.toList == [117, 115, 101, 115]) = false) ∨ (b = false ∧ (X.toList == [117, 115, 101, 115]) = true ∧ ¬ (1 : Int) < (n : Int)) ∨ (b = false ∧ (X.toList == [117, 115, 101, 115]) = true ∧ (1 : Int) < (n : Int) ∧ (xs.map bt).all nameB = false) := by
        cases b with
        | true => exact .inl rfl
        | false =>
          by_cases e1 : X = (⟨#[117, 115, 101, 115]⟩ : ByteArray)
          · have e1' : (X.toList == [117, 115, 101, 115]) = true := by rw [beq_iff_eq, tl_bt]; exact e1
            by_cases e2 : 2 ≤ n
            · refine .inr (.inr (.inr ⟨rfl, e1', by omega, ?_⟩))
              rw [Bool.eq_false_iff]
              exact fun e3 => hU ⟨rfl, e1, e2, e3⟩
            · exact .inr (.inr (.inl ⟨rfl, e1', by omega⟩))
          · exact .inr (.inl ⟨rfl, by rw [beq_eq_false_iff_ne]; intro e; exact e1 ((tl_bt _ _).1 e)⟩)
      clear hU
      rcases h4 with hb | ⟨hb, b2⟩ | ⟨hb, b2, j3⟩ | ⟨hb, b2, j3, hall⟩
      focus
        rw [hb] at hst1
        have hb1 : (st == 1) = false := hst1
        clear hst1
        go_wp2_with fail
        obtain ⟨w5, hw5⟩ : ∃ w5, w5 = W := ⟨_, rfl⟩
        have o5 : Only (fun _ => False) W w5 := by rw [hw5]; exact Only.refl _ _
        rw [← hw5]
        clear hw5
      rotate_left
      focus
        rw [hb] at hst1
        have hb1 : (st == 1) = true := hst1
        clear hst1
        go_wp2_with fail
        obtain ⟨w5, hw5⟩ : ∃ w5, w5 = W := ⟨_, rfl⟩
        have o5 : Only (fun _ => False) W w5 := by rw [hw5]; exact Only.refl _ _
        rw [← hw5]
        clear hw5
      rotate_left
      focus
        rw [hb] at hst1
        have hb1 : (st == 1) = true := hst1
        clear hst1
        go_wp2_with fail
        obtain ⟨w5, hw5⟩ : ∃ w5, w5 = W := ⟨_, rfl⟩
        have o5 : Only (fun _ => False) W w5 := by rw [hw5]; exact Only.refl _ _
        rw [← hw5]
        clear hw5
      rotate_left
      focus
        rw [hb] at hst1
        have hb1 : (st == 1) = true := hst1
        have HNC : Hid _ := HNM.out (by omega) W HOW.out
        rw [hall] at HNC
        have hsl := fun X => slice_1t g n c (by omega) HC.out.2.1 X
        rw [← HN1.out.1, ← HN1.out.2] at hsl
        clear hst1 hall
        go_wp2_with fail
        refine (show Calls Tryz.prog 33 _ _ _ from HNC.out).mono ?_
        rintro e w5 ⟨rfl, o5⟩
        clear HNC
        go_wp2_with fail
      rotate_left
      all_goals
        refine (show Calls Tryz.prog 34 _ _ _ from HP.out _).mono ?_
        rintro e w6 ⟨ao, cap, p, rfl, g6⟩
        have o6 : Only (fun _ => False) W w6 := o5.trans g6.out.2 (fun _ _ g => g)
        have HR6 : Hid (RlX w6 R G cc D l m b uv dv ∧ Only (fun x => R ≤ x) w w6) := ⟨HRW.out.1.only o6 (fun _ _ _ g => g), (HRW.out.2.trans o6 (fun _ _ g => g)).mono (fun _ _ g => g.elim)⟩
        have HV : Hid (VfAt w6 w5.heap.size 12401 (.slice ao fl.length cap) fl ∧ w.heap.size ≤ w5.heap.size) := ⟨g6.out.1, Nat.le_trans HRW.out.2.size o5.size⟩
        clear HP g6 o6 o5 HNM u1 u2 u3 u4 u5 u6 u7 a0 HRW HOW H1 HTT HX HN1 HC
        by_cases h0 : E = 0
        · have bE : (E != 0) = false := by rw [h0]; decide
          have hy := HY.out
          rw [if_pos h0] at hy
          clear h0 HY
          rcases fl with _ | ⟨fm, _ | ⟨f2, r⟩⟩
          · obtain rfl : Y = none := hy
            clear HV
            go_wp2
            go_ret
            exact ⟨rfl, HR6.out.2⟩
          rotate_left
          · obtain rfl : Y = none := hy
            clear HV
            obtain ⟨L, hL⟩ : ∃ L, L = (fm :: f2 :: r).length := ⟨_, rfl⟩
            rw [← hL]
            have hL2 : ((L : Int) != 1) = true := by rw [bne_iff_ne]; rw [hL]; simp; omega
            clear hL
            go_wp2
            go_ret
            exact ⟨rfl, HR6.out.2⟩
          · have hy2 : Y = if fm.d then some fm else none := hy
            clear hy
            obtain ⟨gf, a1, c1', rfl, hf1, hf2, ⟨y0, y1, y2, y3, y4⟩, hnv⟩ := HV.out.1.defi
            cases hfd : fm.d with
            | false =>
              rw [hfd] at y0 hy2
              obtain rfl : Y = none := hy2
              clear HV hnv hf1 hf2 y1 y2 y3 y4
              go_wp2
              go_ret
              exact ⟨rfl, HR6.out.2⟩
            | true =>
              rw [hfd] at y0 hy2
              obtain rfl : Y = some fm := hy2
              obtain ⟨hGd, hDs, hRD, hGD, hR6⟩ := HR6.out.1.defs
              have hGw := HB.out.1.defs
              obtain ⟨da, dc, rfl⟩ := hGd.form
              obtain ⟨dl, hdl⟩ : ∃ dl, dl = m.ds.length := ⟨_, rfl⟩
              obtain ⟨v1, v2, v3, v4, v5, v6, v7⟩ := HR6.out.1.cells
              rw [← HB.out.2.1] at v2 v4
              rw [← hdl] at v2
              obtain ⟨BL, hBL⟩ : ∃ BL, BL = fm.b.length := ⟨_, rfl⟩
              rw [← hBL] at y4 hnv
              have oX : Only (fun _ => False) w6 (w6.alloc (.cells #[.string fm.nm, .int .i64 (fm.i : Int), .int .i64 (fm.j : Int), .slice a1 BL c1'] 71)).drew := ((Only.refl _ w6).alloc _).drew
              have d2 : w6.drew.cell? ⟨G, k * 3 + 2, none⟩ = some (.slice da dl dc) := v2
              have d1 : w6.drew.cell? ⟨gf, 1, none⟩ = some (.string fm.nm) := y1
              have d3 : w6.drew.cell? ⟨gf, 2, none⟩ = some (.int .i64 (fm.i : Int)) := y2
              have d4 : w6.drew.cell? ⟨gf, 3, none⟩ = some (.int .i64 (fm.j : Int)) := y3
              have d5 : w6.drew.cell? ⟨gf, 4, none⟩ = some (.slice a1 BL c1') := y4
              have x2 : (w6.alloc (.cells #[.string fm.nm, .int .i64 (fm.i : Int), .int .i64 (fm.j : Int), .slice a1 BL c1'] 71)).drew.cell? ⟨G, k * 3 + 2, none⟩ = some (.slice da dl dc) := oX.cell d2 (fun g => g)
              have HQ : Hid ((w6.alloc (.cells #[.string fm.nm, .int .i64 (fm.i : Int), .int .i64 (fm.j : Int), .slice a1 BL c1'] 71)).drew.heap[w6.heap.size]? = some (.cells [.string fm.nm, .int .i64 (fm.i : Int), .int .i64 (fm.j : Int), .slice a1 BL c1'].toArray 71) ∧ GrAt Ltb 71 4 RdP2 (w6.alloc (.cells #[.string fm.nm, .int .i64 (fm.i : Int), .int .i64 (fm.j : Int), .slice a1 BL c1'] 71)).drew D (.slice da dl dc) m.ds ∧ GnAt Ltb RdP2 (w6.alloc (.cells #[.string fm.nm, .int .i64 (fm.i : Int), .int .i64 (fm.j : Int), .slice a1 BL c1'] 71)).drew w5.heap.size fm [.string fm.nm, .int .i64 (fm.i : Int), .int .i64 (fm.j : Int), .slice a1 BL c1'] ∧ D ≤ w5.heap.size ∧ (∀ x, (Value.slice da dl dc).ownBlock = some x → x < w5.heap.size) ∧ D ≤ (w6.alloc (.cells #[.string fm.nm, .int .i64 (fm.i : Int), .int .i64 (fm.j : Int), .slice a1 BL c1'] 71)).drew.heap.size ∧ m.ds.length ≤ 1000000) := by
                obtain ⟨S3, t1, t2⟩ := hnv
                have hsz := HV.out.2
                refine ⟨alloc_at _ _ _ rfl, ?_, ⟨S3, ⟨a1, c1', by rw [hBL], ?_⟩, fun x hx => ⟨(t2 x hx).1, Nat.lt_of_lt_of_le (t2 x hx).2 oX.size⟩⟩, Nat.le_trans hGw.2.1 hsz, fun x hx => ?_, Nat.le_trans hDs oX.size, by have := HB.out.2.2.2.2.2.1; omega⟩
                · rw [hdl]
                  exact hGd.only bk_lt el_rd oX (fun _ _ _ e => e)
                · rw [← hBL]
                  exact t1.step (fun _ g => g) (fun a u _ hc => oX.cell hc (fun g => g)) (Nat.le_refl _)
                · have := (hGw.1.lt x (by rw [← hdl]; exact hx)).2
                  omega
              have HEN : Hid (∀ a4 c4 w4, Hid (GrAt Ltb 71 4 RdP2 w4 D (.slice a4 (dl + 1) c4) (m.ds ++ [fm]) ∧ Only (fun x => (Value.slice da dl dc).ownBlock = some x) (w6.alloc (.cells #[.string fm.nm, .int .i64 (fm.i : Int), .int .i64 (fm.j : Int), .slice a1 BL c1'] 71)).drew w4) → (w4.cell? ⟨G, k * 3 + 2, none⟩ = some (.slice da dl dc) ∧ w4.frozen? ⟨G, k * 3 + 2, none⟩ = false) ∧ ((w4.setCell ⟨G, k * 3 + 2, none⟩ (.slice a4 (dl + 1) c4)).cell? ⟨R, 1, none⟩ = some (.int .i64 st) ∧ (w4.setCell ⟨G, k * 3 + 2, none⟩ (.slice a4 (dl + 1) c4)).frozen? ⟨R, 1, none⟩ = false) ∧ Hid (RdX ((w4.setCell ⟨G, k * 3 + 2, none⟩ (.slice a4 (dl + 1) c4)).setCell ⟨R, 1, none⟩ (.int .i64 2)) R (l, some (⟨m.nm, m.us, m.ds ++ [fm]⟩, true)) ∧ Only (fun x => R ≤ x) w ((w4.setCell ⟨G, k * 3 + 2, none⟩ (.slice a4 (dl + 1) c4)).setCell ⟨R, 1, none⟩ (.int .i64 2)))) := fun a4 c4 w4 hf => by
                have o4 : Only (fun x => (Value.slice da dl dc).ownBlock = some x) w6 w4 := (oX.mono (bs' := fun x => (Value.slice da dl dc).ownBlock = some x) (fun _ _ g => g.elim)).trans hf.out.2 (fun _ _ g => g)
                have hq := rd_def (d := fm) HR6.out.1 o4 (fun x hx => by rw [← hdl]; exact hx) hf.out.1
                rw [← HB.out.2.1] at hq
                obtain ⟨q1, q2, q3, q4, q5⟩ := hq
                have hGR : ¬ R = G := by have := HB.out.1.lt; omega
                have oS : Only (fun x => x = G) w4 (w4.setCell ⟨G, k * 3 + 2, none⟩ (.slice a4 (dl + 1) c4)) := (Only.refl _ w4).setCell _ _ (fun _ => rfl)
                have q6 : w4.cell? ⟨R, 1, none⟩ = some (.int .i64 st) := by rw [blk_cells q3 1, HB.out.2.2.2.2.2.2]; rfl
                have q7 : w4.frozen? ⟨R, 1, none⟩ = false := blk_froz q3 1
                exact ⟨⟨by rw [q4, hdl], q5⟩, ⟨oS.cell q6 hGR, (oS.frozen (World.block_lt_of_cell? w4 _ q6) hGR).trans q7⟩, q1, HR6.out.2.trans q2 (fun _ _ g => g)⟩
              clear HV hnv hf1 hf2 y1 y2 y3 y4 v1 v2 v3 v4 v5 v6 v7 hGd hDs hRD hGD hR6 hGw oX hdl hBL HR6 HB
              go_wp2
              go_region_law (refine step_gr bk_lt el_rd rd_info Tryz.underlying64 (by decide) (by decide) (by rfl) _ _ (by rfl) (by rfl) (by rfl) HQ.out.1 HQ.out.2.1 HQ.out.2.2.1 HQ.out.2.2.2.1 HQ.out.2.2.2.2.1 HQ.out.2.2.2.2.2.1 HQ.out.2.2.2.2.2.2 ?_; intro a4 c4 w4 hf4; have hf5 := HEN.out a4 c4 w4 hf4; have y9 := hf5.1.1; have x9 := hf5.1.2)
              all_goals
                have HFN := hf5.2.2
                have z1 := hf5.2.1.1
                have z2 := hf5.2.1.2
                clear hf5 hf4 HEN HQ d1 d2 d3 d4 d5 x2 y9 x9
                go_wp2
                go_ret
                exact ⟨rfl, HFN.out⟩
        · have bE : (E != 0) = true := by rw [bne_iff_ne]; exact h0
          have hy := HY.out
          rw [if_neg h0] at hy
          obtain rfl : Y = none := hy
          clear h0 HV HY
          go_wp2
          go_ret
          exact ⟨rfl, HR6.out.2⟩
end Go.Proofs.YtfecmpebnianpaaGreatDoor
namespace Go.Proofs.YtfecmpebnianpaaGreatDoor
open Go.RowKit
set_option linter.unusedSimpArgs false
set_option linter.unusedVariables false
/-- how much a reading holds -/
def szX : DsX → Nat
  | (l, none) => l.length
  | (l, some (m, _)) => l.length + m.ds.length + 1
theorem lnX_sz {t : List UInt8} {σ σ' : DsX} (h : lnX t σ = some σ') : szX σ' ≤ szX σ + 1 := by
  obtain ⟨l, q⟩ := σ
  cases q with
  | none =>
    simp only [lnX] at h
    split at h
    · injection h with h
      subst h
      simp only [szX, List.length_append, List.length_cons, List.length_nil]; omega
    · cases h
  | some p =>
    obtain ⟨m, b⟩ := p
    cases b with
    | false =>
      simp only [lnX] at h
      split at h
      · injection h with h
        subst h
        simp only [szX, List.length_append, List.length_cons, List.length_nil]; omega
      · split at h
        · injection h with h
          subst h
          simp only [szX, List.length_append, List.length_cons, List.length_nil]; omega
        · split at h
          · cases h
          · injection h with h
            subst h
            simp only [szX, List.length_append, List.length_cons, List.length_nil]; omega
    | true =>
      simp only [lnX] at h
      split at h
      · injection h with h
        subst h
        simp only [szX, List.length_append, List.length_cons, List.length_nil]; omega
      · split at h
        · cases h
        · injection h with h
          subst h
          simp only [szX, List.length_append, List.length_cons, List.length_nil]; omega
theorem line_any (t : List UInt8) (ht : t.length ≤ 65536) {w : World} {R : Nat} {σ : DsX} (h : RdX w R σ) (hl : szX σ ≤ 65536) : Calls Tryz.prog 16 #[.pointer (some ⟨R, 0, none⟩), .string (bt t)] w (LnP R w (lnX t σ)) := by
  obtain ⟨l, q⟩ := σ
  cases q with
  | none => exact line_out t ht h hl
  | some p =>
    obtain ⟨m, b⟩ := p
    simp only [szX] at hl
    exact line_in t ht h (by omega) (by omega)
/-- what the document's Parse answers -/
def MqP (s : ByteArray) (w : World) (e : Ending) (w' : World) : Prop := ∃ ao cap, e = .returned (.tuple #[.slice ao (mpS s).1.length cap, .int .i64 ((mpS s).2.1 : Int), .int .i64 ((mpS s).2.2 : Int)]) ∧ Hid (GrAt Ltb 66 3 RmN w' w.heap.size (.slice ao (mpS s).1.length cap) (mpS s).1 ∧ Only (fun _ => False) w w')
theorem lb_cut (L : List UInt8) (f i : Nat) (hf : f ≤ i) (hi : i < L.length) : L.drop i = L[i] :: L.drop (i + 1) ∧ (L.drop f).take (i + 1 - f) = (L.drop f).take (i - f) ++ [L[i]] := by
  refine ⟨List.drop_eq_getElem_cons hi, ?_⟩
  rw [show i + 1 - f = (i - f) + 1 by omega, List.take_add_one, List.getElem?_drop, show f + (i - f) = i by omega, List.getElem?_eq_getElem hi]
  rfl
set_option maxRecDepth 100000 in
set_option maxHeartbeats 16000000 in
theorem rmparse_any (s : ByteArray) (w : World) : Calls Tryz.prog 8 #[.string s] w (MqP s w) := by
  by_cases hs : 65536 < s.size
  · have hm : mpS s = ([], 0, 11) := by unfold mpS; rw [if_pos hs]
    have i1 : (65536 : Int) < (s.size : Int) := by omega
    have O : Hid (Only (fun _ => False) w w) := Only.refl _ _
    unfold MqP
    rw [hm]
    clear hm hs
    go_enter Tryz.func8, Tryz.ntmps8
    go_wp2
    go_ret3
    exact ⟨none, 0, rfl, gr_nil _ _ _ _ _ _, O.out⟩
  · have hs2 : s.size ≤ 65536 := by omega
    have i1 : ¬ (65536 : Int) < (s.size : Int) := by omega
    obtain ⟨L, hL⟩ : ∃ L, L = s.data.toList := ⟨_, rfl⟩
    have hLs : L.length = s.size := by rw [hL]; exact Array.length_toList
    obtain ⟨Z, hZ⟩ : ∃ Z, Z = lbX L [] 0 ([], none) := ⟨_, rfl⟩
    have hm : mpS s = Z := by rw [hZ, hL, ← doc_text, if_neg hs]
    have HS : Hid (L = s.data.toList ∧ L.length = s.size ∧ s.size ≤ 65536) := ⟨hL, hLs, hs2⟩
    unfold MqP
    rw [hm]
    obtain ⟨Po, hPo⟩ : ∃ Po : Ending → World → Prop, Po = fun e w' => ∃ ao cap, e = .returned (.tuple #[.slice ao Z.1.length cap, .int .i64 (Z.2.1 : Int), .int .i64 (Z.2.2 : Int)]) ∧ Hid (GrAt Ltb 66 3 RmN w' w.heap.size (.slice ao Z.1.length cap) Z.1 ∧ Only (fun _ => False) w w') := ⟨_, rfl⟩
    have HPE : Hid (∀ k w1, Z = ([], k, 9) → Only (fun _ => False) w w1 → Po (.returned (.tuple #[.slice none 0 0, .int .i64 (k : Int), .int .i64 9])) w1) := fun k w1 h o => by
      rw [hPo, h]
      exact ⟨none, 0, rfl, gr_nil _ _ _ _ _ _, o⟩
    have HPO : Hid (∀ l v w1, Z = (l, 0, 0) → GrAt Ltb 66 3 RmN w1 w.heap.size v l → Only (fun _ => False) w w1 → Po (.returned (.tuple #[v, .int .i64 0, .int .i64 0])) w1) := fun l v w1 h g o => by
      obtain ⟨ao, cap, rfl⟩ := g.form
      rw [hPo, h]
      exact ⟨ao, cap, rfl, g, o⟩
    show Calls _ _ _ _ (fun e w' => ∃ ao cap, e = .returned (.tuple #[.slice ao Z.1.length cap, .int .i64 (Z.2.1 : Int), .int .i64 (Z.2.2 : Int)]) ∧ Hid (GrAt Ltb 66 3 RmN w' w.heap.size (.slice ao Z.1.length cap) Z.1 ∧ Only (fun _ => False) w w'))
    rw [← hPo]
    have HZ : Hid (Z = lbX (L.drop 0) ((L.drop 0).take (0 - 0)) 0 ([], none)) := by show _ = _; rw [hZ, List.drop_zero, Nat.sub_self, List.take_zero]
    obtain ⟨R, hR⟩ : ∃ R, R = w.heap.size := ⟨_, rfl⟩
    obtain ⟨w0, hw0⟩ : ∃ w0, w0 = w.alloc (.cells #[.slice none 0 0, .int .i64 0] 63) := ⟨_, rfl⟩
    have HR0 : Hid (RdX w0 R ([], none) ∧ Only (fun _ => False) w w0 ∧ R = w.heap.size) := by
      refine ⟨⟨.slice none 0 0, by rw [hw0]; exact alloc_at _ _ _ hR, gr_nil _ _ _ _ _ _⟩, by rw [hw0]; exact (Only.refl _ w).alloc _, hR⟩
    clear hs hs2 hL hLs hZ hm hPo
    go_enter Tryz.func8, Tryz.ntmps8
    go_wp2
    rw [← hR, ← hw0]
    clear hR hw0
    go_loopw [6, 7, 8] (fun r6 r7 r8 wr => ∃ (n f i : Nat), r6 = .int .i64 (n : Int) ∧ r7 = .int .i64 (f : Int) ∧ r8 = .int .i64 (i : Int) ∧ i ≤ s.size ∧ Hid (∃ σ, RdX wr R σ ∧ Only (fun _ => False) w wr ∧ f ≤ i ∧ n ≤ i ∧ szX σ ≤ n ∧ Z = lbX (L.drop i) ((L.drop f).take (i - f)) n σ)) (fun _ _ r8 _ => s.size - mnU r8)
    case atStart => exact ⟨0, 0, 0, rfl, rfl, rfl, Nat.zero_le _, ([], none), HR0.out.1, HR0.out.2.1, Nat.le_refl _, Nat.le_refl _, Nat.le_refl _, HZ.out⟩
    case round =>
      obtain ⟨n, f, i, rfl, rfl, rfl, hi, HI⟩ := hrel
      obtain ⟨w1, hw1⟩ : ∃ w1, w1 = wr := ⟨_, rfl⟩
      rw [← hw1] at HI ⊢
      clear hw1
      obtain ⟨σ, hσ, oσ, hfi, hni, hsz, hZ⟩ := HI.out
      have hRw := HR0.out.2.2
      by_cases his : i < s.size
      · have hiL : i < L.length := by rw [HS.out.2.1]; exact his
        obtain ⟨hd, htk⟩ := lb_cut L f i hfi hiL
        have hLi : L[i] = s[i]'his := by
          have h1 := HS.out.1
          subst h1
          rfl
        rw [hLi] at hd htk
        have i5 : (i : Int) < (s.size : Int) := by omega
        have i6 : (0 : Int) ≤ (i : Int) := by omega
        have i7 : i ≤ 65536 := by have := HS.out.2.2; omega
        have i8 : n ≤ 65536 := by omega
        have hb : (((s[i]'his).toNat : Int) != 10) = false ↔ s[i]'his = 10 := by
          rw [bne_eq_false_iff_eq]
          constructor
          · intro g
            have g2 : (s[i]'his).toNat = 10 := by omega
            exact UInt8.toNat_inj.1 (by rw [g2]; rfl)
          · intro g
            rw [g]
            rfl
        have HIS : Hid (i < s.size) := his
        by_cases hc : s[i]'his = 10
        · have b1 := hb.2 hc
          rw [hd, hc] at hZ
          simp only [lbX, if_true] at hZ
          by_cases hfl : f < i
          · obtain ⟨a, ha⟩ : ∃ a, a = (L.drop f).take (i - f) := ⟨_, rfl⟩
            rw [← ha] at hZ
            have hal : a.length = i - f := by rw [ha, List.length_take, List.length_drop]; omega
            have hane : ¬ a = [] := by intro e; rw [e] at hal; simp at hal; omega
            rw [if_neg hane] at hZ
            have hex : s.extract f i = bt a := by
              rw [← bt_self (s.extract f i)]
              congr 1
              simp only [ByteArray.data_extract, Array.toList_extract, List.extract_eq_take_drop]
              rw [ha, HS.out.1]
            have hsl : ∀ W : World, (Instr.slice 9 (.string s) (some (.int .i64 (f : Int))) (some (.int .i64 (i : Int))) none).run Tryz.prog W = .ok (.string (bt a)) W := fun W => by
              rw [run_slice_string W 9 s _ _ _ _ Tryz.underlying9 (by omega) (by omega) (by omega)]
              rw [← hex]
              simp
            have HLN : Hid _ := line_any a (by omega) hσ (by omega)
            obtain ⟨o, ho⟩ : ∃ o, o = lnX a σ := ⟨_, rfl⟩
            have hosz : ∀ σ', o = some σ' → szX σ' ≤ szX σ + 1 := fun σ' e => lnX_sz (by rw [← ho]; exact e)
            rw [← ho] at HLN hZ
            have i9 : (f : Int) < (i : Int) := by omega
            have HK : Hid (Only (fun _ => False) w w1 ∧ R = w.heap.size ∧ n ≤ i ∧ szX σ ≤ n ∧ (∀ σ', o = some σ' → szX σ' ≤ szX σ + 1)) := ⟨oσ, hRw, hni, hsz, hosz⟩
            obtain ⟨ba, hba⟩ : ∃ ba, ba = bt a := ⟨_, rfl⟩
            rw [← hba] at hsl HLN
            have HZ2 : Hid _ := hZ
            clear hd htk hLi hb hc hfl hal hane hex ho hosz hba ha hZ HI hσ oσ hfi hni hsz hi hRw HZ HR0 hiL
            go_wp2_with fail
            refine (show Calls Tryz.prog 16 _ _ _ from HLN.out).mono ?_
            intro e w2 g2
            cases o with
            | none =>
              obtain ⟨rfl, g2⟩ := g2
              have HF := HPE.out (n + 1) w2 HZ2.out (HK.out.1.trans g2.out (fun x hx e => by have := HK.out.2.1; omega))
              have HFF : Hid _ := HF
              clear HF HPE HPO HLN HK HZ2 g2
              go_wp2
              go_ret3
              first | exact HFF.out | simpa using HFF.out
            | some σ' =>
              obtain ⟨rfl, g2⟩ := g2
              have HF : Hid (RdX w2 R σ' ∧ Only (fun _ => False) w w2 ∧ szX σ' ≤ n + 1 ∧ n ≤ i ∧ Z = lbX (L.drop (i + 1)) ((L.drop (i + 1)).take (i + 1 - (i + 1))) (n + 1) σ') := ⟨g2.out.1, HK.out.1.trans g2.out.2 (fun x hx e => by have := HK.out.2.1; omega), by have := HK.out.2.2.2.2 σ' rfl; have := HK.out.2.2.2.1; omega, HK.out.2.2.1, by rw [HZ2.out]; simp⟩
              clear HLN HK HZ2 g2
              go_wp2
              go_roundw
              case rel => exact ⟨n + 1, i + 1, i + 1, by go_num, by go_num, by go_num, HIS.out, σ', HF.out.1, HF.out.2.1, Nat.le_refl _, by have := HF.out.2.2.2.1; omega, HF.out.2.2.1, HF.out.2.2.2.2⟩
              case measure => simp only [mnU]; have := HIS.out; omega
          · have hfe : f = i := by omega
            subst hfe
            rw [show f - f = 0 by omega, List.take_zero, if_pos rfl] at hZ
            have i9 : ¬ (f : Int) < (f : Int) := by omega
            have HF : Hid (RdX w1 R σ ∧ Only (fun _ => False) w w1 ∧ szX σ ≤ n + 1 ∧ n ≤ f ∧ Z = lbX (L.drop (f + 1)) ((L.drop (f + 1)).take (f + 1 - (f + 1))) (n + 1) σ) := ⟨hσ, oσ, by omega, hni, by rw [hZ]; simp⟩
            clear hd htk hLi hb hc hfl hZ HI hσ oσ hfi hni hsz hi hRw HZ HR0 hiL
            go_wp2
            go_roundw
            case rel => exact ⟨n + 1, f + 1, f + 1, by go_num, by go_num, by go_num, HIS.out, σ, HF.out.1, HF.out.2.1, Nat.le_refl _, by have := HF.out.2.2.2.1; omega, HF.out.2.2.1, HF.out.2.2.2.2⟩
            case measure => simp only [mnU]; have := HIS.out; omega
        · have b1 : (((s[i]'his).toNat : Int) != 10) = true := by
            cases h : (((s[i]'his).toNat : Int) != 10) with
            | false => exact absurd (hb.1 h) hc
            | true => rfl
          rw [hd] at hZ
          simp only [lbX, if_neg hc] at hZ
          rw [← htk] at hZ
          have HF : Hid (RdX w1 R σ ∧ Only (fun _ => False) w w1 ∧ szX σ ≤ n ∧ n ≤ i ∧ f ≤ i ∧ Z = lbX (L.drop (i + 1)) ((L.drop f).take (i + 1 - f)) n σ) := ⟨hσ, oσ, hsz, hni, hfi, hZ⟩
          clear hd htk hLi hb hc hZ HI hσ oσ hfi hni hsz hi hRw HZ HR0 hiL
          go_wp2
          go_roundw
          case rel => exact ⟨n, f, i + 1, rfl, rfl, by go_num, HIS.out, σ, HF.out.1, HF.out.2.1, by have := HF.out.2.2.2.2.1; omega, by have := HF.out.2.2.2.1; omega, HF.out.2.2.1, HF.out.2.2.2.2.2⟩
          case measure => simp only [mnU]; have := HIS.out; omega
      · have hie : i = s.size := by omega
        have i5 : ¬ (i : Int) < (s.size : Int) := by omega
        have i8 : n ≤ 65536 := by have := HS.out.2.2; omega
        have hfl : (L.drop f).take (i - f) = [] ↔ s.size ≤ f := by
          rw [← List.length_eq_zero_iff, List.length_take, List.length_drop, HS.out.2.1]
          omega
        rw [List.drop_of_length_le (by rw [HS.out.2.1]; omega)] at hZ
        have hbad : ∀ k, Z = ([], k, 9) → Only (fun _ => False) w w1 → Po (.returned (.tuple #[.slice none 0 0, .int .i64 (k : Int), .int .i64 9])) w1 := fun k => HPE.out k w1
        by_cases hf2 : f < s.size
        · have i9 : (f : Int) < (s.size : Int) := by omega
          have hz : Z = ([], n + 1, 9) := by
            rw [hZ]
            obtain ⟨l, q⟩ := σ
            cases q with
            | none =>
              simp only [lbX]
              rw [if_neg (by rw [hfl]; omega)]
            | some p => rfl
          have HF : Hid _ := hbad (n + 1) hz oσ
          clear hZ hz hfl hbad HI hσ oσ hfi hni hsz hi hRw HZ HR0 his hie HPE HPO hf2
          go_wp2
          go_ret3
          first | exact HF.out | simpa using HF.out
        · have i9 : ¬ (f : Int) < (s.size : Int) := by omega
          obtain ⟨l, q⟩ := σ
          cases q with
          | some p =>
            obtain ⟨m, b⟩ := p
            have hz : Z = ([], n + 1, 9) := by rw [hZ]; rfl
            obtain ⟨g, c, D, uv, dv, hx⟩ := hσ
            obtain ⟨_, _, _, _, _, c0, c1⟩ := hx.cells
            obtain ⟨st, hst⟩ : ∃ st : Int, st = if b then 2 else 1 := ⟨_, rfl⟩
            rw [← hst] at c1
            have i10 : (0 : Int) < st := by rw [hst]; cases b <;> decide
            have HF : Hid _ := hbad (n + 1) hz oσ
            clear hZ hz hfl hbad HI hx oσ hfi hni hsz hi hRw HZ HR0 his hie HPE HPO hf2 hst c0
            go_wp2
            go_ret3
            first | exact HF.out | simpa using HF.out
          | none =>
            obtain ⟨v, hRv, hG⟩ := hσ
            obtain ⟨ao, cap, rfl⟩ := hG.form
            have hz : Z = (l, 0, 0) := by
              rw [hZ]
              simp only [lbX]
              rw [if_pos (by rw [hfl]; omega)]
            obtain ⟨K, hK⟩ : ∃ K, K = l.length := ⟨_, rfl⟩
            rw [← hK] at hRv hG
            have c0 : w1.cell? ⟨R, 0, none⟩ = some (.slice ao K cap) := blk_cells hRv 0
            have c1 : w1.cell? ⟨R, 1, none⟩ = some (.int .i64 0) := blk_cells hRv 1
            have HF : Hid _ := HPO.out l _ w1 hz (hG.lower (C := w.heap.size) (by omega)) oσ
            clear hZ hz hfl hbad HI hRv hG oσ hfi hni hsz hi hRw HZ HR0 his hie HPE HPO hf2 hK
            go_wp2
            go_ret3
            first | exact HF.out | simpa using HF.out
end Go.Proofs.YtfecmpebnianpaaGreatDoor
namespace Go.Proofs.YtfecmpebnianpaaGreatDoor
open Go.RowKit
set_option linter.unusedSimpArgs false
set_option linter.unusedVariables false
set_option maxRecDepth 100000 in
set_option maxHeartbeats 8000000 in
theorem samemf_any {w : World} {S S' : Nat → Prop} {ms : List Mf} {va vb : Value} (h1 : GvAt 3 RmP w S va ms) (h2 : GvAt 3 RmP w S' vb ms) (hl : ms.length ≤ 1000000) (hw : ∀ m ∈ ms, m.us.length ≤ 1000000 ∧ m.ds.length ≤ 1000000 ∧ ∀ fm ∈ m.ds, ∃ e, WfT e (bdT fm)) : Calls Tryz.prog 9 #[va, vb] w fun e w' => e = .returned (.bool true) ∧ Only (fun _ => False) w w' := by
  obtain ⟨aa, ca, rfl⟩ := h1.form
  obtain ⟨ab, cb, rfl⟩ := h2.form
  have HE : Hid (∀ w1, Only (fun _ => False) w w1 → ∀ (j : Nat) (m : Mf), ms[j]? = some m → ∃ g ua un uc da dc g' ub ud db dd, aa = some ⟨g, 0, none⟩ ∧ ab = some ⟨g', 0, none⟩ ∧ w1.cell? ⟨g, j * 3, none⟩ = some (.string m.nm) ∧ w1.cell? ⟨g, j * 3 + 1, none⟩ = some (.slice ua un uc) ∧ w1.cell? ⟨g, j * 3 + 2, none⟩ = some (.slice da m.ds.length dc) ∧ w1.cell? ⟨g', j * 3, none⟩ = some (.string m.nm) ∧ w1.cell? ⟨g', j * 3 + 1, none⟩ = some (.slice ub un ud) ∧ w1.cell? ⟨g', j * 3 + 2, none⟩ = some (.slice db m.ds.length dd) ∧ (∀ w2, Only (fun _ => False) w1 w2 → Calls Tryz.prog 17 #[.slice ua un uc, .slice ub un ud] w2 fun e w' => e = .returned (.bool true) ∧ Only (fun _ => False) w2 w') ∧ GvAt 4 RdP2 w1 S (.slice da m.ds.length dc) m.ds ∧ GvAt 4 RdP2 w1 S' (.slice db m.ds.length dd) m.ds) := fun w1 o1 j m hx => by
    obtain ⟨ao', cap', hv, _, hel⟩ := GvAt.only el_rm h1 o1 (fun _ _ e => e)
    simp only [Value.slice.injEq] at hv
    obtain ⟨rfl, _, rfl⟩ := hv
    obtain ⟨ao2, cap2, hv2, _, hel2⟩ := GvAt.only el_rm h2 o1 (fun _ _ e => e)
    simp only [Value.slice.injEq] at hv2
    obtain ⟨rfl, _, rfl⟩ := hv2
    obtain ⟨g, cs, e1, _, e2, uv, dv, rfl, e3, e4⟩ := hel j m hx
    obtain ⟨g', cs', f1, _, f2, uv', dv', rfl, f3, f4⟩ := hel2 j m hx
    obtain ⟨a1, c1, rfl⟩ := e3.form
    obtain ⟨a2, c2, rfl⟩ := e4.form
    obtain ⟨b1, d1, rfl⟩ := f3.form
    obtain ⟨b2, d2, rfl⟩ := f4.form
    have hml := (hw m (List.mem_of_getElem? hx)).1
    exact ⟨g, a1, _, c1, a2, c2, g', b1, d1, b2, d2, e1, f1, e2 0 _ rfl, e2 1 _ rfl, e2 2 _ rfl, f2 0 _ rfl, f2 1 _ rfl, f2 2 _ rfl, fun w2 o2 => sametexts_any (e3.step (fun _ g => g) (fun a u _ hc => o2.cell hc (fun g => g))) (f3.step (fun _ g => g) (fun a u _ hc => o2.cell hc (fun g => g))) hml, e4, f4⟩
  obtain ⟨L, hL⟩ : ∃ L, L = ms.length := ⟨_, rfl⟩
  have HLL : Hid (L = ms.length ∧ L ≤ 1000000) := ⟨hL, by omega⟩
  have HW : Hid (∀ m ∈ ms, m.us.length ≤ 1000000 ∧ m.ds.length ≤ 1000000 ∧ ∀ fm ∈ m.ds, ∃ e, WfT e (bdT fm)) := hw
  rw [← hL]
  clear h1 h2 hl hw hL
  go_enter Tryz.func9, Tryz.ntmps9
  go_wp2
  go_loopw [5] (fun r5 wr => ∃ i : Nat, r5 = .int .i64 (i : Int) ∧ i ≤ L ∧ Hid (Only (fun _ => False) w wr)) (fun r5 _ => L - uOf r5)
  case atStart => exact ⟨0, rfl, Nat.zero_le _, Only.refl _ _⟩
  case round =>
    obtain ⟨i, rfl, hi, HI⟩ := hrel
    obtain ⟨w1, hw1⟩ : ∃ w1, w1 = wr := ⟨_, rfl⟩
    rw [← hw1] at HI ⊢
    clear hw1
    have hNl := HLL.out
    by_cases hiN : i < L
    · obtain ⟨m, hx⟩ : ∃ x, ms[i]? = some x := ⟨ms[i]'(by omega), List.getElem?_eq_getElem (by omega)⟩
      obtain ⟨g, ua, un, uc, da, dc, g', ub, ud, db, dd, rfl, rfl, c0, c1, c2, d0, d1, d2, hct, hg1, hg2⟩ := HE.out w1 HI.out i m hx
      have i1 : (i : Int) < (L : Int) := by omega
      have i0 : (0 : Int) ≤ (i : Int) := by omega
      have hi4 : i ≤ 1000000 := by omega
      have HB : Hid (i < L) := hiN
      obtain ⟨DL, hDL⟩ : ∃ DL, DL = m.ds.length := ⟨_, rfl⟩
      have HDL : Hid (DL = m.ds.length ∧ m.ds.length ≤ 1000000 ∧ (∀ fm ∈ m.ds, ∃ e, WfT e (bdT fm)) ∧ GvAt 4 RdP2 w1 S (.slice da m.ds.length dc) m.ds ∧ GvAt 4 RdP2 w1 S' (.slice db m.ds.length dd) m.ds) := ⟨hDL, (HW.out m (List.mem_of_getElem? hx)).2.1, (HW.out m (List.mem_of_getElem? hx)).2.2, hg1, hg2⟩
      rw [← hDL] at c2 d2
      obtain ⟨nm, hnm⟩ : ∃ nm, nm = m.nm := ⟨_, rfl⟩
      rw [← hnm] at c0 d0
      have HS : Hid (∀ w', Only (fun _ => False) w1 w' → w'.cell? ⟨g, i * 3, none⟩ = some (.string nm) ∧ w'.cell? ⟨g, i * 3 + 1, none⟩ = some (.slice ua un uc) ∧ w'.cell? ⟨g, i * 3 + 2, none⟩ = some (.slice da DL dc) ∧ w'.cell? ⟨g', i * 3, none⟩ = some (.string nm) ∧ w'.cell? ⟨g', i * 3 + 1, none⟩ = some (.slice ub un ud) ∧ w'.cell? ⟨g', i * 3 + 2, none⟩ = some (.slice db DL dd)) := fun w' o => ⟨o.cell c0 (fun g => g), o.cell c1 (fun g => g), o.cell c2 (fun g => g), o.cell d0 (fun g => g), o.cell d1 (fun g => g), o.cell d2 (fun g => g)⟩
      have HCT : Hid _ := hct
      have OR : Hid (Only (fun _ => False) w1 w1) := Only.refl _ _
      clear hNl hiN hx HE hi hct hg1 hg2 hDL hnm
      have HR1 : Hid (Only (fun _ => False) w w1) := HI.out
      go_wp2_with fail
      go_region_held3 (fun w' => w'.cell? ⟨g, i * 3, none⟩ = some (.string nm) ∧ w'.cell? ⟨g, i * 3 + 1, none⟩ = some (.slice ua un uc) ∧ w'.cell? ⟨g, i * 3 + 2, none⟩ = some (.slice da DL dc) ∧ w'.cell? ⟨g', i * 3, none⟩ = some (.string nm) ∧ w'.cell? ⟨g', i * 3 + 1, none⟩ = some (.slice ub un ud) ∧ w'.cell? ⟨g', i * 3 + 2, none⟩ = some (.slice db DL dd)) (first | with_reducible exact HS.out _ OR.out.drew | with_reducible exact HS.out _ O2.out) (first | (go_at_call 17; refine (show Calls Tryz.prog 17 _ _ _ from HCT.out _ OR.out.drew).mono ?_; rintro ex w2 ⟨rfl, o2⟩; have O2 : Hid (Only (fun _ => False) w1 w2) := OR.out.drew.trans o2 (fun _ _ g => g)))
      clear o2 HCT OR HI c0 c1 c2 d0 d1 d2
      go_wp2
      go_loopw [6] (fun r6 wr => ∃ k : Nat, r6 = .int .i64 (k : Int) ∧ k ≤ DL ∧ Hid (Only (fun _ => False) w1 wr)) (fun r6 _ => DL - uOf r6)
      case atStart => exact ⟨0, rfl, Nat.zero_le _, O2.out⟩
      case round =>
        obtain ⟨k, rfl, hk, HJ⟩ := hrel
        obtain ⟨v1, hv1⟩ : ∃ v1, v1 = wr := ⟨_, rfl⟩
        rw [← hv1] at HJ ⊢
        clear hv1 O2
        obtain ⟨c0, c1, c2, d0, d1, d2⟩ := HS.out _ HJ.out
        obtain ⟨hdl, hdb, hwf, hg1, hg2⟩ := HDL.out
        by_cases hkD : k < DL
        · obtain ⟨fm, hfx⟩ : ∃ x, m.ds[k]? = some x := ⟨m.ds[k]'(by omega), List.getElem?_eq_getElem (by omega)⟩
          obtain ⟨da', dc', hdv, _, hel⟩ := GvAt.only el_rd hg1 HJ.out (fun _ _ e => e)
          simp only [Value.slice.injEq] at hdv
          obtain ⟨rfl, _, rfl⟩ := hdv
          obtain ⟨gd, cs, rfl, _, hcs, bo, bc, rfl, hsq⟩ := hel k fm hfx
          obtain ⟨db', dd', hdv2, _, hel2⟩ := GvAt.only el_rd hg2 HJ.out (fun _ _ e => e)
          simp only [Value.slice.injEq] at hdv2
          obtain ⟨rfl, _, rfl⟩ := hdv2
          obtain ⟨gf, cs2, rfl, _, hcs2, bp, bq, rfl, hsq2⟩ := hel2 k fm hfx
          have HSD : Hid (∀ X, Only (fun _ => False) v1 X → Calls Tryz.prog 18 #[.agg #[.string fm.nm, .int .i64 (fm.i : Int), .int .i64 (fm.j : Int), .slice bo fm.b.length bc], .agg #[.string fm.nm, .int .i64 (fm.i : Int), .int .i64 (fm.j : Int), .slice bp fm.b.length bq]] X fun e w' => e = .returned (.bool true) ∧ Only (fun _ => False) X w') := fun X oX => samedef_walk _ _ _ bo bp _ bc bq X fun w3 o3 => by
            have oo := oX.trans o3 (fun _ _ g => g)
            exact (sameT_any 12401).1 (bdT fm) _ _ w3 S S' (hsq.step (fun _ g => g) (fun a u _ hc => oo.cell hc (fun g => g)) (Nat.le_refl _)) (hsq2.step (fun _ g => g) (fun a u _ hc => oo.cell hc (fun g => g)) (Nat.le_refl _)) (hwf fm (List.mem_of_getElem? hfx))
          have e0 : v1.cell? ⟨gd, k * 4, none⟩ = some (.string fm.nm) := hcs 0 _ rfl
          have e1 : v1.cell? ⟨gd, k * 4 + 1, none⟩ = some (.int .i64 (fm.i : Int)) := hcs 1 _ rfl
          have e2 : v1.cell? ⟨gd, k * 4 + 2, none⟩ = some (.int .i64 (fm.j : Int)) := hcs 2 _ rfl
          have e3 : v1.cell? ⟨gd, k * 4 + 3, none⟩ = some (.slice bo fm.b.length bc) := hcs 3 _ rfl
          have f0 : v1.cell? ⟨gf, k * 4, none⟩ = some (.string fm.nm) := hcs2 0 _ rfl
          have f1 : v1.cell? ⟨gf, k * 4 + 1, none⟩ = some (.int .i64 (fm.i : Int)) := hcs2 1 _ rfl
          have f2 : v1.cell? ⟨gf, k * 4 + 2, none⟩ = some (.int .i64 (fm.j : Int)) := hcs2 2 _ rfl
          have f3 : v1.cell? ⟨gf, k * 4 + 3, none⟩ = some (.slice bp fm.b.length bq) := hcs2 3 _ rfl
          obtain ⟨BL, hBL⟩ : ∃ BL, BL = fm.b.length := ⟨_, rfl⟩
          rw [← hBL] at e3 f3 HSD
          obtain ⟨fn, hfn⟩ : ∃ fn, fn = fm.nm := ⟨_, rfl⟩
          obtain ⟨fi, hfi⟩ : ∃ fi : Int, fi = fm.i := ⟨_, rfl⟩
          obtain ⟨fj, hfj⟩ : ∃ fj : Int, fj = fm.j := ⟨_, rfl⟩
          rw [← hfn, ← hfi, ← hfj] at HSD
          rw [← hfn] at e0 f0
          rw [← hfi] at e1 f1
          rw [← hfj] at e2 f2
          have HT : Hid (∀ w', Only (fun _ => False) v1 w' → w'.cell? ⟨g, i * 3 + 2, none⟩ = some (.slice (some ⟨gd, 0, none⟩) DL dc) ∧ w'.cell? ⟨g', i * 3 + 2, none⟩ = some (.slice (some ⟨gf, 0, none⟩) DL dd) ∧ w'.cell? ⟨gd, k * 4, none⟩ = some (.string fn) ∧ w'.cell? ⟨gd, k * 4 + 1, none⟩ = some (.int .i64 fi) ∧ w'.cell? ⟨gd, k * 4 + 2, none⟩ = some (.int .i64 fj) ∧ w'.cell? ⟨gd, k * 4 + 3, none⟩ = some (.slice bo BL bc) ∧ w'.cell? ⟨gf, k * 4, none⟩ = some (.string fn) ∧ w'.cell? ⟨gf, k * 4 + 1, none⟩ = some (.int .i64 fi) ∧ w'.cell? ⟨gf, k * 4 + 2, none⟩ = some (.int .i64 fj) ∧ w'.cell? ⟨gf, k * 4 + 3, none⟩ = some (.slice bp BL bq)) := fun w' o => ⟨o.cell c2 (fun g => g), o.cell d2 (fun g => g), o.cell e0 (fun g => g), o.cell e1 (fun g => g), o.cell e2 (fun g => g), o.cell e3 (fun g => g), o.cell f0 (fun g => g), o.cell f1 (fun g => g), o.cell f2 (fun g => g), o.cell f3 (fun g => g)⟩
          have OT : Hid (Only (fun _ => False) v1 v1) := Only.refl _ _
          have HKD : Hid (k < DL) := hkD
          have i5 : (k : Int) < (DL : Int) := by omega
          have i6 : (0 : Int) ≤ (k : Int) := by omega
          have i7 : k ≤ 1000000 := by omega
          clear hdl hdb hwf hg1 hg2 hk hkD hfx hcs hsq hcs2 hsq2 hel hel2 hBL hfn hfi hfj HS HDL
          go_wp2_with fail
          go_region_held3 (fun w' => w'.cell? ⟨g, i * 3 + 2, none⟩ = some (.slice (some ⟨gd, 0, none⟩) DL dc) ∧ w'.cell? ⟨g', i * 3 + 2, none⟩ = some (.slice (some ⟨gf, 0, none⟩) DL dd) ∧ w'.cell? ⟨gd, k * 4, none⟩ = some (.string fn) ∧ w'.cell? ⟨gd, k * 4 + 1, none⟩ = some (.int .i64 fi) ∧ w'.cell? ⟨gd, k * 4 + 2, none⟩ = some (.int .i64 fj) ∧ w'.cell? ⟨gd, k * 4 + 3, none⟩ = some (.slice bo BL bc) ∧ w'.cell? ⟨gf, k * 4, none⟩ = some (.string fn) ∧ w'.cell? ⟨gf, k * 4 + 1, none⟩ = some (.int .i64 fi) ∧ w'.cell? ⟨gf, k * 4 + 2, none⟩ = some (.int .i64 fj) ∧ w'.cell? ⟨gf, k * 4 + 3, none⟩ = some (.slice bp BL bq)) (first | with_reducible exact HT.out _ OT.out.drew | with_reducible exact HT.out _ O3.out) (first | (go_at_call 18; refine (show Calls Tryz.prog 18 _ _ _ from HSD.out _ OT.out.drew).mono ?_; rintro ex w3 ⟨rfl, o3⟩; have O3 : Hid (Only (fun _ => False) v1 w3) := OT.out.drew.trans o3 (fun _ _ g => g)))
          have HK : Hid (Only (fun _ => False) w1 w3) := HJ.out.trans O3.out (fun _ _ g => g)
          clear HJ O3 OT HT HSD o3 c0 c1 c2 d0 d1 d2 e0 e1 e2 e3 f0 f1 f2 f3
          go_wp2
          go_roundw
          case rel => exact ⟨k + 1, by go_num, by have := HKD.out; omega, HK⟩
          case measure => simp only [uOf]; have := HKD.out; omega
        · obtain rfl : k = DL := by omega
          have i5 : ¬ (k : Int) < (k : Int) := by omega
          have HK : Hid (Only (fun _ => False) w v1) := HR1.out.trans HJ.out (fun _ _ g => g)
          clear hdl hdb hwf hg1 hg2 hk hkD HS HDL HJ HR1
          go_wp2
          go_roundw
          case rel => exact ⟨i + 1, by go_num, by have := HB.out; omega, HK⟩
          case measure => simp only [uOf]; have := HB.out; omega
    · obtain rfl : i = L := by omega
      have i1 : ¬ (i : Int) < (i : Int) := by omega
      clear HE HW hNl hi hiN
      go_wp2
      go_ret
      exact ⟨rfl, HI.out⟩
end Go.Proofs.YtfecmpebnianpaaGreatDoor
namespace Go.Proofs.YtfecmpebnianpaaGreatDoor
open Go.RowKit
set_option linter.unusedSimpArgs false
set_option linter.unusedVariables false
/-- what is read is not great, and its definitions are sound -/
def MfW (m : Mf) : Prop := m.us.length ≤ 1000000 ∧ m.ds.length ≤ 1000000 ∧ ∀ fm ∈ m.ds, Wff fm
theorem mpD_wf {z : Nat} : ∀ (q : List (Nat × List UInt8)) (acc ds : List Fm) (q' : List (Nat × List UInt8)), (∀ fm ∈ acc, Wff fm) → mpD z q acc = .ok (ds, q') → ∀ fm ∈ ds, Wff fm
  | [], _, _, _, _, h => by cases h
  | (n, t) :: q, acc, ds, q', ha, h => by
    unfold mpD at h
    split at h
    · simp only [Except.ok.injEq, Prod.mk.injEq] at h
      obtain ⟨rfl, _⟩ := h
      exact ha
    · cases hd : defO (bt t) with
      | none => rw [hd] at h; cases h
      | some d =>
        rw [hd] at h
        refine mpD_wf q _ _ _ (fun fm hf => ?_) h
        rcases List.mem_append.1 hf with g | g
        · exact ha fm g
        · rw [List.mem_singleton.1 g]
          exact defO_wf hd
theorem nmO_len {T p : ByteArray} {us : List ByteArray} (h : nmO T p = some us) : us.length ≤ T.size + 1 := by
  unfold nmO at h
  split at h
  · split at h
    · simp only [Option.some.injEq] at h
      subst h
      rw [pcs_len]
      have h2 : Lib.countB (T.extract p.size T.size) ⟨#[32]⟩ ≤ (T.extract p.size T.size).size := Lib.countB_le ⟨#[32]⟩ (by decide) _ _ (Nat.le_refl _)
      rw [ByteArray.size_extract] at h2
      omega
    · cases h
  · cases h
theorem mpR_wf {z n : Nat} {t : List UInt8} {q : List (Nat × List UInt8)} {m : Mf} {q' : List (Nat × List UInt8)} (hq : q.length ≤ 65536) (ht : ∀ x ∈ q, x.2.length ≤ 65536) (h : mpR z n t q = .ok (m, q')) : MfW m := by
  have hln := (mpR_len h).2
  unfold mpR at h
  split at h
  · obtain ⟨rfl, h2⟩ := mkM_ok h
    unfold mpU at h2
    split at h2
    · cases h2
    · rename_i k u q1
      split at h2
      · rename_i us hu
        obtain ⟨e1, h3⟩ := mkU_ok h2
        refine ⟨?_, by omega, mpD_wf _ _ _ _ (fun _ g => by simp at g) h3⟩
        rw [e1]
        have := nmO_len hu
        rw [bt_size] at this
        have := ht (k, u) (List.mem_cons_self ..)
        simp only at this
        omega
      · obtain ⟨e1, h3⟩ := mkU_ok h2
        refine ⟨?_, by omega, mpD_wf _ _ _ _ (fun _ g => by simp at g) h3⟩
        rw [e1]
        simp
  · cases h
theorem mpA_wf {z : Nat} {b : Bool} : ∀ (f : Nat) (q : List (Nat × List UInt8)) (l : List Mf), q.length ≤ 65536 → (∀ x ∈ q, x.2.length ≤ 65536) → mpA z b f q = .ok l → l.length ≤ q.length ∧ ∀ m ∈ l, MfW m
  | f, [], l, _, _, h => by
    rw [mpA_nil] at h
    cases b
    · cases h
    · simp only [if_true, Except.ok.injEq] at h
      subst h
      simp
  | 0, _ :: _, l, _, _, h => by cases h
  | f + 1, (n, t) :: q, l, hq, ht, h => by
    simp only [mpA] at h
    cases hr : mpR z n t q with
    | error k => rw [hr] at h; cases h
    | ok p =>
      obtain ⟨m, q'⟩ := p
      rw [hr] at h
      simp only [List.length_cons] at hq
      have hln := (mpR_len hr).1
      obtain ⟨l', rfl, hX⟩ := consM_ok h
      have := mpA_wf f q' l' (by omega) (fun x hx => ht x (List.mem_cons_of_mem _ (mpR_sub hr x hx))) hX
      refine ⟨by simp only [List.length_cons]; omega, fun m' hm => ?_⟩
      rcases List.mem_cons.1 hm with rfl | hm
      · exact mpR_wf (by omega) (fun x hx => ht x (List.mem_cons_of_mem _ hx)) hr
      · exact this.2 m' hm
theorem mpS_wf (s : ByteArray) : (mpS s).1.length ≤ 65536 ∧ ∀ m ∈ (mpS s).1, MfW m := by
  unfold mpS
  split
  · simp
  · have h1 := linS_cnt s.data.toList [] 0
    have h2 := linS_len s.data.toList [] 0
    have h3 : s.data.toList.length = s.size := Array.length_toList
    cases hA : mpA (linS s.data.toList [] 0).2.1 (linS s.data.toList [] 0).2.2 (linS s.data.toList [] 0).1.length (linS s.data.toList [] 0).1 with
    | error k => simp [endM]
    | ok l =>
      have := mpA_wf _ _ l (by omega) (fun x hx => by have := h2 x hx; simp at this; omega) hA
      exact ⟨by show l.length ≤ 65536; omega, this.2⟩
end Go.Proofs.YtfecmpebnianpaaGreatDoor
namespace Go.Proofs.YtfecmpebnianpaaGreatDoor
open Go.RowKit
set_option linter.unusedSimpArgs false
set_option linter.unusedVariables false
set_option maxRecDepth 100000 in
theorem awk_lit : mpS ⟨#[118, 111, 99, 97, 98, 32, 97, 10, 101, 110, 100, 10]⟩ = ([⟨⟨#[97]⟩, [], []⟩], 0, 0) := by kernel_rfl
set_option maxRecDepth 100000 in
theorem mawake_any (w : World) (hE : Evd w) : Calls Tryz.prog 6 #[] w fun e w' => e = .returned (.bool true) ∧ Only (fun _ => False) w w' := by
  have HP : Hid (Calls Tryz.prog 7 #[.string ⟨#[118, 111, 99, 97, 98, 32, 97, 10, 101, 110, 100, 10]⟩] w fun e w' => ∃ g cap, e = .returned (.tuple #[.slice (some ⟨g, 0, none⟩) 1 cap, .int .i64 0, .int .i64 0]) ∧ w'.cell? ⟨g, 0, none⟩ = some (.string ⟨#[97]⟩) ∧ Only (fun _ => False) w w') := by
    refine (mparse_any _ w hE).mono fun e w' g => ?_
    obtain ⟨ao, cap, he, g⟩ := g
    rw [awk_lit] at he g
    obtain ⟨S, h1, _⟩ := g.out.1.read bk_liv el_mc
    obtain ⟨ao', cap', hv, _, hel⟩ := h1
    simp only [Value.slice.injEq] at hv
    obtain ⟨rfl, _, rfl⟩ := hv
    obtain ⟨g1, cs, rfl, _, e2, uv, dv, rfl, _, _⟩ := hel 0 _ rfl
    exact ⟨g1, cap, he, e2 0 _ rfl, g.out.2⟩
  clear hE
  go_enter Tryz.func6, Tryz.ntmps6
  go_wp2_with fail
  refine (show Calls Tryz.prog 7 _ _ _ from HP.out).mono ?_
  rintro e w1 ⟨g, cap, rfl, c0, o1⟩
  have O1 : Hid (Only (fun _ => False) w w1) := o1
  clear HP o1
  go_wp2
  go_ret
  exact ⟨rfl, O1.out⟩
end Go.Proofs.YtfecmpebnianpaaGreatDoor
