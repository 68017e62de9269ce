/- The walk of the law DiskApart. -/
import Derived.Test.YtaeghpfncfkgfaaT22
import Derived.BigQuiet
namespace Go.Proofs.Ytaeghpfncfkgfaa
open Go.RowKit
set_option linter.unusedSimpArgs false
set_option linter.unusedVariables false

/-- A new row: it is there. -/
theorem row_new (w : World) (F : Nat → Int) : w.heap.size < (w.alloc (.cells (secL F).toArray 68)).heap.size ∧ (w.alloc (.cells (secL F).toArray 68)).rangeAt w.heap.size 0 (secL F) ∧ (w.alloc (.cells (secL F).toArray 68)).there w.heap.size 0 32 := by
  have hg := heap_alloc_new w (.cells (secL F).toArray 68)
  have own := World.ownsRow_lit (base := w.heap.size) (e := 68) (size := 1) w (secL F).toArray 32 (Nat.le_refl _) (by unfold maxLen; omega) (by simp [secL_length])
  refine ⟨by simp, fun j u hu => ?_, fun j hj => ⟨?_, ?_⟩⟩
  · rw [Nat.zero_add, cell_of_row _ _ _ _ _ _ hg]; simpa using hu
  · rw [Nat.zero_add, cell_of_row _ _ _ _ _ _ hg]; simp [secL_length, hj]
  · rw [Nat.zero_add]; exact own.frozenAt j
/-- The book of two rows. -/
def two (x y : Value) : Nat → Value := fun i => if i = 0 then x else y
theorem book_two (w : World) (gx gy : Nat) (hx : w.there gx 0 32) (hy : w.there gy 0 32) (hlx : gx < w.heap.size) (hly : gy < w.heap.size) (hne : gx ≠ gy) :
    Calls Try.prog 26 #[.pointer (some ⟨w.heap.size + 1, 0, none⟩)] ((w.alloc (.cells #[.slice (some ⟨gx, 0, none⟩) 32 32, .slice (some ⟨gy, 0, none⟩) 32 32] 31)).alloc (.cells #[.slice none 0 0, .slice none 0 0, .slice (some ⟨w.heap.size, 0, none⟩) 2 2, .slice none 0 0] 60)) fun e w' => e = .returned (.bool true) ∧ Only (fun b => b = gx ∨ b = gy) w w' := by
  obtain ⟨wA, hA⟩ : ∃ wA, wA = w.alloc (.cells #[.slice (some ⟨gx, 0, none⟩) 32 32, .slice (some ⟨gy, 0, none⟩) 32 32] 31) := ⟨_, rfl⟩
  have sA : wA.heap.size = w.heap.size + 1 := by rw [hA]; simp
  rw [← hA, ← sA]
  obtain ⟨wB, hB⟩ : ∃ wB, wB = wA.alloc (.cells #[.slice none 0 0, .slice none 0 0, .slice (some ⟨w.heap.size, 0, none⟩) 2 2, .slice none 0 0] 60) := ⟨_, rfl⟩
  have sB : wB.heap.size = wA.heap.size + 1 := by rw [hB]; simp
  have gB : wB.heap[wA.heap.size]? = some (.cells #[.slice none 0 0, .slice none 0 0, .slice (some ⟨w.heap.size, 0, none⟩) 2 2, .slice none 0 0] 60) := by rw [hB]; exact heap_alloc_new wA _
  have oA : Only (fun _ => False) w wA := by rw [hA]; exact (Only.refl _ w).alloc _
  have oB : Only (fun _ => False) wA wB := by rw [hB]; exact (Only.refl _ wA).alloc _
  have oAB := oA.trans oB (fun _ _ e => e)
  have hrow : Whole wB (.slice (some ⟨w.heap.size, 0, none⟩) 2 2) 2 (two (.slice (some ⟨gx, 0, none⟩) 32 32) (.slice (some ⟨gy, 0, none⟩) 32 32)) := by
    have own := World.ownsRow_lit (base := w.heap.size) (e := 31) (size := 1) w #[.slice (some ⟨gx, 0, none⟩) 32 32, .slice (some ⟨gy, 0, none⟩) 32 32] 2 (Nat.le_refl _) (by unfold maxLen; omega) rfl
    rw [← hA] at own
    refine (Whole.ofOwn own (fun j hj => ?_)).frame oB (fun _ _ e => e)
    match j, hj with
    | 0, _ => rfl
    | 1, _ => rfl
  have hblk : ∀ b, lsB 2 (two (.slice (some ⟨gx, 0, none⟩) 32 32) (.slice (some ⟨gy, 0, none⟩) 32 32)) b → b = gx ∨ b = gy := by
    rintro b ⟨i, hi, e⟩
    match i, hi, e with
    | 0, _, e => left; simpa [two, Value.ownBlock] using e.symm
    | 1, _, e => right; simpa [two, Value.ownBlock] using e.symm
  have hL : Lists wB 2 (two (.slice (some ⟨gx, 0, none⟩) 32 32) (.slice (some ⟨gy, 0, none⟩) 32 32)) (fun _ => 32) := by
    refine ⟨fun i hi => ?_, fun i b hi e => ?_, fun i j b hi hj e e' => ?_, fun _ _ => by omega⟩
    · match i, hi with
      | 0, _ => exact ⟨_, 32, rfl, Nat.le_refl _, by unfold maxLen; omega, fun e => (by cases e), fun _ => ⟨gx, 0, rfl, oAB.there hx (fun e => e)⟩⟩
      | 1, _ => exact ⟨_, 32, rfl, Nat.le_refl _, by unfold maxLen; omega, fun e => (by cases e), fun _ => ⟨gy, 0, rfl, oAB.there hy (fun e => e)⟩⟩
    · have := hblk b ⟨i, hi, e⟩; have := oAB.size; omega
    · match i, j, hi, hj, e, e' with
      | 0, 0, _, _, _, _ => rfl
      | 1, 1, _, _, _, _ => rfl
      | 0, 1, _, _, e, e' => exact absurd (Option.some.inj (e.trans e'.symm)) hne
      | 1, 0, _, _, e, e' => exact absurd (Option.some.inj (e'.trans e.symm)) hne
  rw [← hB]
  refine (apart_book wA.heap.size 2 _ (fun _ => 32) _ wB (by rw [cell_of_row _ _ _ _ _ _ gB]; rfl) (by rw [cell_of_row _ _ _ _ _ _ gB]; rfl) (by rw [cell_of_row _ _ _ _ _ _ gB]; rfl) (by rw [cell_of_row _ _ _ _ _ _ gB]; rfl) (fun e => by have := hblk _ e; omega) hrow (fun b e e' => by
    have h1 := hblk b e'
    simp [Value.ownBlock] at e
    omega) hL (by omega)).mono ?_
  rintro e w' ⟨rfl, ho, _⟩
  exact ⟨rfl, (oAB.mono (fun _ _ e => e.elim)).trans ho (fun b _ e => hblk b e)⟩
set_option maxRecDepth 100000 in
set_option maxHeartbeats 4000000 in
theorem apart_walk (s : Int) (k : Nat) (v vb : Value) (os : List OpD) (zs : List Int) (w : World) (hs : ScriptAt w v os) (hb : BytesAt w vb zs) :
    Calls Try.prog 8 #[.int .i64 s, v, .int .i64 k, vb] w fun e w' => e = .returned (.bool true) ∧ Below w.heap.size w w' := by
  have hlen : os.length * 88 ≤ 140737488351232 := hs.2.1
  obtain ⟨i5, hi5, hz50, hz51, hz52⟩ := info_parts info5
  have HBY : Hid (BytesAt w vb zs) := hb
  have hk0 : ¬ (k : Int) < 0 := by omega
  clear hb
  go_enter Try.func8, Try.ntmps8
  go_wp2_with fail
  refine (grown_any s v os w hs).mono ?_
  rintro e w1 ⟨p, S, pv, d, rfl, d1, hdn, hdl, hdp, o1⟩
  go_wp2_with fail
  refine (awake_any w1).mono ?_
  rintro e w2 ⟨rfl, o2⟩
  have d2 := d1.frame o2 (fun _ _ e => e)
  have O2 : Hid (Only (fun _ => False) w w2) := o1.trans o2 (fun _ _ e => e)
  clear o1 o2 d1
  have hL : HasN w2 p S d.n := d2.c0
  have HD2 : Hid (DiskAt w2 w.heap.size p S pv d) := d2
  clear d2
  go_wp2_with fail
  refine (lenN p S _ w2 hL).mono ?_
  rintro e w2' ⟨rfl, rfl⟩
  by_cases hkn : k < d.n
  · have hkn' : ¬ ((d.n : Int) ≤ (k : Int)) := by omega
    go_wp2_with fail
    refine (copy_any p S _ w.heap.size pv d w2' HD2.out (by omega) O2.out.size).mono ?_
    rintro e w3 ⟨p', S', pv', rfl, d3, hb3, o3⟩
    have O3 : Hid (Only (fun _ => False) w w3) := O2.out.trans o3 (fun _ _ e => e)
    have HD3 : Hid (DiskAt w3 w.heap.size p S pv d) := HD2.out.frame o3 (fun _ _ e => e)
    have HD3' : Hid (DiskAt w3 w.heap.size p' S' pv' d) := d3
    have HN1 : Hid (∀ b, diskB p S pv b → ¬ diskB p' S' pv' b) := fun b e e' => by have := (HD2.out.lt b e).2; have := hb3 b e'; omega
    clear d3 hb3 o3 HD2 O2 hL
    go_wp2_with fail
    refine (all_rng p' S' _ pv' d w3 HD3'.out (by rw [hdl]; decide)).mono ?_
    rintro e w4 ⟨gB, capB, rfl, hg1, hg2, rB, o4⟩
    have O4 : Hid (Only (fun _ => False) w w4) := O3.out.trans o4 (fun _ _ e => e)
    have HD4 : Hid (DiskAt w4 w.heap.size p S pv d) := HD3.out.frame o4 (fun _ _ e => e)
    have HD4' : Hid (DiskAt w4 w.heap.size p' S' pv' d) := HD3'.out.frame o4 (fun _ _ e => e)
    have HB4 : Hid (w4.rangeAt gB 0 (allL d.n d.sec)) := rB
    have HN2 : Hid (¬ diskB p S pv gB ∧ gB < w4.heap.size) := ⟨fun e => by have := (HD3.out.lt _ e).2; omega, hg2⟩
    clear o4 rB hg1 hg2 HD3 HD3' O3
    go_wp2_with fail
    refine (full_bytes vb zs w4 ⟨HBY.out.1.frame O4.out (fun _ e => e.elim), HBY.out.2⟩).mono ?_
    rintro e w5 ⟨rfl, hw5⟩
    obtain ⟨F, hF⟩ : ∃ F, F = fullF (fun j => zs.getD j 0) zs.length := ⟨_, rfl⟩
    rw [← hF] at hw5
    have own5 : w5.ownsRow w4.heap.size 5 1 (.slice (some ⟨w4.heap.size, 0, none⟩) 32 32) 32 (secL F) := by
      rw [hw5]
      exact World.ownsRow_lit (e := 5) (size := 1) w4 (secL F).toArray 32 (Nat.le_refl _) (by unfold maxLen; omega) (by simp [secL_length])
    have o5 : Only (fun _ => False) w4 w5 := by rw [hw5]; exact (Only.refl _ w4).alloc _
    have hsz5 : w4.heap.size ≤ w5.heap.size := o5.size
    have HO5 : Hid (Only (fun _ => False) w4 w5) := o5
    have HF : Hid (F = fullF (fun j => zs.getD j 0) zs.length) := hF
    clear hw5 hF o5
    have own6 := own5.alloc (.cells #[.int .u8 71, .int .u8 72] 5)
    have hnew : ∀ j u, [Value.int .u8 71, .int .u8 72][j]? = some u → (w5.alloc (.cells #[.int .u8 71, .int .u8 72] 5)).cell? ((⟨w5.heap.size, 0, none⟩ : Addr).add j) = some u := World.news_of_block (heap_alloc_new w5 _)
    have HN : Hid _ := hnew
    clear hnew own5
    go_wp2_with (at_builtin; go_must (refine wpList_append_own_at _ rfl _ _ 31 rfl w4.heap.size 5 i5 _ 1 1 Try.underlying31 hi5 hz50 hz51 hz52 rfl (by omega) _ 32 _ rfl own6 ⟨w5.heap.size, 0, none⟩ 2 2 [Value.int .u8 71, .int .u8 72] rfl rfl HN.out (by simp [Value.oneCell']) (by unfold maxLen; omega) (by omega) (by simp; omega) ?_); intro v' wF ownF hgF _ hbF)
    have hgF' : (w5.alloc (.cells #[.int .u8 71, .int .u8 72] 5)).grownBy wF (some w4.heap.size) := hgF
    replace ownF : wF.ownsRow w4.heap.size 5 1 v' 34 (secL F ++ [.int .u8 71, .int .u8 72]) := ownF
    obtain ⟨gF, cF, hvF, hgF1, hgF2⟩ := ownF.form (by omega)
    have hcF : 34 ≤ cF := by
      rcases ownF.2 with ⟨e, _⟩ | ⟨g', cap, cur, e, _, _, hc, _⟩
      · rw [hvF] at e; cases e
      · rw [hvF] at e; simp at e; omega
    have hcF1 : (32 : Int) ≤ (cF : Int) := by omega
    have hcF2 : ¬ ((cF : Int) < 32) := by omega
    subst hvF
    have oF : Only (fun _ => False) w4 wF := (HO5.out.alloc _).grown hgF' (fun b hb hl => by simp at hb; omega)
    have HC : Hid (Calls Try.prog 21 #[.pointer (some ⟨p, 0, none⟩), .int .i64 k, .slice (some ⟨gF, 0, none⟩) 32 cF] wF.drew fun e w7 => e = .returned (.int .i64 0) ∧ w7.cell? ⟨gF, 32, none⟩ = some (.int .u8 71) ∧ w7.cell? ⟨gF, 33, none⟩ = some (.int .u8 72) ∧
      Hid (Calls Try.prog 24 #[vb] w7 fun e w8 => ∃ gf, e = .returned (.slice (some ⟨gf, 0, none⟩) 32 32) ∧ w8.cell? ⟨gF, 32, none⟩ = some (.int .u8 71) ∧ w8.cell? ⟨gF, 33, none⟩ = some (.int .u8 72) ∧
        Hid (Calls Try.prog 20 #[.slice (some ⟨gF, 0, none⟩) 32 cF, .slice (some ⟨gf, 0, none⟩) 32 32] w8 fun e w9 => e = .returned (.bool true) ∧ w9.cell? ⟨gF, 32, none⟩ = some (.int .u8 71) ∧ w9.cell? ⟨gF, 33, none⟩ = some (.int .u8 72) ∧
          Hid (w9.there gF 0 34 ∧ ∀ w10, Only (fun b => b = gF) w9 w10 → Stand w w10 p S p' S' gB k d.n d.sec (fullF (fun j => zs.getD j 0) zs.length))))) := by
      have oD : Only (fun _ => False) wF wF.drew := (Only.refl _ wF).drew
      have oFD := oF.trans oD (fun _ _ e => e)
      refine full_write HBY.out (O4.out.trans oFD (fun _ _ e => e)) (HD4.out.frame oFD (fun _ _ e => e)) (HD4'.out.frame oFD (fun _ _ e => e)) hdl hkn (by omega) (oFD.range HB4.out (fun e => e)) ?_ ?_ HN1.out HN2.out.1 (fun e => by have := (HD4.out.lt _ e).2; omega) (fun e => by have := (HD4'.out.lt _ e).2; omega) (by have := HN2.out.2; omega) (by have := O4.out.size; omega)
      · intro j u hu
        rw [← HF.out] at hu
        have hj : j < 34 := by have := (List.getElem?_eq_some_iff.1 hu).1; simpa [secL_length] using this
        rw [Nat.zero_add]
        have := ownF.cellAt j (by omega)
        rw [hu] at this
        exact this
      · intro j hj
        rw [Nat.zero_add]
        refine ⟨?_, ownF.frozenAt j⟩
        have := ownF.cellAt j (by omega)
        rw [show wF.drew.cell? ⟨gF, j, none⟩ = wF.cell? ⟨gF, j, none⟩ from rfl, this]
        simp [secL_length]; omega
    have y0 : wF.cell? ⟨gF, 32, none⟩ = some (.int .u8 71) := by
      have := ownF.cellAt 32 (by omega)
      rw [List.getElem?_append_right (by simp [secL_length])] at this
      simpa [secL_length] using this
    have y1 : wF.cell? ⟨gF, 33, none⟩ = some (.int .u8 72) := by
      have := ownF.cellAt 33 (by omega)
      rw [List.getElem?_append_right (by simp [secL_length])] at this
      simpa [secL_length] using this
    clear hgF hgF' ownF own6 oF HN hbF
    go_region_held3 (fun w' => w'.cell? ⟨gF, 32, none⟩ = some (.int .u8 71) ∧ w'.cell? ⟨gF, 33, none⟩ = some (.int .u8 72)) (first | go_keep | (exact ⟨z93, z94⟩) | (exact ⟨z83, z84⟩) | (exact ⟨z73, z74⟩))
      (first
        | (go_at_call 21; refine HC.out.mono ?_; rintro e w7 ⟨rfl, z73, z74, HC7⟩)
        | (go_at_call 24; refine HC7.out.mono ?_; rintro e w8 ⟨gf, rfl, z83, z84, HC8⟩)
        | (go_at_call 20; refine HC8.out.mono ?_; rintro e w9 ⟨rfl, z93, z94, HP9⟩))
    clear HC HC7 HC8 y0 y1 z73 z74 z83 z84 z93 z94 HN1 HN2 HB4 HD4 HD4' HO5
    have HT9 : Hid (w9.there gF 0 34) := HP9.out.1
    have HS9 : Hid (∀ w10, Only (fun b => b = gF) w9 w10 → Stand w w10 p S p' S' gB k d.n d.sec F) := by rw [HF.out]; exact HP9.out.2
    clear HP9
    go_wp2_with fail
    go_loopw [13] (fun t wr => ∃ j : Nat, j ≤ 32 ∧ t = .int .i64 j ∧ Only (fun b => b = gF) w9 wr ∧ Th w9 wr) (fun t _ => 32 - (intOf t).toNat)
    case atStart => exact ⟨0, Nat.zero_le _, rfl, Only.refl _ _, Th.refl _⟩
    case round =>
      obtain ⟨j, hj, rfl, hoj, htj⟩ := hrel
      by_cases hlj : j < 32
      · have j0 : (0 : Int) ≤ (j : Int) := Int.natCast_nonneg _
        have j1 : (j : Int) < 32 := by omega
        have ht := htj _ _ _ HT9.out
        obtain ⟨yv, z0⟩ := Option.isSome_iff_exists.1 (ht j (by omega)).1
        have z1 := (ht j (by omega)).2
        rw [Nat.zero_add] at z0 z1
        have HOJ : Hid (Only (fun b => b = gF) w9 (wr.setCell ⟨gF, j, none⟩ (.int .u8 99))) := hoj.setCell _ _ (fun _ => rfl)
        have HTJ : Hid (Th w9 (wr.setCell ⟨gF, j, none⟩ (.int .u8 99))) := htj.trans (Th.setCells wr gF j [.int .u8 99])
        clear hoj htj ht
        go_wp2
        go_roundw
        case rel => exact ⟨j + 1, by omega, by go_num, HOJ.out, HTJ.out⟩
        case measure => simp [intOf]; omega
      · obtain rfl : j = 32 := by omega
        have HSt : Hid (Stand w wr p S p' S' gB k d.n d.sec F) := HS9.out _ hoj
        clear hoj htj HS9 HT9
        go_wp2_with fail
        refine (stand_read HSt.out).mono ?_
        rintro e wx ⟨rfl, hwx⟩
        have ox : Only (fun _ => False) wr wx := by rw [hwx]; exact (Only.refl _ wr).alloc _
        have HSx : Hid (Stand w wx p S p' S' gB k d.n d.sec F) := HSt.out.frame ox
        obtain ⟨gx, hgx⟩ : ∃ g, g = wr.heap.size := ⟨_, rfl⟩
        have HXx : Hid (gx < wx.heap.size ∧ wx.rangeAt gx 0 (secL F) ∧ wx.there gx 0 32) := by
          rw [hgx, hwx]; exact row_new wr F
        rw [← hgx]
        have HGX : Hid (gx = wr.heap.size) := hgx
        have OX : Hid (Only (fun _ => False) wr wx) := ox
        clear hgx hwx ox
        go_wp2_with fail
        refine (stand_read HSx.out).mono ?_
        rintro e wy ⟨rfl, hwy⟩
        have oy : Only (fun _ => False) wx wy := by rw [hwy]; exact (Only.refl _ wx).alloc _
        have HSy : Hid (Stand w wy p S p' S' gB k d.n d.sec F) := HSx.out.frame oy
        obtain ⟨gy, hgy⟩ : ∃ g, g = wx.heap.size := ⟨_, rfl⟩
        have HYy : Hid (gx < gy ∧ gy < wy.heap.size ∧ wy.there gx 0 32 ∧ wy.there gy 0 32) := by
          have hy : gy < wy.heap.size ∧ wy.rangeAt gy 0 (secL F) ∧ wy.there gy 0 32 := by rw [hgy, hwy]; exact row_new wx F
          exact ⟨by rw [hgy]; exact HXx.out.1, hy.1, oy.there HXx.out.2.2 (fun e => e), hy.2.2⟩
        have HXy : Hid (wy.rangeAt gx 0 (secL F)) := oy.range HXx.out.2.1 (fun e => e)
        rw [← hgy]
        have OY : Hid (Only (fun _ => False) wr wy) := OX.out.trans oy (fun _ _ e => e)
        clear hgy hwy oy HXx OX
        have HXF : Hid (wy.rangeAt gx 0 (secL (fullF (fun j => zs.getD j 0) zs.length))) := by rw [← HF.out]; exact HXy.out
        go_wp2_with fail
        refine (full_same HBY.out HSy.out.2.2.2 gx 32 HXF.out).mono ?_
        rintro e w11 ⟨gf1, rfl, O11, HC11⟩
        go_wp2_with fail
        refine HC11.out.mono ?_
        rintro e w12 ⟨rfl, O12⟩
        have HS12 : Hid (Stand w w12 p S p' S' gB k d.n d.sec F) := HSy.out.frame O12.out
        clear HC11 O11 HXF HXy
        go_wp2_with fail
        refine (stand_all (cB := capB) HS12.out).mono ?_
        rintro e w13 ⟨g13, c13, rfl, HC13⟩
        go_wp2_with fail
        refine HC13.out.mono ?_
        rintro e w14 ⟨rfl, O14⟩
        have O14' : Hid (Only (fun _ => False) wy w14) := O12.out.trans O14.out (fun _ _ e => e)
        clear HC13 HS12 O12 O14
        go_wp2_with fail
        refine (book_two w14 gx gy (O14'.out.there HYy.out.2.2.1 (fun e => e)) (O14'.out.there HYy.out.2.2.2 (fun e => e)) (by have := O14'.out.size; have := HYy.out.1; have := HYy.out.2.1; omega) (by have := O14'.out.size; have := HYy.out.2.1; omega) (by have := HYy.out.1; omega)).mono ?_
        rintro e w15 ⟨rfl, o15⟩
        have O15 : Hid (Only (fun _ => False) wr w15) := (OY.out.trans O14'.out (fun _ _ e => e)).trans o15 (fun b hb e => by have := HGX.out; have := HYy.out.1; omega)
        have HS15 : Hid (Stand w w15 p S p' S' gB k d.n d.sec F) := HSt.out.frame O15.out
        clear o15 O14' OY HSy
        go_wp2_with fail
        refine (stand_read HS15.out).mono ?_
        rintro e wz ⟨rfl, hwz⟩
        have oz : Only (fun _ => False) w15 wz := by rw [hwz]; exact (Only.refl _ w15).alloc _
        have HSz : Hid (Stand w wz p S p' S' gB k d.n d.sec F) := HS15.out.frame oz
        obtain ⟨gz, hgz⟩ : ∃ g, g = w15.heap.size := ⟨_, rfl⟩
        have HZz : Hid (wz.rangeAt gz 0 (secL (fullF (fun j => zs.getD j 0) zs.length))) := by
          rw [hgz, hwz, ← HF.out]; exact (row_new w15 F).2.1
        rw [← hgz]
        clear hgz hwz oz
        go_wp2_with fail
        refine (full_same HBY.out HSz.out.2.2.2 gz 32 HZz.out).mono ?_
        rintro e w16 ⟨gf2, rfl, O16, HC16⟩
        go_wp2_with fail
        refine HC16.out.mono ?_
        rintro e w17 ⟨rfl, O17⟩
        have O17' : Hid (Below w.heap.size w w17) := (HSz.out.2.2.2.trans O17.out (fun _ _ e => e)).below (fun _ e => e.elim) (Nat.le_refl _)
        clear HC16 O16 O17
        go_wp2
        go_ret
        exact ⟨rfl, O17'.out⟩
  · have hkn' : (d.n : Int) ≤ (k : Int) := by omega
    clear hL HD2
    go_wp2_with fail
    refine (awake_any w2').mono ?_
    rintro e w3 ⟨rfl, o3⟩
    have O3 : Hid (Below w.heap.size w w3) := (O2.out.trans o3 (fun _ _ e => e)).below (fun _ e => e.elim) (Nat.le_refl _)
    clear o3 O2
    go_wp2
    go_ret
    exact ⟨rfl, O3.out⟩
/-- DiskApart, whatever it is given. -/
theorem apart_any (s s1 : Int) (v vb : Value) (os : List OpD) (zs : List Int) (w : World) (hs : ScriptAt w v os) (hb : BytesAt w vb zs) :
    Calls Try.prog 8 #[.int .i64 s, v, .int .i64 s1, vb] w fun e w' => e = .returned (.bool true) ∧ Below w.heap.size w w' := by
  by_cases hc : s1 < 0
  · exact apart_bad s s1 v vb os w hs hc
  · have e : s1 = (s1.toNat : Int) := by omega
    have := apart_walk s s1.toNat v vb os zs w hs hb
    rw [← e] at this
    exact this
end Go.Proofs.Ytaeghpfncfkgfaa
