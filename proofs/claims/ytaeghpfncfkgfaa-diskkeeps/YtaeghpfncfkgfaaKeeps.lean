/- The walk of the law DiskKeeps. -/
import Derived.Test.YtaeghpfncfkgfaaT16
namespace Go.Proofs.Ytaeghpfncfkgfaa
open Go.RowKit
set_option linter.unusedSimpArgs false
set_option linter.unusedVariables false

set_option maxRecDepth 100000 in
set_option maxHeartbeats 2000000 in
theorem keeps_bad (s torn cut : Int) (v v2 vk : Value) (os : List OpD) (w : World) (hs : ScriptAt w v os) (hc : cut < 0 ∨ 32 < cut) :
    Calls Try.prog 4 #[.int .i64 s, v, v2, vk, .int .i64 torn, .int .i64 cut] w fun e w' => e = .returned (.bool true) ∧ Below w.heap.size w w' := by
  have fin : ∀ w2 w3 : World, Only (fun _ => False) w w2 → Only (fun _ => False) w2 w3 → Below w.heap.size w w3 := fun w2 w3 a b => (a.trans b (fun _ _ e => e)).below (fun _ e => e.elim) (Nat.le_refl _)
  rcases hc with hc | hc
  · go_enter Try.func4, Try.ntmps4
    go_wp2_with fail
    refine (grown_any s v os w hs).mono ?_
    rintro e w1 ⟨p, S, pv, d, rfl, d1, hdn, hdl, hdp, o1⟩
    clear d1
    go_wp2_with fail
    refine (awake_any w1).mono ?_
    rintro e w2 ⟨rfl, o2⟩
    have O2 : Hid (Only (fun _ => False) w w2) := o1.trans o2 (fun _ _ e => e)
    clear o1 o2
    go_wp2_with fail
    refine (awake_any w2).mono ?_
    rintro e w3 ⟨rfl, o3⟩
    have O3 : Hid (Below w.heap.size w w3) := fin w2 w3 O2.out o3
    clear o3 O2
    go_wp2
    go_ret
    exact ⟨rfl, O3.out⟩
  · have hc' : ¬ cut < 0 := by omega
    go_enter Try.func4, Try.ntmps4
    go_wp2_with fail
    refine (grown_any s v os w hs).mono ?_
    rintro e w1 ⟨p, S, pv, d, rfl, d1, hdn, hdl, hdp, o1⟩
    clear d1
    go_wp2_with fail
    refine (awake_any w1).mono ?_
    rintro e w2 ⟨rfl, o2⟩
    have O2 : Hid (Only (fun _ => False) w w2) := o1.trans o2 (fun _ _ e => e)
    clear o1 o2
    go_wp2_with fail
    refine (awake_any w2).mono ?_
    rintro e w3 ⟨rfl, o3⟩
    have O3 : Hid (Below w.heap.size w w3) := fin w2 w3 O2.out o3
    clear o3 O2
    go_wp2
    go_ret
    exact ⟨rfl, O3.out⟩

set_option maxRecDepth 100000 in
set_option maxHeartbeats 4000000 in
theorem keeps_walk (s torn : Int) (cut : Nat) (v v2 vk : Value) (os os2 : List OpD) (ks : List Bool) (w : World) (hs : ScriptAt w v os) (hs2 : ScriptAt w v2 os2) (hk : FlagsIn w vk ks) (hcut : (cut : Int) ≤ 32) :
    Calls Try.prog 4 #[.int .i64 s, v, v2, vk, .int .i64 torn, .int .i64 cut] w fun e w' => e = .returned (.bool true) ∧ Below w.heap.size w w' := by
  have hc1 : ¬ (cut : Int) < 0 := by omega
  have hc2 : ¬ (32 : Int) < (cut : Int) := by omega
  have hlen : os.length * 88 ≤ 140737488351232 := hs.2.1
  have hlen2 : os2.length * 88 ≤ 140737488351232 := hs2.2.1
  obtain ⟨a2, c2, hv2⟩ := hs2.form
  obtain ⟨i4, hi4, hz40, hz41, hz42⟩ := info_parts info4
  have HS2 : Hid (ScriptAt w v2 os2) := hs2
  have HK : Hid (FlagsIn w vk ks) := hk
  clear hs2 hk
  go_enter Try.func4, Try.ntmps4
  go_wp2_with fail
  refine (grown_any s v os w hs).mono ?_
  rintro e w1 ⟨p, S, pv, d, rfl, d1, hdn, hdl, hdp, o1⟩
  go_wp2_with fail
  refine (awake_any w1).mono ?_
  rintro e w2 ⟨rfl, o2⟩
  have d2 := d1.frame o2 (fun _ _ e => e)
  have O2 : Hid (Only (fun _ => False) w w2) := o1.trans o2 (fun _ _ e => e)
  clear o1 o2 d1
  go_wp2_with fail
  refine (barrier_any p S _ pv d w2 d2 (by rw [hdl]; decide)).mono ?_
  rintro e w3 ⟨rfl, d3, o3⟩
  have O3 : Hid (Only (fun _ => False) w w3) := O2.out.trans o3 (fun k hk e => by have := d2.pB; omega)
  clear o3 O2 d2
  obtain ⟨n, hn⟩ : ∃ n, n = d.n := ⟨_, rfl⟩
  obtain ⟨s0, hs0⟩ : ∃ q, q = d.sec := ⟨_, rfl⟩
  have d3' : DiskAt w3 w.heap.size p S (.slice none 0 0) ⟨n, s0, [], -1⟩ := by
    have e1 : aged d.life = -1 := by simp [aged, hdl]
    rw [hn, hs0, ← e1]; exact d3
  have hn64 : n ≤ 64 := by omega
  have hn1 : 1 ≤ n := d3'.n1
  clear d3 hn hs0 hdn hdl hdp
  have p3 := d3'.c1
  have HD3 : Hid (DiskAt w3 w.heap.size p S (.slice none 0 0) ⟨n, s0, [], -1⟩) := d3'
  clear d3'
  go_wp2_with (go_at_call 14; refine (pending_any p none 0 0 _ p3).mono ?_; rintro e wq ⟨rfl, hwq⟩; have hwq2 := hwq.symm; clear hwq; subst hwq2)
  refine (all_rng p S _ _ _ w3 HD3.out (by simp)).mono ?_
  rintro e w4 ⟨gB, capB, rfl, hg1, hg2, rB, o4⟩
  have d4 := HD3.out.frame o4 (fun _ _ e => e)
  have O4 : Hid (Only (fun _ => False) w w4) := O3.out.trans o4 (fun _ _ e => e)
  have HRB : Hid (w4.rangeAt gB 0 (allL n s0)) := rB
  have hB4 : ∀ k, diskB p S (.slice none 0 0) k → k < w3.heap.size := fun k hk => (HD3.out.lt k hk).2
  clear o4 p3 rB
  go_wp2_with fail
  refine (copy_any p S _ w.heap.size _ _ w4 d4 (by simp) (O4.out.size)).mono ?_
  rintro e w5 ⟨pX, SX, pvX, rfl, dX, hXn, o5⟩
  have d5 := d4.frame o5 (fun _ _ e => e)
  have O5 : Hid (Only (fun _ => False) w w5) := O4.out.trans o5 (fun _ _ e => e)
  have HRB5 : Hid (w5.rangeAt gB 0 (allL n s0)) := o5.range HRB.out (fun e => e)
  clear HRB
  have HD5 : Hid (DiskAt w5 w.heap.size p S (.slice none 0 0) ⟨n, s0, [], -1⟩) := d5
  have HDX : Hid (DiskAt w5 w.heap.size pX SX pvX ⟨n, s0, [], -1⟩) := dX
  have hgX : ∀ k, diskB pX SX pvX k → gB < k := fun k hk => by have := hXn k hk; omega
  have hpX : ∀ k, diskB pX SX pvX k → ¬ diskB p S (.slice none 0 0) k := fun k hk e => by have h1 := hXn k hk; have h2 := hB4 k e; have := O3.out.size; omega
  clear d4 d5 dX O4 O3 hXn
  -- the flags copied
  have hfk : FlagsIn w5 vk ks := ⟨HK.out.1.frame O5.out (fun _ e => e.elim), HK.out.2⟩
  obtain ⟨aF, capF, w6, hrF, ownF, o6⟩ := app_copy 32 4 i4 _ 1 Try.underlying32 hi4 hz40 hz41 hz42 rfl rfl w5 vk ks.length _ hfk.1 (fun j => rfl) hfk.2
  have hSXl := HDX.out.lt SX (.inr (.inl rfl))
  have fl := flags_own (S := SX) ownF (by have := hfk.2; unfold maxLen; omega) (by omega)
  have dX6 := HDX.out.frame o6 (fun _ _ e => e)
  have HCX := crash_any pX SX _ ks.length cut pvX (.slice aF ks.length capF) (fun j => ks.getD j false) torn _ w6 dX6 (by omega) fl
  have HRF : Hid _ := hrF
  have hem := empty32
  have O6 : Hid (Only (fun _ => False) w5 w6) := o6
  clear hrF ownF o6 fl hfk dX6
  go_wp2_with (first | (refine wpList_append_runG _ _ 32 rfl rfl _ _ (.slice aF ks.length capF) rfl rfl HRF.out ?_))
  refine HCX.mono ?_
  rintro e w7 ⟨rfl, d7, o7⟩
  have dx7 : DiskAt w7 w.heap.size pX SX (.slice none 0 0) ⟨n, s0, [], -1⟩ := by
    have e1 : crashTo (fun i => decide (i < ks.length) && ks.getD i false) torn cut ([] : List Wr) (undoW ([] : List Wr) s0) 0 = s0 := rfl
    have := d7
    simp only [List.length_nil] at this
    rw [e1] at this
    exact this
  have nX : ∀ k, (k = pX ∨ k = SX) → diskB pX SX pvX k := fun k hk => hk.elim (fun e => .inl e) (fun e => .inr (.inl e))
  have O7 : Hid (Only (fun i => i = pX ∨ i = SX) w5 w7) := (O6.out.mono (fun _ _ e => e.elim)).trans o7 (fun _ _ e => e)
  have OW7 : Hid (Only (fun _ => False) w w7) := O5.out.trans O7.out (fun k hk e => by have := (HDX.out.lt k (nX k e)).1; omega)
  have HDX7 : Hid (DiskAt w7 w.heap.size pX SX (.slice none 0 0) ⟨n, s0, [], -1⟩) := dx7
  have HD7 : Hid (DiskAt w7 w.heap.size p S (.slice none 0 0) ⟨n, s0, [], -1⟩) := HD5.out.frame O7.out (fun k hk e => hpX k (nX k e) hk)
  have HRB7 : Hid (w7.rangeAt gB 0 (allL n s0)) := O7.out.range HRB5.out (fun e => by have := hgX gB (nX gB e); omega)
  clear d7 o7 dx7 HCX HRF hem O6 HRB5 HD5
  go_wp2_with fail
  refine (all_rng pX SX _ _ _ w7 HDX7.out (by simp)).mono ?_
  rintro e w8 ⟨g8, cap8, rfl, hg81, hg82, r8, o8⟩
  have HRB8 : Hid (w8.rangeAt gB 0 (allL n s0)) := o8.range HRB7.out (fun e => e)
  have HR8 : Hid (w8.rangeAt g8 0 (allL n s0)) := r8
  have O8 : Hid (Only (fun _ => False) w7 w8) := o8
  clear r8 o8 HRB7
  go_wp2_with fail
  refine (same_rng g8 gB cap8 capB n s0 s0 w8 (by omega) HR8.out HRB8.out (fun _ _ _ _ => rfl)).mono ?_
  rintro e w9 ⟨rfl, o9⟩
  have O79 : Hid (Only (fun _ => False) w7 w9) := O8.out.trans o9 (fun _ _ e => e)
  have HRB9 : Hid (w9.rangeAt gB 0 (allL n s0)) := o9.range HRB8.out (fun e => e)
  have HD9 : Hid (DiskAt w9 w.heap.size p S (.slice none 0 0) ⟨n, s0, [], -1⟩) := HD7.out.frame O79.out (fun _ _ e => e)
  have OW9 : Hid (Only (fun _ => False) w w9) := OW7.out.trans O79.out (fun _ _ e => e)
  have hB9 : Hid (∀ k, diskB p S (.slice none 0 0) k → k ≠ gB) := fun k hk e => by have := hB4 k hk; omega
  have hgBl : gB < w9.heap.size := World.block_lt_of_cell? w9 ⟨gB, 0 + 0, none⟩ (HRB9.out 0 (.int .u8 (s0 0 0)) (by simpa using allL_get n s0 0 0 (by omega) (by omega)))
  clear o9 O8 HR8 HRB8 HD7 OW7 O7 O79 HDX HDX7 hgX hpX nX hB4 hSXl
  subst hv2
  go_wp2_with fail
  go_loopw [16] (fun t wr => ∃ i : Nat, i ≤ os2.length ∧ t = .int .i64 i ∧ (∃ pv d', DiskAt wr w.heap.size p S pv d' ∧ d'.n = n ∧ d'.life = -1 ∧ d'.pend.length ≤ i ∧ Since s0 d' ∧ (∀ k, diskB p S pv k → k ≠ gB)) ∧ Only (fun _ => False) w wr ∧ wr.rangeAt gB 0 (allL n s0) ∧ w9.heap.size ≤ wr.heap.size) (fun t _ => os2.length - (intOf t).toNat)
  case atStart => exact ⟨0, Nat.zero_le _, rfl, ⟨_, _, HD9.out, rfl, rfl, Nat.le_refl _, ⟨rfl, seen_nil _ _ _⟩, hB9.out⟩, OW9.out, HRB9.out, Nat.le_refl _⟩
  case round =>
    obtain ⟨i, hi, rfl, ⟨pv', d', hd, hdn, hdl, hdp, hsi, hdB⟩, ho, hrB, hsz⟩ := hrel
    by_cases hlt : i < os2.length
    · obtain ⟨x, hx⟩ : ∃ x, x = os2[i] := ⟨_, rfl⟩
      obtain ⟨g, o, c', hv, hrange⟩ := HS2.out.get i hlt
      simp only [Value.slice.injEq] at hv
      obtain ⟨rfl, _, rfl⟩ := hv
      rw [← hx] at hrange
      have hrw := ho.range hrange (fun e => e)
      have hxok : x.ok wr := (HS2.out.2.2 x (by rw [hx]; exact List.getElem_mem _)).frame ho
      clear hx
      obtain ⟨kind, sx, nx, cutx, odd, xb, keepx, vb, vk⟩ := x
      have i0 : (0 : Int) ≤ (i : Int) := Int.natCast_nonneg _
      have i1 : (i : Int) < (os2.length : Int) := by omega
      have hvbk : (∃ a m c, vb = .slice a m c) ∧ (∃ a m c, vk = .slice a m c) := by
        refine ⟨?_, ?_⟩
        · rcases hxok.1.1 with ⟨h, _⟩ | ⟨ad, c, h, _⟩ <;> exact ⟨_, _, _, h⟩
        · rcases hxok.2.1.1 with ⟨h, _⟩ | ⟨ad, c, h, _⟩ <;> exact ⟨_, _, _, h⟩
      obtain ⟨⟨ab, mb, cb, hvb⟩, ⟨ak, mk, ck, hvk⟩⟩ := hvbk
      subst hvb hvk
      have hgl : g < w.heap.size := by
        have := World.block_lt_of_cell? w _ (hrange 0 _ rfl)
        exact this
      simp only [OpD.cells] at hrw

      have HREL : Hid ((∃ pv d', DiskAt wr w.heap.size p S pv d' ∧ d'.n = n ∧ d'.life = -1 ∧ d'.pend.length ≤ i + 1 ∧ Since s0 d' ∧ (∀ k, diskB p S pv k → k ≠ gB)) ∧ Only (fun _ => False) w wr ∧ wr.rangeAt gB 0 (allL n s0) ∧ w9.heap.size ≤ wr.heap.size) := ⟨⟨_, _, hd, hdn, hdl, by omega, hsi, hdB⟩, ho, hrB, hsz⟩
      have y0 : wr.cell? ⟨g, o + i * 7, none⟩ = some (.int .i64 kind) := hrw 0 _ rfl
      have y1 : wr.cell? ⟨g, o + i * 7 + 1, none⟩ = some (.int .i64 sx) := hrw 1 _ rfl
      have y2 : wr.cell? ⟨g, o + i * 7 + 2, none⟩ = some (.int .i64 nx) := hrw 2 _ rfl
      have y3 : wr.cell? ⟨g, o + i * 7 + 3, none⟩ = some (.int .i64 cutx) := hrw 3 _ rfl
      have y4 : wr.cell? ⟨g, o + i * 7 + 4, none⟩ = some (.bool odd) := hrw 4 _ rfl
      have y5 : wr.cell? ⟨g, o + i * 7 + 5, none⟩ = some (.slice ab mb cb) := hrw 5 _ rfl
      have y6 : wr.cell? ⟨g, o + i * 7 + 6, none⟩ = some (.slice ak mk ck) := hrw 6 _ rfl
      have oD : Only (fun _ => False) wr wr.drew := (Only.refl _ wr).drew
      have hgn : ∀ q, diskB p S pv' q → ¬ g = q := fun q hq e => by have := (hd.lt q hq).1; omega
      have HC2 : Calls Try.prog 22 #[.agg #[.int .i64 kind, .int .i64 sx, .int .i64 nx, .int .i64 cutx, .bool odd, .slice ab mb cb, .slice ak mk ck]] wr.drew fun e w2 => ∃ a2 m2 cap2, e = .returned (.slice a2 m2 cap2) ∧ Hid (∀ a v, wr.cell? a = some v → w2.cell? a = some v) ∧
          Hid (Calls Try.prog 21 #[.pointer (some ⟨p, 0, none⟩), .int .i64 sx, .slice a2 m2 cap2] w2 fun e w3 => (∃ q, e = .returned (.int .i64 q)) ∧ Hid ((∃ pv d', DiskAt w3 w.heap.size p S pv d' ∧ d'.n = n ∧ d'.life = -1 ∧ d'.pend.length ≤ i + 1 ∧ Since s0 d' ∧ (∀ k, diskB p S pv k → k ≠ gB)) ∧ Only (fun _ => False) w w3 ∧ w3.rangeAt gB 0 (allL n s0) ∧ w9.heap.size ≤ w3.heap.size) ∧
            Hid (∀ v j, wr.cell? ⟨g, j, none⟩ = some v → w3.cell? ⟨g, j, none⟩ = some v)) := by
        refine (op_write p S _ pv' d' ⟨kind, sx, nx, cutx, odd, xb, keepx, .slice ab mb cb, .slice ak mk ck⟩ wr.drew (hd.frame oD (fun _ _ e => e)) (by have := ho.size; exact this) (hxok.frame oD) (by omega)).mono ?_
        rintro e w2 ⟨a2, m2, cap2, rfl, O2, HC⟩
        refine ⟨a2, m2, cap2, rfl, fun a v h => O2.out.cell (by simpa using h) (fun e => e), ?_⟩
        refine HC.out.mono ?_
        rintro e w3 ⟨hq, hP⟩
        obtain ⟨pv3, d3, o3, hb3⟩ := hP.out
        have oR3 : Only (diskB p S pv') wr w3 := (oD.mono (fun _ _ e => e.elim)).trans o3 (fun _ _ e => e)
        have hgBw : gB < wr.heap.size := by omega
        refine ⟨hq, ⟨⟨pv3, _, d3, (write_n _ _ _ _).trans hdn, write_life _ _ _ _ hdl, by have := write_len2 d' sx (fun j => (OpD.bytes ⟨kind, sx, nx, cutx, odd, xb, keepx, .slice ab mb cb, .slice ak mk ck⟩).getD j 0) (OpD.bytes ⟨kind, sx, nx, cutx, odd, xb, keepx, .slice ab mb cb, .slice ak mk ck⟩).length; simp only at this ⊢; omega, since_write _ _ _ _ _ hsi, ?_⟩, ho.trans oR3 (fun q hq e => by have := (hd.lt q e).1; omega), oR3.range hrB (fun e => hdB gB e rfl), Nat.le_trans hsz oR3.size⟩, fun v j h => oR3.cell h (fun e => hgn _ e rfl)⟩
        rintro k (rfl | rfl | hk)
        · exact hdB _ (.inl rfl)
        · exact hdB _ (.inr (.inl rfl))
        · rcases hb3 k hk with h | h
          · exact hdB k (.inr (.inr h))
          · have : wr.drew.heap.size = wr.heap.size := rfl
            omega
      clear hd ho hrB hsi hdB hrw hrange hxok oD hgn
      by_cases hk1 : kind < 1
      · go_wp2_with fail
        go_region_held3 (fun w' => w'.cell? ⟨g, o + i * 7, none⟩ = some (.int .i64 kind) ∧ w'.cell? ⟨g, o + i * 7 + 1, none⟩ = some (.int .i64 sx) ∧ w'.cell? ⟨g, o + i * 7 + 2, none⟩ = some (.int .i64 nx) ∧ w'.cell? ⟨g, o + i * 7 + 3, none⟩ = some (.int .i64 cutx) ∧ w'.cell? ⟨g, o + i * 7 + 4, none⟩ = some (.bool odd) ∧ w'.cell? ⟨g, o + i * 7 + 5, none⟩ = some (.slice ab mb cb) ∧ w'.cell? ⟨g, o + i * 7 + 6, none⟩ = some (.slice ak mk ck)) (first | go_keep | (exact ⟨HA3.out _ _ y0, HA3.out _ _ y1, HA3.out _ _ y2, HA3.out _ _ y3, HA3.out _ _ y4, HA3.out _ _ y5, HA3.out _ _ y6⟩) | (exact ⟨HA2.out _ _ y0, HA2.out _ _ y1, HA2.out _ _ y2, HA2.out _ _ y3, HA2.out _ _ y4, HA2.out _ _ y5, HA2.out _ _ y6⟩))
          (first
            | (go_at_call 22; refine HC2.mono ?_; rintro e w2 ⟨a2, m2, cap2, rfl, HA2, HC3⟩)
            | (go_at_call 21; refine HC3.out.mono ?_; rintro e w3 ⟨⟨xe, rfl⟩, hP3, HA3⟩))
        clear HC2 HC3
        go_wp2
        go_roundw
        case rel => exact ⟨i + 1, by omega, by go_num, hP3.out⟩
        case measure => simp [intOf]; omega
      · by_cases hk5 : 5 < kind
        · go_wp2_with fail
          go_region_held3 (fun w' => w'.cell? ⟨g, o + i * 7, none⟩ = some (.int .i64 kind) ∧ w'.cell? ⟨g, o + i * 7 + 1, none⟩ = some (.int .i64 sx) ∧ w'.cell? ⟨g, o + i * 7 + 2, none⟩ = some (.int .i64 nx) ∧ w'.cell? ⟨g, o + i * 7 + 3, none⟩ = some (.int .i64 cutx) ∧ w'.cell? ⟨g, o + i * 7 + 4, none⟩ = some (.bool odd) ∧ w'.cell? ⟨g, o + i * 7 + 5, none⟩ = some (.slice ab mb cb) ∧ w'.cell? ⟨g, o + i * 7 + 6, none⟩ = some (.slice ak mk ck)) (first | go_keep | (exact ⟨HA3.out _ _ y0, HA3.out _ _ y1, HA3.out _ _ y2, HA3.out _ _ y3, HA3.out _ _ y4, HA3.out _ _ y5, HA3.out _ _ y6⟩) | (exact ⟨HA2.out _ _ y0, HA2.out _ _ y1, HA2.out _ _ y2, HA2.out _ _ y3, HA2.out _ _ y4, HA2.out _ _ y5, HA2.out _ _ y6⟩))
            (first
              | (go_at_call 22; refine HC2.mono ?_; rintro e w2 ⟨a2, m2, cap2, rfl, HA2, HC3⟩)
              | (go_at_call 21; refine HC3.out.mono ?_; rintro e w3 ⟨⟨xe, rfl⟩, hP3, HA3⟩))
          clear HC2 HC3
          go_wp2
          go_roundw
          case rel => exact ⟨i + 1, by omega, by go_num, hP3.out⟩
          case measure => simp [intOf]; omega
        · clear HC2
          go_wp2
          go_roundw
          case rel => exact ⟨i + 1, by omega, by go_num, HREL.out⟩
          case measure => simp [intOf]; omega
    · obtain rfl : i = os2.length := by omega
      subst hdn
      obtain ⟨m, hm⟩ : ∃ m, m = d'.pend.length := ⟨_, rfl⟩
      obtain ⟨aP, cP, hpvf⟩ : ∃ a c, pv' = .slice a d'.pend.length c := by
        rcases hd.form with ⟨h1, h2⟩ | ⟨gg, cc, h1, _⟩
        · exact ⟨none, 0, by rw [h1, h2]; rfl⟩
        · exact ⟨_, _, h1⟩
      rw [← hm] at hpvf hdp
      have hmb : m ≤ 140737488351232 := by omega
      have HM : Hid (m = d'.pend.length) := hm
      have HDE : Hid (DiskAt wr w.heap.size p S pv' d') := hd
      have HOE : Hid (Only (fun _ => False) w wr) := ho
      have HRE : Hid (wr.rangeAt gB 0 (allL d'.n s0)) := hrB
      have HSI : Hid (Since s0 d') := hsi
      have HNL : Hid (d'.life ≠ 0) := fun h => by rw [hdl] at h; exact absurd h (by decide)
      have HLI : Hid (d'.life = -1) := hdl
      clear hd ho hrB hsi hm hdl HD9 HRB9 OW9 hB9 HS2 HK HD3
      go_wp2_with fail
      refine (all_rng p S _ _ _ wr HDE.out HNL.out).mono ?_
      rintro e wa ⟨gS, capS, rfl, ha1, ha2, rS, oa⟩
      have HDa : Hid (DiskAt wa w.heap.size p S pv' d') := HDE.out.frame oa (fun _ _ e => e)
      have HRa : Hid (wa.rangeAt gB 0 (allL d'.n s0)) := oa.range HRE.out (fun e => e)
      have HSa : Hid (wa.rangeAt gS 0 (allL d'.n d'.sec)) := rS
      have OWa : Hid (Only (fun _ => False) w wa) := HOE.out.trans oa (fun _ _ e => e)
      have hp1 : wa.cell? ⟨p, 1, none⟩ = some (.slice aP m cP) := by rw [← hpvf]; exact HDa.out.c1
      have hmk := make_flags m hmb
      clear rS oa HDE HRE HOE
      go_wp2_with (go_at_call 14; refine (pending_any p aP m cP _ hp1).mono ?_; rintro e wq ⟨rfl, hwq⟩; have hwq2 := hwq.symm; clear hwq; subst hwq2)
      clear hmk hp1
      go_loopw [19] (fun t wr => ∃ q : Nat, q ≤ m ∧ t = .int .i64 q ∧ wr = wa.alloc (.cells (trueArr m q) 4)) (fun t _ => m - (intOf t).toNat)
      case atStart => exact ⟨0, Nat.zero_le _, rfl, rfl⟩
      case round =>
        obtain ⟨q, hq, rfl, rfl⟩ := hrel
        by_cases hqm : q < m
        · have hts := trueArr_size m q
          have HT : Hid ((trueArr m q).setIfInBounds q (.bool true) = trueArr m (q + 1)) := trueArr_set m q
          have q0 : (0 : Int) ≤ (q : Int) := Int.natCast_nonneg _
          have q1 : (q : Int) < (m : Int) := by omega
          go_wp2
          go_roundw
          case rel => exact ⟨q + 1, by omega, by go_num, by rw [HT.out]⟩
          case measure => simp [intOf]; omega
        · obtain rfl : q = m := by omega
          obtain ⟨wb, hwb⟩ : ∃ x, x = wa.alloc (.cells (trueArr q q) 4) := ⟨_, rfl⟩
          obtain ⟨gW, hgW⟩ : ∃ x, x = wa.heap.size := ⟨_, rfl⟩
          have ob : Only (fun _ => False) wa wb := by rw [hwb]; exact (Only.refl _ wa).alloc _
          have HF : Hid (FlagsAt wb (.slice (some ⟨gW, 0, none⟩) q q) q (fun _ => true) S) := by
            rw [hwb, hgW]
            exact flags_true q S wa hmb (by have := (HDa.out.lt S (.inr (.inl rfl))).2; omega)
          have HDb : Hid (DiskAt wb w.heap.size p S pv' d') := HDa.out.frame ob (fun _ _ e => e)
          have HRb : Hid (wb.rangeAt gB 0 (allL d'.n s0)) := ob.range HRa.out (fun e => e)
          have HSb : Hid (wb.rangeAt gS 0 (allL d'.n d'.sec)) := ob.range HSa.out (fun e => e)
          have OWb : Hid (Only (fun _ => False) w wb) := OWa.out.trans ob (fun _ _ e => e)
          have hgSb : gS < wb.heap.size := by have := ob.size; omega
          have hgBb : gB < wb.heap.size := by have := ob.size; omega
          have HWB : Hid (wb = wa.alloc (.cells (trueArr q q) 4)) := hwb
          have HGW : Hid (gW = wa.heap.size) := hgW
          clear hwb hgW ob HRa HSa OWa HDa
          rw [← HWB.out, ← HGW.out]
          go_wp2_with fail
          refine (copy_any p S _ w.heap.size _ _ wb HDb.out (by have := HM.out; omega) (OWb.out.size)).mono ?_
          rintro e wc ⟨pY, SY, pvY, rfl, dY, hYn, oc⟩
          have HDc : Hid (DiskAt wc w.heap.size p S pv' d') := HDb.out.frame oc (fun _ _ e => e)
          have HY : Hid (DiskAt wc w.heap.size pY SY pvY d') := dY
          have OC : Hid (Only (fun _ => False) wb wc) := oc
          clear dY oc
          go_wp2_with fail
          refine (copy_any p S _ w.heap.size _ _ wc HDc.out (by have := HM.out; omega) (by have := OWb.out.size; have := OC.out.size; omega)).mono ?_
          rintro e wd ⟨pZ, SZ, pvZ, rfl, dZ, hZn, od⟩
          have HYd : Hid (DiskAt wd w.heap.size pY SY pvY d') := HY.out.frame od (fun _ _ e => e)
          have HZd : Hid (DiskAt wd w.heap.size pZ SZ pvZ d') := dZ
          have OD : Hid (Only (fun _ => False) wb wd) := OC.out.trans od (fun _ _ e => e)
          have OWd : Hid (Only (fun _ => False) w wd) := OWb.out.trans OD.out (fun _ _ e => e)
          have hYlt : ∀ k, diskB pY SY pvY k → k < wc.heap.size := fun k hk => (HY.out.lt k hk).2
          have HRd : Hid (wd.rangeAt gB 0 (allL d'.n s0)) := OD.out.range HRb.out (fun e => e)
          have HSd : Hid (wd.rangeAt gS 0 (allL d'.n d'.sec)) := OD.out.range HSb.out (fun e => e)
          have flY : FlagsAt wd (.slice (some ⟨gW, 0, none⟩) q q) q (fun _ => true) SY := HF.out.frame SY OD.out (hYn SY (.inr (.inl rfl)))
          have HCY := crash_any pY SY _ q 0 pvY (.slice (some ⟨gW, 0, none⟩) q q) (fun _ => true) (-1) d' wd HYd.out (by omega) flY
          clear dZ od HDb HRb HSb OWb HDc HY flY HF
          go_wp2_with fail
          refine HCY.mono ?_
          rintro e we ⟨rfl, dYe, oe⟩
          have nY : ∀ k, (k = pY ∨ k = SY) → diskB pY SY pvY k := fun k hk => hk.elim (fun e => .inl e) (fun e => .inr (.inl e))
          have nZ : ∀ k, (k = pZ ∨ k = SZ) → diskB pZ SZ pvZ k := fun k hk => hk.elim (fun e => .inl e) (fun e => .inr (.inl e))
          have OWe : Hid (Only (fun _ => False) w we) := OWd.out.trans oe (fun k hk e => by have := (HYd.out.lt k (nY k e)).1; omega)
          have HZe : Hid (DiskAt we w.heap.size pZ SZ pvZ d') := HZd.out.frame oe (fun k hk e => by have h1 := hZn k hk; have h2 := hYlt k (nY k e); omega)
          have HRe : Hid (we.rangeAt gB 0 (allL d'.n s0)) := oe.range HRd.out (fun e => by have := hYn gB (nY gB e); omega)
          have HSe : Hid (we.rangeAt gS 0 (allL d'.n d'.sec)) := oe.range HSd.out (fun e => by have := hYn gS (nY gS e); omega)
          have HYe : Hid (DiskAt we w.heap.size pY SY (.slice none 0 0) ⟨d'.n, crashTo (fun i => decide (i < q) && true) (-1) 0 d'.pend (undoW d'.pend d'.sec) d'.pend.length, [], -1⟩) := dYe
          clear dYe oe HCY HYd HZd HRd HSd OWd
          go_wp2_with fail
          refine (crash_any pZ SZ _ 0 cut pvZ (.slice none 0 0) (fun _ => false) torn d' we HZe.out (by omega) ⟨none, 0, rfl, Nat.zero_le _, fun i hi => by omega⟩).mono ?_
          rintro e wf ⟨rfl, dZf, of⟩
          have hYZ : ∀ k, diskB pY SY (.slice none 0 0) k → ¬ (k = pZ ∨ k = SZ) := fun k hk e => by
            have h1 := hZn k (nZ k e)
            have h2 : k < wc.heap.size := hYlt k (nY k (by rcases hk with h | h | h; exact .inl h; exact .inr h; simp [Value.ownBlock] at h))
            omega
          have hgBc : gB < wc.heap.size := by have := OC.out.size; omega
          have hgSc : gS < wc.heap.size := by have := OC.out.size; omega
          have OWf : Hid (Only (fun _ => False) w wf) := OWe.out.trans of (fun k hk e => by have := (HZe.out.lt k (nZ k e)).1; omega)
          have HYf : Hid (DiskAt wf w.heap.size pY SY (.slice none 0 0) ⟨d'.n, crashTo (fun i => decide (i < q) && true) (-1) 0 d'.pend (undoW d'.pend d'.sec) d'.pend.length, [], -1⟩) := HYe.out.frame of hYZ
          have HRf : Hid (wf.rangeAt gB 0 (allL d'.n s0)) := of.range HRe.out (fun e => by have := hZn gB (nZ gB e); omega)
          have HSf : Hid (wf.rangeAt gS 0 (allL d'.n d'.sec)) := of.range HSe.out (fun e => by have := hZn gS (nZ gS e); omega)
          have HZf : Hid (DiskAt wf w.heap.size pZ SZ (.slice none 0 0) ⟨d'.n, s0, [], -1⟩) := by
            have e1 : crashTo (fun i => decide (i < 0) && false) torn cut d'.pend (undoW d'.pend d'.sec) d'.pend.length = s0 := by rw [crashTo_none _ _ _ _ _ (fun i => by simp)]; exact HSI.out.1
            have h9 := dZf
            rw [e1] at h9
            exact h9
          clear dZf of HYe HZe HRe HSe OWe hYZ nY nZ hYlt hYn hZn
          go_wp2_with fail
          refine (all_rng pY SY _ _ _ wf HYf.out (by simp)).mono ?_
          rintro e wg ⟨g1, cp1, rfl, _, _, r1, og⟩
          have HRg : Hid (wg.rangeAt gB 0 (allL d'.n s0)) := og.range HRf.out (fun e => e)
          have HSg : Hid (wg.rangeAt gS 0 (allL d'.n d'.sec)) := og.range HSf.out (fun e => e)
          have HZg : Hid (DiskAt wg w.heap.size pZ SZ (.slice none 0 0) ⟨d'.n, s0, [], -1⟩) := HZf.out.frame og (fun _ _ e => e)
          have HYg : Hid (DiskAt wg w.heap.size pY SY (.slice none 0 0) ⟨d'.n, crashTo (fun i => decide (i < q) && true) (-1) 0 d'.pend (undoW d'.pend d'.sec) d'.pend.length, [], -1⟩) := HYf.out.frame og (fun _ _ e => e)
          have OWg : Hid (Only (fun _ => False) w wg) := OWf.out.trans og (fun _ _ e => e)
          have HR1 : Hid (wg.rangeAt g1 0 (allL d'.n (crashTo (fun i => decide (i < q) && true) (-1) 0 d'.pend (undoW d'.pend d'.sec) d'.pend.length))) := r1
          clear og r1 HRf HSf HZf HYf OWf
          go_wp2_with fail
          refine (same_rng g1 gS cp1 capS d'.n _ _ wg (by omega) HR1.out HSg.out (fun i hi j hj => HSI.out.2 _ _ (fun i hi => by simp; have := HM.out; omega) i j hj)).mono ?_
          rintro e wh ⟨rfl, oh⟩
          have HRh : Hid (wh.rangeAt gB 0 (allL d'.n s0)) := oh.range HRg.out (fun e => e)
          have HZh : Hid (DiskAt wh w.heap.size pZ SZ (.slice none 0 0) ⟨d'.n, s0, [], -1⟩) := HZg.out.frame oh (fun _ _ e => e)
          have HYh : Hid (∃ dd, DiskAt wh w.heap.size pY SY (.slice none 0 0) dd) := ⟨_, HYg.out.frame oh (fun _ _ e => e)⟩
          have OWh : Hid (Only (fun _ => False) w wh) := OWg.out.trans oh (fun _ _ e => e)
          clear oh HRg HSg HZg HYg OWg HR1
          go_wp2_with fail
          refine (all_rng pZ SZ _ _ _ wh HZh.out (by simp)).mono ?_
          rintro e wi ⟨g2, cp2, rfl, _, _, r2, oi⟩
          have HRi : Hid (wi.rangeAt gB 0 (allL d'.n s0)) := oi.range HRh.out (fun e => e)
          have HR2 : Hid (wi.rangeAt g2 0 (allL d'.n s0)) := r2
          have HYi : Hid (∃ dd, DiskAt wi w.heap.size pY SY (.slice none 0 0) dd) := by obtain ⟨dd, hdd⟩ := HYh.out; exact ⟨dd, hdd.frame oi (fun _ _ e => e)⟩
          have OWi : Hid (Only (fun _ => False) w wi) := OWh.out.trans oi (fun _ _ e => e)
          clear oi r2 HRh HZh HYh OWh
          go_wp2_with fail
          refine (same_rng g2 gB cp2 capB d'.n s0 s0 wi (by omega) HR2.out HRi.out (fun _ _ _ _ => rfl)).mono ?_
          rintro e wj ⟨rfl, oj⟩
          have OWj : Hid (Only (fun _ => False) w wj) := OWi.out.trans oj (fun _ _ e => e)
          have y1 : wj.cell? ⟨pY, 1, none⟩ = some (.slice none 0 0) := by obtain ⟨dd, hdd⟩ := HYi.out; exact oj.cell hdd.c1 (fun e => e)
          clear oj HRi HR2 HYi OWi
          go_wp2_with (go_at_call 14; refine (pending_any pY none 0 0 _ y1).mono ?_; rintro e wq ⟨rfl, hwq⟩; have hwq2 := hwq.symm; clear hwq; subst hwq2)
          go_ret
          exact ⟨rfl, OWj.out.below (fun _ e => e.elim) (Nat.le_refl _)⟩
/-- DiskKeeps, whatever it is given. -/
theorem keeps_any (s torn cut : Int) (v v2 vk : Value) (os os2 : List OpD) (ks : List Bool) (w : World) (hs : ScriptAt w v os) (hs2 : ScriptAt w v2 os2) (hk : FlagsIn w vk ks) :
    Calls Try.prog 4 #[.int .i64 s, v, v2, vk, .int .i64 torn, .int .i64 cut] w fun e w' => e = .returned (.bool true) ∧ Below w.heap.size w w' := by
  by_cases hc : cut < 0 ∨ 32 < cut
  · exact keeps_bad s torn cut v v2 vk os w hs hc
  · have e : cut = (cut.toNat : Int) := by omega
    have := keeps_walk s torn cut.toNat v v2 vk os os2 ks w hs hs2 hk (by omega)
    rw [← e] at this
    exact this
end Go.Proofs.Ytaeghpfncfkgfaa
