/- The walk of PagesPlays. -/
import Derived.Test.YtdcflnfdaijpdaaFirst
import Derived.Test.YtdcflnfdaijpdaaBack
import Derived.Test.YtdcflnfdaijpdaaP8
namespace Go.Proofs.Ytdcflnfdaijpdaa
open Go.RowKit
set_option linter.unusedSimpArgs false
set_option linter.unusedVariables false

/-- Both Packs answer the same. -/
theorem packs_alike (i : Nat) (u v : Value) (D : List Nat) (w : World) (hi : i < 4294967296) (hu : BytesAt w u D) (hv : BytesAt w v D) :
    ∃ (Z : List Nat) (q : Int), (Calls Try.prog 10 #[.int .u32 i, u] w fun e w1 => ∃ x, e = .returned (.tuple #[x, .int .i64 q]) ∧ Hid (BytesAt w1 x Z ∧ Only (fun _ => False) w w1)) ∧
      ∀ w1, Only (fun _ => False) w w1 → Calls Try.prog 12 #[.int .u32 i, v] w1 fun e w2 => ∃ y, e = .returned (.tuple #[y, .int .i64 q]) ∧ Hid (BytesAt w2 y Z ∧ Only (fun _ => False) w1 w2) := by
  by_cases h : 116 < D.length
  · obtain ⟨a, c, rfl, _, _⟩ := hu.form
    obtain ⟨a', c', rfl, _, _⟩ := hv.form
    refine ⟨[], 11, (pack_large i a _ c w h).mono ?_, fun w1 _ => (rpack_large i a' _ c' w1 h).mono ?_⟩
    · rintro e w1 ⟨rfl, rfl⟩
      exact ⟨_, rfl, BytesAt.none _ _ (fun _ => rfl), Only.refl _ _⟩
    · rintro e w2 ⟨rfl, rfl⟩
      exact ⟨_, rfl, BytesAt.none _ _ (fun _ => rfl), Only.refl _ _⟩
  · refine ⟨page i D, 0, (pack_ok i u D w hu (by omega) hi).mono ?_, fun w1 o => (rpack_ok i v D w1 (hv.frame o) (by omega) hi).mono ?_⟩
    · rintro e w1 ⟨rfl, hb, ho⟩
      exact ⟨_, rfl, hb.all 128 (page_length i D (by omega)).symm, ho⟩
    · rintro e w2 ⟨y, rfl, hf, ho⟩
      exact ⟨y, rfl, hf.bytes, ho⟩
/-- Both Unpacks answer the same. -/
theorem unpacks_alike (u v : Value) (b : List Nat) (w : World) (hu : BytesAt w u b) (hv : BytesAt w v b) :
    ∃ (k q : Int) (Z : List Nat), (Calls Try.prog 13 #[u] w fun e w1 => ∃ x, e = .returned (.tuple #[.int .u32 k, x, .int .i64 q]) ∧ Hid (BytesAt w1 x Z ∧ Only (fun _ => False) w w1)) ∧
      ∀ w1, Only (fun _ => False) w w1 → Calls Try.prog 14 #[v] w1 fun e w2 => ∃ y, e = .returned (.tuple #[.int .u32 k, y, .int .i64 q]) ∧ Hid (BytesAt w2 y Z ∧ Only (fun _ => False) w1 w2) := by
  by_cases h : b.length = 128
  · have h1 := unpack_any u b w hu h
    have h2 := fun w1 (o : Only (fun _ => False) w w1) => runpack_any v b w1 (hv.frame o) h
    cases hr : unp b with
    | none =>
      rw [hr] at h1 h2
      refine ⟨0, 5, [], h1.mono ?_, fun w1 o => (h2 w1 o).mono ?_⟩
      · rintro e w1 ⟨rfl, ho⟩
        exact ⟨_, rfl, BytesAt.none _ _ (fun _ => rfl), ho⟩
      · rintro e w2 ⟨rfl, ho⟩
        exact ⟨_, rfl, BytesAt.none _ _ (fun _ => rfl), ho⟩
    | some p =>
      obtain ⟨i, D⟩ := p
      rw [hr] at h1 h2
      refine ⟨i, 0, D, h1.mono ?_, fun w1 o => (h2 w1 o).mono ?_⟩
      · rintro e w1 ⟨x, rfl, hf, ho⟩
        exact ⟨x, rfl, hf.bytes, ho⟩
      · rintro e w2 ⟨x, rfl, hf, ho⟩
        exact ⟨x, rfl, hf.bytes, ho⟩
  · obtain ⟨a, c, rfl, _, _⟩ := hu.form
    obtain ⟨a', c', rfl, _, _⟩ := hv.form
    refine ⟨0, 2, [], (unpack_len a _ c w h).mono ?_, fun w1 _ => (runpack_len a' _ c' w1 h).mono ?_⟩
    · rintro e w1 ⟨rfl, rfl⟩
      exact ⟨_, rfl, BytesAt.none _ _ (fun _ => rfl), Only.refl _ _⟩
    · rintro e w2 ⟨rfl, rfl⟩
      exact ⟨_, rfl, BytesAt.none _ _ (fun _ => rfl), Only.refl _ _⟩
/-- Numbers in memory. -/
def IntsAt (w : World) (v : Value) (m : Nat) (f : Nat → Int) : Prop := ∃ a c, v = .slice a m c ∧ ∀ j, j < m → ∃ g, a = some ⟨g, 0, none⟩ ∧ w.cell? ⟨g, j, none⟩ = some (.int .i64 (f j))
theorem IntsAt.frame {w w' : World} {v : Value} {m : Nat} {f : Nat → Int} (h : IntsAt w v m f) (ho : Only (fun _ => False) w w') : IntsAt w' v m f := by
  obtain ⟨a, c, rfl, hc⟩ := h
  refine ⟨a, c, rfl, fun j hj => ?_⟩
  obtain ⟨g, rfl, hx⟩ := hc j hj
  exact ⟨g, rfl, ho.cell hx (fun e => e)⟩
theorem IntsAt.none (w : World) (f : Nat → Int) : IntsAt w (.slice Option.none 0 0) 0 f := ⟨Option.none, 0, rfl, fun j hj => by omega⟩
theorem FreshI.ints {w : World} {B : Nat} {v : Value} {l : List Nat} (h : FreshI w B v l) : IntsAt w v l.length (fun j => (l.getD j 0 : Nat)) := by
  obtain ⟨a, c, rfl, hc⟩ := h.form
  exact ⟨a, c, rfl, hc⟩
/-- Both Firsts answer the same. -/
theorem firsts_alike (u v : Value) (n : Int) (F : List Bool) (w : World) (hF : F.length ≤ 1048576) (hu : FlagsAt w u F) (hv : FlagsAt w v F) :
    ∃ (m : Nat) (f : Nat → Int) (q : Int), m ≤ 1048576 ∧ (Calls Try.prog 15 #[u, .int .i64 n] w fun e w1 => ∃ x, e = .returned (.tuple #[x, .int .i64 q]) ∧ Hid (IntsAt w1 x m f ∧ Only (fun _ => False) w w1)) ∧
      ∀ w1, Only (fun _ => False) w w1 → Calls Try.prog 16 #[v, .int .i64 n] w1 fun e w2 => ∃ y, e = .returned (.tuple #[y, .int .i64 q]) ∧ Hid (IntsAt w2 y m f ∧ Only (fun _ => False) w1 w2) := by
  by_cases h : n < 0
  · refine ⟨0, fun _ => 0, 2, by omega, (first_bad u n w h).mono ?_, fun w1 _ => (rfirst_bad v n w1 h).mono ?_⟩
    · rintro e w1 ⟨rfl, rfl⟩
      exact ⟨_, rfl, IntsAt.none _ _, Only.refl _ _⟩
    · rintro e w2 ⟨rfl, rfl⟩
      exact ⟨_, rfl, IntsAt.none _ _, Only.refl _ _⟩
  · obtain ⟨N, rfl⟩ : ∃ N : Nat, n = N := ⟨n.toNat, by omega⟩
    have h1 := first_ok u F N w hu hF
    have h2 := fun w1 (o : Only (fun _ => False) w w1) => rfirst_ok v F N w1 (hv.frame o) hF
    have hle := fr_len F N F.length
    by_cases hl : (fr F N F.length).length < N
    · refine ⟨0, fun _ => 0, 7, by omega, h1.mono ?_, fun w1 o => (h2 w1 o).mono ?_⟩
      · rintro e w1 (⟨_, rfl, ho⟩ | ⟨hl', _⟩)
        · exact ⟨_, rfl, IntsAt.none _ _, ho⟩
        · omega
      · rintro e w1 (⟨_, rfl, ho⟩ | ⟨hl', _⟩)
        · exact ⟨_, rfl, IntsAt.none _ _, ho⟩
        · omega
    · refine ⟨(fr F N F.length).length, fun j => ((fr F N F.length).getD j 0 : Nat), 0, by omega, h1.mono ?_, fun w1 o => (h2 w1 o).mono ?_⟩
      · rintro e w1 (⟨hl', _⟩ | ⟨_, x, rfl, hf, ho⟩)
        · omega
        · exact ⟨x, rfl, hf.ints, ho⟩
      · rintro e w1 (⟨hl', _⟩ | ⟨_, x, rfl, hf, ho⟩)
        · omega
        · exact ⟨x, rfl, hf.ints, ho⟩

set_option maxRecDepth 100000 in
set_option maxHeartbeats 2000000 in
theorem plays_any (id n : Int) (vd vb vu : Value) (D b : List Nat) (F : List Bool) (w : World) (hd : BytesAt w vd D) (hb : BytesAt w vb b) (hu : FlagsAt w vu F) (hF : F.length ≤ 1048576) (hid : (Lit.int .u32 id).wf = true) (hn : (Lit.int .i64 n).wf = true) :
    Calls Try.prog 3 #[.int .u32 id, vd, vb, vu, .int .i64 n] w fun e w' => e = .returned (.bool true) ∧ Below w.heap.size w w' := by
  have b1 := u32_bounds hid
  obtain ⟨i, rfl⟩ : ∃ i : Nat, id = i := ⟨id.toNat, by omega⟩
  have hi : i < 4294967296 := by omega
  have HD : Hid (BytesAt w vd D) := hd
  have HB : Hid (BytesAt w vb b) := hb
  have HU : Hid (FlagsAt w vu F) := hu
  have hem := empty24
  clear hid b1 hn hd hb hu
  go_enter Try.func3, Try.ntmps3
  go_wp2_with fail
  refine (awake_any w).mono ?_
  rintro e w1 ⟨rfl, ho⟩
  have O1 : Hid (Only (fun _ => False) w w1) := ho
  clear ho
  go_wp2_with fail
  refine (own_any vd D w1 (HD.out.frame O1.out)).mono ?_
  rintro e w2 ⟨u2, rfl, hf, ho⟩
  have O2 : Hid (Only (fun _ => False) w w2) := O1.out.trans ho (fun _ _ e => e)
  obtain ⟨Z3, q3, hp, hr⟩ := packs_alike i u2 vd D w2 hi hf.bytes (HD.out.frame O2.out)
  have HRP : Hid _ := hr
  clear ho hf O1 hr
  go_wp2_with fail
  refine hp.mono ?_
  rintro e w3 ⟨x3, rfl, HX3⟩
  have O3 : Hid (Only (fun _ => False) w w3) := O2.out.trans HX3.out.2 (fun _ _ e => e)
  have HC3 : Hid (Calls Try.prog 12 #[.int .u32 i, vd] w3 fun e w2 => ∃ y, e = .returned (.tuple #[y, .int .i64 q3]) ∧ Hid (BytesAt w2 y Z3 ∧ Only (fun _ => False) w3 w2)) := HRP.out w3 HX3.out.2
  clear hp HRP O2
  go_wp2_with fail
  refine (show Calls Try.prog 12 _ _ _ from HC3.out).mono ?_
  rintro e w4 ⟨y4, rfl, HY4⟩
  have O4 : Hid (Only (fun _ => False) w w4) := O3.out.trans HY4.out.2 (fun _ _ e => e)
  have X4 : Hid (BytesAt w4 x3 Z3) := HX3.out.1.frame HY4.out.2
  have Y4 : Hid (BytesAt w4 y4 Z3) := HY4.out.1
  clear HC3 HX3 HY4 O3
  go_wp2_with fail
  refine (own_any vb b w4 (HB.out.frame O4.out)).mono ?_
  rintro e w5 ⟨u5, rfl, hf, ho⟩
  have O5 : Hid (Only (fun _ => False) w w5) := O4.out.trans ho (fun _ _ e => e)
  have X5 : Hid (BytesAt w5 x3 Z3 ∧ BytesAt w5 y4 Z3) := ⟨X4.out.frame ho, Y4.out.frame ho⟩
  obtain ⟨k6, q6, Z6, hp, hr⟩ := unpacks_alike u5 vb b w5 hf.bytes (HB.out.frame O5.out)
  have HRU : Hid _ := hr
  clear ho hf O4 hr X4 Y4
  go_wp2_with fail
  refine hp.mono ?_
  rintro e w6 ⟨x6, rfl, HX6⟩
  have O6 : Hid (Only (fun _ => False) w w6) := O5.out.trans HX6.out.2 (fun _ _ e => e)
  have X6 : Hid (BytesAt w6 x3 Z3 ∧ BytesAt w6 y4 Z3) := ⟨X5.out.1.frame HX6.out.2, X5.out.2.frame HX6.out.2⟩
  have HC6 : Hid (Calls Try.prog 14 #[vb] w6 fun e w2 => ∃ y, e = .returned (.tuple #[.int .u32 k6, y, .int .i64 q6]) ∧ Hid (BytesAt w2 y Z6 ∧ Only (fun _ => False) w6 w2)) := HRU.out w6 HX6.out.2
  clear hp HRU O5 X5
  go_wp2_with fail
  refine (show Calls Try.prog 14 _ _ _ from HC6.out).mono ?_
  rintro e w7 ⟨y7, rfl, HY7⟩
  have ho7 : Only (fun _ => False) w6 w7 := HY7.out.2
  have O7 : Hid (Only (fun _ => False) w w7) := O6.out.trans ho7 (fun _ _ e => e)
  have X7 : Hid ((BytesAt w7 x3 Z3 ∧ BytesAt w7 y4 Z3) ∧ BytesAt w7 x6 Z6 ∧ BytesAt w7 y7 Z6) := ⟨⟨X6.out.1.frame ho7, X6.out.2.frame ho7⟩, HX6.out.1.frame ho7, HY7.out.1⟩
  obtain ⟨a8, c8, w8, hr8, hf8, ho8⟩ := flags_copy (HU.out.frame O7.out)
  have HR8 : Hid _ := hr8
  have O8 : Hid (Only (fun _ => False) w w8) := O7.out.trans ho8 (fun _ _ e => e)
  have X8 : Hid ((BytesAt w8 x3 Z3 ∧ BytesAt w8 y4 Z3) ∧ BytesAt w8 x6 Z6 ∧ BytesAt w8 y7 Z6) := ⟨⟨X7.out.1.1.frame ho8, X7.out.1.2.frame ho8⟩, X7.out.2.1.frame ho8, X7.out.2.2.frame ho8⟩
  obtain ⟨m9, f9, q9, hm9, hp, hr⟩ := firsts_alike _ vu n F w8 hF hf8 (HU.out.frame O8.out)
  have HRF : Hid _ := hr
  have HPF : Hid _ := hp
  obtain ⟨fl, hfl⟩ : ∃ fl, fl = F.length := ⟨_, rfl⟩
  rw [← hfl] at HR8 HPF
  clear ho7 ho8 hf8 hr8 HC6 HX6 HY7 O6 X6 O7 X7 hr hp hfl
  go_wp2_with (first | (at_builtin; go_must (refine wpList_append_run rfl _ _ 24 rfl _ _ (.slice a8 fl c8) rfl rfl HR8.out ?_)) | fail)
  refine (show Calls Try.prog 15 _ _ _ from HPF.out).mono ?_
  rintro e w9 ⟨x9, rfl, HX9⟩
  have ho9 : Only (fun _ => False) w8 w9 := HX9.out.2
  have O9 : Hid (Only (fun _ => False) w w9) := O8.out.trans ho9 (fun _ _ e => e)
  have HC9 : Hid (Calls Try.prog 16 #[vu, .int .i64 n] w9 fun e w2 => ∃ y, e = .returned (.tuple #[y, .int .i64 q9]) ∧ Hid (IntsAt w2 y m9 f9 ∧ Only (fun _ => False) w9 w2)) := HRF.out w9 ho9
  have X9 : Hid ((BytesAt w9 x3 Z3 ∧ BytesAt w9 y4 Z3) ∧ BytesAt w9 x6 Z6 ∧ BytesAt w9 y7 Z6) := ⟨⟨X8.out.1.1.frame ho9, X8.out.1.2.frame ho9⟩, X8.out.2.1.frame ho9, X8.out.2.2.frame ho9⟩
  have I9 : Hid (IntsAt w9 x9 m9 f9) := HX9.out.1
  clear ho9 HPF HRF HX9 X8 O8 HR8
  go_wp2_with fail
  refine (show Calls Try.prog 16 _ _ _ from HC9.out).mono ?_
  rintro e w10 ⟨y10, rfl, HY10⟩
  have ho10 : Only (fun _ => False) w9 w10 := HY10.out.2
  have O10 : Hid (Only (fun _ => False) w w10) := O9.out.trans ho10 (fun _ _ e => e)
  have X10 : Hid ((BytesAt w10 x3 Z3 ∧ BytesAt w10 y4 Z3) ∧ BytesAt w10 x6 Z6 ∧ BytesAt w10 y7 Z6) := ⟨⟨X9.out.1.1.frame ho10, X9.out.1.2.frame ho10⟩, X9.out.2.1.frame ho10, X9.out.2.2.frame ho10⟩
  have I10 : Hid (IntsAt w10 x9 m9 f9 ∧ IntsAt w10 y10 m9 f9) := ⟨I9.out.frame ho10, HY10.out.1⟩
  clear ho10 HC9 HY10 X9 O9 I9
  go_wp2_with fail
  refine (same_any x3 y4 Z3 w10 X10.out.1.1 X10.out.1.2).mono ?_
  rintro e w11 ⟨rfl, ho11⟩
  have O11 : Hid (Only (fun _ => False) w w11) := O10.out.trans ho11 (fun _ _ e => e)
  have X11 : Hid (BytesAt w11 x6 Z6 ∧ BytesAt w11 y7 Z6) := ⟨X10.out.2.1.frame ho11, X10.out.2.2.frame ho11⟩
  have I11 : Hid (IntsAt w11 x9 m9 f9 ∧ IntsAt w11 y10 m9 f9) := ⟨I10.out.1.frame ho11, I10.out.2.frame ho11⟩
  clear ho11 X10 O10 I10
  go_wp2_with fail
  refine (same_any x6 y7 Z6 w11 X11.out.1 X11.out.2).mono ?_
  rintro e w12 ⟨rfl, ho12⟩
  have O12 : Hid (Only (fun _ => False) w w12) := O11.out.trans ho12 (fun _ _ e => e)
  obtain ⟨⟨a1, c1, rfl, f1⟩, a2, c2, rfl, f2⟩ : IntsAt w12 x9 m9 f9 ∧ IntsAt w12 y10 m9 f9 := ⟨I11.out.1.frame ho12, I11.out.2.frame ho12⟩
  have HSI : Hid (Calls Try.prog 18 #[.slice a1 m9 c1, .slice a2 m9 c2] w12 fun e w' => e = .returned (.bool true) ∧ Only (fun _ => False) w12 w') := sameints_any a1 a2 m9 c1 c2 f9 w12 hm9 f1 f2
  clear ho12 X11 O11 I11 f1 f2
  go_wp2_with fail
  refine (show Calls Try.prog 18 _ _ _ from HSI.out).mono ?_
  rintro e w13 ⟨rfl, ho13⟩
  have O13 : Hid (Only (fun _ => False) w w13) := O12.out.trans ho13 (fun _ _ e => e)
  clear ho13 O12 HSI
  go_wp2
  go_ret
  exact ⟨rfl, O13.out.below (fun _ h => h.elim) (Nat.le_refl _)⟩
end Go.Proofs.Ytdcflnfdaijpdaa
