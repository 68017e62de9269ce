import Derived.Test.YtlcglapcmdpkfaaGreatM3
namespace Go.Proofs.YtlcglapcmdpkfaaGreat
open Go.RowKit Go.Maps
set_option linter.unusedSimpArgs false
set_option linter.unusedVariables false
section
variable {w : World} {dk : Nat → Prop} {s p mc mn : Nat} {tv : Value} {x : SS}
theorem StAt.c0 (h : StAt w dk s p mc mn tv x) : w.cell? ⟨s, 0, none⟩ = some (.pointer (some ⟨p, 0, none⟩)) := h.cells 0 _ rfl
theorem StAt.c1 (h : StAt w dk s p mc mn tv x) : w.cell? ⟨s, 1, none⟩ = some (.int .i64 (x.size : Nat)) := h.cells 1 _ rfl
theorem StAt.c2 (h : StAt w dk s p mc mn tv x) : w.cell? ⟨s, 2, none⟩ = some (.int .u64 (x.epoch : Nat)) := h.cells 2 _ rfl
theorem StAt.c3 (h : StAt w dk s p mc mn tv x) : w.cell? ⟨s, 3, none⟩ = some (.int .i64 (x.sector : Nat)) := h.cells 3 _ rfl
theorem StAt.c4 (h : StAt w dk s p mc mn tv x) : w.cell? ⟨s, 4, none⟩ = some tv := h.cells 4 _ rfl
theorem StAt.c5 (h : StAt w dk s p mc mn tv x) : w.cell? ⟨s, 5, none⟩ = some (.map (some mc)) := h.cells 5 _ rfl
theorem StAt.c6 (h : StAt w dk s p mc mn tv x) : w.cell? ⟨s, 6, none⟩ = some (.map (some mn)) := h.cells 6 _ rfl
theorem StAt.fz (h : StAt w dk s p mc mn tv x) (j : Nat) (hj : j < 7) : w.frozen? ⟨s, j, none⟩ = false := by
 have := (h.there j hj).2
 rwa [Nat.zero_add] at this
end
theorem field_at (a : Int) (ad : Option Addr) (n c : Nat) (w : World) : (Instr.field 82 (.agg #[.int .i64 a, .slice ad n c]) 0).run Tryz.prog w = .ok (.int .i64 a) w := by kernel_rfl
theorem field_data (a : Int) (ad : Option Addr) (n c : Nat) (w : World) : (Instr.field 82 (.agg #[.int .i64 a, .slice ad n c]) 1).run Tryz.prog w = .ok (.slice ad n c) w := by kernel_rfl
def pgAt (l : Pgs) (k : Int) : Option (Nat × List Nat) := getL l k
set_option maxRecDepth 100000 in
set_option maxHeartbeats 400000 in
theorem holds_out (s p : Nat) (i : Int) (w : World) (h : w.cell? ⟨s, 0, none⟩ = some (.pointer (some ⟨p, 0, none⟩))) (hi : i < 0 ∨ 728 ≤ i) : Calls Tryz.prog 34 #[.pointer (some ⟨s, 0, none⟩), .int .i64 i] w fun e w' => e = .returned (.int .i64 4) ∧ w' = w := by
 have HR := sreach_out s p i w h hi
 clear h
 go_enter Tryz.func34, Tryz.ntmps34
 go_wp2_with (go_at_call 32; refine HR.mono ?_; rintro e w' ⟨rfl, rfl⟩)
 go_ret
 exact ⟨rfl, rfl⟩
set_option maxRecDepth 100000 in
set_option maxHeartbeats 1000000 in
theorem holds_core (s p mn : Nat) (i : Int) (w : World) (a : Int) (sl : Value) (b : Bool) (h : w.cell? ⟨s, 0, none⟩ = some (.pointer (some ⟨p, 0, none⟩))) (h6 : w.cell? ⟨s, 6, none⟩ = some (.map (some mn))) (hi : 0 ≤ i ∧ i < 728) (hsl : ∃ ad n c, sl = .slice ad n c)
  (hl : (Instr.lookup 77 (.map (some mn)) (.int .i64 i) true).run Tryz.prog w = .ok (.tuple #[.agg #[.int .i64 a, sl], .bool b]) w) :
  Calls Tryz.prog 34 #[.pointer (some ⟨s, 0, none⟩), .int .i64 i] w fun e w' => e = .returned (.int .i64 (if b then 0 else 6)) ∧ Only (fun _ => False) w w' := by
 have HR := sreach_ok s p i w h hi
 obtain ⟨ad, n, c, rfl⟩ := hsl
 clear h
 cases b
 ·go_enter Tryz.func34, Tryz.ntmps34
  go_wp2_with (go_at_call 32; refine HR.mono ?_; rintro e w' ⟨rfl, rfl⟩)
  go_ret
  exact ⟨rfl, (Only.refl _ _).alloc _⟩
 ·go_enter Tryz.func34, Tryz.ntmps34
  go_wp2_with (go_at_call 32; refine HR.mono ?_; rintro e w' ⟨rfl, rfl⟩)
  go_ret
  exact ⟨rfl, (Only.refl _ _).alloc _⟩
theorem PMap.look {w : World} {av : Nat → Prop} {m : Nat} {l : Pgs} (h : PMap w av m l) (i : Int) (hi : 0 ≤ i ∧ i < 728) :
  ∃ (a : Nat) (sl : Value) (zs : List Nat), (Instr.lookup 77 (.map (some m)) (.int .i64 i) true).run Tryz.prog w = .ok (.tuple #[.agg #[.int .i64 (a : Nat), sl], .bool (pgAt l i).isSome]) w ∧
    (Instr.lookup 77 (.map (some m)) (.int .i64 i) false).run Tryz.prog w = .ok (.agg #[.int .i64 (a : Nat), sl]) w ∧ BytesAt w sl zs ∧ (pgAt l i).getD (0, []) = (a, zs) := by
 obtain ⟨sl, h1, h2⟩ := h
 have e1 := h1.look i (by omega)
 have e2 := h1.look1 i (by omega)
 rw [getL_map] at e1 e2
 cases hf : l.find? fun p => p.1 == i with
 | none =>
   rw [hf] at e1 e2
   refine ⟨0, .slice none 0 0, [], ?_, e2, ⟨.inl ⟨rfl, rfl⟩, by simp, fun z hz => by cases hz⟩, by simp [pgAt, getL, hf]⟩
   rw [e1]
   simp [pgAt, getL, hf, pg0]
 | some q =>
   obtain ⟨hq1, hq2⟩ := find_key hf
   rw [hf] at e1 e2
   refine ⟨q.2.1, sl q.1, q.2.2, ?_, e2, (h2 q hq1).1, by simp [pgAt, getL, hf]⟩
   rw [e1]
   simp [pgAt, getL, hf, pgV]
theorem bytes_slice {w : World} {v : Value} {zs : List Nat} (h : BytesAt w v zs) : ∃ ad n c, v = .slice ad n c := by
 obtain ⟨a, c, h, _⟩ := h.form
 exact ⟨_, _, _, h⟩
section
variable {w : World} {dk : Nat → Prop} {s p mc mn : Nat} {tv : Value} {x : SS}
theorem holds_st (h : StAt w dk s p mc mn tv x) (i : Int) (hi : 0 ≤ i ∧ i < 728) :
  Calls Tryz.prog 34 #[.pointer (some ⟨s, 0, none⟩), .int .i64 i] w fun e w' => e = .returned (.int .i64 (if (pgAt x.now i).isSome then 0 else 6)) ∧ Only (fun _ => False) w w' := by
 obtain ⟨a, sl, zs, h1, _, h3, _⟩ := h.now.look i hi
 exact holds_core s p mn i w a sl _ h.c0 h.c6 hi (bytes_slice h3) h1
theorem StAt.still {w' : World} (h : StAt w dk s p mc mn tv x) (ho : Only (fun _ => False) w w') : StAt w' dk s p mc mn tv x := h.frame ho (fun _ _ e => e.elim) (fun _ _ e => e)
set_option maxRecDepth 100000 in
set_option maxHeartbeats 1000000 in
theorem get_some (h : StAt w dk s p mc mn tv x) (i : Int) (hi : 0 ≤ i ∧ i < 728) {a : Nat} {zs : List Nat} (hg : pgAt x.now i = some (a, zs)) :
  Calls Tryz.prog 13 #[.pointer (some ⟨s, 0, none⟩), .int .i64 i] w fun e w' => ∃ u, e = .returned (.tuple #[u, .int .i64 0]) ∧ Fresh w' w.heap.size u zs ∧ Only (fun _ => False) w w' := by
 have HH := holds_st h i hi
 simp only [hg, Option.isSome_some, ↓reduceIte] at HH
 have HS : Hid (StAt w dk s p mc mn tv x) := h
 have HG : Hid _ := hg
 have HI : Hid _ := hi
 clear h hg hi
 go_enter Tryz.func13, Tryz.ntmps13
 go_wp2_with fail
 refine HH.mono ?_
 rintro e w1 ⟨rfl, ho1⟩
 have h1 := HS.out.still ho1
 obtain ⟨a', sl, zs', _, hl, hb, he⟩ := h1.now.look i HI.out
 rw [HG.out] at he
 simp only [Option.getD_some, Prod.mk.injEq] at he
 obtain ⟨rfl, rfl⟩ := he
 obtain ⟨ad, n, c, rfl⟩ := bytes_slice hb
 have h6 := h1.c6
 have hfd := field_data (a : Int) ad n c w1
 have HC : Hid (Calls Tryz.prog 33 _ _ _) := bclone_any _ _ w1 hb
 have HO1 : Hid (Only (fun _ => False) w w1) := ho1
 clear h1 hb HH ho1
 go_wp2_with (go_at_call 33; refine (show Calls Tryz.prog 33 _ _ _ from HC.out).mono ?_; rintro e w2 ⟨u, rfl, hf2, ho2⟩)
 have HF : Hid (Fresh w2 w1.heap.size u zs) := hf2
 have HO2 : Hid (Only (fun _ => False) w1 w2) := ho2
 clear hf2 ho2
 try go_wp2
 go_ret2
 refine ⟨_, rfl, ?_, HO1.out.trans HO2.out (fun _ _ e => e)⟩
 have hs := HO1.out.size
 exact ⟨by
  refine ⟨HF.out.1.1, HF.out.1.2.imp id ?_⟩
  rintro ⟨g, cap, cur, e1, e2, r⟩
  exact ⟨g, cap, cur, e1, by omega, r⟩, HF.out.2⟩
set_option maxRecDepth 100000 in
set_option maxHeartbeats 1000000 in
theorem get_none (h : StAt w dk s p mc mn tv x) (i : Int) (hi : 0 ≤ i ∧ i < 728) (hg : pgAt x.now i = none) :
  Calls Tryz.prog 13 #[.pointer (some ⟨s, 0, none⟩), .int .i64 i] w fun e w' => e = .returned (.tuple #[.slice none 0 0, .int .i64 6]) ∧ Only (fun _ => False) w w' := by
 have HH := holds_st h i hi
 simp only [hg, Option.isSome_none, Bool.false_eq_true, ↓reduceIte] at HH
 clear h hg hi
 go_enter Tryz.func13, Tryz.ntmps13
 go_wp2_with fail
 refine HH.mono ?_
 rintro e w1 ⟨rfl, ho1⟩
 have HO : Hid _ := ho1
 clear HH ho1
 go_wp2
 go_ret2
 exact ⟨rfl, HO.out⟩
set_option maxRecDepth 100000 in
set_option maxHeartbeats 1000000 in
theorem get_out (h : StAt w dk s p mc mn tv x) (i : Int) (hi : i < 0 ∨ 728 ≤ i) :
  Calls Tryz.prog 13 #[.pointer (some ⟨s, 0, none⟩), .int .i64 i] w fun e w' => e = .returned (.tuple #[.slice none 0 0, .int .i64 4]) ∧ w' = w := by
 have HH := holds_out s p i w h.c0 hi
 clear h hi
 go_enter Tryz.func13, Tryz.ntmps13
 go_wp2_with (go_at_call 34; refine HH.mono ?_; rintro e w' ⟨rfl, rfl⟩)
 go_ret2
 exact ⟨rfl, rfl⟩
end
end Go.Proofs.YtlcglapcmdpkfaaGreat
