/-     -/
import Derived.Test.YtbbeoobihdldcaaGreatDoorGaj
namespace Go.Proofs.YtbbeoobihdldcaaGreatDoor
open Go.RowKit
set_option linter.unusedSimpArgs false
set_option linter.unusedVariables false
theorem results_st {fn : Func} {u : Tmp} (h : fn.results = #[.cell u 32]) (tmps : Array Value) (w : World) (B : Nat) {x y z : Value} (h0 : w.cell? ⟨B, 0, none⟩ = some x) (h1 : w.cell? ⟨B, 1, none⟩ = some y) (h2 : w.cell? ⟨B, 2, none⟩ = some z) (ha : tmps.getD u undef = .pointer (some ⟨B, 0, none⟩)) :
  (results fn tmps).run Tryz.prog w = .ok (.agg #[x, y, z]) w := by
 have ha' : tmps[u]?.getD undef = .pointer (some ⟨B, 0, none⟩) := by simpa using ha
 simp [results, h, ha', asAddr, go_sem, loadVar, isAgg, Tryz.underlying32, h0, h1, h2]
def SaP (w w' : World) (M h m B : Nat) (yv rv : Value) : Prop := PuP w w' h m 50 yv rv (yI 2) R0 ∧ MmAt w' M h 2 ∧ w'.heap[B]? = some (.cells #[.slice none 0 0, .slice none 0 0, .int .i64 0] 32)
theorem SaP.step {w w1 w2 : World} {M h m B : Nat} {yv rv rv1 : Value} (h1 : Hs w1 h m 50 yv rv1 (yI 2) R0) (hat : ∀ k, rv1.ownBlock = some k → rv.ownBlock = some k ∨ w.heap.size ≤ k) (o : Only (fun k => k = h ∨ rv.ownBlock = some k) w w1) (g : MmAt w1 M h 2) (b : w1.heap[B]? = some (.cells #[.slice none 0 0, .slice none 0 0, .int .i64 0] 32)) (p : PuP w1 w2 h m 50 yv rv1 (yI 2) R0) : SaP w w2 M h m B yv rv := by
 have p' := p
 obtain ⟨rv2, h2, v2, o2⟩ := p
 have o2' := o2.mono (bs' := fun k => k = h ∨ yv.ownBlock = some k ∨ rv1.ownBlock = some k) (fun k _ q => q.elim .inl (fun q => .inr (.inr q)))
 exact ⟨PuP.trans hat o p', h1.other o2' g (by decide) (by decide), h1.other o2' b (by decide) (by decide)⟩
theorem SaP.cells {w w' : World} {M h m B : Nat} {yv rv : Value} (s : SaP w w' M h m B yv rv) : w'.cell? ⟨M, 1, none⟩ = some (.int .i64 2) ∧ w'.cell? ⟨B, 0, none⟩ = some (.slice none 0 0) ∧ w'.cell? ⟨B, 1, none⟩ = some (.slice none 0 0) ∧ w'.cell? ⟨B, 2, none⟩ = some (.int .i64 0) ∧ ∀ j, w'.frozen? ⟨B, j, none⟩ = false :=
 ⟨s.2.1.cells.2.1, hb_cell s.2.2 0, hb_cell s.2.2 1, hb_cell s.2.2 2, fun j => hb_froz s.2.2 j⟩
set_option maxRecDepth 100000 in
set_option maxHeartbeats 16000000 in
theorem state5 (M h m : Nat) (yv rv : Value) (w : World) (g : MmAt w M h 2) (hE : Hs w h m 50 yv rv (yI 2) R0) : Calls Tryz.prog 8 #[.pointer (some ⟨M, 0, none⟩)] w fun e w' => ∃ x y, e = .returned (.agg #[x, y, .int .i64 2]) ∧ Only (fun k => k = h ∨ rv.ownBlock = some k) w w' := by
 obtain ⟨W, hW⟩ : ∃ W, W = w.alloc (.cells #[.slice none 0 0, .slice none 0 0, .int .i64 0] 32) := ⟨_, rfl⟩
 obtain ⟨B, hB⟩ : ∃ B, B = w.heap.size := ⟨_, rfl⟩
 have oW : Only (fun _ => False) w W := by rw [hW]; exact (Only.refl _ w).alloc _
 have bW : W.heap[B]? = some (.cells #[.slice none 0 0, .slice none 0 0, .int .i64 0] 32) := by rw [hW]; exact alloc_at _ _ _ hB
 have gW := g.keep oW (fun g => g)
 have HN : Hid _ := mnone_any M h 2 W gW
 have m1 : W.cell? ⟨M, 1, none⟩ = some (.int .i64 2) := gW.cells.2.1
 have HV : Hid (∀ W', Only (fun _ => False) W W' → Calls Tryz.prog 24 #[.pointer (some ⟨M, 0, none⟩)] W' fun e w' => ∃ V, e = .returned (.slice (some ⟨V, 0, none⟩) 1 1) ∧ Hid (SaP w w' M h m B yv rv)) := fun W' o => (values5 M h m yv rv W' (gW.keep o (fun g => g)) (hE.only (oW.trans o (fun _ _ g => g)))).mono (by
  rintro e w' ⟨V, rfl, p⟩
  exact ⟨V, rfl, SaP.step (hE.only (oW.trans o (fun _ _ g => g))) (fun k hk => .inl hk) ((oW.trans o (fun _ _ g => g)).mono (fun _ _ g => g.elim)) (gW.keep o (fun g => g)) (o.at bW) p⟩)
 have HC : Hid (∀ w1 W', Hid (SaP w w1 M h m B yv rv) → Only (fun _ => False) w1 W' → Calls Tryz.prog 25 #[.pointer (some ⟨M, 0, none⟩)] W' fun e w' => ∃ C, e = .returned (.slice (some ⟨C, 0, none⟩) 1 1) ∧ Hid (SaP w w' M h m B yv rv)) := fun w1 W' hs o => by
  obtain ⟨⟨rv1, h1, v1, o1⟩, g1, b1⟩ := hs.out
  refine (contents5 M h m yv rv1 W' (g1.keep o (fun g => g)) (h1.only o)).mono ?_
  rintro e w' ⟨C, rfl, p⟩
  exact ⟨C, rfl, SaP.step (h1.only o) v1 (o1.trans o (fun _ _ g => g.elim)) (g1.keep o (fun g => g)) (o.at b1) p⟩
 have HB : Hid (B = w.heap.size) := hB
 clear g hE oW bW gW
 go_enter Tryz.func8, Tryz.ntmps8
 go_wp2_with fail
 rw [← hW, ← hB]
 clear hW hB
 go_wp2_with (go_at_call 19; refine (show Calls Tryz.prog 19 _ _ _ from HN.out).mono ?_; rintro e v1 ⟨rfl, hq⟩; rw [hq]; clear hq)
 go_region_with (first
  | (go_at_call 24; refine (show Calls Tryz.prog 24 _ _ _ from HV.out _ (by repeat' first | exact Only.refl _ _ | apply Only.drew)).mono ?_; rintro e w1 ⟨V, rfl, H1⟩; have n1 := H1.out.cells.1)
  | (go_at_call 25; refine (show Calls Tryz.prog 25 _ _ _ from HC.out w1 _ H1 (by repeat' first | exact Only.refl _ _ | apply Only.drew)).mono ?_; rintro e w2 ⟨C, rfl, H2⟩; obtain ⟨n2, z0, z1, z2, zf⟩ := H2.out.cells; have zf0 := zf 0; have zf1 := zf 1; have zf2 := zf 2; clear zf))
 all_goals
  refine then_at fun X hX => ?_
  have bX : X.heap[B]? = some (.cells #[.slice (some ⟨V, 0, none⟩) 1 1, .slice (some ⟨C, 0, none⟩) 1 1, .int .i64 2] 32) := by
   rw [hX]
   exact set_blk (set_blk (set_blk H2.out.2.2 0 _) 1 _) 2 _
  have oX : Only (fun k => k = h ∨ rv.ownBlock = some k) w X := by
   obtain ⟨⟨rv2, _, _, o2⟩, _, _⟩ := H2.out
   have hb := HB.out
   rw [hX]
   exact ((o2.setCell _ _ (fun q => by simp only at q; omega)).setCell _ _ (fun q => by simp only at q; omega)).setCell _ _ (fun q => by simp only at q; omega)
  have HX : Hid (X.heap[B]? = some (.cells #[.slice (some ⟨V, 0, none⟩) 1 1, .slice (some ⟨C, 0, none⟩) 1 1, .int .i64 2] 32) ∧ Only (fun k => k = h ∨ rv.ownBlock = some k) w X) := ⟨bX, oX⟩
  clear bX oX hX z0 z1 z2 zf0 zf1 zf2 n2 HV HC HN
  go_wp2
  refine bodyPost_ret (results_st rfl _ _ B (hb_cell HX.out.1 0) (hb_cell HX.out.1 1) (hb_cell HX.out.1 2) rfl) rfl ?_
  exact ⟨_, _, rfl, HX.out.2⟩
end Go.Proofs.YtbbeoobihdldcaaGreatDoor
namespace Go.Proofs.YtbbeoobihdldcaaGreatDoor
open Go.RowKit
set_option linter.unusedSimpArgs false
set_option linter.unusedVariables false
theorem field_n (x y : Value) (W : World) : (Instr.field 32 (.agg #[x, y, .int .i64 2]) 2).run Tryz.prog W = .ok (.int .i64 2) W := by kernel_rfl
set_option maxRecDepth 100000 in
set_option maxHeartbeats 8000000 in
theorem sawake (w : World) (hT : Tb w) : Calls Tryz.prog 14 #[] w fun e w' => e = .returned (.bool true) ∧ Only (fun _ => False) w w' := by
 have HN : Hid _ := snew_any 50 (by decide) (by decide) w
 have HT : Hid (Tb w) := hT
 clear hT
 go_enter Tryz.func14, Tryz.ntmps14
 go_wp2_with fail
 refine (show Calls Tryz.prog 34 _ _ _ from HN.out).mono ?_
 rintro e w1 ⟨M, h, m, rfl, H1⟩
 have HP : Hid (Calls Tryz.prog 9 #[.pointer (some ⟨M, 0, none⟩), .iface 36 (.agg #[.int .i64 5])] w1 fun e w' => e = .returned (.int .i64 0) ∧ ∃ rv2, Hid (MmAt w' M h 1 ∧ Hs w' h m 50 (.slice none 0 0) rv2 [] R1 ∧ (∀ k, rv2.ownBlock = some k → w.heap.size ≤ k) ∧ Only (fun _ => False) w w')) := (push5 M h m 1 50 (.slice none 0 0) (.slice none 0 0) [] w1 H1.out.1 H1.out.2.1 (HT.out.frame H1.out.2.2.2.2.2)).mono (by
  rintro e w2 ⟨rfl, rv2, h2, v2, o2⟩
  obtain ⟨g1, e1, gM, gh, gm, o1⟩ := H1.out
  have s1 := o1.size
  have nM := g1.ne e1
  refine ⟨rfl, rv2, g1.keep o2 (fun q => q.elim nM.1 (fun q => nM.2.2 q)), h2, fun k hk => ?_, o1.trans o2 (fun k hk q => ?_)⟩
  ·rcases v2 k hk with q | q
   ·simp [Value.ownBlock] at q
   ·omega
  ·rcases q with q | q
   ·omega
   ·simp [Value.ownBlock] at q)
 clear HN HT
 go_wp2_with fail
 refine (show Calls Tryz.prog 9 _ _ _ from HP.out).mono ?_
 rintro e w2 ⟨rfl, rv2, H2⟩
 have HB : Hid (Calls Tryz.prog 11 #[.pointer (some ⟨M, 0, none⟩)] w2 fun e w' => e = .returned (.int .i64 0) ∧ ∃ yv3 rv3, Hid (MmAt w' M h 2 ∧ Hs w' h m 50 yv3 rv3 (yI 2) R0 ∧ (∀ k, rv3.ownBlock = some k → w.heap.size ≤ k) ∧ Only (fun _ => False) w w')) := (box5 M h m (.slice none 0 0) rv2 w2 H2.out.1 H2.out.2.1).mono (by
  rintro e w3 ⟨rfl, g3, yv3, rv3, e3, v3, o3⟩
  obtain ⟨_, _, gM, gh, gm, _⟩ := H1.out
  obtain ⟨_, _, v2, o2⟩ := H2.out
  have s2 := o2.size
  refine ⟨rfl, yv3, rv3, g3, e3, fun k hk => ?_, o2.trans o3 (fun k hk q => ?_)⟩
  ·rcases v3 k hk with q | q
   ·exact v2 k q
   ·omega
  ·rcases q with q | q | q | q
   ·omega
   ·omega
   ·simp [Value.ownBlock] at q
   ·have := v2 k q
    omega)
 clear HP
 go_wp2_with fail
 refine (show Calls Tryz.prog 11 _ _ _ from HB.out).mono ?_
 rintro e w3 ⟨rfl, yv3, rv3, H3⟩
 have HD : Hid (Calls Tryz.prog 15 #[.pointer (some ⟨M, 0, none⟩)] w3 fun e w' => e = .returned (.int .i64 1) ∧ w' = w3) := depth_any M h m 2 50 yv3 rv3 (yI 2) R0 w3 H3.out.1 H3.out.2.1
 have HS : Hid (Calls Tryz.prog 8 #[.pointer (some ⟨M, 0, none⟩)] w3 fun e w' => ∃ x y, e = .returned (.agg #[x, y, .int .i64 2]) ∧ Hid (Only (fun _ => False) w w')) := (state5 M h m yv3 rv3 w3 H3.out.1 H3.out.2.1).mono (by
  rintro e w4 ⟨x, y, rfl, o4⟩
  obtain ⟨_, _, gM, gh, gm, _⟩ := H1.out
  obtain ⟨_, _, v3, o3⟩ := H3.out
  refine ⟨x, y, rfl, o3.trans o4 (fun k hk q => ?_)⟩
  rcases q with q | q
  ·omega
  ·have := v3 k q
   omega)
 have hfd := field_n
 clear HB
 go_wp2_with (first
  | (go_at_call 15; refine (show Calls Tryz.prog 15 _ _ _ from HD.out).mono ?_; rintro e v1 ⟨rfl, hq⟩; rw [hq]; clear hq)
  | (go_at_call 8; refine (show Calls Tryz.prog 8 _ _ _ from HS.out).mono ?_; rintro e w4 ⟨x, y, rfl, H4⟩))
 go_ret
 exact ⟨rfl, H4.out⟩
end Go.Proofs.YtbbeoobihdldcaaGreatDoor
namespace Go.Proofs.YtbbeoobihdldcaaGreatDoor
open Go.RowKit
set_option linter.unusedSimpArgs false
set_option linter.unusedVariables false
theorem znone (w : World) : Calls Tryz.prog 19 #[.pointer none] w fun e w' => e = .returned (.bool true) ∧ w' = w := by
 go_enter Tryz.func19, Tryz.ntmps19
 go_wp2
 go_ret
 exact ⟨rfl, rfl⟩
theorem zdepth (w : World) : Calls Tryz.prog 15 #[.pointer none] w fun e w' => e = .returned (.int .i64 0) ∧ w' = w := by
 have H := znone
 go_enter Tryz.func15, Tryz.ntmps15
 go_wp2_with (go_at_call 19; refine (H _).mono ?_; rintro e w1 ⟨rfl, hq⟩; rw [hq]; clear hq)
 go_ret
 exact ⟨rfl, rfl⟩
theorem zlive (w : World) : Calls Tryz.prog 16 #[.pointer none] w fun e w' => e = .returned (.int .i64 0) ∧ w' = w := by
 have H := znone
 go_enter Tryz.func16, Tryz.ntmps16
 go_wp2_with (go_at_call 19; refine (H _).mono ?_; rintro e w1 ⟨rfl, hq⟩; rw [hq]; clear hq)
 go_ret
 exact ⟨rfl, rfl⟩
theorem zcopy (w : World) : Calls Tryz.prog 17 #[.pointer none] w fun e w' => e = .returned (.pointer none) ∧ w' = w := by
 have H := znone
 go_enter Tryz.func17, Tryz.ntmps17
 go_wp2_with (go_at_call 19; refine (H _).mono ?_; rintro e w1 ⟨rfl, hq⟩; rw [hq]; clear hq)
 go_ret
 exact ⟨rfl, rfl⟩
theorem zpick (w : World) : Calls Tryz.prog 5 #[.pointer none, .int .i64 0] w fun e w' => e = .returned (.tuple #[.nilIface, .int .i64 2]) ∧ w' = w := by
 have H := znone
 go_enter Tryz.func5, Tryz.ntmps5
 go_wp2_with (go_at_call 19; refine (H _).mono ?_; rintro e w1 ⟨rfl, hq⟩; rw [hq]; clear hq)
 go_ret2
 exact ⟨rfl, rfl⟩
theorem zpop (w : World) : Calls Tryz.prog 4 #[.pointer none] w fun e w' => e = .returned (.tuple #[.nilIface, .int .i64 2]) ∧ w' = w := by
 have H := zpick
 go_enter Tryz.func4, Tryz.ntmps4
 go_wp2_with (go_at_call 5; refine (H _).mono ?_; rintro e w1 ⟨rfl, hq⟩; rw [hq]; clear hq)
 go_ret2
 exact ⟨rfl, rfl⟩
theorem zminor (w : World) : Calls Tryz.prog 6 #[.pointer none] w fun e w' => e = .returned (.tuple #[]) ∧ w' = w := by
 have H := znone
 go_enter Tryz.func6, Tryz.ntmps6
 go_wp2_with (go_at_call 19; refine (H _).mono ?_; rintro e w1 ⟨rfl, hq⟩; rw [hq]; clear hq)
 go_end0
 exact ⟨rfl, rfl⟩
theorem zmajor (w : World) : Calls Tryz.prog 7 #[.pointer none] w fun e w' => e = .returned (.tuple #[]) ∧ w' = w := by
 have H := znone
 go_enter Tryz.func7, Tryz.ntmps7
 go_wp2_with (go_at_call 19; refine (H _).mono ?_; rintro e w1 ⟨rfl, hq⟩; rw [hq]; clear hq)
 go_end0
 exact ⟨rfl, rfl⟩
theorem zstate (w : World) : Calls Tryz.prog 8 #[.pointer none] w fun e w' => e = .returned (.agg #[.slice none 0 0, .slice none 0 0, .int .i64 0]) ∧ Only (fun _ => False) w w' := by
 have H := znone
 obtain ⟨W, hW⟩ : ∃ W, W = w.alloc (.cells #[.slice none 0 0, .slice none 0 0, .int .i64 0] 32) := ⟨_, rfl⟩
 have bW : W.heap[w.heap.size]? = some (.cells #[.slice none 0 0, .slice none 0 0, .int .i64 0] 32) := by rw [hW]; exact alloc_at _ _ _ rfl
 have HX : Hid (W.heap[w.heap.size]? = some (.cells #[.slice none 0 0, .slice none 0 0, .int .i64 0] 32) ∧ Only (fun _ => False) w W) := ⟨bW, by rw [hW]; exact (Only.refl _ w).alloc _⟩
 clear bW
 go_enter Tryz.func8, Tryz.ntmps8
 go_wp2_with (go_at_call 19; refine (H _).mono ?_; rintro e w1 ⟨rfl, hq⟩; rw [hq]; clear hq)
 rw [← hW]
 refine bodyPost_ret (results_st rfl _ _ w.heap.size (hb_cell HX.out.1 0) (hb_cell HX.out.1 1) (hb_cell HX.out.1 2) rfl) rfl ?_
 exact ⟨rfl, HX.out.2⟩
theorem zreplace (a : Option Addr) (n c : Nat) (w : World) : Calls Tryz.prog 10 #[.pointer none, .int .i64 0, .slice a n c] w fun e w' => e = .returned (.int .i64 2) ∧ w' = w := by
 have H := znone
 go_enter Tryz.func10, Tryz.ntmps10
 go_wp2_with (go_at_call 19; refine (H _).mono ?_; rintro e w1 ⟨rfl, hq⟩; rw [hq]; clear hq)
 go_ret
 exact ⟨rfl, rfl⟩
theorem zpush (w : World) : Calls Tryz.prog 9 #[.pointer none, .iface 36 (.agg #[.int .i64 0])] w fun e w' => e = .returned (.int .i64 2) ∧ Only (fun _ => False) w w' := by
 have H := zreplace
 go_enter Tryz.func9, Tryz.ntmps9
 go_wp2_with (go_at_call 10; refine (H _ _ _ _).mono ?_; rintro e w1 ⟨rfl, hq⟩; rw [hq]; clear hq)
 go_ret
 exact ⟨rfl, (Only.refl _ w).alloc _⟩
theorem zbox (w : World) : Calls Tryz.prog 11 #[.pointer none] w fun e w' => e = .returned (.int .i64 2) ∧ Only (fun _ => False) w w' := by
 have H := znone
 go_enter Tryz.func11, Tryz.ntmps11
 go_wp2_with (go_at_call 19; refine (H _).mono ?_; rintro e w1 ⟨rfl, hq⟩; rw [hq]; clear hq)
 go_ret
 exact ⟨rfl, (Only.refl _ w).alloc _⟩
theorem zontop (k : Int) (w : World) : Calls Tryz.prog 31 #[.pointer none, .int .i64 k] w fun e w' => e = .returned (.int .i64 2) ∧ w' = w := by
 have H := znone
 go_enter Tryz.func31, Tryz.ntmps31
 go_wp2_with (go_at_call 19; refine (H _).mono ?_; rintro e w1 ⟨rfl, hq⟩; rw [hq]; clear hq)
 go_ret
 exact ⟨rfl, rfl⟩
theorem zget (w : World) : Calls Tryz.prog 12 #[.pointer none] w fun e w' => e = .returned (.int .i64 2) ∧ w' = w := by
 have H := zontop
 go_enter Tryz.func12, Tryz.ntmps12
 go_wp2_with (go_at_call 31; refine (H _ _).mono ?_; rintro e w1 ⟨rfl, hq⟩; rw [hq]; clear hq)
 go_ret
 exact ⟨rfl, rfl⟩
theorem zput (w : World) : Calls Tryz.prog 13 #[.pointer none] w fun e w' => e = .returned (.int .i64 2) ∧ w' = w := by
 have H := zontop
 go_enter Tryz.func13, Tryz.ntmps13
 go_wp2_with (go_at_call 31; refine (H _ _).mono ?_; rintro e w1 ⟨rfl, hq⟩; rw [hq]; clear hq)
 go_ret
 exact ⟨rfl, rfl⟩
end Go.Proofs.YtbbeoobihdldcaaGreatDoor
namespace Go.Proofs.YtbbeoobihdldcaaGreatDoor
open Go.RowKit
set_option linter.unusedSimpArgs false
set_option linter.unusedVariables false
set_option maxRecDepth 100000 in
set_option maxHeartbeats 16000000 in
theorem snil_walk (w : World) (hT : Tb w) : Calls Tryz.prog 3 #[] w fun e w' => e = .returned (.bool true) ∧ Only (fun _ => False) w w' := by
 have H1 := zpop
 have H2 := zpick
 have H3 := zminor
 have H4 := zmajor
 have H5 := zstate
 have HA : Hid (∀ W, Only (fun _ => False) w W → Calls Tryz.prog 14 #[] W fun e w' => e = .returned (.bool true) ∧ Only (fun _ => False) W w') := fun W o => sawake W (hT.frame o)
 clear hT
 go_enter Tryz.func3, Tryz.ntmps3
 go_wp2_with (first
  | (go_at_call 4; refine (H1 _).mono ?_; rintro e v1 ⟨rfl, hq⟩; rw [hq]; clear hq)
  | (go_at_call 5; refine (H2 _).mono ?_; rintro e v1 ⟨rfl, hq⟩; rw [hq]; clear hq)
  | (go_at_call 6; refine (H3 _).mono ?_; rintro e v1 ⟨rfl, hq⟩; rw [hq]; clear hq)
  | (go_at_call 7; refine (H4 _).mono ?_; rintro e v1 ⟨rfl, hq⟩; rw [hq]; clear hq))
 refine (show Calls Tryz.prog 8 _ _ _ from H5 _).mono ?_
 rintro e w1 ⟨rfl, o1⟩
 obtain ⟨W, hW⟩ : ∃ W, W = w1.alloc (.cells #[.slice none 0 0, .slice none 0 0, .int .i64 0] 32) := ⟨_, rfl⟩
 obtain ⟨S, hS⟩ : ∃ S, S = w1.heap.size := ⟨_, rfl⟩
 have bW : W.heap[S]? = some (.cells #[.slice none 0 0, .slice none 0 0, .int .i64 0] 32) := by rw [hW]; exact alloc_at _ _ _ hS
 have HW : Hid (Only (fun _ => False) w W ∧ W.heap[S]? = some (.cells #[.slice none 0 0, .slice none 0 0, .int .i64 0] 32)) := ⟨o1.trans (by rw [hW]; exact (Only.refl _ w1).alloc _) (fun _ _ g => g), bW⟩
 clear H1 H2 H3 H4 H5 o1 bW
 have H6 := zpush
 have H7 := zreplace
 have H8 := zbox
 have H9 := zget
 have H10 := zput
 have H11 := zdepth
 have H12 := zlive
 have H13 := zcopy
 go_wp2_with fail
 rw [← hW, ← hS]
 clear hW hS
 go_wp2_with (first
  | (go_at_call 9; refine (H6 _).mono ?_; rintro e w2 ⟨rfl, o2⟩; have O2 : Hid (Only (fun _ => False) W w2) := o2; clear o2)
  | (go_at_call 10; refine (H7 _ _ _ _).mono ?_; rintro e v1 ⟨rfl, hq⟩; rw [hq]; clear hq)
  | (go_at_call 11; refine (H8 _).mono ?_; rintro e w3 ⟨rfl, o3⟩; have O3 : Hid (Only (fun _ => False) W w3) := O2.out.trans o3 (fun _ _ g => g); clear o3)
  | (go_at_call 12; refine (H9 _).mono ?_; rintro e v1 ⟨rfl, hq⟩; rw [hq]; clear hq)
  | (go_at_call 13; refine (H10 _).mono ?_; rintro e v1 ⟨rfl, hq⟩; rw [hq]; clear hq)
  | (go_at_call 14; refine (show Calls Tryz.prog 14 _ _ _ from HA.out _ (HW.out.1.trans O3.out (fun _ _ g => g))).mono ?_; rintro e w4 ⟨rfl, o4⟩; have O4 : Hid (Only (fun _ => False) w w4) := (HW.out.1.trans O3.out (fun _ _ g => g)).trans o4 (fun _ _ g => g); have b4 := (O3.out.trans o4 (fun _ _ g => g)).at HW.out.2; have y0 : w4.cell? ⟨S, 0, none⟩ = some (.slice none 0 0) := hb_cell b4 0; have y2 : w4.cell? ⟨S, 2, none⟩ = some (.int .i64 0) := hb_cell b4 2; clear b4 o4)
  | (go_at_call 15; refine (H11 _).mono ?_; rintro e v1 ⟨rfl, hq⟩; rw [hq]; clear hq)
  | (go_at_call 16; refine (H12 _).mono ?_; rintro e v1 ⟨rfl, hq⟩; rw [hq]; clear hq)
  | (go_at_call 17; refine (H13 _).mono ?_; rintro e v1 ⟨rfl, hq⟩; rw [hq]; clear hq))
 go_ret
 exact ⟨rfl, O4.out⟩
end Go.Proofs.YtbbeoobihdldcaaGreatDoor
