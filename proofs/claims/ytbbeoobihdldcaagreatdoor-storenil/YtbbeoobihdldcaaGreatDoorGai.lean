/-          -/
import Derived.Test.YtbbeoobihdldcaaGreatDoorGah
import Derived.Test.YtbbeoobihdldcaaGreatDoorGaa
import Derived.Maps.OwnSet
import Derived.Maps.Keyed
namespace Go.Proofs.YtbbeoobihdldcaaGreatDoor
open Go.RowKit
set_option linter.unusedSimpArgs false
set_option linter.unusedVariables false
theorem AlP.after {w w1 w' : World} {h m : Nat} {cap : Int} {yv rv : Value} {y r : List (Bool × Nat)} (o : Only (fun _ => False) w w1) (p : AlP w1 w' h m cap yv rv y r) : AlP w w' h m cap yv rv y r := by
 obtain ⟨yv', rv', a, b1, b2, c⟩ := p
 have := o.size
 exact ⟨yv', rv', a, fun k hk => (b1 k hk).elim .inl (fun q => .inr (by omega)), fun k hk => (b2 k hk).elim .inl (fun q => .inr (by omega)), (o.mono (bs' := fun k => k = h ∨ yv.ownBlock = some k ∨ rv.ownBlock = some k) (fun _ _ g => g.elim)).trans c (fun _ _ g => g)⟩
theorem alloc_old2 (W : World) (o : Obj) (n : Nat) (x : Obj) (h : W.heap[n]? = some x) : (W.alloc o).heap[n]? = some x := ((Only.refl (fun _ => False) W).alloc o).at h
set_option maxRecDepth 100000 in
set_option maxHeartbeats 8000000 in
theorem newbox5 (M h m A B : Nat) (yv rv : Value) (w : World) (g : MmAt w M h 1) (ca : w.heap[A]? = some (.cells #[.pointer (some ⟨M, 0, none⟩)] 22)) (cb : w.heap[B]? = some (.cells #[.int .i64 0] 3)) (hE : Hs w h m 50 yv rv [] R1) :
  Calls Tryz.prog 28 #[.agg #[.pointer (some ⟨h, 0, none⟩), .nilFunc], .int .i64 1, .func (.func 29) #[] #[.pointer (some ⟨A, 0, none⟩), .pointer (some ⟨B, 0, none⟩)]] w fun e w' => e = .returned (.int .i64 0) ∧ AlP w w' h m 50 yv rv (yI 2) R2 := by
 obtain ⟨W, hW⟩ : ∃ W, W = ((w.alloc (.cells #[.pointer (some ⟨h, 0, none⟩), .nilFunc] 57)).alloc (.cells #[.int .i64 1] 3)).alloc (.cells #[.func (.func 29) #[] #[.pointer (some ⟨A, 0, none⟩), .pointer (some ⟨B, 0, none⟩)]] 38) := ⟨_, rfl⟩
 have o1 := (Only.refl (fun _ => False) w).alloc (.cells #[.pointer (some ⟨h, 0, none⟩), .nilFunc] 57)
 have oW : Only (fun _ => False) w W := by rw [hW]; exact (o1.alloc _).alloc _
 have da : W.heap[w.heap.size]? = some (.cells #[.pointer (some ⟨h, 0, none⟩), .nilFunc] 57) := by rw [hW]; exact alloc_old2 _ _ _ _ (alloc_old2 _ _ _ _ (alloc_at _ _ _ rfl))
 have db : W.heap[w.heap.size + 1]? = some (.cells #[.int .i64 1] 3) := by rw [hW]; exact alloc_old2 _ _ _ _ (alloc_at _ _ _ (by simp))
 have dc : W.heap[w.heap.size + 1 + 1]? = some (.cells #[.func (.func 29) #[] #[.pointer (some ⟨A, 0, none⟩), .pointer (some ⟨B, 0, none⟩)]] 38) := by rw [hW]; exact alloc_at _ _ _ (by simp)
 have HO : Hid (Calls Tryz.prog 64 #[.agg #[.pointer (some ⟨h, 0, none⟩), .nilFunc], .int .i64 4, .int .i64 2, .bool false, .func (.func 65) #[] #[.pointer (some ⟨w.heap.size, 0, none⟩), .pointer (some ⟨w.heap.size + 1, 0, none⟩), .pointer (some ⟨w.heap.size + 1 + 1, 0, none⟩)]] W fun e w' => e = .returned (.int .i64 0) ∧ AlP w w' h m 50 yv rv (yI 2) R2) := (object5 M h m A B _ _ _ yv rv W ⟨g.keep oW (fun g => g), oW.at ca, oW.at cb, da, db, dc⟩ (hE.only oW)).mono (by rintro e w' ⟨rfl, p⟩; exact ⟨rfl, p.after oW⟩)
 have n0 : W.cell? ⟨w.heap.size, 0, none⟩ = some (.pointer (some ⟨h, 0, none⟩)) := hb_cell da 0
 have n1 : W.cell? ⟨w.heap.size, 1, none⟩ = some .nilFunc := hb_cell da 1
 clear g ca cb hE o1 oW da db dc
 obtain ⟨N, hN⟩ : ∃ N, N = w.heap.size := ⟨_, rfl⟩
 rw [← hN] at HO n0 n1
 have hst : ∀ (a : Addr) (f : Fn) (b : Array Value) (W : World), (store a (.func f #[] b)).run Tryz.prog W = stored Tryz.prog W a (.func f #[] b) .plain := fun a f b W => run_store Tryz.prog W a _ _ rfl
 go_enter Tryz.func28, Tryz.ntmps28
 go_wp2_with fail
 rw [← hW, ← hN]
 clear hW hN
 go_wp2_with fail
 refine (show Calls Tryz.prog 64 _ _ _ from HO.out).mono ?_
 rintro e w1 ⟨rfl, p⟩
 have HP : Hid (AlP w w1 h m 50 yv rv (yI 2) R2) := p
 clear p HO
 go_wp2
 go_ret
 exact ⟨rfl, HP.out⟩
theorem top_any (M h m : Nat) (n cap : Int) (yv rv : Value) (y r : List (Bool × Nat)) (t : Nat) (ht : r.length = t + 1) (hr : r.length ≤ 100000) (w : World) (g : MmAt w M h n) (hE : Hs w h m cap yv rv y r) : Calls Tryz.prog 21 #[.pointer (some ⟨M, 0, none⟩)] w fun e w' => e = .returned (.int .i64 (t : Int)) ∧ w' = w := by
 obtain ⟨c0, _, _⟩ := g.cells
 obtain ⟨_, a, c, hrv⟩ := hE.sl
 have HR := roots_any h a r.length c w (hrv ▸ hE.cells.2.2.2.2)
 rw [ht] at HR
 have w1 : IntKind.i64.wrap (((t + 1 : Nat) : Int) - 1) = (t : Int) := by rw [IntKind.wrap_i64]; omega
 obtain ⟨q, hq⟩ : ∃ q, q = t + 1 := ⟨_, rfl⟩
 rw [← hq] at w1 HR
 clear g hE hrv ht hr hq
 go_enter Tryz.func21, Tryz.ntmps21
 go_wp2_with (go_at_call 35; refine HR.mono ?_; rintro e w1 ⟨rfl, hq⟩; rw [hq]; clear hq)
 go_ret
 exact ⟨rfl, rfl⟩
set_option maxRecDepth 100000 in
set_option maxHeartbeats 8000000 in
theorem box5 (M h m : Nat) (yv rv : Value) (w : World) (g : MmAt w M h 1) (hE : Hs w h m 50 yv rv [] R1) :
  Calls Tryz.prog 11 #[.pointer (some ⟨M, 0, none⟩)] w fun e w' => e = .returned (.int .i64 0) ∧ MmAt w' M h 2 ∧ ∃ yv' rv', Hs w' h m 50 yv' rv' (yI 2) [(true, 0)] ∧ (∀ k, rv'.ownBlock = some k → rv.ownBlock = some k ∨ w.heap.size ≤ k) ∧ Only (fun k => k = M ∨ k = h ∨ yv.ownBlock = some k ∨ rv.ownBlock = some k) w w' := by
 obtain ⟨W1, hW1⟩ : ∃ W1, W1 = w.alloc (.cells #[.pointer (some ⟨M, 0, none⟩)] 22) := ⟨_, rfl⟩
 obtain ⟨A, hA⟩ : ∃ A, A = w.heap.size := ⟨_, rfl⟩
 have o1 : Only (fun _ => False) w W1 := by rw [hW1]; exact (Only.refl _ w).alloc _
 have b1 : W1.heap[A]? = some (.cells #[.pointer (some ⟨M, 0, none⟩)] 22) := by rw [hW1]; exact alloc_at _ _ _ hA
 have g1 := g.keep o1 (fun g => g)
 have e1 := hE.only o1
 have a1 : W1.cell? ⟨A, 0, none⟩ = some (.pointer (some ⟨M, 0, none⟩)) := hb_cell b1 0
 have m1 : W1.cell? ⟨M, 1, none⟩ = some (.int .i64 1) := g1.cells.2.1
 have HN : Hid _ := mnone_any M h 1 W1 g1
 have HD : Hid (Calls Tryz.prog 15 #[.pointer (some ⟨M, 0, none⟩)] W1 fun e w' => e = .returned (.int .i64 1) ∧ w' = W1) := depth_any M h m 1 50 yv rv [] R1 W1 g1 e1
 have HT : Hid (Calls Tryz.prog 21 #[.pointer (some ⟨M, 0, none⟩)] W1 fun e w' => e = .returned (.int .i64 0) ∧ w' = W1) := top_any M h m 1 50 yv rv [] R1 0 rfl (by decide) W1 g1 e1
 obtain ⟨W2, hW2⟩ : ∃ W2, W2 = W1.alloc (.cells #[.int .i64 0] 3) := ⟨_, rfl⟩
 obtain ⟨B, hB⟩ : ∃ B, B = W1.heap.size := ⟨_, rfl⟩
 have o2 : Only (fun _ => False) W1 W2 := by rw [hW2]; exact (Only.refl _ W1).alloc _
 have b2 : W2.heap[B]? = some (.cells #[.int .i64 0] 3) := by rw [hW2]; exact alloc_at _ _ _ hB
 have a1A : ∀ x, (W1.alloc x).cell? ⟨A, 0, none⟩ = some (.pointer (some ⟨M, 0, none⟩)) := fun x => ((Only.refl (fun _ => False) W1).alloc x).cell a1 (fun g => g)
 have m0A : ∀ x, (W1.alloc x).cell? ⟨M, 0, none⟩ = some (.pointer (some ⟨h, 0, none⟩)) := fun x => (g1.keep ((Only.refl (fun _ => False) W1).alloc x) (fun g => g)).cells.1
 obtain ⟨W3, hW3⟩ : ∃ W3, W3 = W2.alloc (.cells #[.pointer (some ⟨h, 0, none⟩), .nilFunc] 57) := ⟨_, rfl⟩
 obtain ⟨C, hC⟩ : ∃ C, C = B + 1 := ⟨_, rfl⟩
 have o3 : Only (fun _ => False) W2 W3 := by rw [hW3]; exact (Only.refl _ W2).alloc _
 have b3 : W3.heap[C]? = some (.cells #[.pointer (some ⟨h, 0, none⟩), .nilFunc] 57) := by rw [hW3]; exact alloc_at _ _ _ (by rw [hC, hB, hW2]; simp)
 have oo : Only (fun _ => False) w W3 := (o1.trans o2 (fun _ _ g => g)).trans o3 (fun _ _ g => g)
 have x0 : W3.cell? ⟨C, 0, none⟩ = some (.pointer (some ⟨h, 0, none⟩)) := hb_cell b3 0
 have x1 : W3.cell? ⟨C, 1, none⟩ = some .nilFunc := hb_cell b3 1
 have x2 : W3.cell? ⟨A, 0, none⟩ = some (.pointer (some ⟨M, 0, none⟩)) := hb_cell ((o2.trans o3 (fun _ _ g => g)).at b1) 0
 have x3 : W3.cell? ⟨M, 1, none⟩ = some (.int .i64 1) := (g.keep oo (fun g => g)).cells.2.1
 have HX : Hid (∀ W, Only (fun _ => False) W3 W → Calls Tryz.prog 28 #[.agg #[.pointer (some ⟨h, 0, none⟩), .nilFunc], .int .i64 1, .func (.func 29) #[] #[.pointer (some ⟨A, 0, none⟩), .pointer (some ⟨B, 0, none⟩)]] W fun e w' => e = .returned (.int .i64 0) ∧ w'.cell? ⟨A, 0, none⟩ = some (.pointer (some ⟨M, 0, none⟩)) ∧ Hid (AlP w w' h m 50 yv rv (yI 2) R2 ∧ MmAt w' M h 1 ∧ w'.heap[A]? = some (.cells #[.pointer (some ⟨M, 0, none⟩)] 22))) := fun W o => by
  have ow := oo.trans o (fun _ _ g => g)
  have eW := hE.only ow
  refine (newbox5 M h m A B yv rv W (g.keep ow (fun g => g)) (o.at ((o2.trans o3 (fun _ _ g => g)).at b1)) (o.at (o3.at b2)) eW).mono ?_
  rintro e w' ⟨rfl, p⟩
  obtain ⟨yv', rv', h5, u1, u2, o5⟩ := p
  have bA := eW.other o5 (o.at ((o2.trans o3 (fun _ _ g => g)).at b1)) (by decide) (by decide)
  exact ⟨rfl, hb_cell bA 0, AlP.after ow ⟨yv', rv', h5, u1, u2, o5⟩, eW.other o5 (g.keep ow (fun g => g)) (by decide) (by decide), bA⟩
 have HG : Hid (M < w.heap.size) := g.lt
 clear g hE o1 b1 g1 e1 o2 b2 o3 b3 oo
 have hst : ∀ (a : Addr) (W : World), (store a .nilFunc).run Tryz.prog W = stored Tryz.prog W a .nilFunc .plain := fun a W => run_store Tryz.prog W a _ _ rfl
 have wr2 : IntKind.i64.wrap (1 + 1) = 2 := by decide
 go_enter Tryz.func11, Tryz.ntmps11
 go_wp2_with fail
 rw [← hW1, ← hA]
 clear hW1 hA
 go_wp2_with (first
  | (go_at_call 19; refine (show Calls Tryz.prog 19 _ _ _ from HN.out).mono ?_; rintro e v1 ⟨rfl, hq⟩; rw [hq]; clear hq)
  | (go_at_call 15; refine (show Calls Tryz.prog 15 _ _ _ from HD.out).mono ?_; rintro e v1 ⟨rfl, hq⟩; rw [hq]; clear hq)
  | (go_at_call 21; refine (show Calls Tryz.prog 21 _ _ _ from HT.out).mono ?_; rintro e v1 ⟨rfl, hq⟩; rw [hq]; clear hq))
 rw [← hW2, ← hW3, ← hB, ← hC]
 clear hW2 hW3 hB hC HN HD HT
 go_region_with (go_at_call 28; refine (show Calls Tryz.prog 28 _ _ _ from HX.out _ (by repeat' first | exact Only.refl _ _ | apply Only.alloc | apply Only.drew)).mono ?_; rintro e w5 ⟨rfl, y0, H5⟩)
 all_goals
  obtain ⟨⟨yv5, rv5, e5, u1, u2, o5⟩, g5, bA⟩ := H5.out
  have y1 : w5.cell? ⟨M, 0, none⟩ = some (.pointer (some ⟨h, 0, none⟩)) := g5.cells.1
  have HSl : Hid (Calls Tryz.prog 18 #[.pointer (some ⟨h, 0, none⟩), .int .i64 1, .int .i64 1] w5 fun e w' => e = .returned (.int .i64 0) ∧ w'.cell? ⟨A, 0, none⟩ = some (.pointer (some ⟨M, 0, none⟩)) ∧ w'.cell? ⟨M, 1, none⟩ = some (.int .i64 1) ∧ w'.frozen? ⟨M, 1, none⟩ = false ∧ Hid (MmAt (w'.setCell ⟨M, 1, none⟩ (.int .i64 2)) M h 2 ∧ ∃ yv' rv', Hs (w'.setCell ⟨M, 1, none⟩ (.int .i64 2)) h m 50 yv' rv' (yI 2) [(true, 0)] ∧ (∀ k, rv'.ownBlock = some k → rv.ownBlock = some k ∨ w.heap.size ≤ k) ∧ Only (fun k => k = M ∨ k = h ∨ yv.ownBlock = some k ∨ rv.ownBlock = some k) w (w'.setCell ⟨M, 1, none⟩ (.int .i64 2)))) := (slide_any h m 50 yv5 rv5 (yI 2) [] [(false, 20)] [(true, 0)] w5 e5 (by decide)).mono (by
   rintro e w6 ⟨rfl, rv6, e6, v6, o6⟩
   have o6' := o6.mono (bs' := fun k => k = h ∨ yv5.ownBlock = some k ∨ rv5.ownBlock = some k) (fun k _ q => q.elim .inl (fun q => .inr (.inr q)))
   have g6 : MmAt w6 M h 1 := e5.other o6' g5 (by decide) (by decide)
   have bA6 := e5.other o6' bA (by decide) (by decide)
   have nM := g6.ne e6
   have os : Only (fun k => k = M) w6 (w6.setCell ⟨M, 1, none⟩ (.int .i64 2)) := (Only.refl _ w6).setCell _ _ (fun _ => rfl)
   have nm : m ≠ M := fun q => by
    obtain ⟨c, hc⟩ := e6.mb
    have := g6
    unfold MmAt at this
    rw [← q, hc] at this
    simp at this
   refine ⟨rfl, hb_cell bA6 0, g6.cells.2.1, g6.cells.2.2, set_blk g6 1 _, yv5, rv6, e6.keep os (fun q => nM.1 q.symm) nm (fun k hk q => nM.2.1 (q ▸ hk)) (fun k hk q => nM.2.2 (q ▸ hk)), fun k hk => (v6 k hk).elim (u2 k) (fun q => .inr (by have := o5.size; omega)), ?_⟩
   refine ((o5.mono (bs' := fun k => k = M ∨ k = h ∨ yv.ownBlock = some k ∨ rv.ownBlock = some k) (fun _ _ q => .inr q)).trans o6 (fun k hk q => ?_)).setCell _ _ (fun _ => .inl rfl)
   rcases q with q | q
   ·exact .inr (.inl q)
   ·rcases u2 k q with q | q
    ·exact .inr (.inr (.inr q))
    ·omega)
  clear e5 u1 u2 o5 g5 bA HX H5 a1 m1 a1A m0A x0 x1 x2 x3 HG
  go_wp2_with fail
  refine (show Calls Tryz.prog 18 _ _ _ from HSl.out).mono ?_
  rintro e w6 ⟨rfl, z0, z1, z2, HZ⟩
  clear HSl y0 y1
  go_wp2
  go_ret
  exact ⟨rfl, HZ.out⟩
end Go.Proofs.YtbbeoobihdldcaaGreatDoor
namespace Go.Proofs.YtbbeoobihdldcaaGreatDoor
open Go.RowKit
set_option linter.unusedSimpArgs false
set_option linter.unusedVariables false
theorem object_num (h m : Nat) (cap : Int) (yv rv : Value) (y r : List (Bool × Nat)) (i x : Nat) (w : World) (hE : Hs w h m cap yv rv y r) (hi : r[i]? = some (false, x)) :
  Calls Tryz.prog 69 #[.pointer (some ⟨h, 0, none⟩), .int .i64 (i : Int)] w fun e w' => e = .returned (.tuple #[.slice none 0 0, .int .i64 17]) ∧ w' = w := by
 obtain ⟨R, c, rfl, _, c0, c1, _, hn⟩ := row_at hE.rr hi
 have HH : Hid _ := has_yes h (some ⟨R, 0, none⟩) r.length c i w hE.cells.2.2.2.2 hn
 have d4 := hE.cells.2.2.2.2
 have e3 : (0 : Int) ≤ (i : Int) := by omega
 have e4 : (i : Int) < (r.length : Int) := by omega
 clear hE hi
 go_enter Tryz.func69, Tryz.ntmps69
 go_wp2_with fail
 refine (show Calls Tryz.prog 67 _ _ _ from HH.out).mono ?_
 rintro e w1 ⟨rfl, hq⟩
 rw [hq]
 clear hq HH w1
 go_wp2
 go_ret2
 exact ⟨rfl, rfl⟩
theorem info_num (h m : Nat) (cap : Int) (yv rv : Value) (y r : List (Bool × Nat)) (i x : Nat) (w : World) (hE : Hs w h m cap yv rv y r) (hi : r[i]? = some (false, x)) :
  Calls Tryz.prog 39 #[.pointer (some ⟨h, 0, none⟩), .int .i64 (i : Int)] w fun e w' => e = .returned (.tuple #[.int .i64 0, .int .i64 0, .bool false, .int .i64 17]) ∧ w' = w := by
 have HO : Hid _ := object_num h m cap yv rv y r i x w hE hi
 clear hE hi
 go_enter Tryz.func39, Tryz.ntmps39
 go_wp2_with (go_at_call 69; refine (show Calls Tryz.prog 69 _ _ _ from HO.out).mono ?_; rintro e w1 ⟨rfl, hq⟩; rw [hq]; clear hq)
 (try simp only [Exit.inBlock, Exit.then])
 refine bodyPost_ret (results_four rfl _ _) rfl ?_
 exact ⟨rfl, rfl⟩
theorem ofcell20 (w : World) : Calls Tryz.prog 40 #[.int .u64 20] w fun e w' => e = .returned v5 ∧ w' = w := by
 have HN : ∀ w, Calls Tryz.prog 109 #[.int .u64 20] w fun e w' => e = .returned (.int .i64 5) ∧ w' = w := by
  intro w
  have e1 : IntKind.i64.wrap 20 = 20 := by decide
  go_enter Tryz.func109, Tryz.ntmps109
  go_wp2
  go_ret
  exact ⟨rfl, rfl⟩
 have HF : ∀ w, Calls Tryz.prog 136 #[.int .i64 5] w fun e w' => e = .returned (.bool true) ∧ w' = w := by
  intro w
  go_enter Tryz.func136, Tryz.ntmps136
  go_wp2
  go_ret
  exact ⟨rfl, rfl⟩
 have HK : ∀ w, Calls Tryz.prog 108 #[.int .u64 20] w fun e w' => e = .returned (.int .i64 1) ∧ w' = w := by
  intro w
  have e1 : bits .and .u64 20 3 = 0 := by decide
  go_enter Tryz.func108, Tryz.ntmps108
  go_wp2_with (first
   | (go_at_call 109; refine (HN _).mono ?_; rintro e w1 ⟨rfl, hq⟩; rw [hq]; clear hq)
   | (go_at_call 136; refine (HF _).mono ?_; rintro e w1 ⟨rfl, hq⟩; rw [hq]; clear hq))
  go_ret
  exact ⟨rfl, rfl⟩
 have HB : ∀ w, Calls Tryz.prog 79 #[.int .u64 20] w fun e w' => e = .returned (.tuple #[.bool false, .int .i64 17]) ∧ w' = w := by
  intro w
  go_enter Tryz.func79, Tryz.ntmps79
  go_wp2_with (go_at_call 108; refine (HK _).mono ?_; rintro e w1 ⟨rfl, hq⟩; rw [hq]; clear hq)
  go_ret2
  exact ⟨rfl, rfl⟩
 have HM : ∀ w, Calls Tryz.prog 80 #[.int .u64 20] w fun e w' => e = .returned (.tuple #[.int .i64 5, .int .i64 0]) ∧ w' = w := by
  intro w
  go_enter Tryz.func80, Tryz.ntmps80
  go_wp2_with (first
   | (go_at_call 108; refine (HK _).mono ?_; rintro e w1 ⟨rfl, hq⟩; rw [hq]; clear hq)
   | (go_at_call 109; refine (HN _).mono ?_; rintro e w1 ⟨rfl, hq⟩; rw [hq]; clear hq))
  go_ret2
  exact ⟨rfl, rfl⟩
 go_enter Tryz.func40, Tryz.ntmps40
 go_wp2_with (first
  | (go_at_call 79; refine (HB _).mono ?_; rintro e w1 ⟨rfl, hq⟩; rw [hq]; clear hq)
  | (go_at_call 80; refine (HM _).mono ?_; rintro e w1 ⟨rfl, hq⟩; rw [hq]; clear hq))
 go_ret
 exact ⟨rfl, rfl⟩
def rdr (h : Nat) : Value := .agg #[.pointer (some ⟨h, 0, none⟩)]
theorem rword_any2 (h m : Nat) (cap : Int) (yv rv : Value) (y r : List (Bool × Nat)) (i x : Nat) (w : World) (hE : Hs w h m cap yv rv y r) (hi : r[i]? = some (false, x)) :
  Calls Tryz.prog 41 #[rdr h, .int .i64 (i : Int)] w fun e w' => e = .returned (.int .u64 (x : Int)) ∧ Only (fun _ => False) w w' := by
 have HW : Hid (∀ W, Only (fun _ => False) w W → Calls Tryz.prog 81 #[.pointer (some ⟨h, 0, none⟩), .int .i64 (i : Int)] W fun e w' => e = .returned (.tuple #[.int .u64 (x : Int), .int .i64 0]) ∧ w' = W) := fun W o => word_any h m cap yv rv y r i x W (hE.only o) hi
 clear hE hi
 unfold rdr
 go_enter Tryz.func41, Tryz.ntmps41
 go_wp2_with (go_at_call 81; refine (show Calls Tryz.prog 81 _ _ _ from HW.out _ (by repeat' first | exact Only.refl _ _ | apply Only.alloc | apply Only.drew)).mono ?_; rintro e w1 ⟨rfl, hq⟩; rw [hq]; clear hq)
 go_ret
 exact ⟨rfl, (Only.refl _ w).alloc _⟩
theorem rvalue_num (h m : Nat) (cap : Int) (yv rv : Value) (y r : List (Bool × Nat)) (i : Nat) (w : World) (hE : Hs w h m cap yv rv y r) (hi : r[i]? = some (false, 20)) :
  Calls Tryz.prog 20 #[rdr h, .int .i64 (i : Int)] w fun e w' => e = .returned v5 ∧ Only (fun _ => False) w w' := by
 obtain ⟨W, hW⟩ : ∃ W, W = w.alloc (.cells #[.pointer (some ⟨h, 0, none⟩)] 47) := ⟨_, rfl⟩
 obtain ⟨N, hN⟩ : ∃ N, N = w.heap.size := ⟨_, rfl⟩
 have oW : Only (fun _ => False) w W := by rw [hW]; exact (Only.refl _ w).alloc _
 have bW : W.heap[N]? = some (.cells #[.pointer (some ⟨h, 0, none⟩)] 47) := by rw [hW]; exact alloc_at _ _ _ hN
 have n0 : W.cell? ⟨N, 0, none⟩ = some (.pointer (some ⟨h, 0, none⟩)) := hb_cell bW 0
 have HI : Hid _ := info_num h m cap yv rv y r i 20 W (hE.only oW) hi
 have HW : Hid _ := rword_any2 h m cap yv rv y r i 20 W (hE.only oW) hi
 have HO := ofcell20
 have OW : Hid (Only (fun _ => False) w W) := oW
 clear hE hi oW bW
 unfold rdr at HW ⊢
 go_enter Tryz.func20, Tryz.ntmps20
 go_wp2_with fail
 rw [← hW, ← hN]
 clear hW hN
 go_wp2_with (first
  | (go_at_call 39; refine (show Calls Tryz.prog 39 _ _ _ from HI.out).mono ?_; rintro e w1 ⟨rfl, hq⟩; rw [hq]; clear hq)
  | (go_at_call 41; refine (show Calls Tryz.prog 41 _ _ _ from HW.out).mono ?_; rintro e w2 ⟨rfl, o2⟩; have O2 : Hid (Only (fun _ => False) W w2) := o2; clear o2)
  | (go_at_call 40; refine (HO _).mono ?_; rintro e w3 ⟨rfl, hq⟩; rw [hq]; clear hq))
 go_ret
 exact ⟨rfl, OW.out.trans O2.out (fun _ _ g => g)⟩
end Go.Proofs.YtbbeoobihdldcaaGreatDoor
namespace Go.Proofs.YtbbeoobihdldcaaGreatDoor
open Go.RowKit
set_option linter.unusedSimpArgs false
set_option linter.unusedVariables false
def R0 : List (Bool × Nat) := [(true, 0)]
set_option maxRecDepth 100000 in
set_option maxHeartbeats 8000000 in
theorem field_u (h m : Nat) (yv rv : Value) (w : World) (hE : Hs w h m 50 yv rv (yI 2) R0) :
  Calls Tryz.prog 84 #[rdr h, .int .i64 0, .int .i64 0, .func (.func 41) #[rdr h] #[]] w fun e w' => e = .returned (.int .u64 1) ∧ PuP w w' h m 50 yv rv (yI 2) R0 := by
 obtain ⟨W, hW⟩ : ∃ W, W = w.alloc (.cells #[.pointer (some ⟨h, 0, none⟩)] 47) := ⟨_, rfl⟩
 obtain ⟨N, hN⟩ : ∃ N, N = w.heap.size := ⟨_, rfl⟩
 have oW : Only (fun _ => False) w W := by rw [hW]; exact (Only.refl _ w).alloc _
 have bW : W.heap[N]? = some (.cells #[.pointer (some ⟨h, 0, none⟩)] 47) := by rw [hW]; exact alloc_at _ _ _ hN
 have n0 : W.cell? ⟨N, 0, none⟩ = some (.pointer (some ⟨h, 0, none⟩)) := hb_cell bW 0
 have eW := hE.only oW
 have HG : Hid (Calls Tryz.prog 32 #[.pointer (some ⟨h, 0, none⟩), .int .i64 0, .int .i64 0] W fun e w' => e = .returned (.int .i64 0) ∧ w'.cell? ⟨N, 0, none⟩ = some (.pointer (some ⟨h, 0, none⟩)) ∧ ∃ rv1, Hid (Hs w' h m 50 yv rv1 (yI 2) (R0 ++ [(false, 1)]) ∧ (∀ k, rv1.ownBlock = some k → rv.ownBlock = some k ∨ w.heap.size ≤ k) ∧ Only (fun k => k = h ∨ rv.ownBlock = some k) w w' ∧ w'.heap[N]? = some (.cells #[.pointer (some ⟨h, 0, none⟩)] 47))) := (get_any h m 50 yv rv (yI 2) R0 0 0 1028 3 0 (false, 1) W eW (yI_ob 2) (by decide) rfl (by decide) (by decide) (by decide) rfl).mono (by
  rintro e w' ⟨rfl, p⟩
  obtain ⟨rv1, h1, v1, o1⟩ := p.after oW
  obtain ⟨_, _, _, o1w⟩ := p
  have bN := eW.other (o1w.mono (bs' := fun k => k = h ∨ yv.ownBlock = some k ∨ rv.ownBlock = some k) (fun k _ q => q.elim .inl (fun q => .inr (.inr q)))) bW (by decide) (by decide)
  exact ⟨rfl, hb_cell bN 0, rv1, h1, v1, o1, bN⟩)
 clear hE oW bW eW
 have w2 : IntKind.i64.wrap (((2 : Nat) : Int) - 1) = 1 := by decide
 unfold rdr
 go_enter Tryz.func84, Tryz.ntmps84
 go_wp2_with fail
 rw [← hW, ← hN]
 clear hW hN
 refine (show Calls Tryz.prog 32 _ _ _ from HG.out).mono ?_
 rintro e w3 ⟨rfl, n3, rv1, H3⟩
 obtain ⟨_, a0, q0, hrv⟩ := H3.out.1.sl
 have HR : Hid _ := roots_any h a0 2 q0 w3 (by have := H3.out.1.cells.2.2.2.2; rw [hrv] at this; exact this)
 have HW : Hid _ := rword_any2 h m 50 yv rv1 (yI 2) (R0 ++ [(false, 1)]) 1 1 w3 H3.out.1 rfl
 unfold rdr at HW
 clear HG hrv n0
 go_wp2_with fail
 refine (show Calls Tryz.prog 35 _ _ _ from HR.out).mono ?_
 rintro e w4 ⟨rfl, hq⟩
 rw [hq]
 clear hq HR w4
 go_wp2_with fail
 refine (show Calls Tryz.prog 41 _ _ _ from HW.out).mono ?_
 rintro e w5 ⟨rfl, o5⟩
 have n5 : w5.cell? ⟨N, 0, none⟩ = some (.pointer (some ⟨h, 0, none⟩)) := o5.cell n3 (fun g => g)
 have HS : Hid (Calls Tryz.prog 18 #[.pointer (some ⟨h, 0, none⟩), .int .i64 1, .int .i64 0] w5 fun e w' => e = .returned (.int .i64 0) ∧ PuP w w' h m 50 yv rv (yI 2) R0) := (slide_any h m 50 yv rv1 (yI 2) R0 [(false, 1)] [] w5 (by rw [List.append_nil]; exact H3.out.1.only o5) (by decide)).mono (by
  rintro e w' ⟨rfl, p⟩
  rw [List.append_nil] at p
  exact ⟨rfl, PuP.trans H3.out.2.1 H3.out.2.2.1 (p.after o5)⟩)
 clear HW o5 n3 H3
 go_wp2_with fail
 refine (show Calls Tryz.prog 18 _ _ _ from HS.out).mono ?_
 rintro e w6 ⟨rfl, p⟩
 have HP : Hid (PuP w w6 h m 50 yv rv (yI 2) R0) := p
 clear p HS n5
 go_wp2
 go_ret
 exact ⟨rfl, HP.out⟩
set_option maxRecDepth 100000 in
set_option maxHeartbeats 8000000 in
theorem field_v (h m : Nat) (yv rv : Value) (w : World) (hE : Hs w h m 50 yv rv (yI 2) R0) :
  Calls Tryz.prog 57 #[rdr h, .int .i64 0, .int .i64 1, .func (.func 20) #[rdr h] #[]] w fun e w' => e = .returned v5 ∧ PuP w w' h m 50 yv rv (yI 2) R0 := by
 obtain ⟨W, hW⟩ : ∃ W, W = w.alloc (.cells #[.pointer (some ⟨h, 0, none⟩)] 47) := ⟨_, rfl⟩
 obtain ⟨N, hN⟩ : ∃ N, N = w.heap.size := ⟨_, rfl⟩
 have oW : Only (fun _ => False) w W := by rw [hW]; exact (Only.refl _ w).alloc _
 have bW : W.heap[N]? = some (.cells #[.pointer (some ⟨h, 0, none⟩)] 47) := by rw [hW]; exact alloc_at _ _ _ hN
 have n0 : W.cell? ⟨N, 0, none⟩ = some (.pointer (some ⟨h, 0, none⟩)) := hb_cell bW 0
 have eW := hE.only oW
 have HG : Hid (Calls Tryz.prog 32 #[.pointer (some ⟨h, 0, none⟩), .int .i64 0, .int .i64 1] W fun e w' => e = .returned (.int .i64 0) ∧ w'.cell? ⟨N, 0, none⟩ = some (.pointer (some ⟨h, 0, none⟩)) ∧ ∃ rv1, Hid (Hs w' h m 50 yv rv1 (yI 2) (R0 ++ [(false, 20)]) ∧ (∀ k, rv1.ownBlock = some k → rv.ownBlock = some k ∨ w.heap.size ≤ k) ∧ Only (fun k => k = h ∨ rv.ownBlock = some k) w w' ∧ w'.heap[N]? = some (.cells #[.pointer (some ⟨h, 0, none⟩)] 47))) := (get_any h m 50 yv rv (yI 2) R0 0 0 1028 3 1 (false, 20) W eW (yI_ob 2) (by decide) rfl (by decide) (by decide) (by decide) rfl).mono (by
  rintro e w' ⟨rfl, p⟩
  obtain ⟨rv1, h1, v1, o1⟩ := p.after oW
  obtain ⟨_, _, _, o1w⟩ := p
  have bN := eW.other (o1w.mono (bs' := fun k => k = h ∨ yv.ownBlock = some k ∨ rv.ownBlock = some k) (fun k _ q => q.elim .inl (fun q => .inr (.inr q)))) bW (by decide) (by decide)
  exact ⟨rfl, hb_cell bN 0, rv1, h1, v1, o1, bN⟩)
 clear hE oW bW eW
 have w2 : IntKind.i64.wrap (((2 : Nat) : Int) - 1) = 1 := by decide
 unfold rdr
 go_enter Tryz.func57, Tryz.ntmps57
 go_wp2_with fail
 rw [← hW, ← hN]
 clear hW hN
 refine (show Calls Tryz.prog 32 _ _ _ from HG.out).mono ?_
 rintro e w3 ⟨rfl, n3, rv1, H3⟩
 obtain ⟨_, a0, q0, hrv⟩ := H3.out.1.sl
 have HR : Hid _ := roots_any h a0 2 q0 w3 (by have := H3.out.1.cells.2.2.2.2; rw [hrv] at this; exact this)
 have HW : Hid _ := rvalue_num h m 50 yv rv1 (yI 2) (R0 ++ [(false, 20)]) 1 w3 H3.out.1 rfl
 unfold rdr at HW
 clear HG hrv n0
 go_wp2_with fail
 refine (show Calls Tryz.prog 35 _ _ _ from HR.out).mono ?_
 rintro e w4 ⟨rfl, hq⟩
 rw [hq]
 clear hq HR w4
 go_wp2_with fail
 refine (show Calls Tryz.prog 20 _ _ _ from HW.out).mono ?_
 rintro e w5 ⟨rfl, o5⟩
 have n5 : w5.cell? ⟨N, 0, none⟩ = some (.pointer (some ⟨h, 0, none⟩)) := o5.cell n3 (fun g => g)
 have HS : Hid (Calls Tryz.prog 18 #[.pointer (some ⟨h, 0, none⟩), .int .i64 1, .int .i64 0] w5 fun e w' => e = .returned (.int .i64 0) ∧ PuP w w' h m 50 yv rv (yI 2) R0) := (slide_any h m 50 yv rv1 (yI 2) R0 [(false, 20)] [] w5 (by rw [List.append_nil]; exact H3.out.1.only o5) (by decide)).mono (by
  rintro e w' ⟨rfl, p⟩
  rw [List.append_nil] at p
  exact ⟨rfl, PuP.trans H3.out.2.1 H3.out.2.2.1 (p.after o5)⟩)
 clear HW o5 n3 H3
 go_wp2_with fail
 refine (show Calls Tryz.prog 18 _ _ _ from HS.out).mono ?_
 rintro e w6 ⟨rfl, p⟩
 have HP : Hid (PuP w w6 h m 50 yv rv (yI 2) R0) := p
 clear p HS n5
 go_wp2
 go_ret
 exact ⟨rfl, HP.out⟩
def b1V : Value := .iface 93 (.agg #[.int .i64 1])
theorem info_box (h m : Nat) (yv rv : Value) (w : World) (hE : Hs w h m 50 yv rv (yI 2) R0) : Calls Tryz.prog 39 #[.pointer (some ⟨h, 0, none⟩), .int .i64 0] w fun e w' => e = .returned (.tuple #[.int .i64 4, .int .i64 2, .bool false, .int .i64 0]) ∧ Only (fun _ => False) w w' :=
 info_any h m 50 yv rv (yI 2) R0 0 0 1028 3 4 w hE (yI_ob 2) (by decide) rfl (by decide) (by decide) (by decide) (by decide)
set_option maxRecDepth 100000 in
set_option maxHeartbeats 8000000 in
theorem rbox_any (h m : Nat) (yv rv : Value) (w : World) (hE : Hs w h m 50 yv rv (yI 2) R0) : Calls Tryz.prog 46 #[rdr h, .int .i64 0] w fun e w' => e = .returned (.tuple #[.int .i64 1, .bool true]) ∧ PuP w w' h m 50 yv rv (yI 2) R0 := by
 obtain ⟨W, hW⟩ : ∃ W, W = w.alloc (.cells #[.pointer (some ⟨h, 0, none⟩)] 47) := ⟨_, rfl⟩
 obtain ⟨N, hN⟩ : ∃ N, N = w.heap.size := ⟨_, rfl⟩
 have oW : Only (fun _ => False) w W := by rw [hW]; exact (Only.refl _ w).alloc _
 have bW : W.heap[N]? = some (.cells #[.pointer (some ⟨h, 0, none⟩)] 47) := by rw [hW]; exact alloc_at _ _ _ hN
 have n0 : W.cell? ⟨N, 0, none⟩ = some (.pointer (some ⟨h, 0, none⟩)) := hb_cell bW 0
 have HI : Hid _ := info_box h m yv rv W (hE.only oW)
 have HF : Hid (∀ W', Only (fun _ => False) W W' → W'.cell? ⟨N, 0, none⟩ = some (.pointer (some ⟨h, 0, none⟩)) ∧ Calls Tryz.prog 84 #[rdr h, .int .i64 0, .int .i64 0, .func (.func 41) #[rdr h] #[]] W' fun e w' => e = .returned (.int .u64 1) ∧ PuP w w' h m 50 yv rv (yI 2) R0) := fun W' o => ⟨o.cell n0 (fun g => g), (field_u h m yv rv W' (hE.only (oW.trans o (fun _ _ g => g)))).mono (by rintro e w' ⟨rfl, p⟩; exact ⟨rfl, p.after (oW.trans o (fun _ _ g => g))⟩)⟩
 clear hE oW bW
 have w1 : IntKind.i64.wrap 1 = 1 := by decide
 unfold rdr at HF ⊢
 go_enter Tryz.func46, Tryz.ntmps46
 go_wp2_with fail
 rw [← hW, ← hN]
 clear hW hN
 refine (show Calls Tryz.prog 39 _ _ _ from HI.out).mono ?_
 rintro e w3 ⟨rfl, o3⟩
 obtain ⟨n3, hf⟩ := HF.out w3 o3
 have HG : Hid _ := hf
 clear HI HF hf o3 n0
 go_wp2_with fail
 refine (show Calls Tryz.prog 84 _ _ _ from HG.out).mono ?_
 rintro e w4 ⟨rfl, p⟩
 have HP : Hid (PuP w w4 h m 50 yv rv (yI 2) R0) := p
 clear p HG
 go_wp2
 go_ret2
 exact ⟨rfl, HP.out⟩
set_option maxRecDepth 100000 in
set_option maxHeartbeats 8000000 in
theorem rvalue_box (h m : Nat) (yv rv : Value) (w : World) (hE : Hs w h m 50 yv rv (yI 2) R0) : Calls Tryz.prog 20 #[rdr h, .int .i64 0] w fun e w' => e = .returned b1V ∧ PuP w w' h m 50 yv rv (yI 2) R0 := by
 obtain ⟨W, hW⟩ : ∃ W, W = w.alloc (.cells #[.pointer (some ⟨h, 0, none⟩)] 47) := ⟨_, rfl⟩
 obtain ⟨N, hN⟩ : ∃ N, N = w.heap.size := ⟨_, rfl⟩
 have oW : Only (fun _ => False) w W := by rw [hW]; exact (Only.refl _ w).alloc _
 have bW : W.heap[N]? = some (.cells #[.pointer (some ⟨h, 0, none⟩)] 47) := by rw [hW]; exact alloc_at _ _ _ hN
 have n0 : W.cell? ⟨N, 0, none⟩ = some (.pointer (some ⟨h, 0, none⟩)) := hb_cell bW 0
 have HI : Hid _ := info_box h m yv rv W (hE.only oW)
 have HF : Hid (∀ W', Only (fun _ => False) W W' → W'.cell? ⟨N, 0, none⟩ = some (.pointer (some ⟨h, 0, none⟩)) ∧ Calls Tryz.prog 46 #[rdr h, .int .i64 0] W' fun e w' => e = .returned (.tuple #[.int .i64 1, .bool true]) ∧ PuP w w' h m 50 yv rv (yI 2) R0) := fun W' o => ⟨o.cell n0 (fun g => g), (rbox_any h m yv rv W' (hE.only (oW.trans o (fun _ _ g => g)))).mono (by rintro e w' ⟨rfl, p⟩; exact ⟨rfl, p.after (oW.trans o (fun _ _ g => g))⟩)⟩
 clear hE oW bW
 unfold rdr at HF ⊢
 go_enter Tryz.func20, Tryz.ntmps20
 go_wp2_with fail
 rw [← hW, ← hN]
 clear hW hN
 refine (show Calls Tryz.prog 39 _ _ _ from HI.out).mono ?_
 rintro e w3 ⟨rfl, o3⟩
 obtain ⟨n3, hf⟩ := HF.out w3 o3
 have HG : Hid _ := hf
 clear HI HF hf o3 n0
 go_wp2_with fail
 refine (show Calls Tryz.prog 46 _ _ _ from HG.out).mono ?_
 rintro e w4 ⟨rfl, p⟩
 have HP : Hid (PuP w w4 h m 50 yv rv (yI 2) R0) := p
 clear p HG
 go_wp2
 go_ret
 exact ⟨rfl, HP.out⟩
end Go.Proofs.YtbbeoobihdldcaaGreatDoor
namespace Go.Proofs.YtbbeoobihdldcaaGreatDoor
open Go.RowKit
set_option linter.unusedSimpArgs false
set_option linter.unusedVariables false
theorem PuP.set {w w1 : World} {h m : Nat} {cap : Int} {yv rv : Value} {y r : List (Bool × Nat)} (p : PuP w w1 h m cap yv rv y r) {V : Nat} {c : Array Value} {T : TypeId} (hV : w.heap.size ≤ V) (hb : w1.heap[V]? = some (.cells c T)) (h1 : T ≠ 72) (h2 : T ≠ 68) (j : Nat) (u : Value) : PuP w (w1.setCell ⟨V, j, none⟩ u) h m cap yv rv y r := by
 obtain ⟨rv', h3, v3, o3⟩ := p
 have os : Only (fun k => k = V) w1 (w1.setCell ⟨V, j, none⟩ u) := (Only.refl _ w1).setCell _ _ (fun _ => rfl)
 obtain ⟨c3, hc3⟩ := h3.mb
 refine ⟨rv', h3.keep os (fun q => ?_) (fun q => ?_) (fun k hk q => ?_) (fun k hk q => ?_), v3, o3.setCell _ _ (fun q => by simp only at q; omega)⟩
 ·have := h3.hb
  rw [q, hb] at this
  simp only [Option.some.injEq, Obj.cells.injEq] at this
  exact h2 this.2.1
 ·rw [q, hb] at hc3
  simp at hc3
 ·exact own_ne h3.ry hb (fun c' e => by simp only [Obj.cells.injEq] at e; exact h1 e.2.1) (q ▸ hk)
 ·exact own_ne h3.rr hb (fun c' e => by simp only [Obj.cells.injEq] at e; exact h1 e.2.1) (q ▸ hk)
theorem made_v (W : World) : (Instr.makeSlice 29 (.int .i64 1) (.int .i64 1)).run Tryz.prog W = .ok (.slice (some ⟨W.heap.size, 0, none⟩) 1 1) (W.alloc (.cells #[.nilIface] 24)) := by kernel_rfl
set_option maxRecDepth 100000 in
set_option maxHeartbeats 8000000 in
theorem values5 (M h m : Nat) (yv rv : Value) (w : World) (g : MmAt w M h 2) (hE : Hs w h m 50 yv rv (yI 2) R0) : Calls Tryz.prog 24 #[.pointer (some ⟨M, 0, none⟩)] w fun e w' => ∃ V, e = .returned (.slice (some ⟨V, 0, none⟩) 1 1) ∧ PuP w w' h m 50 yv rv (yI 2) R0 := by
 have HD : Hid (Calls Tryz.prog 15 #[.pointer (some ⟨M, 0, none⟩)] w fun e w' => e = .returned (.int .i64 1) ∧ w' = w) := depth_any M h m 2 50 yv rv (yI 2) R0 w g hE
 obtain ⟨W, hW⟩ : ∃ W, W = w.alloc (.cells #[.nilIface] 24) := ⟨_, rfl⟩
 obtain ⟨V, hV⟩ : ∃ V, V = w.heap.size := ⟨_, rfl⟩
 have oW : Only (fun _ => False) w W := by rw [hW]; exact (Only.refl _ w).alloc _
 have bW : W.heap[V]? = some (.cells #[.nilIface] 24) := by rw [hW]; exact alloc_at _ _ _ hV
 have m0 : W.cell? ⟨M, 0, none⟩ = some (.pointer (some ⟨h, 0, none⟩)) := (g.keep oW (fun g => g)).cells.1
 have HV : Hid (Calls Tryz.prog 20 #[rdr h, .int .i64 0] W fun e w' => e = .returned b1V ∧ w'.cell? ⟨V, 0, none⟩ = some .nilIface ∧ w'.frozen? ⟨V, 0, none⟩ = false ∧ Hid (PuP w (w'.setCell ⟨V, 0, none⟩ b1V) h m 50 yv rv (yI 2) R0)) := (rvalue_box h m yv rv W (hE.only oW)).mono (by
  rintro e w' ⟨rfl, p⟩
  have bV : w'.heap[V]? = some (.cells #[.nilIface] 24) := by
   obtain ⟨rv', h3, v3, o3⟩ := p
   exact (hE.only oW).other (o3.mono (bs' := fun k => k = h ∨ yv.ownBlock = some k ∨ rv.ownBlock = some k) (fun k _ q => q.elim .inl (fun q => .inr (.inr q)))) bW (by decide) (by decide)
  exact ⟨rfl, hb_cell bV 0, hb_froz bV 0, (p.after oW).set (by omega) bV (by decide) (by decide) 0 b1V⟩)
 have hm := made_v
 clear g hE oW bW
 unfold rdr at HV
 unfold b1V at HV
 go_enter Tryz.func24, Tryz.ntmps24
 go_wp2_with (go_at_call 15; refine (show Calls Tryz.prog 15 _ _ _ from HD.out).mono ?_; rintro e w1 ⟨rfl, hq⟩; rw [hq]; clear hq)
 rw [← hW, ← hV]
 clear hW hV hm
 go_loopw [10] (fun r10 wr => ∃ i : Nat, r10 = .int .i64 (i : Int) ∧ ((i = 0 ∧ wr = W) ∨ (i = 1 ∧ Hid (PuP w wr h m 50 yv rv (yI 2) R0)))) (fun r _ => 1 - uOH r)
 case atStart => exact ⟨0, rfl, .inl ⟨rfl, rfl⟩⟩
 case round =>
  obtain ⟨i, rfl, ⟨rfl, rfl⟩ | ⟨rfl, HP⟩⟩ := hrel
  ·go_wp2_with (go_at_call 20; refine (show Calls Tryz.prog 20 _ _ _ from HV.out).mono ?_; rintro e w2 ⟨rfl, v0, v1, HP⟩)
   go_roundw
   case rel => exact ⟨1, by go_num, .inr ⟨rfl, HP⟩⟩
   case measure => simp only [uOH]; omega
  ·go_wp2
   go_ret
   exact ⟨V, rfl, HP.out⟩
end Go.Proofs.YtbbeoobihdldcaaGreatDoor
namespace Go.Proofs.YtbbeoobihdldcaaGreatDoor
open Go.RowKit
set_option linter.unusedSimpArgs false
set_option linter.unusedVariables false
theorem HpO.words {w : World} {h m B : Nat} {a : Option Addr} {c R K : Nat} (g : HpO w h m B a c R K) : ∃ Y, a = some ⟨Y, 0, none⟩ ∧ 3 ≤ c ∧ w.cell? ⟨Y, 0, none⟩ = some (.bool false) ∧ w.cell? ⟨Y, 1, none⟩ = some (.int .u64 1025) ∧ Nums w a 3 := by
 rcases g.row.2 with ⟨e, _⟩ | ⟨Y, cap, cur, e, hg1, hg2, hg3, _⟩
 ·cases e
 ·cases e
  have hc := g.row.cells (g := Y) rfl
  have q : ∀ j u, ([.bool false, .int .u64 1025] ++ zF 2)[j]? = some u → w.cell? ⟨Y, j, none⟩ = some u := fun j u hu => by
   have := hc j u hu
   rwa [addr_ad] at this
  refine ⟨Y, rfl, hg3, q 0 _ rfl, q 1 _ rfl, fun j hj => ?_⟩
  rcases (by omega : j = 0 ∨ j = 1 ∨ j = 2) with rfl | rfl | rfl
  ·exact ⟨Y, 0, 1025, rfl, q 0 _ rfl, q 1 _ rfl⟩
  ·exact ⟨Y, 0, 0, rfl, q 2 _ (by kernel_rfl), q 3 _ (by kernel_rfl)⟩
  ·exact ⟨Y, 0, 0, rfl, q 4 _ (by kernel_rfl), q 5 _ (by kernel_rfl)⟩
end Go.Proofs.YtbbeoobihdldcaaGreatDoor
namespace Go.Proofs.YtbbeoobihdldcaaGreatDoor
open Go.RowKit
set_option linter.unusedSimpArgs false
set_option linter.unusedVariables false
theorem made3 (W : World) : (Instr.makeSlice 159 (.int .u64 3) (.int .u64 3)).run Tryz.prog W = .ok (.slice (some ⟨W.heap.size, 0, none⟩) 3 3) (W.alloc (.cells #[.bool false, .bool false, .bool false] 4)) := by kernel_rfl
structure RcA (w X : World) (N M G : Nat) : Prop where
 o : Only (fun _ => False) w X
 l : X.heap[N]? = some (.cells #[.int .u64 0] 70)
 r : X.heap[N + 1]? = some (.cells #[.slice none 0 0] 95)
 m : X.heap[M]? = some (.cells #[.slice (some ⟨G, 0, none⟩) 3 3] 159)
 g : X.heap[G]? = some (.cells #[.bool false, .bool false, .bool false] 4)
 n : w.heap.size ≤ N
 gn : N + 2 ≤ G
 mn : N + 2 ≤ M
 gm : G ≠ M
theorem rca1 {w W1 w2 : World} {N : Nat} (O1 : Only (fun _ => False) w W1) (O2 : Only (fun _ => False) W1 w2) (b0 : W1.heap[N]? = some (.cells #[.int .u64 0] 70)) (b1 : W1.heap[N + 1]? = some (.cells #[.slice none 0 0] 95)) (hz : N = w.heap.size ∧ W1.heap.size = N + 2) (X : World) (hX : X = (w2.alloc (.cells #[.bool false, .bool false, .bool false] 4)).alloc (.cells #[.slice (some ⟨w2.heap.size, 0, none⟩) 3 3] 159)) : RcA w X N (w2.heap.size + 1) w2.heap.size := by
 have s2 := O2.size
 have oX : Only (fun _ => False) W1 X := by rw [hX]; exact (O2.alloc _).alloc _
 refine ⟨O1.trans oX (fun _ _ g => g), oX.at b0, oX.at b1, ?_, ?_, by omega, by omega, by omega, by omega⟩
 ·rw [hX]; exact alloc_at _ _ _ (by simp)
 ·rw [hX]; exact ((Only.refl (fun _ => False) _).alloc _).at (alloc_at _ _ _ rfl)
theorem rca2 {w W1 w2 : World} {N : Nat} (O1 : Only (fun _ => False) w W1) (O2 : Only (fun _ => False) W1 w2) (b0 : W1.heap[N]? = some (.cells #[.int .u64 0] 70)) (b1 : W1.heap[N + 1]? = some (.cells #[.slice none 0 0] 95)) (hz : N = w.heap.size ∧ W1.heap.size = N + 2) (X : World) (hX : X = (w2.alloc (.cells #[.slice (some ⟨w2.heap.size + 1, 0, none⟩) 3 3] 159)).alloc (.cells #[.bool false, .bool false, .bool false] 4)) : RcA w X N w2.heap.size (w2.heap.size + 1) := by
 have s2 := O2.size
 have oX : Only (fun _ => False) W1 X := by rw [hX]; exact (O2.alloc _).alloc _
 refine ⟨O1.trans oX (fun _ _ g => g), oX.at b0, oX.at b1, ?_, ?_, by omega, by omega, by omega, by omega⟩
 ·rw [hX]; exact ((Only.refl (fun _ => False) _).alloc _).at (alloc_at _ _ _ rfl)
 ·rw [hX]; exact alloc_at _ _ _ (by simp)
theorem rca3 {w W1 w2 : World} {N : Nat} (O1 : Only (fun _ => False) w W1) (O2 : Only (fun _ => False) W1 w2) (b0 : W1.heap[N]? = some (.cells #[.int .u64 0] 70)) (b1 : W1.heap[N + 1]? = some (.cells #[.slice none 0 0] 95)) (hz : N = w.heap.size ∧ W1.heap.size = N + 2) (mb : w2.heap[W1.heap.size]? = some (.cells #[.slice none 0 0] 159)) (X : World) (hX : X = (w2.alloc (.cells #[.bool false, .bool false, .bool false] 4)).setCell ⟨W1.heap.size, 0, none⟩ (.slice (some ⟨w2.heap.size, 0, none⟩) 3 3)) : RcA w X N W1.heap.size w2.heap.size := by
 have s2 := (Array.getElem?_eq_some_iff.1 mb).1
 have oX : Only (fun _ => False) W1 X := by rw [hX]; exact (O2.alloc _).setCell _ _ (fun g => by simp at g)
 refine ⟨O1.trans oX (fun _ _ g => g), oX.at b0, oX.at b1, ?_, ?_, by omega, by omega, by omega, by omega⟩
 ·rw [hX]; exact set_blk (((Only.refl (fun _ => False) _).alloc _).at mb) 0 _
 ·rw [hX]; exact (Below.heap_setCell _ _ _ _ (by simp only; omega)).trans (alloc_at _ _ _ rfl)
theorem HpO.keep {w w' : World} {h m B : Nat} {a : Option Addr} {c R K : Nat} {bs : Nat → Prop} (g : HpO w h m B a c R K) (o : Only bs w w') (hb : ∀ b, b < w.heap.size → ¬ bs b) : HpO w' h m B a c R K := by
 refine ⟨⟨?_, ?_, g.hp.ne⟩, o.owns g.row (fun k hk => hb k (g.row.lt k hk).2), o.cell g.r0 (hb _ (World.block_lt_of_cell? w _ g.r0)), o.cell g.r1 (hb _ (World.block_lt_of_cell? w _ g.r1))⟩
 ·have l := (Array.getElem?_eq_some_iff.1 g.hp.hb).1
  exact (o.block h l (hb h l)).trans g.hp.hb
 ·obtain ⟨c, hc⟩ := g.hp.mb
  have l := (Array.getElem?_eq_some_iff.1 hc).1
  exact ⟨c, (o.block m l (hb m l)).trans hc⟩
end Go.Proofs.YtbbeoobihdldcaaGreatDoor
namespace Go.Proofs.YtbbeoobihdldcaaGreatDoor
open Go.RowKit
set_option linter.unusedSimpArgs false
set_option linter.unusedVariables false
structure HqO (w : World) (h m : Nat) (a : Option Addr) (c R K : Nat) : Prop where
 es : Hs w h m 50 (.slice a 3 c) (.slice (some ⟨R, 0, none⟩) 1 K) (yI 2) R0
theorem HqO.only {w w' : World} {h m : Nat} {a : Option Addr} {c R K : Nat} (g : HqO w h m a c R K) (o : Only (fun _ => False) w w') : HqO w' h m a c R K := ⟨g.es.only o⟩
theorem HqO.cells {w : World} {h m : Nat} {a : Option Addr} {c R K : Nat} (g : HqO w h m a c R K) : w.cell? ⟨h, 0, none⟩ = some (.slice none 0 0) ∧ w.cell? ⟨h, 1, none⟩ = some (.slice a 3 c) ∧ w.cell? ⟨h, 4, none⟩ = some (.slice (some ⟨R, 0, none⟩) 1 K) := ⟨g.es.cells.1, g.es.cells.2.1, g.es.cells.2.2.2.2⟩
theorem HqO.r0 {w : World} {h m : Nat} {a : Option Addr} {c R K : Nat} (g : HqO w h m a c R K) : w.cell? ⟨R, 0, none⟩ = some (.bool true) := by
 obtain ⟨R', c', e, _, c0, _⟩ := row_at (i := 0) (p := (true, 0)) g.es.rr rfl
 cases e
 exact c0
theorem HqO.r1 {w : World} {h m : Nat} {a : Option Addr} {c R K : Nat} (g : HqO w h m a c R K) : w.cell? ⟨R, 1, none⟩ = some (.int .u64 0) := by
 obtain ⟨R', c', e, _, _, c1, _⟩ := row_at (i := 0) (p := (true, 0)) g.es.rr rfl
 cases e
 exact c1
theorem HqO.words {w : World} {h m : Nat} {a : Option Addr} {c R K : Nat} (g : HqO w h m a c R K) : Nums w a 3 := by
 intro j hj
 have key : ∀ (i : Nat) (x : Nat), (yI 2)[i]? = some (false, x) → ∃ g k y, a = some ⟨g, k, none⟩ ∧ w.cell? ⟨g, k + i * 2, none⟩ = some (.bool false) ∧ w.cell? ⟨g, k + i * 2 + 1, none⟩ = some (.int .u64 y) := fun i x hi => by
  obtain ⟨Y, c', e, _, c0, c1, _⟩ := row_at (i := i) (p := (false, x)) g.es.ry hi
  cases e
  refine ⟨Y, 0, (x : Int), rfl, ?_, ?_⟩
  ·rw [Nat.zero_add]; exact c0
  ·rw [Nat.zero_add]; exact c1
 rcases (by omega : j = 0 ∨ j = 1 ∨ j = 2) with rfl | rfl | rfl
 ·exact key 0 1028 rfl
 ·exact key 1 1 rfl
 ·exact key 2 20 rfl
theorem at1q (h m : Nat) (a : Option Addr) (c R K : Nat) (w : World) (hO : HqO w h m a c R K) :
  Calls Tryz.prog 48 #[.pointer (some ⟨h, 0, none⟩), .int .u64 0] w fun e w' => ∃ k, e = .returned (.slice a 3 k) ∧ Only (fun _ => False) w w' := by
 refine (at_any h m 50 _ _ (yI 2) R0 0 1028 3 w hO.es (yI_ob 2) (by decide)).mono ?_
 rintro e w' ⟨Y, k, hq, rfl, o⟩
 have h1 : (Value.slice a 3 c).ownBlock = some Y := hq.1
 obtain ⟨Y', c', e', _⟩ := row_at (i := 0) (p := (false, 1028)) hO.es.ry rfl
 cases e'
 obtain rfl : Y' = Y := by simpa [Value.ownBlock] using h1
 exact ⟨k, by rw [Nat.zero_mul], o⟩
theorem nm_outq {w X w4 : World} {h m : Nat} {a : Option Addr} {c R K N M G : Nat} (hO : HqO w h m a c R K) (hX : RcA w X N M G) (hn : Nm1 X G (N + 1) w4) :
  ∃ q k, w4.cell? ⟨N + 1, 0, none⟩ = some (.slice (some ⟨q, 0, none⟩) 1 k) ∧ w4.cell? ⟨q, 0, none⟩ = some (.int .u64 0) ∧ Only (fun _ => False) w w4 ∧ HqO w4 h m a c R K := by
 obtain ⟨o, ao, k, h1, h2⟩ := hn
 have n1 := hX.n
 have n2 := hX.gn
 have o4 : Only (fun _ => False) w w4 := hX.o.trans o (fun i hi e => by rcases e with e | e <;> omega)
 rcases h2.2 with ⟨e, _⟩ | ⟨q, cap, cur, e, hg1, hg2, hg3, _⟩
 ·cases e
 ·cases e
  have hc := h2.cells (g := q) rfl 0 _ rfl
  rw [addr_ad] at hc
  exact ⟨q, k, h1, hc, o4, hO.only o4⟩
set_option maxRecDepth 100000 in
set_option maxHeartbeats 16000000 in
theorem reachq (h m : Nat) (a : Option Addr) (c R K g : Nat) (w : World) (hO : HqO w h m a c R K) (hg : w.heap[g]? = some (.cells #[.slice (some ⟨R, 0, none⟩) 1 K] 63)) :
  Calls Tryz.prog 50 #[.pointer (some ⟨h, 0, none⟩), .int .u64 0, .slice (some ⟨g, 0, none⟩) 1 1] w fun e w' => ∃ q k, e = .returned (.slice (some ⟨q, 0, none⟩) 1 k) ∧ Hid (w'.cell? ⟨q, 0, none⟩ = some (.int .u64 0) ∧ Only (fun _ => False) w w') := by
 have h0 := hO.cells.1
 have h1 := hO.cells.2.1
 have HU : Hid (∀ w1, Only (fun _ => False) w w1 → Calls Tryz.prog 89 #[.pointer (some ⟨h, 0, none⟩)] w1 fun e w' => e = .returned (.int .i64 3) ∧ Only (fun _ => False) w1 w') := fun w1 o => (used_any h none a 0 3 0 c (by omega) (by omega) w1 (o.cell h0 (fun g => g)) (o.cell h1 (fun g => g))).mono fun e w' h => h
 have HO : Hid (HqO w h m a c R K ∧ w.heap[g]? = some (.cells #[.slice (some ⟨R, 0, none⟩) 1 K] 63)) := ⟨hO, hg⟩
 have hm := made3
 have hw0 : IntKind.u64.wrap 0 = 0 := by decide
 have hw3 : IntKind.u64.wrap 3 = 3 := by decide
 clear h0 h1 hO hg
 go_enter Tryz.func50, Tryz.ntmps50
 go_wp2_with fail
 obtain ⟨W1, hW1⟩ : ∃ W1, W1 = (w.alloc (.cells #[.int .u64 0] 70)).alloc (.cells #[.slice none 0 0] 95) := ⟨_, rfl⟩
 obtain ⟨N, hN⟩ : ∃ N, N = w.heap.size := ⟨_, rfl⟩
 have O1 : Hid (Only (fun _ => False) w W1) := by rw [hW1]; exact ((Only.refl _ w).alloc _).alloc _
 have b0 : W1.heap[N]? = some (.cells #[.int .u64 0] 70) := by rw [hW1]; exact ((Only.refl (fun _ => False) _).alloc _).at (alloc_at _ _ _ hN)
 have b1 : W1.heap[N + 1]? = some (.cells #[.slice none 0 0] 95) := by rw [hW1]; exact alloc_at _ _ _ (by simp [hN])
 have HB : Hid (W1.heap[N]? = some (.cells #[.int .u64 0] 70) ∧ W1.heap[N + 1]? = some (.cells #[.slice none 0 0] 95)) := ⟨b0, b1⟩
 have c0 : W1.cell? ⟨N, 0, none⟩ = some (.int .u64 0) := hb_cell b0 0
 rw [← hW1, ← hN]
 have HW : Hid (∀ W, Only (fun _ => False) W1 W → W.cell? ⟨N, 0, none⟩ = some (.int .u64 0)) := fun W o => o.cell c0 (fun g => g)
 have c0A : ∀ x, (W1.alloc x).cell? ⟨N, 0, none⟩ = some (.int .u64 0) := fun x => HW.out _ ((Only.refl _ _).alloc _)
 have HZ : Hid (N = w.heap.size ∧ W1.heap.size = N + 2) := ⟨hN, by rw [hW1, hN]; simp⟩
 clear b0 b1 hW1 hN
 go_region_with (go_at_call 89; refine (show Calls Tryz.prog 89 _ _ _ from HU.out _ (O1.out.trans (show Only (fun _ => False) W1 _ by repeat' first | exact Only.refl _ _ | apply Only.alloc | apply Only.drew) (fun _ _ g => g))).mono ?_; rintro e w2 ⟨rfl, o2⟩; have O2 : Hid (Only (fun _ => False) W1 w2) := (Only.trans (show Only (fun _ => False) W1 _ by repeat' first | exact Only.refl _ _ | apply Only.alloc | apply Only.drew) o2 (fun _ _ g => g)); have l2 := HW.out w2 O2.out; have l2A : ∀ x, (w2.alloc x).cell? ⟨N, 0, none⟩ = some (.int .u64 0) := fun x => ((Only.refl (fun _ => False) w2).alloc x).cell l2 (fun g => g); try (have mb := o2.at (alloc_at _ _ _ rfl); have mc : ∀ x, (w2.alloc x).cell? ⟨W1.heap.size, 0, none⟩ = some (.slice none 0 0) := fun x => hb_cell (((Only.refl (fun _ => False) w2).alloc x).at mb) 0; have mf : ∀ x, (w2.alloc x).frozen? ⟨W1.heap.size, 0, none⟩ = false := fun x => hb_froz (((Only.refl (fun _ => False) w2).alloc x).at mb) 0; have MB : Hid _ := mb))
 all_goals
  refine then_at fun X hX => ?_
  first
   | (have RX := rca1 O1.out O2.out HB.out.1 HB.out.2 HZ.out X hX; generalize w2.heap.size + 1 = M at RX ⊢; generalize w2.heap.size = G at RX ⊢)
   | (have RX := rca2 O1.out O2.out HB.out.1 HB.out.2 HZ.out X hX; generalize w2.heap.size + 1 = G at RX ⊢; generalize w2.heap.size = M at RX ⊢)
   | (have RX := rca3 O1.out O2.out HB.out.1 HB.out.2 HZ.out MB.out X hX; generalize w2.heap.size = G at RX ⊢; generalize W1.heap.size = M at RX ⊢)
  clear hX O2 l2 l2A c0 c0A hm hw0 hw3 o2
  try clear mb mc mf MB
  clear HB HZ HW HU O1
  have HX : Hid (RcA w X N M G) := RX
  have x1 := hb_cell (RX.o.at HO.out.2) 0
  have OX := HO.out.1.only RX.o
  have HN : Hid _ := name1 R 0 K N M G (N + 1) X OX.r0 OX.r1 (hb_cell RX.l 0) (hb_cell RX.m 0) (hb_cell RX.g 0) (hb_froz RX.g 0) (hb_cell RX.r 0) (hb_froz RX.r 0) (by have := RX.gn; omega) (by omega) (by have := RX.gn; omega) (by have := RX.mn; omega) (by have := RX.gm; omega)
  clear RX OX
  simp only [List.getElem?_toArray, List.getElem?_cons_zero] at x1
  go_wp2
  go_loopw [22] (fun r wr => ∃ i : Int, r = .int .i64 i ∧ ((i = 0 ∧ wr = X) ∨ (i = 1 ∧ Hid (Nm1 X G (N + 1) wr)))) (fun r _ => 1 - uOH r)
  case atStart => exact ⟨0, rfl, .inl ⟨rfl, rfl⟩⟩
  case round =>
   obtain ⟨i, rfl, ⟨rfl, hwr⟩ | ⟨rfl, H1⟩⟩ := hrel
   ·obtain rfl := hwr.symm
    go_wp2_with fail
    refine (show Calls Tryz.prog 90 _ _ _ from HN.out).mono ?_
    rintro e w3 ⟨rfl, h3⟩
    have H3 : Hid (Nm1 X G (N + 1) w3) := h3
    clear HN h3 x1
    go_wp2
    go_roundw
    case rel => exact ⟨1, rfl, .inr ⟨rfl, H3⟩⟩
    case measure => decide
   ·clear HN x1
    obtain ⟨w4, hw4⟩ : ∃ w4, w4 = wr := ⟨_, rfl⟩
    rw [← hw4]
    obtain ⟨q, k', q0, q1, O4, P4⟩ := nm_outq HO.out.1 HX.out (hw4 ▸ H1.out)
    have H4 : Hid (Only (fun _ => False) w w4 ∧ HqO w4 h m a c R K ∧ w4.cell? ⟨N + 1, 0, none⟩ = some (.slice (some ⟨q, 0, none⟩) 1 k') ∧ w4.cell? ⟨q, 0, none⟩ = some (.int .u64 0)) := ⟨O4, P4, q0, q1⟩
    clear H1 O4 P4 hw4 HX HO
    go_wp2
    go_loopw [12] (fun r wr => ∃ i : Int, r = .int .i64 i ∧ (i = 0 ∨ i = 1) ∧ Hid (Only (fun _ => False) w4 wr)) (fun r _ => 1 - uOH r)
    case atStart => exact ⟨0, rfl, .inl rfl, Only.refl _ _⟩
    case round =>
     obtain ⟨i, rfl, rfl | rfl, HI⟩ := hrel
     ·obtain ⟨w5, hw5⟩ : ∃ w5, w5 = wr := ⟨_, rfl⟩
      rw [← hw5]
      rw [← hw5] at HI
      clear hw5 q0 q1
      have q0 := HI.out.cell H4.out.2.2.1 (fun g => g)
      have q1 := HI.out.cell H4.out.2.2.2 (fun g => g)
      have HA : Hid _ := at1q h m a c R K w5 (H4.out.2.1.only HI.out)
      go_wp2_with fail
      refine (show Calls Tryz.prog 48 _ _ _ from HA.out).mono ?_
      rintro e w6 ⟨k6, rfl, o6⟩
      have O6 : Hid (Only (fun _ => False) w4 w6) := HI.out.trans o6 (fun _ _ g => g)
      have HNm : Hid _ := name0 a 3 k6 N M (N + 1) w6 (by omega) (H4.out.2.1.only O6.out).words
      clear HA o6 HI q0 q1
      go_wp2_with fail
      refine (show Calls Tryz.prog 90 _ _ _ from HNm.out).mono ?_
      rintro e w7 ⟨rfl, o7⟩
      have O7 : Hid (Only (fun _ => False) w4 w7) := O6.out.trans o7 (fun _ _ g => g)
      clear HNm o7 O6
      go_wp2
      go_roundw
      case rel => exact ⟨1, rfl, .inr rfl, O7⟩
      case measure => decide
     ·clear q0 q1
      have q0 := HI.out.cell H4.out.2.2.1 (fun g => g)
      have HK : Hid (wr.cell? ⟨q, 0, none⟩ = some (.int .u64 0) ∧ Only (fun _ => False) w wr) := ⟨HI.out.cell H4.out.2.2.2 (fun g => g), H4.out.1.trans HI.out (fun _ _ g => g)⟩
      clear HI H4
      go_wp2
      go_ret
      exact ⟨q, k', rfl, HK⟩
end Go.Proofs.YtbbeoobihdldcaaGreatDoor
namespace Go.Proofs.YtbbeoobihdldcaaGreatDoor
open Go.RowKit Go.Maps Go.ChangeMaps Go.MapKept
set_option linter.unusedSimpArgs false
set_option linter.unusedVariables false
def hvq : Value → Option (DataW Value × List MemPlace) := fun v => some (.held v, [])
theorem own0 (P : Program) (k : TypeId) (W : World) (m c : Nat) (h : W.heap[m]? = some (.map #[] c)) : W.ownsMap P k hvq m 0 (.map []) :=
 ⟨#[], c, h, ⟨by simp, stamped_empty c, by simp⟩, Nat.le_refl _, rfl⟩
theorem own_frame {P : Program} {k : TypeId} {w w' : World} {b n : Nat} {D : DataW Value} {bs : Nat → Prop} (h : w.ownsMap P k hvq b n D) (ho : Only bs w w') (hn : ¬ bs b) : w'.ownsMap P k hvq b n D := by
 have hlt := h.lt
 obtain ⟨es, clock, hb, F, hs, hD⟩ := h
 exact ⟨es, clock, (ho.block b hlt hn).trans hb, F, hs, hD⟩
theorem turned_only {w w' : World} {b : Nat} (h : w.mapTurned w' b) : Only (fun i => i = b) w w' ∧ w'.heap.size = w.heap.size := by
 have hg := h.grown
 refine ⟨⟨hg.os, hg.tape, hg.output, hg.size, fun k hk hn => hg.block k hk (fun e => hn (by injection e))⟩, ?_⟩
 obtain ⟨es, clock, es', clock', hb, rfl⟩ := h
 simp [ChangeMaps.setBlock]
def dU : DataW Value := (DataW.map []).put (.int .u64 0) (.held (.int .u64 0))
theorem keyed_u : Keyed Tryz.prog 70 := int_keyed Tryz.underlying70
theorem keyed_i : Keyed Tryz.prog 3 := int_keyed Tryz.underlying3
theorem zero_u (w : World) : (zeroValue 70).run Tryz.prog w = .ok (.int .u64 0) w := by kernel_rfl
theorem zero_i (w : World) : (zeroValue 3).run Tryz.prog w = .ok (.int .i64 0) w := by kernel_rfl
theorem put_u (W : World) (m c : Nat) (h : W.heap[m]? = some (.map #[] c)) : ∃ w', (Instr.mapUpdate 94 (.map (some m)) (.int .u64 0) (.int .u64 0)).run Tryz.prog W = .ok () w' ∧ w'.ownsMap Tryz.prog 70 hvq m 1 dU ∧ Only (fun i => i = m) W w' ∧ w'.heap.size = W.heap.size := by
 obtain ⟨w', hr, ho, ht⟩ := (own0 Tryz.prog 70 W m c h).store keyed_u Tryz.underlying94 (by decide) (keyOf_int_mk Tryz.underlying70 (a := 0) (by decide)) (val := .int .u64 0) (d := .held (.int .u64 0)) (ps := []) rfl
 exact ⟨w', hr, ho, (turned_only ht).1, (turned_only ht).2⟩
theorem look_u {w : World} {m n : Nat} (h : w.ownsMap Tryz.prog 70 hvq m n dU) : (Instr.lookup 94 (.map (some m)) (.int .u64 0) true).run Tryz.prog w = .ok (.tuple #[.int .u64 0, .bool true]) w := by
 obtain ⟨v, ps, hr, hR⟩ := h.look_ok keyed_u Tryz.underlying94 (zero_u w) (zd := .held (.int .u64 0)) (zp := []) rfl (keyOf_int_mk Tryz.underlying70 (a := 0) (by decide))
 have e1 : Maps.has dU (.int .u64 0) = true := by rfl
 have e2 : dU.atKey (.int .u64 0) (.held (.int .u64 0)) = .held (.int .u64 0) := by rfl
 rw [e2] at hR
 rw [e1] at hr
 simp only [hvq, Option.some.injEq, Prod.mk.injEq, DataW.held.injEq] at hR
 rw [hr, hR.1]
def dI (k x : Int) : DataW Value := (DataW.map []).put (.int .i64 k) (.held (.int .i64 x))
theorem put_i (W : World) (m c : Nat) (h : W.heap[m]? = some (.map #[] c)) (k x : Int) (hk : (Lit.int .i64 k).wf = true) : ∃ w', (Instr.mapUpdate 108 (.map (some m)) (.int .i64 k) (.int .i64 x)).run Tryz.prog W = .ok () w' ∧ w'.ownsMap Tryz.prog 3 hvq m 1 (dI k x) ∧ Only (fun i => i = m) W w' ∧ w'.heap.size = W.heap.size := by
 obtain ⟨w', hr, ho, ht⟩ := (own0 Tryz.prog 3 W m c h).store keyed_i Tryz.underlying108 (by decide) (keyOf_int_mk Tryz.underlying3 hk) (val := .int .i64 x) (d := .held (.int .i64 x)) (ps := []) rfl
 exact ⟨w', hr, ho, (turned_only ht).1, (turned_only ht).2⟩
theorem look_i1 {w : World} {m n : Nat} (x : Int) (h : w.ownsMap Tryz.prog 3 hvq m n (dI 1 x)) : (Instr.lookup 108 (.map (some m)) (.int .i64 1) false).run Tryz.prog w = .ok (.int .i64 x) w := by
 obtain ⟨v, ps, hr, hR⟩ := h.lookup keyed_i Tryz.underlying108 (zero_i w) (zd := .held (.int .i64 0)) (zp := []) rfl (keyOf_int_mk Tryz.underlying3 (a := 1) (by decide))
 have e2 : (dI 1 x).atKey (.int .i64 1) (.held (.int .i64 0)) = .held (.int .i64 x) := by rfl
 rw [e2] at hR
 simp only [hvq, Option.some.injEq, Prod.mk.injEq, DataW.held.injEq] at hR
 rw [hr, hR.1]
theorem look_i0 {w : World} {m c : Nat} (k : Int) (hk : (Lit.int .i64 k).wf = true) (h : w.heap[m]? = some (.map #[] c)) : (Instr.lookup 108 (.map (some m)) (.int .i64 k) true).run Tryz.prog w = .ok (.tuple #[.int .i64 0, .bool false]) w := by
 obtain ⟨v, ps, hr, hR⟩ := (own0 Tryz.prog 3 w m c h).look_ok keyed_i Tryz.underlying108 (zero_i w) (zd := .held (.int .i64 0)) (zp := []) rfl (keyOf_int_mk Tryz.underlying3 hk)
 have e1 : Maps.has (.map [] : DataW Value) (.int .i64 k) = false := by rfl
 have e2 : (DataW.map [] : DataW Value).atKey (.int .i64 k) (.held (.int .i64 0)) = .held (.int .i64 0) := by rfl
 rw [e2] at hR
 rw [e1] at hr
 simp only [hvq, Option.some.injEq, Prod.mk.injEq, DataW.held.injEq] at hR
 rw [hr, hR.1]
end Go.Proofs.YtbbeoobihdldcaaGreatDoor
namespace Go.Proofs.YtbbeoobihdldcaaGreatDoor
open Go.RowKit
set_option linter.unusedSimpArgs false
set_option linter.unusedVariables false
set_option maxRecDepth 100000 in
set_option maxHeartbeats 4000000 in
theorem clone_any {n c : Nat} {l : List (Bool × Nat)} {ad : Addr} {w : World} (hl : l.length = n) (h0 : 0 < n) (hn : n ≤ 100000) (hu : ∀ j u, (fl l)[j]? = some u → w.cell? (ad.add j) = some u) : Calls Tryz.prog 76 #[.slice (some ad) n c] w fun e w' => ∃ a c', e = .returned (.slice a n c') ∧ Hid (w'.ownsRow w.heap.size 72 2 (.slice a n c') n (fl l) ∧ Only (fun _ => False) w w') := by
 obtain ⟨i0, hi, hz0, hz1, hz2⟩ := info_parts infoF
 obtain ⟨W, hW⟩ : ∃ W, W = w.alloc (.cells #[] 72) := ⟨_, rfl⟩
 have oW : Only (fun _ => False) w W := by rw [hW]; exact (Only.refl _ w).alloc _
 have bW : W.heap[w.heap.size]? = some (.cells #[] 72) := by rw [hW]; exact alloc_at _ _ _ rfl
 have own : W.ownsRow w.heap.size 72 2 (.slice (some ⟨w.heap.size, 0, none⟩) 0 0) 0 [] := ⟨rfl, .inr ⟨w.heap.size, 0, #[], rfl, Nat.le_refl _, bW, Nat.le_refl _, by decide, rfl, rfl⟩⟩
 have key := fun ty => run_append_own_at (P := Tryz.prog) W w.heap.size 63 ty 72 i0 (.agg #[.bool false, .int .u64 0]) 2 16 Tryz.underlying63 hi hz0 hz1 hz2 rfl (by omega) _ 0 [] own ad n c (fl l) (by rw [fl_len, hl]) (fun j u h => oW.cell (hu j u h) (fun g => g)) (fl_one l) (by unfold maxLen; omega) (by omega) oW.size
 obtain ⟨v', w', hr, own', hg, _, hat⟩ := key 0
 rw [Nat.zero_add, List.nil_append] at own'
 obtain ⟨a, c', rfl⟩ := ownsRow_slice own'
 have HF : Hid (w'.ownsRow w.heap.size 72 2 (.slice a n c') n (fl l) ∧ Only (fun _ => False) w w') := by
  refine ⟨own', oW.trans ((Only.refl (fun k => k = w.heap.size) W).grown hg (fun k e _ => by simpa [Value.ownBlock] using e.symm)) (fun k hk e => by omega)⟩
 have HA : Hid (∀ ty, (Builtin.append_ #[63, 63] ty #[.slice (some ⟨w.heap.size, 0, none⟩) 0 0, .slice (some ad) n c]).run Tryz.prog W = .ok (.slice a n c') w') := fun ty => by rw [← hr]; rfl
 clear hi hz0 hz1 hz2 oW bW own key hr own' hg hat hu hl h0 hn
 go_enter Tryz.func76, Tryz.ntmps76
 have hnil : ∀ W, (binOp .eql 63 (.slice (some ad) n c) (.slice none 0 0)).run Tryz.prog W = .ok (.bool false) W := fun W => by
  have := Lib.run_eql_slice_nil (P := Tryz.prog) W 63 72 (some ad) n c 0 0 Tryz.underlying63
  simpa using this
 have HA2 : Hid (∀ ty, (Builtin.append_ #[63, 63] ty #[.slice (some ⟨w.heap.size, 0, none⟩) 0 0, .slice (some ad) n c]).run Tryz.prog (w.alloc (.cells #[] 72)) = .ok (.slice a n c') w') := by rw [← hW]; exact HA
 clear HA hW
 go_wp2_with (at_builtin; refine wpList_append_run rfl _ _ 63 rfl _ _ _ rfl rfl HA2.out ?_)
 go_wp2
 go_ret
 exact ⟨a, c', rfl, HF.out⟩
theorem rename_nums (ao : Option Addr) (n c : Nat) (mv : Value) (w : World) (hn : n ≤ 100) (hf : Nums w ao n) : Calls Tryz.prog 49 #[.slice ao n c, mv] w fun e w' => e = .returned (.tuple #[]) ∧ Only (fun _ => False) w w' := by
 have HF : Hid _ := hf
 clear hf
 go_enter Tryz.func49, Tryz.ntmps49
 go_wp2
 go_loopw [10] (fun r wr => ∃ i : Nat, r = .int .i64 (i : Int) ∧ i ≤ n ∧ Hid (Only (fun _ => False) w wr)) (fun r _ => n - uOH r)
 case atStart => exact ⟨0, rfl, Nat.zero_le _, Only.refl _ _⟩
 case round =>
  obtain ⟨i, rfl, hi, HI⟩ := hrel
  obtain ⟨w1, rfl⟩ : ∃ w1, w1 = wr := ⟨_, rfl⟩
  by_cases hin : i < n
  ·obtain ⟨g, k, x, rfl, c0, c1⟩ := HF.out i hin
   have c0 := HI.out.cell c0 (fun g => g)
   have c1 := HI.out.cell c1 (fun g => g)
   have HB : Hid (i < n) := hin
   have i1 : (i : Int) < (n : Int) := by omega
   have i0 : (0 : Int) ≤ (i : Int) := by omega
   have HO : Hid (Only (fun _ => False) w (w1.alloc (.cells #[.bool false, .int .u64 x] 72))) := HI.out.alloc _
   clear HI
   go_wp2
   go_roundw
   case rel => exact ⟨i + 1, by go_num, by have := HB.out; omega, HO⟩
   case measure => simp only [uOH]; have := HB.out; omega
  ·obtain rfl : i = n := by omega
   have i1 : ¬ (i : Int) < (i : Int) := by omega
   go_wp2
   go_end0
   exact ⟨rfl, HI.out⟩
end Go.Proofs.YtbbeoobihdldcaaGreatDoor
