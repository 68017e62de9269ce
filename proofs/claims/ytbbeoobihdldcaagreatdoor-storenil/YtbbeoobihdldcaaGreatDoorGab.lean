/-          -/
import Derived.Test.YtbbeoobihdldcaaGreatDoorGaa
import Derived.Laws.OwnMore
import Derived.Laws.IdiomCopy
import Derived.Lib.SliceRun
namespace Go.Proofs.YtbbeoobihdldcaaGreatDoor
open Go.RowKit
set_option linter.unusedSimpArgs false
set_option linter.unusedVariables false
theorem fields_any (g q sz c : Nat) (hs : 2 ≤ sz) (hc : sz ≤ c) (w : World) : Calls Tryz.prog 71 #[.slice (some ⟨g, q, none⟩) sz c] w fun e w' => e = .returned (.slice (some ⟨g, q + 2, none⟩) (sz - 1) (c - 1)) ∧ w' = w := by
 have s1 := sl_fr 97 (.inr rfl) .i64 g q sz c 1 (by omega) hc
 go_enter Tryz.func71, Tryz.ntmps71
 go_wp2
 go_ret
 exact ⟨rfl, rfl⟩
theorem ohas_any (g q sz c f : Nat) (hs : 2 ≤ sz) (hc : sz ≤ c) (hf : f < sz - 1) (w : World) : Calls Tryz.prog 70 #[.slice (some ⟨g, q, none⟩) sz c, .int .i64 (f : Int)] w fun e w' => e = .returned (.bool true) ∧ w' = w := by
 have HF : Hid _ := fields_any g q sz c hs hc w
 have e1 : decide ((0 : Int) ≤ (f : Int)) = true := by simp
 have e2 : decide ((f : Int) < ((sz - 1 : Nat) : Int)) = true := by simp; omega
 have e3 : (0 : Int) ≤ (f : Int) := by omega
 have e4 : (f : Int) < ((sz - 1 : Nat) : Int) := by omega
 obtain ⟨z, hz⟩ : ∃ z, z = sz - 1 := ⟨_, rfl⟩
 rw [← hz] at HF e2 e4
 clear hz hf
 go_enter Tryz.func70, Tryz.ntmps70
 go_wp2_with (go_at_call 71; refine (show Calls Tryz.prog 71 _ _ _ from HF.out).mono ?_; rintro e w1 ⟨rfl, hq⟩; rw [hq]; clear hq)
 go_wp2
 go_ret
 exact ⟨rfl, rfl⟩
theorem raw_no (g q sz c hd : Nat) (hs : 1 ≤ sz) (w : World) (c1 : w.cell? ⟨g, q + 1, none⟩ = some (.int .u64 (hd : Int))) (hw : bits .and .u64 (hd : Int) 256 = 0) : Calls Tryz.prog 72 #[.slice (some ⟨g, q, none⟩) sz c] w fun e w' => e = .returned (.bool false) ∧ w' = w := by
 have e1 : (0 : Int) < (sz : Int) := by omega
 go_enter Tryz.func72, Tryz.ntmps72
 go_wp2
 go_ret
 exact ⟨rfl, rfl⟩
theorem kind_of (g q sz c hd kd : Nat) (hs : 1 ≤ sz) (w : World) (c1 : w.cell? ⟨g, q + 1, none⟩ = some (.int .u64 (hd : Int))) (hw : bits .and .u64 (hd : Int) 255 = (kd : Int)) (hk : kd < 256) : Calls Tryz.prog 78 #[.slice (some ⟨g, q, none⟩) sz c] w fun e w' => e = .returned (.int .i64 (kd : Int)) ∧ w' = w := by
 have e1 : (0 : Int) < (sz : Int) := by omega
 have e2 : IntKind.i64.wrap (kd : Int) = (kd : Int) := by rw [IntKind.wrap_i64]; omega
 go_enter Tryz.func78, Tryz.ntmps78
 go_wp2
 go_ret
 exact ⟨rfl, rfl⟩
set_option maxRecDepth 100000 in
set_option maxHeartbeats 8000000 in
theorem object_any (h m : Nat) (cap : Int) (yv rv : Value) (y r : List (Bool × Nat)) (i a hd sz : Nat) (w : World) (hE : Hs w h m cap yv rv y r) (hO : ObA y a hd sz) (hy : y.length ≤ 100000) (hi : r[i]? = some (true, a)) :
  Calls Tryz.prog 69 #[.pointer (some ⟨h, 0, none⟩), .int .i64 (i : Int)] w fun e w' => ∃ Y c, Hid (yv.ownBlock = some Y ∧ sz ≤ c) ∧ e = .returned (.tuple #[.slice (some ⟨Y, a * 2, none⟩) sz c, .int .i64 0]) ∧ Only (fun _ => False) w w' := by
 obtain ⟨R, c, rfl, _, c0, c1, _, hn⟩ := row_at hE.rr hi
 have HH : Hid _ := has_yes h (some ⟨R, 0, none⟩) r.length c i w hE.cells.2.2.2.2 hn
 have HA : Hid (∀ W, Only (fun _ => False) w W → Calls Tryz.prog 48 #[.pointer (some ⟨h, 0, none⟩), .int .u64 (a : Int)] W fun e w' => ∃ Y c, Hid (yv.ownBlock = some Y ∧ sz ≤ c) ∧ e = .returned (.slice (some ⟨Y, a * 2, none⟩) sz c) ∧ Only (fun _ => False) W w') := fun W o => at_any h m cap yv _ y r a hd sz W (hE.only o) hO hy
 have d4 := hE.cells.2.2.2.2
 have e3 : (0 : Int) ≤ (i : Int) := by omega
 have e4 : (i : Int) < (r.length : Int) := by omega
 clear hE hO hi
 go_enter Tryz.func69, Tryz.ntmps69
 go_wp2_with fail
 refine (show Calls Tryz.prog 67 _ _ _ from HH.out).mono ?_
 rintro e w1 ⟨rfl, hq⟩
 rw [hq]
 clear hq HH w1
 go_wp2_with fail
 go_region_with (go_at_call 48; refine (show Calls Tryz.prog 48 _ _ _ from HA.out _ (by repeat' first | exact Only.refl _ _ | apply Only.alloc | apply Only.drew)).mono ?_; rintro e w2 ⟨Y, k, HQ, rfl, o2⟩; have O2 : Hid (Only (fun _ => False) w w2) := (Only.trans (show Only (fun _ => False) w _ by repeat' first | exact Only.refl _ _ | apply Only.alloc | apply Only.drew) o2 (fun _ _ g => g)))
 all_goals
  go_wp2
  go_ret2
  exact ⟨Y, k, HQ, rfl, O2.out⟩
set_option maxRecDepth 100000 in
set_option maxHeartbeats 8000000 in
theorem info_any (h m : Nat) (cap : Int) (yv rv : Value) (y r : List (Bool × Nat)) (i a hd sz kd : Nat) (w : World) (hE : Hs w h m cap yv rv y r) (hO : ObA y a hd sz) (hy : y.length ≤ 100000) (hi : r[i]? = some (true, a)) (hs : 2 ≤ sz) (hk : bits .and .u64 (hd : Int) 255 = (kd : Int)) (hk2 : kd < 256) (hw : bits .and .u64 (hd : Int) 256 = 0) :
  Calls Tryz.prog 39 #[.pointer (some ⟨h, 0, none⟩), .int .i64 (i : Int)] w fun e w' => e = .returned (.tuple #[.int .i64 (kd : Int), .int .i64 ((sz - 1 : Nat) : Int), .bool false, .int .i64 0]) ∧ Only (fun _ => False) w w' := by
 have HO : Hid _ := object_any h m cap yv rv y r i a hd sz w hE hO hy hi
 obtain ⟨Y, c, hyv, hob, c0, c1, _, hn⟩ := row_at hE.ry hO.at_
 have HC : Hid (yv.ownBlock = some Y ∧ ∀ W, Only (fun _ => False) w W → W.cell? ⟨Y, a * 2 + 1, none⟩ = some (.int .u64 (hd : Int))) := ⟨hob, fun W o => o.cell c1 (fun g => g)⟩
 have HS : Hid (2 ≤ sz ∧ bits .and .u64 (hd : Int) 255 = (kd : Int) ∧ kd < 256 ∧ bits .and .u64 (hd : Int) 256 = 0) := ⟨hs, hk, hk2, hw⟩
 clear hE hO hi hs hk hk2 hw hy hyv hob c0 c1 hn
 go_enter Tryz.func39, Tryz.ntmps39
 go_wp2_with fail
 refine (show Calls Tryz.prog 69 _ _ _ from HO.out).mono ?_
 rintro e w1 ⟨Y2, k, hq, rfl, o1⟩
 obtain rfl : Y2 = Y := by have := hq.out.1; rw [HC.out.1] at this; simpa using this.symm
 obtain ⟨hs, hk, hk2, hw⟩ := HS.out
 have HK : Hid _ := kind_of Y2 (a * 2) sz k hd kd (by omega) w1 (HC.out.2 w1 o1) hk hk2
 have HF : Hid _ := fields_any Y2 (a * 2) sz k hs hq.out.2 w1
 have HR : Hid _ := raw_no Y2 (a * 2) sz k hd (by omega) w1 (HC.out.2 w1 o1) hw
 have O1 : Hid (Only (fun _ => False) w w1) := o1
 clear HO hq o1 HC HS hs hk hk2 hw
 go_wp2_with (first
  | (go_at_call 78; refine (show Calls Tryz.prog 78 _ _ _ from HK.out).mono ?_; rintro e w2 ⟨rfl, hq⟩; rw [hq]; clear hq)
  | (go_at_call 71; refine (show Calls Tryz.prog 71 _ _ _ from HF.out).mono ?_; rintro e w2 ⟨rfl, hq⟩; rw [hq]; clear hq)
  | (go_at_call 72; refine (show Calls Tryz.prog 72 _ _ _ from HR.out).mono ?_; rintro e w2 ⟨rfl, hq⟩; rw [hq]; clear hq))
 (try simp only [Exit.inBlock, Exit.then])
 refine bodyPost_ret (results_four rfl _ _) rfl ?_
 exact ⟨rfl, O1.out⟩
end Go.Proofs.YtbbeoobihdldcaaGreatDoor
namespace Go.Proofs.YtbbeoobihdldcaaGreatDoor
open Go.RowKit
set_option linter.unusedSimpArgs false
set_option linter.unusedVariables false
theorem PuP.after {w w1 w' : World} {h m : Nat} {cap : Int} {yv rv : Value} {y r : List (Bool × Nat)} (o : Only (fun _ => False) w w1) (p : PuP w1 w' h m cap yv rv y r) : PuP w w' h m cap yv rv y r := by
 obtain ⟨rv', a, b, c⟩ := p
 have := o.size
 refine ⟨rv', a, fun k hk => ?_, (o.mono (bs' := fun k => k = h ∨ rv.ownBlock = some k) (fun _ _ g => g.elim)).trans c (fun _ _ g => g)⟩
 rcases b k hk with e | e
 ·exact .inl e
 ·exact .inr (by omega)
set_option maxRecDepth 100000 in
set_option maxHeartbeats 8000000 in
theorem get_any (h m : Nat) (cap : Int) (yv rv : Value) (y r : List (Bool × Nat)) (i a hd sz f : Nat) (p : Bool × Nat) (w : World) (hE : Hs w h m cap yv rv y r) (hO : ObA y a hd sz) (hy : y.length ≤ 100000) (hi : r[i]? = some (true, a)) (hs : 2 ≤ sz) (hf : f < sz - 1) (hr : r.length < 65536) (hp : y[a + 1 + f]? = some p) :
  Calls Tryz.prog 32 #[.pointer (some ⟨h, 0, none⟩), .int .i64 (i : Int), .int .i64 (f : Int)] w fun e w' => e = .returned (.int .i64 0) ∧ PuP w w' h m cap yv rv y (r ++ [p]) := by
 have HO : Hid _ := object_any h m cap yv rv y r i a hd sz w hE hO hy hi
 obtain ⟨Y, c, hyv, hob, c0, c1, _, hn⟩ := row_at hE.ry hp
 obtain ⟨b, x⟩ := p
 have q0 : (a + 1 + f) * 2 = a * 2 + 2 + f * 2 := by omega
 rw [q0] at c0 c1
 have HC : Hid (yv.ownBlock = some Y ∧ ∀ W, Only (fun _ => False) w W → (W.cell? ⟨Y, a * 2 + 2 + f * 2, none⟩ = some (.bool b) ∧ W.cell? ⟨Y, a * 2 + 2 + f * 2 + 1, none⟩ = some (.int .u64 (x : Int))) ∧ Calls Tryz.prog 68 #[.pointer (some ⟨h, 0, none⟩), .agg #[.bool b, .int .u64 (x : Int)]] W fun e w' => e = .returned (.int .i64 0) ∧ PuP W w' h m cap yv rv y (r ++ [(b, x)])) := ⟨hob, fun W o => ⟨⟨o.cell c0 (fun g => g), o.cell c1 (fun g => g)⟩, push_any h m cap yv rv y r b x W (hE.only o) hr⟩⟩
 have HS : Hid (2 ≤ sz ∧ f < sz - 1) := ⟨hs, hf⟩
 obtain ⟨z, hz⟩ : ∃ z, z = sz - 1 := ⟨_, rfl⟩
 have e3 : (0 : Int) ≤ (f : Int) := by omega
 have e4 : (f : Int) < (z : Int) := by omega
 have HZ : Hid (z = sz - 1) := hz
 clear hE hO hi hs hf hy hyv hob c0 c1 hn hp hr q0 hz
 go_enter Tryz.func32, Tryz.ntmps32
 go_wp2_with fail
 refine (show Calls Tryz.prog 69 _ _ _ from HO.out).mono ?_
 rintro e w1 ⟨Y2, k, hq, rfl, o1⟩
 obtain rfl : Y2 = Y := by have := hq.out.1; rw [HC.out.1] at this; simpa using this.symm
 have HK : Hid _ := ohas_any Y2 (a * 2) sz k f HS.out.1 hq.out.2 HS.out.2 w1
 have HF : Hid _ := fields_any Y2 (a * 2) sz k HS.out.1 hq.out.2 w1
 rw [← show z = sz - 1 from HZ.out] at HF
 obtain ⟨⟨c0, c1⟩, hP⟩ := HC.out.2 w1 o1
 have HP : Hid _ := hP
 have O1 : Hid (Only (fun _ => False) w w1) := o1
 clear HO hq o1 HC HS hP HZ
 go_wp2_with (first
  | (go_at_call 70; refine (show Calls Tryz.prog 70 _ _ _ from HK.out).mono ?_; rintro e w2 ⟨rfl, hq⟩; rw [hq]; clear hq)
  | (go_at_call 71; refine (show Calls Tryz.prog 71 _ _ _ from HF.out).mono ?_; rintro e w2 ⟨rfl, hq⟩; rw [hq]; clear hq)
  | (go_at_call 68; refine (show Calls Tryz.prog 68 _ _ _ from HP.out).mono ?_; rintro e w2 ⟨rfl, hq⟩; have HR : Hid (PuP w1 w2 h m cap yv rv y (r ++ [(b, x)])) := hq; clear hq))
 go_ret
 exact ⟨rfl, HR.out.after O1.out⟩
end Go.Proofs.YtbbeoobihdldcaaGreatDoor
namespace Go.Proofs.YtbbeoobihdldcaaGreatDoor
open Go.RowKit
set_option linter.unusedSimpArgs false
set_option linter.unusedVariables false
theorem own_past {w : World} {B e size n g c : Nat} {xs : List Value} (h : w.ownsRow B e size (.slice (some ⟨g, 0, none⟩) n c) n xs) (j : Nat) (hj : n * size ≤ j) (u : Value) : (w.setCell ⟨g, j, none⟩ u).ownsRow B e size (.slice (some ⟨g, 0, none⟩) n c) n xs := by
 refine ⟨h.1, ?_⟩
 rcases h.2 with ⟨hv, _⟩ | ⟨g', cap, cur, hv, hb, hg, hc, hcm, hcs, ht⟩
 ·cases hv
 ·simp only [Value.slice.injEq, Option.some.injEq, Addr.mk.injEq, and_true, true_and] at hv
  obtain ⟨rfl, rfl⟩ := hv
  refine .inr ⟨g, c, _, rfl, hb, heap_setCell_same w g j _ _ u hg, hc, hcm, ?_, ?_⟩
  ·simpa using hcs
  ·rw [← ht]
   apply List.ext_getElem?
   intro q
   simp only [List.getElem?_take, Array.getElem?_toList, Array.getElem?_setIfInBounds]
   by_cases e : q < n * size
   ·have e2 : ¬ j = q := by omega
    simp [e, e2]
   ·simp [e]
theorem own_pasts {B e size n g c : Nat} {xs : List Value} : ∀ (vs : List Value) (o : Nat) (w : World), w.ownsRow B e size (.slice (some ⟨g, 0, none⟩) n c) n xs → n * size ≤ o → (w.setCells g o vs).ownsRow B e size (.slice (some ⟨g, 0, none⟩) n c) n xs
 | [], _, _, h, _ => h
 | v :: r, o, w, h, ho => own_pasts r (o + 1) (w.setCell ⟨g, o, none⟩ v) (own_past h o ho v) (by omega)
theorem own_take {w : World} {B e size n g c i : Nat} {xs : List Value} (h : w.ownsRow B e size (.slice (some ⟨g, 0, none⟩) n c) n xs) (hi : i ≤ n) : w.ownsRow B e size (.slice (some ⟨g, 0, none⟩) i c) i (xs.take (i * size)) := by
 have hm : i * size ≤ n * size := Nat.mul_le_mul_right _ hi
 refine ⟨by rw [List.length_take, h.1]; omega, ?_⟩
 rcases h.2 with ⟨hv, _⟩ | ⟨g', cap, cur, hv, hb, hg, hc, hcm, hcs, ht⟩
 ·cases hv
 ·simp only [Value.slice.injEq, Option.some.injEq, Addr.mk.injEq, and_true, true_and] at hv
  obtain ⟨rfl, rfl⟩ := hv
  refine .inr ⟨g, c, cur, rfl, hb, hg, by omega, hcm, hcs, ?_⟩
  rw [← ht, List.take_take, Nat.min_eq_left hm]
theorem fl_take : ∀ (l : List (Bool × Nat)) (i : Nat), (fl l).take (i * 2) = fl (l.take i)
 | [], i => by simp [fl]
 | p :: l, 0 => by simp [fl]
 | p :: l, i + 1 => by
   have e : (i + 1) * 2 = i * 2 + 1 + 1 := by omega
   rw [e]
   simp [fl, fl_take l i]
theorem fl_drop : ∀ (l : List (Bool × Nat)) (i : Nat), (fl l).drop (i * 2) = fl (l.drop i)
 | [], i => by simp [fl]
 | p :: l, 0 => by simp [fl]
 | p :: l, i + 1 => by
   have e : (i + 1) * 2 = i * 2 + 1 + 1 := by omega
   rw [e]
   simp [fl, fl_drop l i]
theorem fl_one : ∀ (l : List (Bool × Nat)), ∀ u ∈ fl l, u.oneCell' = true
 | [], u, h => by simp [fl] at h
 | p :: l, u, h => by
   simp only [fl, List.mem_cons] at h
   rcases h with rfl | rfl | h
   ·rfl
   ·rfl
   ·exact fl_one l u h
def zf (n : Nat) : List Value := (Builtin.zeroCells #[.bool false, .int .u64 0] n).toList
theorem zero_f (w : World) : (zeroValue 72).run Tryz.prog w = .ok (.agg #[.bool false, .int .u64 0]) w := by kernel_rfl
theorem zf_len (n : Nat) : (zf n).length = n * 2 := by
 unfold zf
 simp [Builtin.zeroCells]
theorem zf_one (n : Nat) : ∀ v ∈ zf n, v.oneCell' = true := by
 intro v hv
 unfold zf at hv
 rw [Array.mem_toList_iff] at hv
 obtain ⟨i, hi, rfl⟩ := Array.getElem_of_mem hv
 have : ∀ k, k < 2 → (#[.bool false, .int .u64 0] : Array Value)[k]!.oneCell' = true := by decide
 simp [Builtin.zeroCells]
 rcases Nat.mod_two_eq_zero_or_one i with e | e <;> simp [e, Value.oneCell']
theorem clear_f (w : World) (ty : TypeId) (b o n c : Nat) (hn : 0 < n) (hc : ∀ j, j < n * 2 → (w.cell? ⟨b, o + j, none⟩).isSome = true) (hf : ∀ j, j < n * 2 → w.frozen? ⟨b, o + j, none⟩ = false) :
  (Builtin.clear_ #[63] ty #[.slice (some ⟨b, o, none⟩) n c]).run Tryz.prog w = .ok (.tuple #[]) (w.setCells b o (zf n)) := by
 have hst := run_storeCells_cells (P := Tryz.prog) b o (zf n) 0 w (by simpa [zf_len] using hc) (by simpa [zf_len] using hf) (zf_one n)
 simp only [Nat.add_zero] at hst
 obtain ⟨m, rfl⟩ : ∃ m, n = m + 1 := ⟨n - 1, by omega⟩
 unfold zf at hst ⊢
 simp [Builtin.clear_, run_underlying Tryz.underlying63, zero_f, Value.cells, hst]
end Go.Proofs.YtbbeoobihdldcaaGreatDoor
namespace Go.Proofs.YtbbeoobihdldcaaGreatDoor
open Go.RowKit
set_option linter.unusedSimpArgs false
set_option linter.unusedVariables false
theorem sl_fr2 (k : IntKind) (g L c a : Nat) (ha : a ≤ L) (hc : L ≤ c) (hc0 : 0 < c) : ∃ A : Addr, (a < L → A = ⟨g, a * 2, none⟩) ∧ ∀ w, (Instr.slice 63 (.slice (some ⟨g, 0, none⟩) L c) (some (.int k (a : Int))) none none).run Tryz.prog w = .ok (.slice (some A) (L - a) (c - a)) w := by
 by_cases h : a < L
 ·refine ⟨⟨g, a * 2, none⟩, fun _ => rfl, fun w => ?_⟩
  have := sl_fr 63 (.inl rfl) k g 0 L c a h hc w
  rw [Nat.zero_add] at this
  exact this
 ·obtain rfl : a = L := by omega
  by_cases hq : a = c
  ·subst hq
   refine ⟨⟨g, 0, none⟩, fun h => by omega, fun w => ?_⟩
   have k0 : (0 : Int) ≤ (a : Int) := by omega
   have e3 : ¬ (a : Int) = 0 := by omega
   go_simp
  ·refine ⟨⟨g, a * 2, none⟩, fun h => by omega, fun w => ?_⟩
   have k0 : (0 : Int) ≤ (a : Int) := by omega
   have k2 : (a : Int) ≤ (c : Int) := by omega
   have e2 : ((c : Int) - (a : Int)).toNat = c - a := by omega
   have e3 : ¬ c - a = 0 := by omega
   have e4 : ¬ c = a := by omega
   go_simp
theorem sl_tail (g k n c : Nat) (hk : k < n) (hn : n ≤ c) : ∀ w, (Instr.slice 63 (.slice (some ⟨g, 0, none⟩) k c) (some (.int .i64 (k : Int))) (some (.int .i64 (n : Int))) none).run Tryz.prog w = .ok (.slice (some ⟨g, k * 2, none⟩) (n - k) (c - k)) w := by
 intro w
 have k0 : (0 : Int) ≤ (k : Int) := by omega
 have k1 : (k : Int) ≤ (n : Int) := by omega
 have k2 : (n : Int) ≤ (c : Int) := by omega
 have e1 : ((n : Int) - (k : Int)).toNat = n - k := by omega
 have e2 : ((c : Int) - (k : Int)).toNat = c - k := by omega
 have e3 : ¬ c - k = 0 := by omega
 have e4 : ¬ c = k := by omega
 go_simp
theorem sl_three (g n c i j : Nat) (hi : i ≤ j) (hj : j ≤ n) (hn : n ≤ c) : ∃ v, ∀ w, (Instr.slice 63 (.slice (some ⟨g, 0, none⟩) n c) (some (.int .i64 (i : Int))) (some (.int .i64 (j : Int))) (some (.int .i64 (n : Int)))).run Tryz.prog w = .ok v w := by
 have k0 : (0 : Int) ≤ (i : Int) := by omega
 have k1 : (i : Int) ≤ (j : Int) := by omega
 have k2 : (j : Int) ≤ (n : Int) := by omega
 have k3 : (n : Int) ≤ (c : Int) := by omega
 exact ⟨.slice (if n = i then some ⟨g, 0, none⟩ else some ⟨g, i * 2, none⟩) (j - i) (n - i), fun w => by go_simp⟩
theorem delete_none (v : Value) (n c i : Nat) (hi : i ≤ n) (hn : n ≤ c) (hv : v = .slice none 0 0 ∧ n = 0 ∧ c = 0 ∨ ∃ g, v = .slice (some ⟨g, 0, none⟩) n c) (w : World) : Calls Tryz.prog 38 #[v, .int .i64 (i : Int), .int .i64 (i : Int)] w fun e w' => e = .returned v ∧ w' = w := by
 rcases hv with ⟨rfl, rfl, rfl⟩ | ⟨g, rfl⟩
 ·obtain rfl : i = 0 := by omega
  go_enter Tryz.func38, Tryz.ntmps38
  go_wp2
  go_ret
  exact ⟨rfl, rfl⟩
 ·obtain ⟨u, s1⟩ := sl_three g n c i i (Nat.le_refl _) hi hn
  go_enter Tryz.func38, Tryz.ntmps38
  go_wp2
  go_ret
  exact ⟨rfl, rfl⟩
set_option maxRecDepth 100000 in
set_option maxHeartbeats 8000000 in
theorem delete_any (g c i j : Nat) (l : List (Bool × Nat)) (w : World) (ho : w.ownsRow 0 72 2 (.slice (some ⟨g, 0, none⟩) l.length c) l.length (fl l)) (hij : i < j) (hj : j ≤ l.length) (hl : l.length ≤ 1000000) :
  Calls Tryz.prog 38 #[.slice (some ⟨g, 0, none⟩) l.length c, .int .i64 (i : Int), .int .i64 (j : Int)] w fun e w' => e = .returned (.slice (some ⟨g, 0, none⟩) (i + (l.length - j)) c) ∧ w'.ownsRow 0 72 2 (.slice (some ⟨g, 0, none⟩) (i + (l.length - j)) c) (i + (l.length - j)) (fl (l.take i ++ l.drop j)) ∧ Only (fun k => k = g) w w' := by
 obtain ⟨n, hn⟩ : ∃ n, n = l.length := ⟨_, rfl⟩
 rw [← hn] at ho hj hl ⊢
 have hnc : n ≤ c ∧ g < w.heap.size := by
  rcases ho.2 with ⟨e, _⟩ | ⟨g', cap', cur, e, _, hg, h1, _⟩
  ·cases e
  ·cases e
   exact ⟨h1, (Array.getElem?_eq_some_iff.1 hg).1⟩
 obtain ⟨u, s3⟩ := sl_three g n c i j (by omega) hj hnc.1
 obtain ⟨A, hA, s1⟩ := sl_fr2 .i64 g n c j hj hnc.1 (by omega)
 have s2 := sl_to .i64 g 0 n c i (by omega) hnc.1 (by omega)
 have s4 := sl_tail g (i + (n - j)) n c (by omega) hnc.1
 have oD : Only (fun k => k = g) w w.drew := (Only.refl _ w).drew
 have hoD : w.drew.ownsRow 0 72 2 (.slice (some ⟨g, 0, none⟩) n c) n (fl l) := ((Only.refl (fun _ => False) w).drew).owns ho (fun _ _ g => g)
 have hot := own_take hoD (i := i) (by omega)
 obtain ⟨i0, hi0, hz0, hz1, hz2⟩ := info_parts infoF
 have hnews : ∀ (q : Nat) u, (fl (l.drop j))[q]? = some u → w.drew.cell? (A.add q) = some u := fun q u hq => by
  by_cases hjn : j < n
  ·rw [hA hjn]
   have e1 : (⟨g, j * 2, none⟩ : Addr).add q = ⟨g, j * 2 + q, none⟩ := by unfold Addr.add; split <;> simp_all
   rw [e1]
   rw [← fl_drop, List.getElem?_drop] at hq
   have := hoD.cells (g := g) rfl _ _ hq
   rw [addr_ad] at this
   exact this
  ·rw [List.drop_eq_nil_of_le (by omega)] at hq
   simp [fl] at hq
 have key := fun ty => run_append_fits (P := Tryz.prog) w.drew 0 63 ty 72 i0 2 Tryz.underlying63 hi0 hz1 g i c _ hot A (n - j) (c - j) (fl (l.drop j)) (by rw [fl_len, List.length_drop, hn]) hnews (fl_one _) (by omega)
 obtain ⟨W3, hr, hown, hgr⟩ := key 0
 have HR : Hid (∀ ty, (Builtin.append_ #[63, 63] ty #[.slice (some ⟨g, 0, none⟩) i c, .slice (some A) (n - j) (c - j)]).run Tryz.prog w.drew = .ok (.slice (some ⟨g, 0, none⟩) (i + (n - j)) c) W3) := fun ty => by rw [← hr]; rfl
 rw [fl_take, ← fl_app] at hown
 have hcl : ∀ ty, (Builtin.clear_ #[63] ty #[.slice (some ⟨g, (i + (n - j)) * 2, none⟩) (n - (i + (n - j))) (c - (i + (n - j)))]).run Tryz.prog W3 = .ok (.tuple #[]) (W3.setCells g ((i + (n - j)) * 2) (zf (n - (i + (n - j))))) := fun ty => by
  have hcells : ∀ q, q < c * 2 → (W3.cell? ⟨g, q, none⟩).isSome = true ∧ W3.frozen? ⟨g, q, none⟩ = false := fun q hq => by
   rcases hown.2 with ⟨e, _⟩ | ⟨g', cap', cur, e, _, hg, h1, _, hs, _⟩
   ·cases e
   ·cases e
    refine ⟨?_, by simp [World.frozen?, hg]⟩
    rw [hb_cell hg]
    simp
    omega
  exact clear_f W3 ty g _ _ _ (by omega) (fun q hq => (hcells _ (by omega)).1) (fun q hq => (hcells _ (by omega)).2)
 have HF : Hid ((W3.setCells g ((i + (n - j)) * 2) (zf (n - (i + (n - j))))).ownsRow 0 72 2 (.slice (some ⟨g, 0, none⟩) (i + (n - j)) c) (i + (n - j)) (fl (l.take i ++ l.drop j)) ∧ Only (fun k => k = g) w (W3.setCells g ((i + (n - j)) * 2) (zf (n - (i + (n - j)))))) := by
  refine ⟨own_pasts _ _ _ hown (Nat.le_refl _), ?_⟩
  exact (oD.trans ((Only.refl (fun k => k = g) w.drew).grown hgr (fun k e _ => by simpa using e.symm)) (fun k _ e => e)).setCells _ _ _ (fun _ => rfl)
 have e3 : ¬ (i : Int) = (j : Int) := by omega
 obtain ⟨K, hK⟩ : ∃ K, K = i + (n - j) := ⟨_, rfl⟩
 rw [← hK] at s4 HR hcl HF ⊢
 clear hK hn ho hij hj hl hnc hA oD hoD hot hi0 hz0 hz1 hz2 hnews hr hown hgr key
 go_enter Tryz.func38, Tryz.ntmps38
 go_wp2_with fail
 go_region_law (refine step_append_run (by rfl) _ _ 63 (by rfl) _ _ (.slice (some ⟨g, 0, none⟩) K c) (by rfl) (by rfl) HR.out ?_)
 all_goals
  go_wp2
  go_ret
  exact ⟨rfl, HF.out⟩
end Go.Proofs.YtbbeoobihdldcaaGreatDoor
namespace Go.Proofs.YtbbeoobihdldcaaGreatDoor
open Go.RowKit
set_option linter.unusedSimpArgs false
set_option linter.unusedVariables false
theorem del_rows (rv : Value) (p d s : List (Bool × Nat)) (w : World) (ho : w.ownsRow 0 72 2 rv (p ++ d ++ s).length (fl (p ++ d ++ s))) (hl : (p ++ d ++ s).length ≤ 100000) :
  Calls Tryz.prog 38 #[rv, .int .i64 (p.length : Int), .int .i64 ((p.length + d.length : Nat) : Int)] w fun e w' => ∃ rv', e = .returned rv' ∧ w'.ownsRow 0 72 2 rv' (p ++ s).length (fl (p ++ s)) ∧ rv'.ownBlock = rv.ownBlock ∧ Only (fun k => rv.ownBlock = some k) w w' := by
 have hw : ∀ (g c : Nat), rv = .slice (some ⟨g, 0, none⟩) (p ++ d ++ s).length c → (p ++ d ++ s).length ≤ c := fun g c e => by
  rcases ho.2 with ⟨e2, _⟩ | ⟨g', cap', cur, e2, _, hg, h1, _⟩
  ·rw [e] at e2
   cases e2
  ·rw [e] at e2
   cases e2
   exact h1
 by_cases hd : d = []
 ·subst hd
  simp only [List.append_nil, List.length_nil, Nat.add_zero] at *
  obtain ⟨a, c, hrv⟩ := ownsRow_slice ho
  have h1 : rv = .slice none 0 0 ∧ (p ++ s).length = 0 ∧ (0 : Nat) = 0 ∨ ∃ g, rv = .slice (some ⟨g, 0, none⟩) (p ++ s).length c := by
   rcases ho.2 with ⟨e2, e3⟩ | ⟨g', cap', cur, e2, _, hg, h1, _⟩
   ·exact .inl ⟨e2, e3, rfl⟩
   ·rw [hrv] at e2
    cases e2
    exact .inr ⟨g', hrv⟩
  rcases h1 with ⟨e1, e2, _⟩ | ⟨g, e1⟩
  ·refine (delete_none rv 0 0 p.length (by simp at e2; simp [e2.1]) (by omega) (.inl ⟨e1, rfl, rfl⟩) w).mono ?_
   rintro e w' ⟨rfl, rfl⟩
   exact ⟨rv, rfl, ho, rfl, Only.refl _ _⟩
  ·refine (delete_none rv (p ++ s).length c p.length (by simp) (hw g c e1) (.inr ⟨g, e1⟩) w).mono ?_
   rintro e w' ⟨rfl, rfl⟩
   exact ⟨rv, rfl, ho, rfl, Only.refl _ _⟩
 ·have hk : 0 < d.length := List.length_pos_iff.2 hd
  rcases ho.2 with ⟨e2, e3⟩ | ⟨g, c, cur, e2, _, hg, h1, _⟩
  ·simp at e3
   exact absurd e3.2.1 hd
  ·subst e2
   have e5 : (p ++ d ++ s).length = p.length + d.length + s.length := by simp [Nat.add_assoc]
   refine (delete_any g c p.length (p.length + d.length) (p ++ d ++ s) w ho (by omega) (by omega) (by omega)).mono ?_
   rintro e w' ⟨rfl, h2, h3⟩
   have e3 : (p ++ d ++ s).take p.length ++ (p ++ d ++ s).drop (p.length + d.length) = p ++ s := by
    rw [← List.length_append, List.drop_left]
    rw [List.append_assoc, List.take_left]
   have e4 : p.length + ((p ++ d ++ s).length - (p.length + d.length)) = (p ++ s).length := by
    rw [e5, List.length_append]
    omega
   rw [e3, e4] at h2
   exact ⟨_, by rw [e4], h2, rfl, h3.mono (fun k _ e => by simp only [Value.ownBlock]; rw [e])⟩
set_option maxRecDepth 100000 in
set_option maxHeartbeats 8000000 in
theorem slide_any (h m : Nat) (cap : Int) (yv rv : Value) (y p d s : List (Bool × Nat)) (w : World) (hE : Hs w h m cap yv rv y (p ++ d ++ s)) (hl : (p ++ d ++ s).length ≤ 100000) :
  Calls Tryz.prog 18 #[.pointer (some ⟨h, 0, none⟩), .int .i64 (d.length : Int), .int .i64 (s.length : Int)] w fun e w' => e = .returned (.int .i64 0) ∧ PuP w w' h m cap yv rv y (p ++ s) := by
 have HE : Hid (Hs w h m cap yv rv y (p ++ d ++ s)) := hE
 obtain ⟨_, a0, c0, hrv⟩ := hE.sl
 have HD : Hid _ := del_rows rv p d s w hE.rr hl
 have e5 : (p ++ d ++ s).length = p.length + d.length + s.length := by simp [Nat.add_assoc]
 have d4 := hE.cells.2.2.2.2
 rw [hrv] at d4
 obtain ⟨n, hn⟩ : ∃ n, n = (p ++ d ++ s).length := ⟨_, rfl⟩
 obtain ⟨k, hk⟩ : ∃ k, k = d.length := ⟨_, rfl⟩
 obtain ⟨q, hq⟩ : ∃ q, q = s.length := ⟨_, rfl⟩
 obtain ⟨t, ht⟩ : ∃ t, t = p.length + d.length := ⟨_, rfl⟩
 obtain ⟨i, hi⟩ : ∃ i, i = p.length := ⟨_, rfl⟩
 rw [← hn] at d4
 rw [← ht, ← hi] at HD
 rw [hrv, ← hn] at HD
 rw [← hk, ← hq]
 have w1 : IntKind.i64.wrap ((n : Int) - (q : Int)) = (t : Int) := by rw [IntKind.wrap_i64]; omega
 have w2 : IntKind.i64.wrap ((t : Int) - (k : Int)) = (i : Int) := by rw [IntKind.wrap_i64]; omega
 have f1 : decide ((k : Int) < 0) = false := by simp
 have f2 : decide ((q : Int) < 0) = false := by simp
 have f3 : decide ((n : Int) < (q : Int)) = false := by simp; omega
 have f4 : decide ((t : Int) < (k : Int)) = false := by simp; omega
 have g1 : ¬ (k : Int) < 0 := by omega
 have g2 : ¬ (q : Int) < 0 := by omega
 have g3 : ¬ (n : Int) < (q : Int) := by omega
 have g4 : ¬ (t : Int) < (k : Int) := by omega
 have HV : Hid (rv = .slice a0 n c0) := by rw [hn]; exact hrv
 clear hE hl e5 hn hk hq ht hi hrv
 go_enter Tryz.func18, Tryz.ntmps18
 go_wp2_with fail
 refine (show Calls Tryz.prog 38 _ _ _ from HD.out).mono ?_
 rintro e w3 ⟨rv', rfl, hr', hob, o3⟩
 obtain ⟨a', c', rfl⟩ := ownsRow_slice hr'
 obtain ⟨N, hN⟩ : ∃ N, N = (p ++ s).length := ⟨_, rfl⟩
 rw [← hN] at hob
 have hv := HV.out
 rw [← hv] at hob o3
 have hE := HE.out
 have nh := hE.ynh
 have b3 := (o3.block h hE.lt.1 nh.2.2.1).trans hE.hb
 have e4 : w3.cell? ⟨h, 4, none⟩ = some rv := hb_cell b3 4
 have x4 : w3.frozen? ⟨h, 4, none⟩ = false := hb_froz b3 4
 have HF : Hid (PuP w (w3.setCell ⟨h, 4, none⟩ (.slice a' N c')) h m cap yv rv y (p ++ s)) := by
  obtain ⟨c, hc⟩ := hE.mb
  have os : Only (fun k => k = h) w3 (w3.setCell ⟨h, 4, none⟩ (.slice a' N c')) := (Only.refl _ w3).setCell _ _ (fun _ => rfl)
  refine ⟨.slice a' N c', ⟨set_blk b3 4 _, ⟨c, (Below.heap_setCell _ _ _ _ (fun e => hE.ne e.symm)).trans ((o3.block m hE.lt.2 nh.2.2.2).trans hc)⟩, ?_, ?_, ?_⟩, ?_, ?_⟩
  ·exact os.owns (o3.owns hE.ry (fun k hk => hE.ds k hk)) (fun k hk e => nh.1 (e ▸ hk))
  ·rw [hN] at hob os ⊢
   exact os.owns hr' (fun k hk e => nh.2.2.1 (by rw [← hob, ← e]; exact hk))
  ·exact fun k hk q => hE.ds k hk (by rw [← hob]; exact q)
  ·exact fun k hk => .inl (by rw [← hob]; exact hk)
  ·exact (o3.mono (bs' := fun k => k = h ∨ rv.ownBlock = some k) (fun _ _ g => .inr g)).setCell _ _ (fun _ => .inl rfl)
 rw [← hN]
 clear hN hr' hob o3 hv hE nh b3 HE HD HV d4
 go_wp2
 go_ret
 exact ⟨rfl, HF.out⟩
end Go.Proofs.YtbbeoobihdldcaaGreatDoor
namespace Go.Proofs.YtbbeoobihdldcaaGreatDoor
open Go.RowKit
set_option linter.unusedSimpArgs false
set_option linter.unusedVariables false
theorem Hs.put {w : World} {h m : Nat} {cap : Int} {rv : Value} {y r : List (Bool × Nat)} {Y c : Nat} (g : Hs w h m cap (.slice (some ⟨Y, 0, none⟩) y.length c) rv y r) (i : Nat) (hi : i < y.length) (p : Bool × Nat) :
  Hs ((w.setCell ⟨Y, i * 2, none⟩ (.bool p.1)).setCell ⟨Y, i * 2 + 1, none⟩ (.int .u64 (p.2 : Int))) h m cap (.slice (some ⟨Y, 0, none⟩) y.length c) rv (y.set i p) r ∧ Only (fun k => k = Y) w ((w.setCell ⟨Y, i * 2, none⟩ (.bool p.1)).setCell ⟨Y, i * 2 + 1, none⟩ (.int .u64 (p.2 : Int))) := by
 have o : Only (fun k => k = Y) w ((w.setCell ⟨Y, i * 2, none⟩ (.bool p.1)).setCell ⟨Y, i * 2 + 1, none⟩ (.int .u64 (p.2 : Int))) := ((Only.refl (fun k => k = Y) w).setCell _ _ (fun _ => rfl)).setCell _ _ (fun _ => rfl)
 have nh := g.ynh
 obtain ⟨e, he⟩ := g.mb
 have hY : (Value.slice (some ⟨Y, 0, none⟩) y.length c).ownBlock = some Y := rfl
 refine ⟨⟨(o.block h g.lt.1 (fun q => nh.1 (by rw [hY, q]))).trans g.hb, ⟨e, (o.block m g.lt.2 (fun q => nh.2.1 (by rw [hY, q]))).trans he⟩, ?_, o.owns g.rr (fun k hk q => g.ds Y hY (by rw [← q]; exact hk)), g.ds⟩, o⟩
 rw [List.length_set, fl_set]
 exact own_set (own_set g.ry (i * 2) (by omega) (.bool p.1)) (i * 2 + 1) (by omega) _
set_option maxRecDepth 100000 in
set_option maxHeartbeats 8000000 in
theorem write_any (h m : Nat) (cap : Int) (yv rv : Value) (y r : List (Bool × Nat)) (a hd sz f : Nat) (b : Bool) (x : Nat) (w : World) (hE : Hs w h m cap yv rv y r) (hO : ObA y a hd sz) (hy : y.length ≤ 100000) (hs : 2 ≤ sz) (hf : f < sz - 1) :
  Calls Tryz.prog 73 #[.pointer (some ⟨h, 0, none⟩), .int .u64 (a : Int), .int .i64 (f : Int), .agg #[.bool b, .int .u64 (x : Int)]] w fun e w' => e = .returned (.tuple #[]) ∧ Hs w' h m cap yv rv (y.set (a + 1 + f) (b, x)) r ∧ Only (fun k => yv.ownBlock = some k) w w' := by
 obtain ⟨Y, c, rfl, hob, _, _, _, hn⟩ := row_at hE.ry hO.at_
 have hlt : a + 1 + f < y.length := by have := hO.le; omega
 obtain ⟨q, hq⟩ : ∃ q, y[a + 1 + f]? = some q := ⟨y[a + 1 + f], by simp [hlt]⟩
 have HC : Hid (∀ W, Only (fun _ => False) w W → W.cell? ⟨Y, a * 2 + 2 + f * 2, none⟩ = some (.bool q.1) ∧ W.cell? ⟨Y, a * 2 + 2 + f * 2 + 1, none⟩ = some (.int .u64 (q.2 : Int)) ∧ W.frozen? ⟨Y, a * 2 + 2 + f * 2, none⟩ = false ∧ W.frozen? ⟨Y, a * 2 + 2 + f * 2 + 1, none⟩ = false ∧ W.cell? ⟨h, 0, none⟩ = some (.slice none 0 0) ∧ Hs ((W.setCell ⟨Y, a * 2 + 2 + f * 2, none⟩ (.bool b)).setCell ⟨Y, a * 2 + 2 + f * 2 + 1, none⟩ (.int .u64 (x : Int))) h m cap (.slice (some ⟨Y, 0, none⟩) y.length c) rv (y.set (a + 1 + f) (b, x)) r ∧ Only (fun k => k = Y) w ((W.setCell ⟨Y, a * 2 + 2 + f * 2, none⟩ (.bool b)).setCell ⟨Y, a * 2 + 2 + f * 2 + 1, none⟩ (.int .u64 (x : Int)))) := fun W o => by
  have hW := hE.only o
  obtain ⟨Y', c', e', _, c0, c1, f0, _⟩ := row_at hW.ry hq
  cases e'
  have q0 : (a + 1 + f) * 2 = a * 2 + 2 + f * 2 := by omega
  rw [q0] at c0 c1
  obtain ⟨u1, u2⟩ := hW.put (a + 1 + f) hlt (b, x)
  rw [q0] at u1 u2
  exact ⟨c0, c1, f0 _, f0 _, hW.cells.1, u1, (o.mono (bs' := fun k => k = Y) (fun _ _ g => g.elim)).trans u2 (fun _ _ g => g)⟩
 obtain ⟨N, hN⟩ : ∃ N, N = w.heap.size := ⟨_, rfl⟩
 obtain ⟨W0, hW0⟩ : ∃ W0, W0 = w.alloc (.cells #[.bool b, .int .u64 (x : Int)] 72) := ⟨_, rfl⟩
 have oW : Only (fun _ => False) w W0 := by rw [hW0]; exact (Only.refl _ w).alloc _
 have bW : W0.heap[N]? = some (.cells #[.bool b, .int .u64 (x : Int)] 72) := by rw [hW0]; exact alloc_at _ _ _ hN
 have OW : Hid (Only (fun _ => False) w W0 ∧ W0.heap[N]? = some (.cells #[.bool b, .int .u64 (x : Int)] 72)) := ⟨oW, bW⟩
 have HA : Hid (∀ W, Only (fun _ => False) W0 W → Calls Tryz.prog 48 #[.pointer (some ⟨h, 0, none⟩), .int .u64 (a : Int)] W fun e w' => ∃ Y2 c2, Hid ((Value.slice (some ⟨Y, 0, none⟩) y.length c).ownBlock = some Y2 ∧ sz ≤ c2) ∧ e = .returned (.slice (some ⟨Y2, a * 2, none⟩) sz c2) ∧ Only (fun _ => False) W w') := fun W o => at_any h m cap _ rv y r a hd sz W (hE.only (oW.trans o (fun _ _ g => g))) hO hy
 have HS : Hid (2 ≤ sz ∧ f < sz - 1) := ⟨hs, hf⟩
 obtain ⟨z, hz⟩ : ∃ z, z = sz - 1 := ⟨_, rfl⟩
 have HZ : Hid (z = sz - 1) := hz
 have e3 : (0 : Int) ≤ (f : Int) := by omega
 have e4 : (f : Int) < (z : Int) := by omega
 have ga : ¬ (a : Int) < 0 := by omega
 have gb : decide ((a : Int) < 0) = false := by simp
 have m0 : W0.cell? ⟨N, 0, none⟩ = some (.bool b) := hb_cell bW 0
 have m1 : W0.cell? ⟨N, 1, none⟩ = some (.int .u64 (x : Int)) := hb_cell bW 1
 clear hE hO hy hob hn hlt hq hs hf hz oW bW
 go_enter Tryz.func73, Tryz.ntmps73
 go_wp2_with fail
 rw [← hW0, ← hN]
 clear hW0 hN
 go_region_law (first
  | (go_simp; go_at_call 48; refine (show Calls Tryz.prog 48 _ _ _ from HA.out _ (by repeat' first | exact Only.refl _ _ | apply Only.alloc | apply Only.drew)).mono ?_; rintro e w2 ⟨Y2, k, HQ, rfl, o2⟩; obtain rfl : Y2 = Y := (by have := HQ.out.1; simpa [Value.ownBlock] using this.symm); have O2 : Hid (Only (fun _ => False) W0 w2) := (Only.trans (show Only (fun _ => False) W0 _ by repeat' first | exact Only.refl _ _ | apply Only.alloc | apply Only.drew) o2 (fun _ _ g => g)); obtain ⟨d0, d1, d2, d3, _, _, _⟩ := HC.out _ (OW.out.1.trans O2.out (fun _ _ g => g)); have n0 : w2.cell? ⟨N, 0, none⟩ = some (.bool b) := hb_cell (O2.out.at OW.out.2) 0; have n1 : w2.cell? ⟨N, 1, none⟩ = some (.int .u64 (x : Int)) := hb_cell (O2.out.at OW.out.2) 1; have HF : Hid _ := fields_any Y2 (a * 2) sz k HS.out.1 HQ.out.2; rw [← show z = sz - 1 from HZ.out] at HF; clear HQ o2; dsimp only)
  | (go_simp; go_at_call 71; refine (show Calls Tryz.prog 71 _ _ _ from HF.out _).mono ?_; rintro e w3 ⟨rfl, hq⟩; rw [hq]; clear hq; dsimp only))
 all_goals
  refine then_at fun X hX => ?_
  have u : Hs X h m cap (.slice (some ⟨Y2, 0, none⟩) y.length c) rv (y.set (a + 1 + f) (b, x)) r ∧ Only (fun k => k = Y2) w X := by
   rw [hX]
   exact (HC.out _ (OW.out.1.trans (O2.out.trans (by repeat' first | exact Only.refl _ _ | apply Only.drew) (fun _ _ g => g)) (fun _ _ g => g))).2.2.2.2.2
  have HU : Hid (Hs X h m cap (.slice (some ⟨Y2, 0, none⟩) y.length c) rv (y.set (a + 1 + f) (b, x)) r ∧ Only (fun k => k = Y2) w X) := u
  have HY : Hid _ := yfrom_any h none 0 0 (by omega) X u.1.cells.1
  clear u hX HC HA HS HZ OW O2 d0 d1 d2 d3 n0 n1 m0 m1 HF
  go_wp2_with (go_at_call 87; refine (show Calls Tryz.prog 87 _ _ _ from HY.out).mono ?_; rintro e w3 ⟨rfl, hq⟩; rw [hq]; clear hq)
  go_end0
  exact ⟨rfl, HU.out.1, HU.out.2.mono (fun k _ e => by simp only [Value.ownBlock]; rw [e])⟩
end Go.Proofs.YtbbeoobihdldcaaGreatDoor
namespace Go.Proofs.YtbbeoobihdldcaaGreatDoor
open Go.RowKit
set_option linter.unusedSimpArgs false
set_option linter.unusedVariables false
set_option maxRecDepth 100000 in
set_option maxHeartbeats 8000000 in
theorem set_any (h m : Nat) (cap : Int) (yv rv : Value) (y r : List (Bool × Nat)) (i a hd sz f j : Nat) (p : Bool × Nat) (w : World) (hE : Hs w h m cap yv rv y r) (hO : ObA y a hd sz) (hy : y.length ≤ 100000) (hs : 2 ≤ sz) (hf : f < sz - 1) (hi : r[i]? = some (true, a)) (hj : r[j]? = some p) (hw : bits .and .u64 (hd : Int) 256 = 0) :
  Calls Tryz.prog 33 #[.pointer (some ⟨h, 0, none⟩), .int .i64 (i : Int), .int .i64 (f : Int), .int .i64 (j : Int)] w fun e w' => e = .returned (.int .i64 0) ∧ Hs w' h m cap yv rv (y.set (a + 1 + f) p) r ∧ Only (fun k => yv.ownBlock = some k) w w' := by
 obtain ⟨b, x⟩ := p
 obtain ⟨R, c, rfl, _, c0, c1, _, hn⟩ := row_at hE.rr hi
 obtain ⟨R', c', e', _, k0, k1, _, hn2⟩ := row_at hE.rr hj
 cases e'
 have HH : Hid _ := has_yes h (some ⟨R, 0, none⟩) r.length c j w hE.cells.2.2.2.2 hn2
 have HO : Hid _ := object_any h m cap yv _ y r i a hd sz w hE hO hy hi
 obtain ⟨Y, cy, hyv, hob, _, y1, _, _⟩ := row_at hE.ry hO.at_
 have HC : Hid (yv.ownBlock = some Y ∧ ∀ W, Only (fun _ => False) w W → (W.cell? ⟨h, 4, none⟩ = some (.slice (some ⟨R, 0, none⟩) r.length c) ∧ W.cell? ⟨R, i * 2, none⟩ = some (.bool true) ∧ W.cell? ⟨R, i * 2 + 1, none⟩ = some (.int .u64 (a : Int)) ∧ W.cell? ⟨R, j * 2, none⟩ = some (.bool b) ∧ W.cell? ⟨R, j * 2 + 1, none⟩ = some (.int .u64 (x : Int)) ∧ W.cell? ⟨Y, a * 2 + 1, none⟩ = some (.int .u64 (hd : Int))) ∧ Calls Tryz.prog 73 #[.pointer (some ⟨h, 0, none⟩), .int .u64 (a : Int), .int .i64 (f : Int), .agg #[.bool b, .int .u64 (x : Int)]] W fun e w' => e = .returned (.tuple #[]) ∧ Hs w' h m cap yv (.slice (some ⟨R, 0, none⟩) r.length c) (y.set (a + 1 + f) (b, x)) r ∧ Only (fun k => yv.ownBlock = some k) W w') := ⟨hob, fun W o => ⟨⟨o.cell hE.cells.2.2.2.2 (fun g => g), o.cell c0 (fun g => g), o.cell c1 (fun g => g), o.cell k0 (fun g => g), o.cell k1 (fun g => g), o.cell y1 (fun g => g)⟩, write_any h m cap yv _ y r a hd sz f b x W (hE.only o) hO hy hs hf⟩⟩
 have HS : Hid (2 ≤ sz ∧ f < sz - 1 ∧ bits .and .u64 (hd : Int) 256 = 0) := ⟨hs, hf, hw⟩
 obtain ⟨n, hN⟩ : ∃ n, n = r.length := ⟨_, rfl⟩
 rw [← hN] at hn hn2 HC ⊢
 have e3 : (0 : Int) ≤ (i : Int) := by omega
 have e4 : (i : Int) < (n : Int) := by omega
 have e5 : (0 : Int) ≤ (j : Int) := by omega
 have e6 : (j : Int) < (n : Int) := by omega
 clear hE hO hy hs hf hi hj hw hob y1 k0 k1 c0 c1 hyv hN hn hn2
 go_enter Tryz.func33, Tryz.ntmps33
 go_wp2_with (first
  | (go_at_call 67; refine (show Calls Tryz.prog 67 _ _ _ from HH.out).mono ?_; rintro e w1 ⟨rfl, hq⟩; rw [hq]; clear hq)
  | (go_at_call 69; refine (show Calls Tryz.prog 69 _ _ _ from HO.out).mono ?_; rintro e w1 ⟨Y2, k, hq, rfl, o1⟩; obtain rfl : Y2 = Y := (by have := hq.out.1; rw [HC.out.1] at this; simpa using this.symm); have HK : Hid _ := ohas_any Y2 (a * 2) sz k f HS.out.1 hq.out.2 HS.out.2.1 w1; have O1 : Hid (Only (fun _ => False) w w1) := o1; obtain ⟨⟨d4, r0, r1, s0, s1, y1⟩, _⟩ := HC.out.2 w1 o1; have HR : Hid _ := raw_no Y2 (a * 2) sz k hd (by have := HS.out.1; omega) w1 y1 HS.out.2.2; clear hq o1 y1)
  | (go_at_call 70; refine (show Calls Tryz.prog 70 _ _ _ from HK.out).mono ?_; rintro e w2 ⟨rfl, hq⟩; rw [hq]; clear hq)
  | (go_at_call 72; refine (show Calls Tryz.prog 72 _ _ _ from HR.out).mono ?_; rintro e w2 ⟨rfl, hq⟩; rw [hq]; clear hq))
 go_region_with (go_at_call 73; refine (show Calls Tryz.prog 73 _ _ _ from (HC.out.2 _ (O1.out.trans (by repeat' first | exact Only.refl _ _ | apply Only.drew) (fun _ _ g => g))).2).mono ?_; rintro e w3 ⟨rfl, h3, o3⟩; have H3 : Hid (Hs w3 h m cap yv (.slice (some ⟨R, 0, none⟩) n c) (y.set (a + 1 + f) (b, x)) r ∧ Only (fun k => yv.ownBlock = some k) w w3) := ⟨h3, (O1.out.mono (bs' := fun k => yv.ownBlock = some k) (fun _ _ g => g.elim)).trans (Only.trans (show Only (fun k => yv.ownBlock = some k) w1 _ by repeat' first | exact Only.refl _ _ | apply Only.drew) o3 (fun _ _ g => g)) (fun _ _ g => g)⟩; clear h3 o3)
 all_goals
  go_wp2
  go_ret
  exact ⟨rfl, H3.out⟩
end Go.Proofs.YtbbeoobihdldcaaGreatDoor
namespace Go.Proofs.YtbbeoobihdldcaaGreatDoor
open Go.RowKit
set_option linter.unusedSimpArgs false
set_option linter.unusedVariables false
set_option maxHeartbeats 1000000 in
theorem app_z2 {w : World} {B n g cap : Nat} {us : List Value} (ho : w.ownsRow B 72 2 (.slice (some ⟨g, 0, none⟩) n cap) n us) (hB : B ≤ w.heap.size) (k : Nat) (h0 : 0 < k) (hn : n ≤ 1000000) (hk : k ≤ 1000000) :
  ∃ a c w', (∀ ty, (Builtin.append_ #[63, 3] ty #[.slice (some ⟨g, 0, none⟩) n cap, .int .i64 (k : Int)]).run Tryz.prog w = .ok (.slice a (n + k) c) w') ∧ w'.ownsRow B 72 2 (.slice a (n + k) c) (n + k) (us ++ zF k) ∧ Only (fun b => b = g) w w' ∧ ∀ j, (Value.slice a (n + k) c).ownBlock = some j → j = g ∨ w.heap.size ≤ j := by
 obtain ⟨i0, hi, hz0, hz1, hz2⟩ := info_parts infoF
 have hlen : (us ++ zF k).length = (n + k) * 2 := by rw [List.length_append, ho.1, zF_len, Nat.add_mul]
 rcases ho.2 with ⟨h1, _⟩ | ⟨g', cap', cur, hv, hbg, hg, hnc, hcm, hcs, htake⟩
 ·cases h1
 ·cases hv
  have hw : IntKind.i64.wrap (k : Int) = k := by rw [IntKind.wrap_i64]; omega
  have hneg : ¬ ((k : Int) < 0) := by omega
  have hns : ¬ (k * 2 = 0) := by omega
  have h48 : ¬ (281474976710656 < (k : Int) * 16) := by omega
  by_cases hroom : n + k ≤ cap
  ·have hfit : n * 2 + (zF k).length ≤ cur.size := by rw [zF_len, hcs, ← Nat.add_mul]; exact Nat.mul_le_mul_right _ hroom
   have hst := run_storeCells_at Tryz.prog g (n * 2) 72 (zF k) 0 cur w hg (by simpa using hfit) (zF_one k)
   simp only [Nat.add_zero] at hst
   refine ⟨some ⟨g, 0, none⟩, cap, w.setRow g (cur.toList.take (n * 2) ++ zF k ++ cur.toList.drop (n * 2 + (zF k).length)).toArray, fun ty => ?_, ⟨hlen, .inr ⟨g, cap, _, rfl, hbg, setRow_heap w g cur _ 72 _ hg, hroom, hcm, ?_, ?_⟩⟩, ⟨rfl, rfl, rfl, by simp, fun j _ hj => setRow_other w g j _ hj⟩, fun j e => .inl (by simpa [Value.ownBlock] using e.symm)⟩
   ·have hzz : (Builtin.zeroCells (Value.agg #[.bool false, .int .u64 0]).cells k).toList = zF k := rfl
    simp [Builtin.append_, run_underlying Tryz.underlying63, run_underlying Tryz.underlying3, sizeOf, typeInfo, zeroValue, hi, hz0, hz1, hz2, asInt, asIntOf, hw, hneg, hns, h48, hroom, Addr.add_lit, hzz, hst]
   ·simp only [List.size_toArray, List.length_append, List.length_take, List.length_drop, Array.length_toList]
    omega
   ·rw [htake, ← hlen]
    exact List.take_left
  ·have hold : (Builtin.firstCells i0.size n (.slice (some ⟨g, 0, none⟩) n cap)).run Tryz.prog w.drew = .ok us.toArray w.drew :=
    run_firstCells_some (P := Tryz.prog) w.drew i0.size n ⟨g, 0, none⟩ n cap us (by rw [hz1]; exact ho.1) (ho.cells (g := g) rfl)
   have hr := fun ty => Lib.run_append_grow_zeros (P := Tryz.prog) w 63 3 ty 72 i0 _ .i64 .i64 Tryz.underlying63 Tryz.underlying3 hi hz0 (some ⟨g, 0, none⟩) n cap us hold k h0 (by omega) (by omega) (by omega) (by rw [hz2]; omega) (growslice_fits (by omega) (by rw [hz2]; omega))
   have hge := grownCap_ge w (n + k) cap 72
   have hcm' : grownCap w (n + k) cap 72 ≤ maxLen := grownCap_le_maxLen w (n + k) cap 72 (by unfold maxLen; omega)
   refine ⟨_, _, _, hr, ⟨hlen, .inr ⟨w.heap.size, _, _, rfl, hB, heap_alloc_new w.drew _, hge, hcm', ?_, ?_⟩⟩, ((Only.refl _ w).drew).alloc _, fun j e => .inr (by simp [Value.ownBlock] at e; omega)⟩
   ·have hzs : (Value.agg #[.bool false, .int .u64 0]).cells.size = 2 := rfl
    simp only [Array.size_append, List.size_toArray, size_zeroCells, hzs, ho.1]
    revert hge
    generalize grownCap w (n + k) cap 72 = G
    intro hge
    omega
   ·simp only [Array.toList_append, List.append_assoc]
    rw [← List.append_assoc, ← hlen]
    exact List.take_left
def HdC (kd n hd : Nat) : Prop := ∀ w, Calls Tryz.prog 157 #[.int .i64 (kd : Int), .int .i64 (n : Int), .bool false] w fun e w' => e = .returned (.agg #[.bool false, .int .u64 (hd : Int)]) ∧ Only (fun _ => False) w w'
theorem zF_fl : ∀ n, zF n = fl (List.replicate n (false, 0)) := by
 intro n
 apply List.ext_getElem?
 intro i
 have l1 := zF_len n
 have l2 := fl_len (List.replicate n (false, 0))
 rw [List.length_replicate] at l2
 by_cases hi : i < n * 2
 ·have hk : (List.replicate n ((false, 0) : Bool × Nat))[i / 2]? = some (false, 0) := by rw [List.getElem?_replicate, if_pos (by omega)]
  obtain ⟨f1, f2⟩ := fl_get _ _ _ hk
  have e0 : (zF n)[i]? = some (if i % 2 = 0 then .bool false else .int .u64 0) := by
   rw [List.getElem?_eq_getElem (by omega)]
   simp only [zF, Builtin.zeroCells, Array.toList_map, List.getElem_map, Array.toList_range, List.getElem_range]
   rcases Nat.mod_two_eq_zero_or_one i with e | e <;> (simp only [e, List.size_toArray, List.length_cons, List.length_nil]; first | rfl | trace_state)
  rw [e0]
  rcases Nat.mod_two_eq_zero_or_one i with e | e
  ·have : i / 2 * 2 = i := by omega
   rw [this] at f1
   rw [f1, if_pos e]
  ·have : i / 2 * 2 + 1 = i := by omega
   rw [this] at f2
   rw [f2, if_neg (by omega)]
   rfl
 ·rw [List.getElem?_eq_none (by omega), List.getElem?_eq_none (by omega)]
def LyP (w w' : World) (h m : Nat) (cap : Int) (yv rv : Value) (y r : List (Bool × Nat)) : Prop := ∃ yv', Hs w' h m cap yv' rv y r ∧ (∀ k, yv'.ownBlock = some k → yv.ownBlock = some k ∨ w.heap.size ≤ k) ∧ Only (fun k => k = h ∨ yv.ownBlock = some k) w w'
theorem Hs.row {w w1 : World} {h m : Nat} {cap : Int} {yv rv : Value} {y r : List (Bool × Nat)} (g : Hs w h m cap yv rv y r) (o : Only (fun k => k = h ∨ yv.ownBlock = some k) w w1) {a : Option Addr} {n c : Nat} {y' : List (Bool × Nat)} (hb : w1.heap[h]? = some (.cells #[.slice none 0 0, yv, .map (some m), .int .i64 cap, rv] 68)) (hn : n = y'.length) (ho : w1.ownsRow 0 72 2 (.slice a n c) n (fl y')) (hat : ∀ k, (Value.slice a n c).ownBlock = some k → yv.ownBlock = some k ∨ w.heap.size ≤ k) :
  LyP w (w1.setCell ⟨h, 1, none⟩ (.slice a n c)) h m cap yv rv y' r := by
 subst hn
 obtain ⟨e, he⟩ := g.mb
 have nh := g.ynh
 have os : Only (fun k => k = h) w1 (w1.setCell ⟨h, 1, none⟩ (.slice a y'.length c)) := (Only.refl _ w1).setCell _ _ (fun _ => rfl)
 have hr : ∀ k, rv.ownBlock = some k → ¬ (k = h ∨ yv.ownBlock = some k) := fun k hk q => by
  rcases q with q | q
  ·exact nh.2.2.1 (q ▸ hk)
  ·exact g.ds k q hk
 refine ⟨.slice a y'.length c, ⟨set_blk hb 1 _, ⟨e, (Below.heap_setCell _ _ _ _ (fun q => g.ne q.symm)).trans ((o.block m g.lt.2 (fun q => ?_)).trans he)⟩, os.owns ho (fun k hk q => ?_), os.owns (o.owns g.rr hr) (fun k hk q => nh.2.2.1 (q ▸ hk)), fun k hk q => ?_⟩, hat, o.setCell _ _ (fun _ => .inl rfl)⟩
 ·rcases q with q | q
  ·exact g.ne q.symm
  ·exact nh.2.1 q
 ·rcases hat k hk with e | e
  ·exact nh.1 (q ▸ e)
  ·have := g.lt.1
   omega
 ·rcases hat k hk with e | e
  ·exact g.ds k e q
  ·have := own_lt g.rr q
   omega
end Go.Proofs.YtbbeoobihdldcaaGreatDoor
namespace Go.Proofs.YtbbeoobihdldcaaGreatDoor
open Go.RowKit
set_option linter.unusedSimpArgs false
set_option linter.unusedVariables false
theorem Hs.row2 {w w1 : World} {h m : Nat} {cap : Int} {yv rv : Value} {y r : List (Bool × Nat)} (g : Hs w h m cap yv rv y r) (o : Only (fun k => k = h ∨ yv.ownBlock = some k) w w1) {yw : Value} {a : Option Addr} {n c : Nat} {y' : List (Bool × Nat)} (hb : w1.heap[h]? = some (.cells #[.slice none 0 0, yw, .map (some m), .int .i64 cap, rv] 68)) (hn : n = y'.length) (ho : w1.ownsRow 0 72 2 (.slice a n c) n (fl y')) (hat : ∀ k, (Value.slice a n c).ownBlock = some k → yv.ownBlock = some k ∨ w.heap.size ≤ k) :
  Hs (w1.setCell ⟨h, 1, none⟩ (.slice a n c)) h m cap (.slice a n c) rv y' r ∧ Only (fun k => k = h ∨ yv.ownBlock = some k) w (w1.setCell ⟨h, 1, none⟩ (.slice a n c)) := by
 subst hn
 obtain ⟨e, he⟩ := g.mb
 have nh := g.ynh
 have os : Only (fun k => k = h) w1 (w1.setCell ⟨h, 1, none⟩ (.slice a y'.length c)) := (Only.refl _ w1).setCell _ _ (fun _ => rfl)
 have hr : ∀ k, rv.ownBlock = some k → ¬ (k = h ∨ yv.ownBlock = some k) := fun k hk q => by
  rcases q with q | q
  ·exact nh.2.2.1 (q ▸ hk)
  ·exact g.ds k q hk
 refine ⟨⟨set_blk hb 1 _, ⟨e, (Below.heap_setCell _ _ _ _ (fun q => g.ne q.symm)).trans ((o.block m g.lt.2 (fun q => ?_)).trans he)⟩, os.owns ho (fun k hk q => ?_), os.owns (o.owns g.rr hr) (fun k hk q => nh.2.2.1 (q ▸ hk)), fun k hk q => ?_⟩, o.setCell _ _ (fun _ => .inl rfl)⟩
 ·rcases q with q | q
  ·exact g.ne q.symm
  ·exact nh.2.1 q
 ·rcases hat k hk with e | e
  ·exact nh.1 (q ▸ e)
  ·have := g.lt.1
   omega
 ·rcases hat k hk with e | e
  ·exact g.ds k e q
  ·have := own_lt g.rr q
   omega
set_option maxRecDepth 100000 in
set_option maxHeartbeats 8000000 in
theorem lay_any (h m : Nat) (cap : Int) (yv rv : Value) (y r : List (Bool × Nat)) (kd n hd : Nat) (hH : HdC kd n hd) (w : World) (hE : Hs w h m cap yv rv y r) (hy : y.length ≤ 100000) (h0 : 0 < n) (hn : n ≤ 100000) :
  Calls Tryz.prog 135 #[.pointer (some ⟨h, 0, none⟩), .int .i64 (kd : Int), .int .i64 (n : Int), .bool false] w fun e w' => e = .returned (.int .u64 (y.length : Int)) ∧ LyP w w' h m cap yv rv (y ++ (false, hd) :: List.replicate n (false, 0)) r := by
 have HH : Hid (∀ w, Calls Tryz.prog 157 #[.int .i64 (kd : Int), .int .i64 (n : Int), .bool false] w fun e w' => e = .returned (.agg #[.bool false, .int .u64 (hd : Int)]) ∧ Only (fun _ => False) w w') := hH
 obtain ⟨⟨a0, k0, hyv⟩, _⟩ := hE.sl
 obtain ⟨c0, c1, _, _, _⟩ := hE.cells
 obtain ⟨L, hL⟩ : ∃ L, L = y.length := ⟨_, rfl⟩
 rw [← hL] at hyv hy ⊢
 have HU : Hid _ := used_any h none a0 0 L 0 k0 (by omega) (by omega) w c0 (hyv ▸ c1)
 have HE : Hid (Hs w h m cap yv rv y r) := hE
 have HS : Hid (L = y.length ∧ L ≤ 100000 ∧ 0 < n ∧ n ≤ 100000) := ⟨hL, hy, h0, hn⟩
 have hw0 : IntKind.u64.wrap (L : Int) = (L : Int) := by rw [IntKind.wrap_u64]; omega
 clear hE c0 c1 hH hyv hL hy h0 hn
 go_enter Tryz.func135, Tryz.ntmps135
 go_wp2_with fail
 refine (show Calls Tryz.prog 89 _ _ _ from HU.out).mono ?_
 rintro e w1 ⟨rfl, o1⟩
 have E1 := HE.out.only o1
 have c1 : w1.cell? ⟨h, 1, none⟩ = some yv := E1.cells.2.1
 have f1 : w1.frozen? ⟨h, 1, none⟩ = false := hb_froz E1.hb 1
 have O1 : Hid (Only (fun _ => False) w w1) := o1
 have HAP : Hid (∀ w2, Only (fun _ => False) w1 w2 → ∃ a c w3, (∀ ty, (Builtin.append_ #[63, 63] ty #[yv, .slice (some ⟨w2.heap.size, 0, none⟩) 1 1]).run Tryz.prog (w2.alloc (.cells #[.bool false, .int .u64 (hd : Int)] 72)) = .ok (.slice a (L + 1) c) w3) ∧ w3.cell? ⟨h, 1, none⟩ = some yv ∧ w3.frozen? ⟨h, 1, none⟩ = false ∧ w2.cell? ⟨h, 1, none⟩ = some yv ∧ (∀ x, (w2.alloc x).cell? ⟨h, 1, none⟩ = some yv) ∧ Hid (Hs (w3.setCell ⟨h, 1, none⟩ (.slice a (L + 1) c)) h m cap (.slice a (L + 1) c) rv (y ++ [(false, hd)]) r ∧ (∀ k, (Value.slice a (L + 1) c).ownBlock = some k → yv.ownBlock = some k ∨ w.heap.size ≤ k) ∧ Only (fun k => k = h ∨ yv.ownBlock = some k) w (w3.setCell ⟨h, 1, none⟩ (.slice a (L + 1) c)))) := fun w2 o => by
  have E2 := E1.only o
  have s1 := O1.out.size
  have s2 := o.size
  obtain ⟨hL, hy, _, _⟩ := HS.out
  obtain ⟨a, c, w3, hr, hown, oo, hat⟩ := app_f2 (w := w2) E2.ry (Nat.zero_le _) false (hd : Int) (by omega)
  rw [← hL] at hr hown hat
  have o3 : Only (fun k => yv.ownBlock = some k) w w3 := ((O1.out.trans o (fun _ _ g => g)).mono (bs' := fun k => yv.ownBlock = some k) (fun _ _ g => g.elim)).trans oo (fun _ _ g => g)
  have b3 := (o3.block h HE.out.lt.1 HE.out.ynh.1).trans HE.out.hb
  have hat2 : ∀ k, (Value.slice a (L + 1) c).ownBlock = some k → yv.ownBlock = some k ∨ w.heap.size ≤ k := fun k hk => by
   rcases hat k hk with e | e
   ·exact .inl e
   ·exact .inr (by omega)
  obtain ⟨u1, u2⟩ := HE.out.row2 (o3.mono (bs' := fun k => k = h ∨ yv.ownBlock = some k) (fun _ _ g => .inr g)) (y' := y ++ [(false, hd)]) b3 (by simp [hL]) (by rw [fl_app]; exact hown) hat2
  exact ⟨a, c, w3, hr, hb_cell b3 1, hb_froz b3 1, E2.cells.2.1, fun x => (E2.only ((Only.refl _ w2).alloc x)).cells.2.1, u1, hat2, u2⟩
 clear HU E1 o1
 go_wp2_with fail
 go_region_law (first
  | (go_simp; go_at_call 157; refine (show Calls Tryz.prog 157 _ _ _ from HH.out _).mono ?_; rintro e w2 ⟨rfl, o2⟩; have O2 : Hid (Only (fun _ => False) w1 w2) := (Only.trans (show Only (fun _ => False) w1 _ by repeat' first | exact Only.refl _ _ | apply Only.alloc | apply Only.drew) o2 (fun _ _ g => g)); obtain ⟨a3, c3, w3, hr, x3, z3, d2, d2A, HF⟩ := HAP.out w2 O2.out; have HR : Hid _ := hr; clear hr o2; dsimp only)
  | (refine step_append_run (by rfl) _ _ 63 (by rfl) _ _ (.slice a3 (L + 1) c3) (by rfl) (by rfl) HR.out ?_))
 all_goals
  refine then_at fun X hX => ?_
  rw [← hX] at HF
  obtain ⟨EX, hatX, oX⟩ := HF.out
  obtain ⟨hL, hy, h0, hn⟩ := HS.out
  have hrow := EX.ry
  rw [show (y ++ [(false, hd)]).length = L + 1 by simp [hL]] at hrow
  obtain ⟨g, hg⟩ : ∃ g, a3 = some ⟨g, 0, none⟩ := by
   rcases hrow.2 with ⟨e, _⟩ | ⟨g, cap', cur, e, _⟩
   ·cases e
   ·cases e
    exact ⟨g, rfl⟩
  subst hg
  obtain ⟨a4, c4, w4, hr4, hown4, oo4, hat4⟩ := app_z2 hrow (Nat.zero_le _) n h0 (by omega) (by omega)
  have HR4 : Hid _ := hr4
  have gh : g ≠ h := fun q => EX.ynh.1 (by rw [← q]; rfl)
  have b4 := (oo4.block h EX.lt.1 (fun q => gh q.symm)).trans EX.hb
  have x4 : w4.cell? ⟨h, 1, none⟩ = some (.slice (some ⟨g, 0, none⟩) (L + 1) c3) := hb_cell b4 1
  have z4 : w4.frozen? ⟨h, 1, none⟩ = false := hb_froz b4 1
  have x1 : X.cell? ⟨h, 1, none⟩ = some (.slice (some ⟨g, 0, none⟩) (L + 1) c3) := EX.cells.2.1
  have o4 : Only (fun k => k = h ∨ yv.ownBlock = some k) w w4 := oX.trans oo4 (fun k hk q => by
   rcases hatX g rfl with e | e
   ·exact .inr (q ▸ e)
   ·omega)
  have sX := oX.size
  have hat' : ∀ k, (Value.slice a4 (L + 1 + n) c4).ownBlock = some k → yv.ownBlock = some k ∨ w.heap.size ≤ k := fun k hk => by
   rcases hat4 k hk with e | e
   ·exact hatX k (by rw [e]; rfl)
   ·exact .inr (by omega)
  have HF4 : Hid (LyP w (w4.setCell ⟨h, 1, none⟩ (.slice a4 (L + 1 + n) c4)) h m cap yv rv (y ++ (false, hd) :: List.replicate n (false, 0)) r) := by
   obtain ⟨u1, u2⟩ := HE.out.row2 o4 (a := a4) (n := L + 1 + n) (c := c4) (y' := y ++ (false, hd) :: List.replicate n (false, 0)) b4 (by simp [hL]; omega) (by
    have e : fl (y ++ (false, hd) :: List.replicate n (false, 0)) = fl (y ++ [(false, hd)]) ++ zF n := by
     rw [zF_fl, ← fl_app, List.append_assoc]
     rfl
    rw [e]
    exact hown4) hat'
   exact ⟨_, u1, hat', u2⟩
  clear HF EX hatX oX hL hy h0 hn hrow hr4 hown4 oo4 hat4 gh b4 o4 sX hat' hX HAP HE HS HH O1 O2 x3 z3 d2 d2A c1 f1
  go_wp2_with (at_builtin; refine Lib.wpList_append_run _ rfl _ _ 63 3 rfl _ _ rfl rfl _ _ (HR4.out _) ?_)
  go_ret
  exact ⟨rfl, HF4.out⟩
end Go.Proofs.YtbbeoobihdldcaaGreatDoor
