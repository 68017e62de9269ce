import Derived.Test.YtlcglapcmdpkfaaGreatTk
import Derived.Test.YtlcglapcmdpkfaaGreatA3
namespace Go.Proofs.YtlcglapcmdpkfaaGreat
open Go.RowKit Go.Maps Go.Shelf
set_option linter.unusedSimpArgs false
set_option linter.unusedVariables false
theorem and32 (n : Nat) (h : n < 4294967296) : bits .and .u64 (n : Int) 4294967295 = (n : Int) := by
 have := bits_and_u64_nat n 4294967295 (by omega) (by omega)
 rw [show (4294967295 : Int) = ((4294967295 : Nat) : Int) from rfl, this]
 rw [show 4294967295 = 2 ^ 32 - 1 from rfl, Nat.and_two_pow_sub_one_eq_mod, Nat.mod_eq_of_lt (by omega)]
set_option maxRecDepth 100000 in
set_option maxHeartbeats 1000000 in
theorem mul64_one (n : Nat) (h : n < 4294967296) (w : World) : Calls Tryz.prog 124 #[.int .u64 1, .int .u64 n] w fun e w' => e = .returned (.tuple #[.int .u64 0, .int .u64 n]) ∧ w' = w := by
 have b1 : bits .and .u64 1 4294967295 = 1 := and32 1 (by omega)
 have b0 : bits .and .u64 0 4294967295 = 0 := and32 0 (by omega)
 have bn := and32 n h
 have e1 : (n : Int) / 4294967296 = 0 := by omega
 have e2 : IntKind.u64.wrap (n : Int) = (n : Int) := by rw [IntKind.wrap_u64]; omega
 have e3 : IntKind.u64.wrap (1 * (n : Int)) = (n : Int) := by rw [Int.one_mul]; exact e2
 go_enter Tryz.func124, Tryz.ntmps124
 go_wp2
 go_ret2
 exact ⟨rfl, rfl⟩
set_option maxRecDepth 100000 in
set_option maxHeartbeats 1000000 in
theorem mul_one (n : Nat) (h : n < 4294967296) (w : World) : Calls Tryz.prog 106 #[.int .u64 1, .int .u64 n] w fun e w' => e = .returned (.tuple #[.int .u64 0, .int .u64 n]) ∧ w' = w := by
 have HM : ∀ w, Calls Tryz.prog 124 #[.int .u64 1, .int .u64 n] w _ := fun w => mul64_one n h w
 have e2 : IntKind.u64.wrap (n : Int) = (n : Int) := by rw [IntKind.wrap_u64]; omega
 go_enter Tryz.func106, Tryz.ntmps106
 go_wp2_with (go_at_call 124; refine (HM _).mono ?_; rintro e w' ⟨rfl, rfl⟩)
 go_ret2
 exact ⟨rfl, rfl⟩
def rpL (v : Int) (n m : Nat) : List Value := List.replicate m (.int .i64 v) ++ List.replicate (n - m) (.int .i64 0)
theorem rpL_length (v : Int) (n m : Nat) (h : m ≤ n) : (rpL v n m).length = n := by simp [rpL]; omega
theorem rpL_get (v : Int) (n m j : Nat) (h : j < m) : (rpL v n m)[j]? = some (.int .i64 v) := by simp [rpL, List.getElem?_append, h]
theorem rpL_copy (v : Int) (n m k : Nat) (h : m + k ≤ n) : (rpL v n m).take m ++ List.replicate k (.int .i64 v) ++ (rpL v n m).drop (m + k) = rpL v n (m + k) := by
 unfold rpL
 rw [List.take_append_of_le_length (by simp), List.take_of_length_le (by simp)]
 rw [List.drop_append, List.drop_of_length_le (by simp), List.nil_append, List.length_replicate, List.drop_replicate, List.replicate_append_replicate]
 congr 2
 omega
def RBlk (w : World) (g : Nat) (v : Int) (n m : Nat) : Prop := w.heap[g]? = some (.cells (rpL v n m).toArray 3 (0, 0))
theorem make_ints (n : Nat) (hn : n ≤ 1000000) (w : World) : (Instr.makeSlice 76 (.int .i64 n) (.int .i64 n)).run Tryz.prog w = .ok (.slice (some ⟨w.heap.size, 0, none⟩) n n) (w.alloc (.cells (rpL 0 n 0).toArray 3)) := by
 obtain ⟨i0, hi0, hz0, hz1, hz2⟩ := info_parts info3
 have h := run_make (P := Tryz.prog) w 76 3 i0 _ Tryz.underlying76 hi0 hz0 .i64 .i64 n n (by omega) (Int.le_refl _) (by rw [hz2]; omega) (by omega)
 rw [hz1, Int.toNat_natCast, Nat.mul_one] at h
 have e : madeCells (Value.int .i64 0).cells n = (rpL 0 n 0).toArray := by
  apply Array.ext_getElem?
  intro i
  by_cases hi : i < n
  ·simp [madeCells, hi, rpL, Value.cells, Nat.mod_one]
  ·rw [Array.getElem?_eq_none (by simp [madeCells]; omega), Array.getElem?_eq_none (by simp [rpL]; omega)]
 rw [← e]
 exact h
theorem size3 : (Tryz.prog.info? 3).map (·.size) = some 1 := by kernel_rfl
theorem copy_rp {W : World} {g n m : Nat} {v : Int} (h : RBlk W g v n m) (ad : Addr) (dl dc sl sc k : Nat) (hk : k = min sl dl) (hs : ∀ j, j < k → W.cell? (ad.add j) = some (.int .i64 v)) (hf : m + k ≤ n) :
  ∃ W', (∀ ty, (Builtin.copy_ #[76, 76] ty #[.slice (some ⟨g, m, none⟩) dl dc, .slice (some ad) sl sc]).run Tryz.prog W = .ok (.int .i64 (k : Nat)) W') ∧ RBlk W' g v n (m + k) ∧ Only (fun i => i = g) W W' := by
 have hrun := fun ty => run_copy_row (P := Tryz.prog) W 76 76 ty 3 g m dl dc ad sl sc (rpL v n m).toArray 3 (List.replicate k (.int .i64 v)) Tryz.underlying76 size3 h (by rw [List.length_replicate]; exact hk) (fun j u hu => by
  have hj : j < k := by have := (List.getElem?_eq_some_iff.1 hu).1; rwa [List.length_replicate] at this
  rw [List.getElem?_replicate, if_pos hj] at hu
  rw [hs j hj, ← hu]) (by rw [List.length_replicate, List.size_toArray, rpL_length _ _ _ (by omega)]; exact hf) (fun u hu => by rw [List.eq_of_mem_replicate hu]; rfl)
 refine ⟨W.setRow g ((rpL v n m).toArray.toList.take m ++ List.replicate k (Value.int .i64 v) ++ (rpL v n m).toArray.toList.drop (m + k)).toArray, fun ty => (hrun ty).trans (by rw [List.length_replicate]; rfl), ?_, ⟨rfl, rfl, rfl, by simp [World.setRow], fun i hi hn => setRow_other W g i _ (fun e => hn e)⟩⟩
 unfold RBlk
 rw [setRow_heap W g _ _ 3 _ h, List.toList_toArray, rpL_copy v n m k hf]
section
variable {P : Program} {op : Oper} {a : Act} {w w' : World} {K : Act → World → Prop} {Q : Exit → Act → World → Prop}
theorem wp_copy_run (s x : Operand) (t : TypeId) (ho : op.op = .call { callee := .builtin .copy, args := #[s, x], argTypes := #[t, t] }) (v1 v2 v' : Value) (hs : a.eval s = v1) (hx : a.eval x = v2)
  (hr : (Builtin.copy_ #[t, t] op.type #[v1, v2]).run P w = .ok v' w') (h : K (a.put op.dst v') w') : op.wp P a w K Q := by
 unfold Oper.wp
 simp [execOp, ho, resolve, invoke, builtin, hs, hx, hr, Result.andThen]
 exact h
theorem wpList_copy_run {ops : Array Oper} {rest : List Oper} (hgd : op.guard = none) (s x : Operand) (t : TypeId) (ho : op.op = .call { callee := .builtin .copy, args := #[s, x], argTypes := #[t, t] }) (v1 v2 v' : Value) (hs : a.eval s = v1) (hx : a.eval x = v2)
  (hr : ∀ ty, (Builtin.copy_ #[t, t] ty #[v1, v2]).run P w = .ok v' w') (h : wpList P ops Q rest (a.put op.dst v') w') : wpList P ops Q (op :: rest) a w :=
 wpList_plain hgd fun _ hK => wp_copy_run s x t ho v1 v2 v' hs hx (hr _) (hK _ _ h)
end
set_option maxRecDepth 100000 in
set_option maxHeartbeats 2000000 in
theorem repeat_any (v : Nat) (n gx : Nat) (hn : n ≤ 100000) (w : World) (hx : w.cell? ⟨gx, 0, none⟩ = some (.int .i64 (v : Nat))) :
  Calls Tryz.prog 80 #[.slice (some ⟨gx, 0, none⟩) 1 1, .int .i64 n] w fun e w' => e = .returned (.slice (some ⟨w.heap.size, 0, none⟩) n n) ∧ RBlk w' w.heap.size v n n ∧ Only (fun _ => False) w w' := by
 have HM : ∀ w, Calls Tryz.prog 106 #[.int .u64 1, .int .u64 n] w _ := fun w => mul_one n (by omega) w
 have e2 : IntKind.u64.wrap (n : Int) = (n : Int) := by rw [IntKind.wrap_u64]; omega
 have e3 : IntKind.i64.wrap (n : Int) = (n : Int) := by rw [IntKind.wrap_i64]; omega
 have n0 : ¬ (n : Int) < 0 := by omega
 have n1 : ¬ (n : Int) > 9223372036854775807 := by omega
 obtain ⟨Z, hZ⟩ : ∃ Z, Z = (rpL 0 n 0).toArray := ⟨_, rfl⟩
 have hmk : ∀ w, (Instr.makeSlice 76 (.int .i64 n) (.int .i64 n)).run Tryz.prog w = .ok (.slice (some ⟨w.heap.size, 0, none⟩) n n) (w.alloc (.cells Z 3)) := fun w => by rw [hZ]; exact make_ints n (by omega) w
 obtain ⟨wa, hwa⟩ : ∃ q, q = w.alloc (.cells Z 3) := ⟨_, rfl⟩
 have hgx := World.block_lt_of_cell? w _ hx
 simp only at hgx
 have hb : RBlk wa w.heap.size v n 0 := by unfold RBlk; rw [hwa, hZ]; exact heap_alloc_new w _
 have oa : Only (fun _ => False) w wa := by rw [hwa]; exact (Only.refl _ w).alloc _
 obtain ⟨m1, hm1⟩ : ∃ m1, m1 = min 1 n := ⟨_, rfl⟩
 obtain ⟨w1, hr1, hb1, ho1⟩ := copy_rp hb ⟨gx, 0, none⟩ n n 1 1 m1 hm1 (fun j hj => by
  have : j = 0 := by omega
  subst this
  exact oa.cell hx (fun e => e)) (by omega)
 rw [Nat.zero_add] at hb1
 rw [hwa] at hr1
 have HR1 : Hid _ := hr1
 have HB1 : Hid (RBlk w1 w.heap.size v n m1 ∧ Only (fun _ => False) w w1) := ⟨hb1, oa.trans ho1 (fun k hk e => by omega)⟩
 have HWA : Hid (wa = w.alloc (.cells Z 3)) := hwa
 have hm1' : m1 ≤ n ∧ (n = 0 ∨ 1 ≤ m1) := by omega
 obtain ⟨N, hN⟩ : ∃ N, N = w.heap.size := ⟨_, rfl⟩
 have HN : Hid (N = w.heap.size) := hN
 rw [← hN] at HB1 ⊢
 clear hwa hb oa hr1 hb1 ho1 hm1 hZ hx hN hgx
 go_enter Tryz.func80, Tryz.ntmps80
 go_wp2_with (first | (go_at_call 106; refine (HM _).mono ?_; rintro e w' ⟨rfl, rfl⟩) | (refine wpList_copy_run rfl _ _ 76 rfl _ _ (.int .i64 (m1 : Nat)) rfl rfl HR1.out ?_))
 rw [← HN.out]
 clear hmk HM e2 e3
 go_loopw [8] (fun t W => ∃ m : Nat, m ≤ n ∧ (n = 0 ∨ 1 ≤ m) ∧ t = .int .i64 m ∧ RBlk W N v n m ∧ Only (fun _ => False) w' W) (fun t _ => n - (intOf t).toNat)
 case atStart => exact ⟨m1, hm1'.1, hm1'.2, rfl, HB1.out.1, HB1.out.2⟩
 case round =>
  clear HB1 HR1 hm1'
  obtain ⟨m, hm, hm0, rfl, hb, ho⟩ := hrel
  obtain ⟨W, rfl⟩ : ∃ W, W = wr := ⟨_, rfl⟩
  by_cases hlt : m < n
  ·have k0 : (0 : Int) ≤ (m : Int) := by omega
   have k1 : (m : Int) < (n : Int) := by omega
   have k2 : (m : Int) ≤ (n : Int) := by omega
   have k3 : ((n : Int) - (m : Int)).toNat = n - m := by omega
   have k4 : ¬ n - m = 0 := by omega
   have k5 : ¬ n = m := by omega
   obtain ⟨k, hk⟩ : ∃ k, k = min m (n - m) := ⟨_, rfl⟩
   have hb' : RBlk W.drew N v n m := hb
   obtain ⟨W2, hr2, hb2, ho2⟩ := copy_rp hb' ⟨N, 0, none⟩ (n - m) (n - m) m n k hk (fun j hj => by
    rw [Addr.add_mid, Nat.zero_add]
    show W.cell? _ = _
    rw [cell_of_row _ _ _ _ _ _ hb]
    simp only [List.getElem?_toArray]
    exact rpL_get _ _ _ _ (by omega)) (by omega)
   have HR2 : Hid _ := hr2
   have HB2 : Hid (RBlk W2 N v n (m + k) ∧ Only (fun _ => False) w' W2) := ⟨hb2, (ho.drew).trans ho2 (fun j hj e => by rw [HN.out] at e; omega)⟩
   have hkn : m + k ≤ n ∧ 1 ≤ k := by omega
   have hww : IntKind.i64.wrap ((m : Int) + (k : Int)) = ((m + k : Nat) : Int) := by rw [IntKind.wrap_i64]; omega
   clear hb hb' ho hr2 hb2 ho2 hk
   go_wp2
   refine wp_region_held_drew (S := fun _ => True) (by kernel_rfl) trivial (fun hHeld => ?_)
   refine t8 (i := 0) (v := .int .i64 (m : Nat)) rfl hHeld ?_
   simp only [Act.put, z9]
   refine t8 (i := 1) (v := .slice (some ⟨N, 0, none⟩) n n) rfl hHeld ?_
   simp only [Act.put, z9]
   refine t8 (i := 2) (v := .int .i64 (m : Nat)) rfl hHeld ?_
   simp only [Act.put, z9]
   refine t8 (i := 3) (v := .slice (some ⟨N, m, none⟩) (n - m) (n - m)) rfl hHeld ?_
   simp only [Act.put, z9]
   refine t8 (i := 4) (v := .slice (some ⟨N, 0, none⟩) n n) rfl hHeld ?_
   simp only [Act.put, z9]
   refine t8 (i := 5) (v := .int .i64 (m : Nat)) rfl hHeld ?_
   simp only [Act.put, z9]
   refine t8 (i := 6) (v := .slice (some ⟨N, 0, none⟩) m n) rfl hHeld ?_
   simp only [Act.put, z9]
   refine wpAnyH_ready (rs := [7]) (by kernel_rfl) (by simp) ?_
   refine AllReadyH.cons rfl (fun K hK => ?_) AllReadyH.nil
   rw [if_pos (by rfl)]
   refine wp_copy_run _ _ 76 rfl _ _ (.int .i64 (k : Nat)) rfl rfl (HR2.out _) ?_
   refine hK _ _ trivial (fun hHeld => ?_)
   clear hK K
   simp only [Act.put, z9]
   refine t8 (i := 8) (v := .int .i64 ((m : Int) + (k : Int))) rfl hHeld ?_
   simp only [Act.put, z9]
   refine t8 (i := 9) (v := .int .i64 ((m : Int) + (k : Int))) rfl hHeld ?_
   simp only [Act.put, z9]
   refine wpAnyH_done (by kernel_rfl) ?_ _
   clear HR2
   go_wp2
   go_roundw
   case rel => exact ⟨m + k, hkn.1, .inr (by omega), by rw [Int.natCast_add], HB2.out.1, HB2.out.2⟩
   case measure => simp [intOf]; omega
  ·obtain rfl : m = n := by omega
   have HB2 : Hid (RBlk W N v m m ∧ Only (fun _ => False) w' W) := ⟨hb, ho⟩
   clear hb ho
   go_wp2
   go_ret
   exact ⟨rfl, HB2.out.1, HB2.out.2⟩
def freeN (x : SS) : Nat → Nat
 | 0 => 0
 | k + 1 => freeN x k + (if usedF x k = true then 0 else 1)
theorem freeN_le (x : SS) : ∀ k, freeN x k ≤ k
 | 0 => Nat.le_refl _
 | k + 1 => by have := freeN_le x k; unfold freeN; split <;> omega
set_option maxRecDepth 100000 in
set_option maxHeartbeats 2000000 in
theorem free_any {w : World} {dk : Nat → Prop} {s p mc mn : Nat} {tv : Value} {x : SS} (h : StAt w dk s p mc mn tv x) :
  Calls Tryz.prog 76 #[.pointer (some ⟨s, 0, none⟩)] w fun e w' => e = .returned (.int .i64 (freeN x x.size : Nat)) ∧ Only (fun _ => False) w w' := by
 have HU : Hid (Calls Tryz.prog 56 _ _ _) := used_any h
 have hsz := h.wf.size
 obtain ⟨n, hn⟩ : ∃ n, n = x.size := ⟨_, rfl⟩
 rw [← hn] at HU hsz ⊢
 obtain ⟨N, hN⟩ : ∃ N, N = w.heap.size := ⟨_, rfl⟩
 rw [← hN] at HU
 clear h hn hN
 go_enter Tryz.func76, Tryz.ntmps76
 go_wp2_with (go_at_call 56; refine (show Calls Tryz.prog 56 _ _ _ from HU.out).mono ?_; rintro e w1 ⟨rfl, hf1, ho1⟩)
 go_loopw [3, 9] (fun c t W => ∃ k : Nat, k ≤ n ∧ t = .int .i64 k ∧ c = .int .i64 (freeN x k : Nat) ∧ W = w1) (fun _ t _ => n - (intOf t).toNat)
 case atStart => exact ⟨0, Nat.zero_le _, rfl, rfl, rfl⟩
 case round =>
  obtain ⟨k, hk, rfl, rfl, rfl⟩ := hrel
  have hle := freeN_le x k
  by_cases hlt : k < n
  ·have hc := hf1.cell k hlt
   have k0 : (0 : Int) ≤ (k : Int) := by omega
   have k1 : (k : Int) < (n : Int) := by omega
   have HF : Hid _ := hf1
   have HO : Hid _ := ho1
   obtain ⟨fk, hfk⟩ : ∃ fk, fk = freeN x k := ⟨_, rfl⟩
   have hst : freeN x (k + 1) = fk + (if usedF x k = true then 0 else 1) := by rw [hfk]; rfl
   have HST : Hid _ := hst
   rw [← hfk] at hle ⊢
   have e1 : IntKind.i64.wrap ((fk : Int) + 1) = ((fk + 1 : Nat) : Int) := by rw [IntKind.wrap_i64]; omega
   clear hf1 ho1 hfk hst
   cases hu : usedF x k with
   | true =>
     rw [hu] at hc
     have HX : Hid (freeN x (k + 1) = fk) := (by have := HST.out; rw [hu] at this; simpa using this : freeN x (k + 1) = fk)
     clear HST hu
     go_wp2
     go_roundw
     case rel => exact ⟨k + 1, by omega, by go_num, by rw [HX.out], trivial⟩
     case measure => simp [intOf]; omega
   | false =>
     rw [hu] at hc
     have HX : Hid (freeN x (k + 1) = fk + 1) := (by have := HST.out; rw [hu] at this; simpa using this : freeN x (k + 1) = fk + 1)
     clear HST hu
     go_wp2
     go_roundw
     case rel => exact ⟨k + 1, by omega, by go_num, by rw [HX.out]; rfl, trivial⟩
     case measure => simp [intOf]; omega
  ·obtain rfl : k = n := by omega
   clear hf1
   go_wp2
   go_ret
   exact ⟨rfl, ho1⟩
end Go.Proofs.YtlcglapcmdpkfaaGreat
