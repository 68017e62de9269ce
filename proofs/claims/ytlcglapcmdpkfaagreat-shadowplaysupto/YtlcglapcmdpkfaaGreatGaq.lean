/-    -/
import Derived.Test.YtlcglapcmdpkfaaGreatGaa
import Derived.Test.YtlcglapcmdpkfaaGreatGap
namespace Go.Proofs.YtlcglapcmdpkfaaGreat
open Go.RowKit Go.Maps Go.Shelf
set_option linter.unusedSimpArgs false
set_option linter.unusedVariables false
set_option maxRecDepth 100000
set_option maxHeartbeats 16000000
theorem and32 (n : Nat) (h : n < 4294967296) : bits .and .u64 (n : Int) 4294967295 = (n : Int) := by
 have := bits_and_u64_nat n 4294967295 (by omega) (by omega)
 rw [show (4294967295 : Int) = ((4294967295 : Nat) : Int) from rfl, this]
 rw [show 4294967295 = 2 ^ 32 - 1 from rfl, Nat.and_two_pow_sub_one_eq_mod, Nat.mod_eq_of_lt (by omega)]
theorem mul64_one (n : Nat) (h : n < 4294967296) (w : World) : Calls Tryz.prog 124 #[.int .u64 1, .int .u64 n] w fun e w' => e = .returned (.tuple #[.int .u64 0, .int .u64 n]) ∧ w' = w := by
 have b1 : bits .and .u64 1 4294967295 = 1 := and32 1 (by omega)
 have b0 : bits .and .u64 0 4294967295 = 0 := and32 0 (by omega)
 have bn := and32 n h
 have e1 : (n : Int) / 4294967296 = 0 := by omega
 have e2 : IntKind.u64.wrap (n : Int) = (n : Int) := by rw [IntKind.wrap_u64]; omega
 have e3 : IntKind.u64.wrap (1 * (n : Int)) = (n : Int) := by rw [Int.one_mul]; exact e2
 go_enter Tryz.func124, Tryz.ntmps124
 go_wp2
 go_ret2
 exact ⟨rfl, rfl⟩
theorem mul_one (n : Nat) (h : n < 4294967296) (w : World) : Calls Tryz.prog 106 #[.int .u64 1, .int .u64 n] w fun e w' => e = .returned (.tuple #[.int .u64 0, .int .u64 n]) ∧ w' = w := by
 have HM : ∀ w, Calls Tryz.prog 124 #[.int .u64 1, .int .u64 n] w _ := fun w => mul64_one n h w
 have e2 : IntKind.u64.wrap (n : Int) = (n : Int) := by rw [IntKind.wrap_u64]; omega
 go_enter Tryz.func106, Tryz.ntmps106
 go_wp2_with (go_at_call 124; refine (HM _).mono ?_; rintro e w' ⟨rfl, rfl⟩)
 go_ret2
 exact ⟨rfl, rfl⟩
def rpL (v : Int) (n m : Nat) : List Value := List.replicate m (.int .i64 v) ++ List.replicate (n - m) (.int .i64 0)
theorem rpL_length (v : Int) (n m : Nat) (h : m ≤ n) : (rpL v n m).length = n := by simp [rpL]; omega
theorem rpL_get (v : Int) (n m j : Nat) (h : j < m) : (rpL v n m)[j]? = some (.int .i64 v) := by simp [rpL, List.getElem?_append, h]
theorem rpL_copy (v : Int) (n m k : Nat) (h : m + k ≤ n) : (rpL v n m).take m ++ List.replicate k (.int .i64 v) ++ (rpL v n m).drop (m + k) = rpL v n (m + k) := by
 unfold rpL
 rw [List.take_append_of_le_length (by simp), List.take_of_length_le (by simp)]
 rw [List.drop_append, List.drop_of_length_le (by simp), List.nil_append, List.length_replicate, List.drop_replicate, List.replicate_append_replicate]
 congr 2
 omega
def RBlk (w : World) (g : Nat) (v : Int) (n m : Nat) : Prop := w.heap[g]? = some (.cells (rpL v n m).toArray 3 (0, 0))
theorem make_ints (n : Nat) (hn : n ≤ 1000000) (w : World) : (Instr.makeSlice 76 (.int .i64 n) (.int .i64 n)).run Tryz.prog w = .ok (.slice (some ⟨w.heap.size, 0, none⟩) n n) (w.alloc (.cells (rpL 0 n 0).toArray 3)) := by
 obtain ⟨i0, hi0, hz0, hz1, hz2⟩ := info_parts info3
 have h := run_make (P := Tryz.prog) w 76 3 i0 _ Tryz.underlying76 hi0 hz0 .i64 .i64 n n (by omega) (Int.le_refl _) (by rw [hz2]; omega) (by omega)
 rw [hz1, Int.toNat_natCast, Nat.mul_one] at h
 have e : madeCells (Value.int .i64 0).cells n = (rpL 0 n 0).toArray := by
  apply Array.ext_getElem?
  intro i
  by_cases hi : i < n
  ·simp [madeCells, hi, rpL, Value.cells, Nat.mod_one]
  ·rw [Array.getElem?_eq_none (by simp [madeCells]; omega), Array.getElem?_eq_none (by simp [rpL]; omega)]
 rw [← e]
 exact h
theorem size3 : (Tryz.prog.info? 3).map (·.size) = some 1 := by kernel_rfl
theorem copy_rp {W : World} {g n m : Nat} {v : Int} (h : RBlk W g v n m) (ad : Addr) (dl dc sl sc k : Nat) (hk : k = min sl dl) (hs : ∀ j, j < k → W.cell? (ad.add j) = some (.int .i64 v)) (hf : m + k ≤ n) :
  ∃ W', (∀ ty, (Builtin.copy_ #[76, 76] ty #[.slice (some ⟨g, m, none⟩) dl dc, .slice (some ad) sl sc]).run Tryz.prog W = .ok (.int .i64 (k : Nat)) W') ∧ RBlk W' g v n (m + k) ∧ Only (fun i => i = g) W W' := by
 have hrun := fun ty => run_copy_row (P := Tryz.prog) W 76 76 ty 3 g m dl dc ad sl sc (rpL v n m).toArray 3 (List.replicate k (.int .i64 v)) Tryz.underlying76 size3 h (by rw [List.length_replicate]; exact hk) (fun j u hu => by
  have hj : j < k := by have := (List.getElem?_eq_some_iff.1 hu).1; rwa [List.length_replicate] at this
  rw [List.getElem?_replicate, if_pos hj] at hu
  rw [hs j hj, ← hu]) (by rw [List.length_replicate, List.size_toArray, rpL_length _ _ _ (by omega)]; exact hf) (fun u hu => by rw [List.eq_of_mem_replicate hu]; rfl)
 refine ⟨W.setRow g ((rpL v n m).toArray.toList.take m ++ List.replicate k (Value.int .i64 v) ++ (rpL v n m).toArray.toList.drop (m + k)).toArray, fun ty => (hrun ty).trans (by rw [List.length_replicate]; rfl), ?_, ⟨rfl, rfl, rfl, by simp [World.setRow], fun i hi hn => setRow_other W g i _ (fun e => hn e)⟩⟩
 unfold RBlk
 rw [setRow_heap W g _ _ 3 _ h, List.toList_toArray, rpL_copy v n m k hf]
section
variable {P : Program} {op : Oper} {a : Act} {w w' : World} {K : Act → World → Prop} {Q : Exit → Act → World → Prop}
theorem wp_copy_run (s x : Operand) (t : TypeId) (ho : op.op = .call { callee := .builtin .copy, args := #[s, x], argTypes := #[t, t] }) (v1 v2 v' : Value) (hs : a.eval s = v1) (hx : a.eval x = v2)
  (hr : (Builtin.copy_ #[t, t] op.type #[v1, v2]).run P w = .ok v' w') (h : K (a.put op.dst v') w') : op.wp P a w K Q := by
 unfold Oper.wp
 simp [execOp, ho, resolve, invoke, builtin, hs, hx, hr, Result.andThen]
 exact h
theorem wpList_copy_run {ops : Array Oper} {rest : List Oper} (hgd : op.guard = none) (s x : Operand) (t : TypeId) (ho : op.op = .call { callee := .builtin .copy, args := #[s, x], argTypes := #[t, t] }) (v1 v2 v' : Value) (hs : a.eval s = v1) (hx : a.eval x = v2)
  (hr : ∀ ty, (Builtin.copy_ #[t, t] ty #[v1, v2]).run P w = .ok v' w') (h : wpList P ops Q rest (a.put op.dst v') w') : wpList P ops Q (op :: rest) a w :=
 wpList_plain hgd fun _ hK => wp_copy_run s x t ho v1 v2 v' hs hx (hr _) (hK _ _ h)
end
theorem repeat_any (v : Nat) (n gx : Nat) (hn : n ≤ 100000) (w : World) (hx : w.cell? ⟨gx, 0, none⟩ = some (.int .i64 (v : Nat))) :
  Calls Tryz.prog 80 #[.slice (some ⟨gx, 0, none⟩) 1 1, .int .i64 n] w fun e w' => e = .returned (.slice (some ⟨w.heap.size, 0, none⟩) n n) ∧ RBlk w' w.heap.size v n n ∧ Only (fun _ => False) w w' := by
 have HM : ∀ w, Calls Tryz.prog 106 #[.int .u64 1, .int .u64 n] w _ := fun w => mul_one n (by omega) w
 have e2 : IntKind.u64.wrap (n : Int) = (n : Int) := by rw [IntKind.wrap_u64]; omega
 have e3 : IntKind.i64.wrap (n : Int) = (n : Int) := by rw [IntKind.wrap_i64]; omega
 have n0 : ¬ (n : Int) < 0 := by omega
 have n1 : ¬ (n : Int) > 9223372036854775807 := by omega
 obtain ⟨Z, hZ⟩ : ∃ Z, Z = (rpL 0 n 0).toArray := ⟨_, rfl⟩
 have hmk : ∀ w, (Instr.makeSlice 76 (.int .i64 n) (.int .i64 n)).run Tryz.prog w = .ok (.slice (some ⟨w.heap.size, 0, none⟩) n n) (w.alloc (.cells Z 3)) := fun w => by rw [hZ]; exact make_ints n (by omega) w
 obtain ⟨wa, hwa⟩ : ∃ q, q = w.alloc (.cells Z 3) := ⟨_, rfl⟩
 have hgx := World.block_lt_of_cell? w _ hx
 simp only at hgx
 have hb : RBlk wa w.heap.size v n 0 := by unfold RBlk; rw [hwa, hZ]; exact heap_alloc_new w _
 have oa : Only (fun _ => False) w wa := by rw [hwa]; exact (Only.refl _ w).alloc _
 obtain ⟨m1, hm1⟩ : ∃ m1, m1 = min 1 n := ⟨_, rfl⟩
 obtain ⟨w1, hr1, hb1, ho1⟩ := copy_rp hb ⟨gx, 0, none⟩ n n 1 1 m1 hm1 (fun j hj => by
  have : j = 0 := by omega
  subst this
  exact oa.cell hx (fun e => e)) (by omega)
 rw [Nat.zero_add] at hb1
 rw [hwa] at hr1
 have HR1 : Hid _ := hr1
 have HB1 : Hid (RBlk w1 w.heap.size v n m1 ∧ Only (fun _ => False) w w1) := ⟨hb1, oa.trans ho1 (fun k hk e => by omega)⟩
 have HWA : Hid (wa = w.alloc (.cells Z 3)) := hwa
 have hm1' : m1 ≤ n ∧ (n = 0 ∨ 1 ≤ m1) := by omega
 obtain ⟨N, hN⟩ : ∃ N, N = w.heap.size := ⟨_, rfl⟩
 have HN : Hid (N = w.heap.size) := hN
 rw [← hN] at HB1 ⊢
 clear hwa hb oa hr1 hb1 ho1 hm1 hZ hx hN hgx
 go_enter Tryz.func80, Tryz.ntmps80
 go_wp2_with (first | (go_at_call 106; refine (HM _).mono ?_; rintro e w' ⟨rfl, rfl⟩) | (refine wpList_copy_run rfl _ _ 76 rfl _ _ (.int .i64 (m1 : Nat)) rfl rfl HR1.out ?_))
 rw [← HN.out]
 clear hmk HM e2 e3
 go_loopw [8] (fun t W => ∃ m : Nat, m ≤ n ∧ (n = 0 ∨ 1 ≤ m) ∧ t = .int .i64 m ∧ RBlk W N v n m ∧ Only (fun _ => False) w' W) (fun t _ => n - (intOf t).toNat)
 case atStart => exact ⟨m1, hm1'.1, hm1'.2, rfl, HB1.out.1, HB1.out.2⟩
 case round =>
  clear HB1 HR1 hm1'
  obtain ⟨m, hm, hm0, rfl, hb, ho⟩ := hrel
  obtain ⟨W, rfl⟩ : ∃ W, W = wr := ⟨_, rfl⟩
  by_cases hlt : m < n
  ·have k0 : (0 : Int) ≤ (m : Int) := by omega
   have k1 : (m : Int) < (n : Int) := by omega
   have k2 : (m : Int) ≤ (n : Int) := by omega
   have k3 : ((n : Int) - (m : Int)).toNat = n - m := by omega
   have k4 : ¬ n - m = 0 := by omega
   have k5 : ¬ n = m := by omega
   obtain ⟨k, hk⟩ : ∃ k, k = min m (n - m) := ⟨_, rfl⟩
   have hb' : RBlk W.drew N v n m := hb
   obtain ⟨W2, hr2, hb2, ho2⟩ := copy_rp hb' ⟨N, 0, none⟩ (n - m) (n - m) m n k hk (fun j hj => by
    rw [Addr.add_mid, Nat.zero_add]
    show W.cell? _ = _
    rw [cell_of_row _ _ _ _ _ _ hb]
    simp only [List.getElem?_toArray]
    exact rpL_get _ _ _ _ (by omega)) (by omega)
   have HR2 : Hid _ := hr2
   have HB2 : Hid (RBlk W2 N v n (m + k) ∧ Only (fun _ => False) w' W2) := ⟨hb2, (ho.drew).trans ho2 (fun j hj e => by rw [HN.out] at e; omega)⟩
   have hkn : m + k ≤ n ∧ 1 ≤ k := by omega
   have hww : IntKind.i64.wrap ((m : Int) + (k : Int)) = ((m + k : Nat) : Int) := by rw [IntKind.wrap_i64]; omega
   clear hb hb' ho hr2 hb2 ho2 hk
   go_wp2
   refine wp_region_held_drew (S := fun _ => True) (by kernel_rfl) trivial (fun hHeld => ?_)
   refine t8 (i := 0) (v := .int .i64 (m : Nat)) rfl hHeld ?_
   simp only [Act.put, z9]
   refine t8 (i := 1) (v := .slice (some ⟨N, 0, none⟩) n n) rfl hHeld ?_
   simp only [Act.put, z9]
   refine t8 (i := 2) (v := .int .i64 (m : Nat)) rfl hHeld ?_
   simp only [Act.put, z9]
   refine t8 (i := 3) (v := .slice (some ⟨N, m, none⟩) (n - m) (n - m)) rfl hHeld ?_
   simp only [Act.put, z9]
   refine t8 (i := 4) (v := .slice (some ⟨N, 0, none⟩) n n) rfl hHeld ?_
   simp only [Act.put, z9]
   refine t8 (i := 5) (v := .int .i64 (m : Nat)) rfl hHeld ?_
   simp only [Act.put, z9]
   refine t8 (i := 6) (v := .slice (some ⟨N, 0, none⟩) m n) rfl hHeld ?_
   simp only [Act.put, z9]
   refine wpAnyH_ready (rs := [7]) (by kernel_rfl) (by simp) ?_
   refine AllReadyH.cons rfl (fun K hK => ?_) AllReadyH.nil
   rw [if_pos (by rfl)]
   refine wp_copy_run _ _ 76 rfl _ _ (.int .i64 (k : Nat)) rfl rfl (HR2.out _) ?_
   refine hK _ _ trivial (fun hHeld => ?_)
   clear hK K
   simp only [Act.put, z9]
   refine t8 (i := 8) (v := .int .i64 ((m : Int) + (k : Int))) rfl hHeld ?_
   simp only [Act.put, z9]
   refine t8 (i := 9) (v := .int .i64 ((m : Int) + (k : Int))) rfl hHeld ?_
   simp only [Act.put, z9]
   refine wpAnyH_done (by kernel_rfl) ?_ _
   clear HR2
   go_wp2
   go_roundw
   case rel => exact ⟨m + k, hkn.1, .inr (by omega), by rw [Int.natCast_add], HB2.out.1, HB2.out.2⟩
   case measure => simp [intOf]; omega
  ·obtain rfl : m = n := by omega
   have HB2 : Hid (RBlk W N v m m ∧ Only (fun _ => False) w' W) := ⟨hb, ho⟩
   clear hb ho
   go_wp2
   go_ret
   exact ⟨rfl, HB2.out.1, HB2.out.2⟩
def freeN (x : SS) : Nat → Nat
 | 0 => 0
 | k + 1 => freeN x k + (if usedF x k = true then 0 else 1)
theorem freeN_le (x : SS) : ∀ k, freeN x k ≤ k
 | 0 => Nat.le_refl _
 | k + 1 => by have := freeN_le x k; unfold freeN; split <;> omega
theorem free_any {w : World} {dk : Nat → Prop} {s p mc mn : Nat} {tv : Value} {x : SS} (h : StAt w dk s p mc mn tv x) :
  Calls Tryz.prog 76 #[.pointer (some ⟨s, 0, none⟩)] w fun e w' => e = .returned (.int .i64 (freeN x x.size : Nat)) ∧ Only (fun _ => False) w w' := by
 have HU : Hid (Calls Tryz.prog 56 _ _ _) := used_any h
 have hsz := h.wf.size
 obtain ⟨n, hn⟩ : ∃ n, n = x.size := ⟨_, rfl⟩
 rw [← hn] at HU hsz ⊢
 obtain ⟨N, hN⟩ : ∃ N, N = w.heap.size := ⟨_, rfl⟩
 rw [← hN] at HU
 clear h hn hN
 go_enter Tryz.func76, Tryz.ntmps76
 go_wp2_with (go_at_call 56; refine (show Calls Tryz.prog 56 _ _ _ from HU.out).mono ?_; rintro e w1 ⟨rfl, hf1, ho1⟩)
 go_loopw [3, 9] (fun c t W => ∃ k : Nat, k ≤ n ∧ t = .int .i64 k ∧ c = .int .i64 (freeN x k : Nat) ∧ W = w1) (fun _ t _ => n - (intOf t).toNat)
 case atStart => exact ⟨0, Nat.zero_le _, rfl, rfl, rfl⟩
 case round =>
  obtain ⟨k, hk, rfl, rfl, rfl⟩ := hrel
  have hle := freeN_le x k
  by_cases hlt : k < n
  ·have hc := hf1.cell k hlt
   have k0 : (0 : Int) ≤ (k : Int) := by omega
   have k1 : (k : Int) < (n : Int) := by omega
   have HF : Hid _ := hf1
   have HO : Hid _ := ho1
   obtain ⟨fk, hfk⟩ : ∃ fk, fk = freeN x k := ⟨_, rfl⟩
   have hst : freeN x (k + 1) = fk + (if usedF x k = true then 0 else 1) := by rw [hfk]; rfl
   have HST : Hid _ := hst
   rw [← hfk] at hle ⊢
   have e1 : IntKind.i64.wrap ((fk : Int) + 1) = ((fk + 1 : Nat) : Int) := by rw [IntKind.wrap_i64]; omega
   clear hf1 ho1 hfk hst
   cases hu : usedF x k with
   | true =>
     rw [hu] at hc
     have HX : Hid (freeN x (k + 1) = fk) := (by have := HST.out; rw [hu] at this; simpa using this : freeN x (k + 1) = fk)
     clear HST hu
     go_wp2
     go_roundw
     case rel => exact ⟨k + 1, by omega, by go_num, by rw [HX.out], trivial⟩
     case measure => simp [intOf]; omega
   | false =>
     rw [hu] at hc
     have HX : Hid (freeN x (k + 1) = fk + 1) := (by have := HST.out; rw [hu] at this; simpa using this : freeN x (k + 1) = fk + 1)
     clear HST hu
     go_wp2
     go_roundw
     case rel => exact ⟨k + 1, by omega, by go_num, by rw [HX.out]; rfl, trivial⟩
     case measure => simp [intOf]; omega
  ·obtain rfl : k = n := by omega
   clear hf1
   go_wp2
   go_ret
   exact ⟨rfl, ho1⟩
def freeL (x : SS) (k : Nat) : List Nat := (List.range k).filter fun j => !usedF x j
theorem freeL_len (x : SS) : ∀ k, (freeL x k).length = freeN x k
 | 0 => rfl
 | k + 1 => by
   have ih := freeL_len x k
   simp only [freeL, List.range_succ, List.filter_append, List.length_append] at ih ⊢
   unfold freeN
   rw [ih]
   cases h : usedF x k <;> simp [h]
theorem freeL_mem {x : SS} {k a : Nat} : a ∈ freeL x k ↔ a < k ∧ usedF x a = false := by simp [freeL]
theorem fr_take (F : List Bool) (n : Nat) : ∀ k, fr F n k = ((List.range k).filter fun j => !(F.getD j false)).take n
 | 0 => by simp [fr]
 | k + 1 => by
   have ih := fr_take F n k
   obtain ⟨L, hL⟩ : ∃ L, L = (List.range k).filter fun j => !(F.getD j false) := ⟨_, rfl⟩
   simp only [fr, List.range_succ, List.filter_append]
   rw [ih, ← hL]
   by_cases h : F.getD k false = true
   ·rw [if_pos (.inr h)]
    simp only [List.filter_cons, h, List.filter_nil, Bool.not_true, if_false, List.append_nil, Bool.false_eq_true]
   ·have h' : F.getD k false = false := by simpa using h
    simp only [List.filter_cons, h', List.filter_nil, Bool.not_false, if_true]
    by_cases hl : (L.take n).length = n
    ·rw [if_pos (.inl hl), List.take_append_of_le_length (by rw [List.length_take] at hl; omega)]
    ·have hno : ¬ ((L.take n).length = n ∨ F.getD k false = true) := by
      rintro (e | e)
      ·exact hl e
      ·exact h e
     rw [h'] at hno
     rw [if_neg hno, List.take_of_length_le (l := L) (by rw [List.length_take] at hl; omega), List.take_of_length_le]
     rw [List.length_take] at hl
     simp
     omega
theorem fr_free_all (x : SS) (n : Nat) : fr (flF x.size (usedF x)) n (flF x.size (usedF x)).length = (freeL x x.size).take n := by
 rw [flF_length, fr_take]
 congr 1
 apply List.filter_congr
 intro j hj
 rw [flF_getD _ _ _ (List.mem_range.1 hj)]
def putN (x : SS) : Nat := (freshN x.now).length
def needA (x : SS) (A : List Nat) : Nat := putN x + tabN (tabB (layP x.now A)).length
def plA (x : SS) : List Nat := if putN x ≤ freeN x x.size ∧ needA x ((freeL x x.size).take (putN x)) ≤ freeN x x.size then (freeL x x.size).take (putN x) else List.replicate (putN x) (x.size - 1)
theorem plA_length (x : SS) : (plA x).length = putN x := by
 unfold plA
 split
 ·rename_i h
  rw [List.length_take, freeL_len]
  omega
 ·simp
theorem plA_lt {x : SS} (h : x.Wf) : ∀ a ∈ plA x, a < x.size := by
 intro a ha
 unfold plA at ha
 split at ha
 ·exact (freeL_mem.1 (List.mem_of_mem_take ha)).1
 ·rw [List.eq_of_mem_replicate ha]
  have := h.size
  omega
theorem lay_wf {x : SS} (h : x.Wf) {A : List Nat} (hA : ∀ a ∈ A, a < 2048) : ∀ p ∈ layP x.now A, p.1.toNat < 16384 ∧ p.2.1 < 16384 := by
 intro p hp
 have hs := h.size
 rcases layP_mem hp with e | ⟨e1, e2⟩
 ·have := h.now p e
  omega
 ·have h1 := (h.now _ e1).1
  simp only at h1
  rcases e2 with e2 | e2
  ·have := hA _ e2
   omega
  ·omega
theorem st_len {w : World} {dk : Nat → Prop} {s p mc mn : Nat} {tv : Value} {x : SS} (h : StAt w dk s p mc mn tv x) : x.now.length ≤ 728 := by
 have := Rise.len (a := 0) (b := 728) h.now.rise (fun p hp => (h.wf.now p hp).1)
 simp at this
 omega
theorem FreshI.ints {w : World} {B : Nat} {v : Value} {zs : List Nat} (h : FreshI w B v zs) : IntsAt w v zs := by
 obtain ⟨a, c, rfl, hc⟩ := h.form
 unfold IntsAt
 rcases h.1.2 with ⟨e, e0⟩ | ⟨g, cap, cur, e, _, hg, hcap, _, _, _⟩
 ·exact .inl ⟨by rw [e], e0⟩
 ·injection e with e1 _ e3
  subst e1 e3
  refine .inr ⟨⟨g, 0, none⟩, _, rfl, hcap, fun j hj => ?_⟩
  rw [Addr.add_mid, Nat.zero_add]
  obtain ⟨g', e', hc'⟩ := hc j (by omega)
  injection e' with e'
  injection e' with e' _ _
  subst e'
  exact hc'
def PlanIs (x : SS) (dk : Nat → Prop) (s mc mn : Nat) (A : List Nat) (w : World) (e : Ending) (w' : World) : Prop :=
 ∃ a1 c1 m a3 c3, e = .returned (.agg #[.slice a1 (putN x) c1, .map (some m), .slice a3 (tabB (layP x.now A)).length c3]) ∧ Hid (FreshI w' w.heap.size (.slice a1 (putN x) c1) (freshN x.now) ∧ w.heap.size ≤ m ∧ PMap w' (fun k => mutB dk s mc mn k ∨ w.heap.size ≤ k) m (layP x.now A) ∧ Fresh w' w.heap.size (.slice a3 (tabB (layP x.now A)).length c3) (tabB (layP x.now A)) ∧ Only (fun _ => False) w w')
theorem RBlk.ints {w : World} {g n v : Nat} (h : RBlk w g (v : Nat) n n) : IntsAt w (.slice (some ⟨g, 0, none⟩) n n) (List.replicate n v) := by
 unfold IntsAt
 rw [List.length_replicate]
 refine .inr ⟨⟨g, 0, none⟩, n, rfl, Nat.le_refl _, fun j hj => ?_⟩
 rw [Addr.add_mid, Nat.zero_add, cell_of_row _ _ _ _ _ _ h]
 simp only [List.getElem?_toArray]
 have hj' : j < n := by omega
 rw [rpL_get _ _ _ _ hj']
 simp [List.getD, hj']
theorem plan_any {w : World} {dk : Nat → Prop} {s p mc mn : Nat} {tv : Value} {x : SS} (h : StAt w dk s p mc mn tv x) (hdk : ∀ k, dk k → k < w.heap.size) :
  Calls Tryz.prog 54 #[.pointer (some ⟨s, 0, none⟩)] w (PlanIs x dk s mc mn (plA x) w) := by
 have hwf := h.wf
 have HS : Hid (StAt w dk s p mc mn tv x) := h
 have hnl := st_len h
 have hpn : putN x ≤ 728 := by have := freshN_len x.now; unfold putN; omega
 obtain ⟨wa, hwa⟩ : ∃ q, q = w.alloc (.cells #[.slice none 0 0, .map none, .slice none 0 0] 105) := ⟨_, rfl⟩
 have HWA : Hid (wa = w.alloc (.cells #[.slice none 0 0, .map none, .slice none 0 0] 105)) := hwa
 have oa : Only (fun _ => False) w wa := by rw [hwa]; exact (Only.refl _ w).alloc _
 have ra : wa.heap[w.heap.size]? = some (.cells #[.slice none 0 0, .map none, .slice none 0 0] 105 (0, 0)) := by rw [hwa]; exact heap_alloc_new w _
 have HRA : Hid _ := ra
 have HOA : Hid (Only (fun _ => False) w wa) := oa
 have sA : wa.heap.size = w.heap.size + 1 := by rw [hwa]; simp
 have HFr : Hid (Calls Tryz.prog 78 #[.pointer (some ⟨s, 0, none⟩)] wa fun e w' => ∃ a c, e = .returned (.slice a (putN x) c) ∧ FreshI w' wa.heap.size (.slice a (putN x) c) (freshN x.now) ∧ Only (fun _ => False) wa w') := by
  refine ((callsIn_wide (n := 6)).1 (fresh_core (h.still oa))).mono ?_
  rintro e w' ⟨v, rfl, hf, ho⟩
  obtain ⟨a, c, rfl, _⟩ := hf.form
  exact ⟨a, c, rfl, hf, ho⟩
 have HPm : Hid (PMap w (fun k => mutB dk s mc mn k ∨ w.heap.size ≤ k) mn x.now) := by
  obtain ⟨sl, q1, q2⟩ := h.now
  exact ⟨sl, q1, fun q hq => ⟨(q2 q hq).1, fun b e => ⟨((q2 q hq).2 b e).1, fun e' => e'.elim ((q2 q hq).2 b e).2 (fun h9 => by have := ((q2 q hq).2 b e).1; omega)⟩⟩⟩
 clear h hwa oa ra
 obtain ⟨F, hF⟩ : ∃ F, F = putN x := ⟨_, rfl⟩
 have HF : Hid (F = putN x) := hF
 rw [← hF] at HFr hpn
 clear hF
 go_enter Tryz.func54, Tryz.ntmps54
 go_wp2_with fail
 rw [← HWA.out]
 refine (show Calls Tryz.prog 78 _ _ _ from HFr.out).mono ?_
 rintro e w1 ⟨a1, c1, rfl, hf1, ho1⟩
 clear HFr
 have hs1 : StAt w1 dk s p mc mn tv x := (HS.out.still HOA.out).still ho1
 have HU : Hid (Calls Tryz.prog 56 #[.pointer (some ⟨s, 0, none⟩)] w1 fun e w' => ∃ g, e = .returned (.slice (some ⟨g, 0, none⟩) x.size x.size) ∧ FBlk w' g x.size (usedF x) ∧ Only (fun _ => False) w1 w') := by
  refine (used_any hs1).mono ?_
  rintro e w' ⟨rfl, q1, q2⟩
  exact ⟨_, rfl, q1, q2⟩
 have H1 : Hid (FreshI w1 wa.heap.size (.slice a1 F c1) (freshN x.now) ∧ Only (fun _ => False) wa w1) := ⟨hf1, ho1⟩
 clear hf1 ho1 hs1
 go_wp2_with fail
 refine (show Calls Tryz.prog 56 _ _ _ from HU.out).mono ?_
 rintro e w2 ⟨g, rfl, hf2, ho2⟩
 clear HU
 have HFi : Hid (Calls Tryz.prog 55 #[.slice (some ⟨g, 0, none⟩) x.size x.size, .int .i64 F] w2 fun e w' => FirstIs ((freeL x x.size).take F) F w2 e w') := by
  have := first_ok _ _ F w2 (hf2.flags (by have := hwf.size; omega)) (by rw [flF_length]; have := hwf.size; omega)
  rw [fr_free_all] at this
  exact this
 have H2 : Hid (Only (fun _ => False) w1 w2) := ho2
 clear hf2 ho2
 have HPl : Hid (∀ (W : World) (A : List Nat) (a2 : Option Addr) (c2 : Nat), Only (fun _ => False) w1 W → IntsAt W (.slice a2 F c2) A → A.length = F → (∀ a ∈ A, a < 2048) → Calls Tryz.prog 79 #[.pointer (some ⟨s, 0, none⟩), .slice a1 F c1, .slice a2 F c2] W fun e W' => ∃ m a3 c3, e = .returned (.agg #[.slice a1 F c1, .map (some m), .slice a3 (tabB (layP x.now A)).length c3]) ∧ Hid (W.heap.size ≤ m ∧ PMap W' (fun k => mutB dk s mc mn k ∨ w.heap.size ≤ k) m (layP x.now A) ∧ Fresh W' W.heap.size (.slice a3 (tabB (layP x.now A)).length c3) (tabB (layP x.now A)) ∧ Only (fun _ => False) W W')) := by
  intro W A a2 c2 ho hi hA hb
  have o1 := (HOA.out.trans H1.out.2 (fun _ _ e => e)).trans ho (fun _ _ e => e)
  have e1 : (freshN x.now).length = F := HF.out.symm
  have hi1 : IntsAt W (.slice a1 F c1) (freshN x.now) := (H1.out.1.frame ho).ints
  rw [← hA] at hi
  rw [← e1] at hi1
  have := (callsIn_wide (n := 6)).1 (planat_core (HS.out.still o1) (fun k => mutB dk s mc mn k ∨ w.heap.size ≤ k) (HPm.out.frame o1 (fun e => e) (fun _ _ e => e.elim) (fun _ _ e => e)) a1 a2 c1 c2 A hi1 hi (by rw [hA, e1]) hb)
  rw [hA, e1] at this
  exact this
 have HEND : Hid (∀ (AA : List Nat) (m : Nat) (a3 : Option Addr) (c3 : Nat) (W5 WE : World), Only (fun _ => False) w1 W5 → Hid (W5.heap.size ≤ m ∧ PMap WE (fun k => mutB dk s mc mn k ∨ w.heap.size ≤ k) m (layP x.now AA) ∧ Fresh WE W5.heap.size (.slice a3 (tabB (layP x.now AA)).length c3) (tabB (layP x.now AA)) ∧ Only (fun _ => False) W5 WE) → AA = plA x → PlanIs x dk s mc mn (plA x) w (.returned (.agg #[.slice a1 F c1, .map (some m), .slice a3 (tabB (layP x.now AA)).length c3])) (((WE.setCell ⟨w.heap.size, 0, none⟩ (.slice a1 F c1)).setCell ⟨w.heap.size, 1, none⟩ (.map (some m))).setCell ⟨w.heap.size, 2, none⟩ (.slice a3 (tabB (layP x.now AA)).length c3))) := by
  intro AA m a3 c3 W5 WE ho hpo hAA
  subst hAA
  obtain ⟨p1, p2, p3, p4⟩ := hpo.out
  have oT := only_set3 WE w.heap.size 0 1 2 (.slice a1 F c1) (.map (some m)) (.slice a3 (tabB (layP x.now (plA x))).length c3)
  have s1 := H1.out.2.size
  have s5 := ho.size
  have oE : Only (fun _ => False) w1 WE := ho.trans p4 (fun _ _ e => e)
  have oW : Only (fun _ => False) w WE := (HOA.out.trans H1.out.2 (fun _ _ e => e)).trans oE (fun _ _ e => e)
  refine ⟨a1, c1, m, a3, c3, by rw [← HF.out], ?_⟩
  rw [← HF.out]
  have hfi := (H1.out.1.frame oE)
  refine ⟨⟨ownsRow_base (oT.owns hfi.1 (fun k e1 e2 => by have := (hfi.1.lt k e1).1; omega)) (by omega), hfi.2⟩, by omega, ?_, ⟨ownsRow_base (oT.owns p3.1 (fun k e1 e2 => by have := (p3.1.lt k e1).1; omega)) (by omega), p3.2⟩, oW.trans oT (fun k hk e => by omega)⟩
  exact p2.frame oT (by omega) (fun k _ e => .inr (by omega)) (fun k _ e => e)
 go_wp2_with fail
 refine (show Calls Tryz.prog 55 _ _ _ from HFi.out).mono ?_
 clear HFi
 rintro e WB (⟨hlt, rfl, ho3⟩ | ⟨heq, u, rfl, hu, ho3⟩)
 ·have OB : Hid (Only (fun _ => False) w1 WB) := H2.out.trans ho3 (fun _ _ e => e)
  have NOT : Hid (¬ (putN x ≤ freeN x x.size ∧ needA x ((freeL x x.size).take (putN x)) ≤ freeN x x.size)) := by
   rintro ⟨q1, _⟩
   rw [List.length_take, freeL_len, HF.out] at hlt
   omega
  clear hlt ho3
  have hsz := hwf.size
  have e1 : IntKind.i64.wrap ((x.size : Int) - 1) = ((x.size - 1 : Nat) : Int) := by rw [IntKind.wrap_i64]; omega
  obtain ⟨sz, hsze⟩ : ∃ q, q = x.size - 1 := ⟨_, rfl⟩
  have HSZ : Hid (sz = x.size - 1) := hsze
  rw [← hsze] at e1
  have c1' : WB.cell? ⟨s, 1, none⟩ = some (.int .i64 (x.size : Nat)) := ((HS.out.still (HOA.out.trans H1.out.2 (fun _ _ e => e))).still OB.out).c1
  obtain ⟨wr, hwr⟩ : ∃ q, q = WB.alloc (.cells #[.int .i64 (sz : Nat)] 3) := ⟨_, rfl⟩
  have HWR : Hid (wr = WB.alloc (.cells #[.int .i64 (sz : Nat)] 3)) := hwr
  have owr : Only (fun _ => False) WB wr := by rw [hwr]; exact (Only.refl _ WB).alloc _
  have HRp : Hid (Calls Tryz.prog 80 #[.slice (some ⟨WB.heap.size, 0, none⟩) 1 1, .int .i64 F] wr fun e w' => ∃ g5, e = .returned (.slice (some ⟨g5, 0, none⟩) F F) ∧ IntsAt w' (.slice (some ⟨g5, 0, none⟩) F F) (List.replicate F sz) ∧ Only (fun _ => False) WB w') := by
   have hx : wr.cell? ⟨WB.heap.size, 0, none⟩ = some (.int .i64 (sz : Nat)) := by rw [hwr, cell_of_row _ _ _ _ _ _ (heap_alloc_new WB _)]; rfl
   refine (repeat_any sz F WB.heap.size (by omega) wr hx).mono ?_
   rintro e w' ⟨rfl, hb, ho⟩
   exact ⟨_, rfl, hb.ints, owr.trans ho (fun _ _ e => e)⟩
  clear hwr owr hsze
  go_wp2_with fail
  rw [← HWR.out]
  refine (show Calls Tryz.prog 80 _ _ _ from HRp.out).mono ?_
  rintro e W5 ⟨g5, rfl, hi5, ho5⟩
  clear HRp c1' e1
  have O5 : Hid (Only (fun _ => False) w1 W5) := OB.out.trans ho5 (fun _ _ e => e)
  have HPA : Hid (Calls Tryz.prog 79 _ _ _) := HPl.out W5 (List.replicate F sz) (some ⟨g5, 0, none⟩) F O5.out hi5 (by simp) (fun a ha => by rw [List.eq_of_mem_replicate ha, HSZ.out]; omega)
  have HAA : Hid (List.replicate F sz = plA x) := by
   have hn := NOT.out
   have e1 := HSZ.out
   have e2 := HF.out
   show List.replicate F sz = plA x
   unfold plA
   rw [if_neg hn, e1, e2]
  clear hi5 ho5
  go_wp2_with fail
  refine (show Calls Tryz.prog 79 _ _ _ from HPA.out).mono ?_
  rintro e WE ⟨m, a3, c3, rfl, HPO⟩
  clear HPA
  have OE : Hid (Only (fun _ => False) wa WE) := (H1.out.2.trans O5.out (fun _ _ e => e)).trans HPO.out.2.2.2 (fun _ _ e => e)
  obtain ⟨AA, hAA⟩ : ∃ q, q = List.replicate F sz := ⟨_, rfl⟩
  rw [← hAA] at HPO HAA ⊢
  clear hAA
  have oE : Only (fun _ => False) wa WE := OE.out
  have hrs : WE.heap[w.heap.size]? = some (.cells #[.slice none 0 0, .map none, .slice none 0 0] 105 (0, 0)) := by rw [oE.block _ (by omega) (fun e => e)]; exact HRA.out
  have r0 : WE.cell? ⟨w.heap.size, 0, none⟩ = some (.slice none 0 0) := by rw [cell_of_row _ _ _ _ _ _ hrs]; rfl
  have r1 : WE.cell? ⟨w.heap.size, 1, none⟩ = some (.map none) := by rw [cell_of_row _ _ _ _ _ _ hrs]; rfl
  have r2 : WE.cell? ⟨w.heap.size, 2, none⟩ = some (.slice none 0 0) := by rw [cell_of_row _ _ _ _ _ _ hrs]; rfl
  have z0 := frozen_of_row _ _ 0 _ _ hrs
  have z1 := frozen_of_row _ _ 1 _ _ hrs
  have z2 := frozen_of_row _ _ 2 _ _ hrs
  have HRS : Hid _ := hrs
  clear oE hrs
  go_wp2
  clear r0 r1 r2 z0 z1 z2
  refine bodyPost_ret (results_cell_row rfl _ _ w.heap.size 105 _ _ _ rfl (row_set3 HRS.out _ _ _) Tryz.underlying105 rfl (by kernel_rfl)) rfl ?_
  exact HEND.out AA m a3 c3 W5 WE O5.out HPO HAA.out
 ·obtain ⟨WP, hWP⟩ : ∃ WP, WP = WB := ⟨_, rfl⟩
  subst hWP
  obtain ⟨a2, c2, rfl, _⟩ := hu.form
  rw [heq] at hu ⊢
  have O3 : Hid (Only (fun _ => False) w1 WP) := H2.out.trans ho3 (fun _ _ e => e)
  have hAb : ∀ a ∈ (freeL x x.size).take F, a < 2048 := fun a ha => by have := (freeL_mem.1 (List.mem_of_mem_take ha)).1; have := hwf.size; omega
  have HPA : Hid (Calls Tryz.prog 79 _ _ _) := HPl.out WP ((freeL x x.size).take F) a2 c2 O3.out hu.ints heq hAb
  have HEQ : Hid (putN x ≤ freeN x x.size) := by
   rw [List.length_take, freeL_len] at heq
   have := HF.out
   show putN x ≤ freeN x x.size
   omega
  clear hu heq ho3
  go_wp2_with fail
  refine (show Calls Tryz.prog 79 _ _ _ from HPA.out).mono ?_
  rintro e w4 ⟨m, a3, c3, rfl, HPO⟩
  clear HPA
  obtain ⟨T, hT⟩ : ∃ T, T = (tabB (layP x.now ((freeL x x.size).take F))).length := ⟨_, rfl⟩
  have HT : Hid (T = (tabB (layP x.now ((freeL x x.size).take F))).length) := hT
  have hT4 : T ≤ 2912 := by
   have h4 := tabB_len _ (lay_wf hwf hAb)
   rw [layP_length] at h4
   omega
  rw [← hT]
  obtain ⟨wp, hwp⟩ : ∃ q, q = w4.alloc (.cells #[.slice a1 F c1, .map (some m), .slice a3 T c3] 105) := ⟨_, rfl⟩
  have HWP : Hid (wp = w4.alloc (.cells #[.slice a1 F c1, .map (some m), .slice a3 T c3] 105)) := hwp
  have owp : Only (fun _ => False) w4 wp := by rw [hwp]; exact (Only.refl _ w4).alloc _
  have bwp : wp.heap[w4.heap.size]? = some (.cells #[.slice a1 F c1, .map (some m), .slice a3 T c3] 105 (0, 0)) := by rw [hwp]; exact heap_alloc_new w4 _
  have HNd : Hid (Calls Tryz.prog 57 _ _ _) := need_any a1 a3 F c1 T c3 (some m) wp (by omega) (by omega)
  have O4 : Hid (Only (fun _ => False) w1 w4) := O3.out.trans HPO.out.2.2.2 (fun _ _ e => e)
  have HBW : Hid (Only (fun _ => False) w4 wp ∧ wp.heap[w4.heap.size]? = some (.cells #[.slice a1 F c1, .map (some m), .slice a3 T c3] 105 (0, 0))) := ⟨owp, bwp⟩
  clear hwp owp bwp hT
  go_wp2_with fail
  rw [← HWP.out]
  refine (show Calls Tryz.prog 57 _ _ _ from HNd.out).mono ?_
  rintro e w6 ⟨rfl, ho6⟩
  clear HNd
  have O6 : Hid (Only (fun _ => False) wp w6) := ho6
  have HFe : Hid (Calls Tryz.prog 76 _ _ _) := free_any ((((HS.out.still (HOA.out.trans H1.out.2 (fun _ _ e => e))).still O4.out).still HBW.out.1).still ho6)
  clear ho6
  obtain ⟨nd, hnd⟩ : ∃ q, q = F + tabN T := ⟨_, rfl⟩
  obtain ⟨fn, hfn⟩ : ∃ q, q = freeN x x.size := ⟨_, rfl⟩
  have HND : Hid (nd = F + tabN T ∧ fn = freeN x x.size) := ⟨hnd, hfn⟩
  rw [← hfn] at HFe
  rw [← hnd]
  clear hnd hfn
  go_wp2_with fail
  refine (show Calls Tryz.prog 76 _ _ _ from HFe.out).mono ?_
  rintro e WB ⟨rfl, ho7⟩
  clear HFe
  have o47 : Only (fun _ => False) w4 WB := (HBW.out.1.trans O6.out (fun _ _ e => e)).trans ho7 (fun _ _ e => e)
  have OB : Hid (Only (fun _ => False) w1 WB) := O4.out.trans o47 (fun _ _ e => e)
  have ND : Hid (needA x ((freeL x x.size).take (putN x)) = nd) := by
   have e1 := HF.out
   have e2 := HT.out
   show needA x ((freeL x x.size).take (putN x)) = nd
   unfold needA
   rw [← e1, ← e2, HND.out.1]
  by_cases hle : nd ≤ fn
  ·have hle' : (nd : Int) ≤ (fn : Int) := by omega
   obtain ⟨WE, hWE⟩ : ∃ WE, WE = WB := ⟨_, rfl⟩
   have hpl : WE.heap[w4.heap.size]? = some (.cells #[.slice a1 F c1, .map (some m), .slice a3 T c3] 105 (0, 0)) := by
    rw [hWE, ho7.block _ (by have := O6.out.size; have := (Array.getElem?_eq_some_iff.1 HBW.out.2).1; omega) (fun e => e), O6.out.block _ (Array.getElem?_eq_some_iff.1 HBW.out.2).1 (fun e => e)]
    exact HBW.out.2
   have p0 : WE.cell? ⟨w4.heap.size, 0, none⟩ = some (.slice a1 F c1) := by rw [cell_of_row _ _ _ _ _ _ hpl]; rfl
   have p1 : WE.cell? ⟨w4.heap.size, 1, none⟩ = some (.map (some m)) := by rw [cell_of_row _ _ _ _ _ _ hpl]; rfl
   have p2 : WE.cell? ⟨w4.heap.size, 2, none⟩ = some (.slice a3 T c3) := by rw [cell_of_row _ _ _ _ _ _ hpl]; rfl
   have OE : Hid (Only (fun _ => False) wa WE) := by
    rw [hWE]
    exact H1.out.2.trans OB.out (fun _ _ e => e)
   obtain ⟨AA, hAA⟩ : ∃ q, q = (freeL x x.size).take F := ⟨_, rfl⟩
   have HAA : Hid (AA = plA x) := by
    have e1 := HF.out
    have e2 := HEQ.out
    have e3 := ND.out
    have e4 := HND.out.2
    show AA = plA x
    unfold plA
    rw [if_pos ⟨e2, by rw [e3, ← e4]; exact hle⟩, ← e1, hAA]
   have HPO2 : Hid (WP.heap.size ≤ m ∧ PMap WE (fun k => mutB dk s mc mn k ∨ w.heap.size ≤ k) m (layP x.now AA) ∧ Fresh WE WP.heap.size (.slice a3 (tabB (layP x.now AA)).length c3) (tabB (layP x.now AA)) ∧ Only (fun _ => False) WP WE) := by
    obtain ⟨q1, q2, q3, q4⟩ := HPO.out
    have hTT := HT.out
    rw [hWE, hAA, ← hTT]
    rw [← hTT] at q3
    exact ⟨q1, q2.frame o47 (fun e => e) (fun _ _ e => e.elim) (fun _ _ e => e), q3.frame o47, q4.trans o47 (fun _ _ e => e)⟩
   have HTA : Hid (T = (tabB (layP x.now AA)).length) := by rw [hAA]; exact HT.out
   clear ho7 o47 hpl hAA HPO
   rw [← hWE]
   clear hWE
   have oE : Only (fun _ => False) wa WE := OE.out
   have hrs : WE.heap[w.heap.size]? = some (.cells #[.slice none 0 0, .map none, .slice none 0 0] 105 (0, 0)) := by rw [oE.block _ (by omega) (fun e => e)]; exact HRA.out
   have r0 : WE.cell? ⟨w.heap.size, 0, none⟩ = some (.slice none 0 0) := by rw [cell_of_row _ _ _ _ _ _ hrs]; rfl
   have r1 : WE.cell? ⟨w.heap.size, 1, none⟩ = some (.map none) := by rw [cell_of_row _ _ _ _ _ _ hrs]; rfl
   have r2 : WE.cell? ⟨w.heap.size, 2, none⟩ = some (.slice none 0 0) := by rw [cell_of_row _ _ _ _ _ _ hrs]; rfl
   have z0 := frozen_of_row _ _ 0 _ _ hrs
   have z1 := frozen_of_row _ _ 1 _ _ hrs
   have z2 := frozen_of_row _ _ 2 _ _ hrs
   have HRS : Hid _ := hrs
   clear oE hrs
   go_wp2
   clear r0 r1 r2 z0 z1 z2 p0 p1 p2
   rw [HTA.out]
   refine bodyPost_ret (results_cell_row rfl _ _ w.heap.size 105 _ _ _ rfl (row_set3 HRS.out _ _ _) Tryz.underlying105 rfl (by kernel_rfl)) rfl ?_
   exact HEND.out AA m a3 c3 WP WE O3.out HPO2 HAA.out
  ·have hle' : ¬ (nd : Int) ≤ (fn : Int) := by omega
   have NOT : Hid (¬ (putN x ≤ freeN x x.size ∧ needA x ((freeL x x.size).take (putN x)) ≤ freeN x x.size)) := by
    rintro ⟨_, q2⟩
    rw [ND.out] at q2
    have := HND.out.2
    omega
   clear ho7 o47 HPO
   have hsz := hwf.size
   have e1 : IntKind.i64.wrap ((x.size : Int) - 1) = ((x.size - 1 : Nat) : Int) := by rw [IntKind.wrap_i64]; omega
   obtain ⟨sz, hsze⟩ : ∃ q, q = x.size - 1 := ⟨_, rfl⟩
   have HSZ : Hid (sz = x.size - 1) := hsze
   rw [← hsze] at e1
   have c1' : WB.cell? ⟨s, 1, none⟩ = some (.int .i64 (x.size : Nat)) := ((HS.out.still (HOA.out.trans H1.out.2 (fun _ _ e => e))).still OB.out).c1
   obtain ⟨wr, hwr⟩ : ∃ q, q = WB.alloc (.cells #[.int .i64 (sz : Nat)] 3) := ⟨_, rfl⟩
   have HWR : Hid (wr = WB.alloc (.cells #[.int .i64 (sz : Nat)] 3)) := hwr
   have owr : Only (fun _ => False) WB wr := by rw [hwr]; exact (Only.refl _ WB).alloc _
   have HRp : Hid (Calls Tryz.prog 80 #[.slice (some ⟨WB.heap.size, 0, none⟩) 1 1, .int .i64 F] wr fun e w' => ∃ g5, e = .returned (.slice (some ⟨g5, 0, none⟩) F F) ∧ IntsAt w' (.slice (some ⟨g5, 0, none⟩) F F) (List.replicate F sz) ∧ Only (fun _ => False) WB w') := by
    have hx : wr.cell? ⟨WB.heap.size, 0, none⟩ = some (.int .i64 (sz : Nat)) := by rw [hwr, cell_of_row _ _ _ _ _ _ (heap_alloc_new WB _)]; rfl
    refine (repeat_any sz F WB.heap.size (by omega) wr hx).mono ?_
    rintro e w' ⟨rfl, hb, ho⟩
    exact ⟨_, rfl, hb.ints, owr.trans ho (fun _ _ e => e)⟩
   clear hwr owr hsze
   go_wp2_with fail
   rw [← HWR.out]
   refine (show Calls Tryz.prog 80 _ _ _ from HRp.out).mono ?_
   rintro e W5 ⟨g5, rfl, hi5, ho5⟩
   clear HRp c1' e1
   have O5 : Hid (Only (fun _ => False) w1 W5) := OB.out.trans ho5 (fun _ _ e => e)
   have HPA : Hid (Calls Tryz.prog 79 _ _ _) := HPl.out W5 (List.replicate F sz) (some ⟨g5, 0, none⟩) F O5.out hi5 (by simp) (fun a ha => by rw [List.eq_of_mem_replicate ha, HSZ.out]; omega)
   have HAA : Hid (List.replicate F sz = plA x) := by
    have hn := NOT.out
    have e1 := HSZ.out
    have e2 := HF.out
    show List.replicate F sz = plA x
    unfold plA
    rw [if_neg hn, e1, e2]
   clear hi5 ho5
   go_wp2_with fail
   refine (show Calls Tryz.prog 79 _ _ _ from HPA.out).mono ?_
   rintro e WE ⟨m, a3, c3, rfl, HPO⟩
   clear HPA
   have OE : Hid (Only (fun _ => False) wa WE) := (H1.out.2.trans O5.out (fun _ _ e => e)).trans HPO.out.2.2.2 (fun _ _ e => e)
   obtain ⟨AA, hAA⟩ : ∃ q, q = List.replicate F sz := ⟨_, rfl⟩
   rw [← hAA] at HPO HAA ⊢
   clear hAA
   have oE : Only (fun _ => False) wa WE := OE.out
   have hrs : WE.heap[w.heap.size]? = some (.cells #[.slice none 0 0, .map none, .slice none 0 0] 105 (0, 0)) := by rw [oE.block _ (by omega) (fun e => e)]; exact HRA.out
   have r0 : WE.cell? ⟨w.heap.size, 0, none⟩ = some (.slice none 0 0) := by rw [cell_of_row _ _ _ _ _ _ hrs]; rfl
   have r1 : WE.cell? ⟨w.heap.size, 1, none⟩ = some (.map none) := by rw [cell_of_row _ _ _ _ _ _ hrs]; rfl
   have r2 : WE.cell? ⟨w.heap.size, 2, none⟩ = some (.slice none 0 0) := by rw [cell_of_row _ _ _ _ _ _ hrs]; rfl
   have z0 := frozen_of_row _ _ 0 _ _ hrs
   have z1 := frozen_of_row _ _ 1 _ _ hrs
   have z2 := frozen_of_row _ _ 2 _ _ hrs
   have HRS : Hid _ := hrs
   clear oE hrs
   go_wp2
   clear r0 r1 r2 z0 z1 z2
   refine bodyPost_ret (results_cell_row rfl _ _ w.heap.size 105 _ _ _ rfl (row_set3 HRS.out _ _ _) Tryz.underlying105 rfl (by kernel_rfl)) rfl ?_
   exact HEND.out AA m a3 c3 W5 WE O5.out HPO HAA.out
def needN (x : SS) : Nat := needA x (plA x)
theorem tab_small {x : SS} (h : x.Wf) (hl : x.now.length ≤ 728) {A : List Nat} (hA : ∀ a ∈ A, a < 2048) : (tabB (layP x.now A)).length ≤ 2912 := by
 have h4 := tabB_len _ (lay_wf h hA)
 rw [layP_length] at h4
 omega
theorem plA_small {x : SS} (h : x.Wf) : ∀ a ∈ plA x, a < 2048 := fun a ha => by have := plA_lt h a ha; have := h.size; omega
theorem putN_le (x : SS) : putN x ≤ x.now.length := freshN_len _
theorem room_any {w : World} {dk : Nat → Prop} {s p mc mn : Nat} {tv : Value} {x : SS} (h : StAt w dk s p mc mn tv x) (hdk : ∀ k, dk k → k < w.heap.size) :
  Calls Tryz.prog 47 #[.pointer (some ⟨s, 0, none⟩)] w fun e w' => e = .returned (.tuple #[.int .i64 (freeN x x.size : Nat), .int .i64 (needN x : Nat)]) ∧ Only (fun _ => False) w w' := by
 have HU := usable_ok s p w h.c0
 have HF : Hid (Calls Tryz.prog 76 _ _ _) := free_any h
 have HS : Hid (StAt w dk s p mc mn tv x) := h
 have hnl := st_len h
 have hT := tab_small h.wf hnl (plA_small h.wf)
 have hP := putN_le x
 obtain ⟨T, hTe⟩ : ∃ T, T = (tabB (layP x.now (plA x))).length := ⟨_, rfl⟩
 have HN : Hid (needN x = putN x + tabN T) := by rw [hTe]; rfl
 obtain ⟨fn, hfn⟩ : ∃ q, q = freeN x x.size := ⟨_, rfl⟩
 obtain ⟨nd, hnd⟩ : ∃ q, q = needN x := ⟨_, rfl⟩
 obtain ⟨F, hF⟩ : ∃ q, q = putN x := ⟨_, rfl⟩
 have HF' : Hid (F = putN x ∧ nd = needN x ∧ T = (tabB (layP x.now (plA x))).length) := ⟨hF, hnd, hTe⟩
 rw [← hfn] at HF ⊢
 rw [← hnd, ← hF] at HN
 rw [← hnd]
 rw [← hF] at hP
 rw [← hTe] at hT
 clear h hfn hnd hF hTe
 go_enter Tryz.func47, Tryz.ntmps47
 go_wp2_with (go_at_call 35; refine HU.mono ?_; rintro e w' ⟨rfl, rfl⟩)
 refine (show Calls Tryz.prog 76 _ _ _ from HF.out).mono ?_
 rintro e w1 ⟨rfl, ho1⟩
 clear HF
 have HPl : Hid (Calls Tryz.prog 54 _ _ _) := plan_any (HS.out.still ho1) (fun k hk => Nat.lt_of_lt_of_le (hdk k hk) ho1.size)
 have HO : Hid _ := ho1
 clear ho1
 go_wp2_with fail
 refine (show Calls Tryz.prog 54 _ _ _ from HPl.out).mono ?_
 rintro e w2 ⟨a1, c1, m, a3, c3, rfl, HP⟩
 clear HPl
 rw [← HF'.out.1, ← HF'.out.2.2]
 have HNd : Hid (Calls Tryz.prog 57 #[.agg #[.slice a1 F c1, .map (some m), .slice a3 T c3]] w2 fun e w' => e = .returned (.int .i64 (nd : Nat)) ∧ Only (fun _ => False) w2 w') := by
  have := need_any a1 a3 F c1 T c3 (some m) w2 (by omega) (by omega)
  rw [← HN.out] at this
  exact this
 go_wp2_with (go_at_call 57; refine (show Calls Tryz.prog 57 _ _ _ from HNd.out).mono ?_; rintro e w3 ⟨rfl, ho3⟩)
 go_ret2
 exact ⟨rfl, (HO.out.trans HP.out.2.2.2.2 (fun _ _ e => e)).trans ho3 (fun _ _ e => e)⟩
def tbs (x : SS) : List Nat := ((freeL x x.size).take (needN x)).drop (putN x)
def laid (x : SS) : Pgs := layP x.now (plA x)
def SS.next (x : SS) : SS := ⟨x.size, (x.epoch + 1) % 18446744073709551616, 4 - x.sector, tbs x, laid x, laid x⟩
def cmX (x : SS) (d : DS) : Int × DS := cmR x (laid x) (freshN x.now) (tabB (laid x)) (tbs x) d
theorem layK_mem2 : ∀ {l : Pgs} {A : List Nat} {k : Nat} {q : Int × Nat × List Nat}, q ∈ layK l A k → (freshN l).length ≤ k → (freshN l).length ≤ A.length → (q ∈ l ∧ q.2.1 ≠ 0) ∨ ((q.1, 0, q.2.2) ∈ l ∧ q.2.1 ∈ A)
 | [], _, _, _, h, _, _ => by cases h
 | p :: l, A, k, q, h, hk, hA => by
   simp only [layK] at h
   by_cases hz : p.2.1 = 0
   ·have hz' : (p.2.1 == 0) = true := by simpa using hz
    simp only [freshN, List.filter_cons, hz', if_true, List.map_cons, List.length_cons, List.length_map] at hk hA
    rw [if_pos hz, if_neg (by omega)] at h
    rcases List.mem_cons.1 h with e | e
    ·subst e
     refine .inr ⟨?_, ?_⟩
     ·simp only
      rw [← hz]
      exact List.mem_cons_self ..
     ·cases A with
      | nil => simp at hA
      | cons a r => simp
    ·rcases layK_mem2 e (by simp only [freshN, List.length_map]; omega) (by simp only [freshN, List.length_map, List.length_drop]; omega) with ⟨e1, e2⟩ | ⟨e1, e2⟩
     ·exact .inl ⟨List.mem_cons_of_mem _ e1, e2⟩
     ·exact .inr ⟨List.mem_cons_of_mem _ e1, List.mem_of_mem_drop e2⟩
   ·have hz' : (p.2.1 == 0) = false := by simpa using hz
    simp only [freshN, List.filter_cons, hz', List.length_map] at hk hA
    rw [if_neg hz] at h
    rcases List.mem_cons.1 h with e | e
    ·subst e
     exact .inl ⟨List.mem_cons_self .., hz⟩
    ·rcases layK_mem2 e (by simpa [freshN] using hk) (by simpa [freshN] using hA) with ⟨e1, e2⟩ | ⟨e1, e2⟩
     ·exact .inl ⟨List.mem_cons_of_mem _ e1, e2⟩
     ·exact .inr ⟨List.mem_cons_of_mem _ e1, e2⟩
theorem num_mono : ∀ (a b : Nat), a ≤ b → (num a).length ≤ (num b).length := by
 intro a
 induction a using Nat.strongRecOn with
 | ind a ih =>
   intro b h
   by_cases h1 : a < 128
   ·rw [num_small h1]; exact num_pos b
   ·rw [num_big h1, num_big (show ¬ b < 128 by omega)]
    simp only [List.length_cons]
    have := ih (a / 128) (by omega) (b / 128) (by omega)
    omega
theorem tab_le : ∀ (l : Pgs) (A C : List Nat) (k : Nat), (∀ j, A.getD j 0 ≤ C.getD j 0) → (tabB (layK l A k)).length ≤ (tabB (layK l C k)).length
 | [], _, _, _, _ => Nat.le_refl _
 | p :: l, A, C, k, h => by
   have e : ∀ (q : Int × Nat × List Nat) (r : Pgs), (tabB (q :: r)).length = (num q.1.toNat).length + (num q.2.1).length + (tabB r).length := fun q r => by simp [tabB]; omega
   simp only [layK]
   split
   ·have ih := tab_le l (A.drop 1) (C.drop 1) (k - 1) (fun j => by have := h (j + 1); simpa [List.getD] using this)
    rw [e, e]
    split
    ·omega
    ·have := num_mono _ _ (h 0)
     simp only
     omega
   ·have ih := tab_le l A C k h
    rw [e, e]
    omega
theorem plA_fits {x : SS} (h : x.Wf) : needN x ≤ freeN x x.size ↔ putN x ≤ freeN x x.size ∧ needA x ((freeL x x.size).take (putN x)) ≤ freeN x x.size := by
 constructor
 ·intro hn
  by_cases hc : putN x ≤ freeN x x.size ∧ needA x ((freeL x x.size).take (putN x)) ≤ freeN x x.size
  ·exact hc
  ·have e : plA x = List.replicate (putN x) (x.size - 1) := by unfold plA; rw [if_neg hc]
   unfold needN at hn
   rw [e] at hn
   have hp : putN x ≤ freeN x x.size := by unfold needA at hn; omega
   refine ⟨hp, Nat.le_trans ?_ hn⟩
   unfold needA
   have := tab_le x.now ((freeL x x.size).take (putN x)) (List.replicate (putN x) (x.size - 1)) (freshN x.now).length (fun j => by
    by_cases hj : j < putN x
    ·have hl : j < ((freeL x x.size).take (putN x)).length := by rw [List.length_take, freeL_len]; omega
     have hm : ((freeL x x.size).take (putN x)).getD j 0 ∈ (freeL x x.size).take (putN x) := by
      simp only [List.getD, List.getElem?_eq_getElem hl, Option.getD_some]
      exact List.getElem_mem hl
     have := (freeL_mem.1 (List.mem_of_mem_take hm)).1
     have e2 : (List.replicate (putN x) (x.size - 1)).getD j 0 = x.size - 1 := by simp [List.getD, hj]
     rw [e2]
     omega
    ·have : ((freeL x x.size).take (putN x)).getD j 0 = 0 := by
      simp only [List.getD]
      rw [List.getElem?_eq_none (by rw [List.length_take]; omega)]
      rfl
     rw [this]
     exact Nat.zero_le _)
   simp only [layP]
   have : tabN (tabB (layK x.now ((freeL x x.size).take (putN x)) (freshN x.now).length)).length ≤ tabN (tabB (layK x.now (List.replicate (putN x) (x.size - 1)) (freshN x.now).length)).length := by unfold tabN; omega
   omega
 ·intro hc
  unfold needN
  have : plA x = (freeL x x.size).take (putN x) := by unfold plA; rw [if_pos hc]
  rw [this]
  exact hc.2
theorem plA_true {x : SS} (h : x.Wf) (hn : needN x ≤ freeN x x.size) : plA x = (freeL x x.size).take (putN x) := by
 unfold plA
 rw [if_pos ((plA_fits h).1 hn)]
theorem used_two {x : SS} {j : Nat} (h : usedF x j = false) : 2 ≤ j := by
 unfold usedF at h
 simp only [Bool.or_eq_false_iff, decide_eq_false_iff_not] at h
 omega
theorem next_wf {x : SS} (h : x.Wf) (hn : needN x ≤ freeN x x.size) : x.next.Wf := by
 have hc : ∀ p ∈ laid x, (0 ≤ p.1 ∧ p.1 < 728) ∧ (2 ≤ p.2.1 ∧ p.2.1 < x.size) ∧ p.2.2.length ≤ 116 := fun p hp => by
  rcases layK_mem2 hp (Nat.le_refl _) (by rw [plA_length]; exact Nat.le_refl _) with ⟨e1, e2⟩ | ⟨e1, e2⟩
  ·obtain ⟨q1, q2, q3⟩ := h.now p e1
   exact ⟨q1, by omega, q3⟩
  ·obtain ⟨q1, q2, q3⟩ := h.now _ e1
   rw [plA_true h hn] at e2
   have := freeL_mem.1 (List.mem_of_mem_take e2)
   exact ⟨q1, ⟨used_two this.2, this.1⟩, q3⟩
 refine { size := h.size, epoch := Nat.mod_lt _ (by omega), sector := ?_, tabs := ⟨?_, fun t ht => ?_⟩, com := hc, now := fun p hp => ?_ }
 ·show 4 - x.sector = 0 ∨ 4 - x.sector = 4
  have := h.sector
  omega
 ·show (tbs x).length ≤ 2048
  unfold tbs
  rw [List.length_drop, List.length_take, freeL_len]
  have := freeN_le x x.size
  have := h.size
  omega
 ·have := freeL_mem.1 (List.mem_of_mem_take (List.mem_of_mem_drop ht))
  exact ⟨used_two this.2, this.1⟩
 ·obtain ⟨q1, q2, q3⟩ := hc p hp
  exact ⟨q1, .inr q2, q3⟩
theorem tbs_length {x : SS} (hn : needN x ≤ freeN x x.size) : (tbs x).length = tabN (tabB (laid x)).length := by
 unfold tbs
 rw [List.length_drop, List.length_take, freeL_len, Nat.min_eq_left hn]
 unfold needN needA laid
 omega
end Go.Proofs.YtlcglapcmdpkfaaGreat
