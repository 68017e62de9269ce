/- The numbers of any sound value's boxes; slices.Values of numbers, value.Boxes. A word's body without calls and values: its copy. Dictionaries without vocabularies: their copies, and whether they are sound. A dictionary of one word and no vocabulary: its copy; it is not sound. The empty dictionary is sound; one of a word alone is not. The copy of a dictionary of a word alone is refused; Check of both. The numbers by which the library's contract on slices.Grow stands over this program. -/
import Derived.Test.YtdkbioahhkmpoaaGreatDoorGah
import Derived.Deep.RegionHeld3
import Derived.Shelf.Spec.SlicesGrow
import Derived.Test.YtdkbioahhkmpoaaGreatDoorProg
namespace Go.Proofs.YtdkbioahhkmpoaaGreatDoor
open Go.RowKit Go.Lib
set_option linter.unusedSimpArgs false
set_option linter.unusedVariables false
theorem bx_of (d : Nat) (H1 : BxC d 51 false) (H2 : BxC d 71 true) : BxC (d + 1) 51 false := by
  intro t v w0 S h hok hsm w ao n cap ns o hw hb
  rcases h with ⟨h1, _, rfl⟩ | ⟨h1, _, rfl⟩ | ⟨h1, _, rfl⟩ | ⟨h1, _, rfl⟩ | ⟨h1, _, rfl⟩ | ⟨h1, la, lc, rfl, hc, hel⟩
  · rw [show bxL (d + 1) false t = [] from by unfold bxL; rw [if_neg (by omega), if_neg (by omega), if_neg (by omega)], List.append_nil]
    exact (bx_int _ w ao n cap).mono fun e w' g => ⟨ao, n, cap, g.1, hw.only g.2 (fun _ _ _ g => g), o.trans g.2 (fun _ _ g => g)⟩
  · rw [show bxL (d + 1) false t = [] from by unfold bxL; rw [if_neg (by omega), if_neg (by omega), if_neg (by omega)], List.append_nil]
    exact (bx_str _ w ao n cap).mono fun e w' g => ⟨ao, n, cap, g.1, hw.only g.2 (fun _ _ _ g => g), o.trans g.2 (fun _ _ g => g)⟩
  · rw [show bxL (d + 1) false t = [] from by unfold bxL; rw [if_neg (by omega), if_neg (by omega), if_neg (by omega)], List.append_nil]
    exact (bx_bool _ w ao n cap).mono fun e w' g => ⟨ao, n, cap, g.1, hw.only g.2 (fun _ _ _ g => g), o.trans g.2 (fun _ _ g => g)⟩
  · rw [show bxL (d + 1) false t = [t.n] from by unfold bxL; rw [if_pos h1]]
    exact bx_box t.n w0 w ao n cap ns o hw (by omega)
  · exfalso
    unfold okV at hok
    rw [if_neg (by omega)] at hok
    unfold alB at hok
    rw [if_neg (by omega), if_neg (by omega), if_neg (by omega)] at hok
    simp at hok
    omega
  · obtain ⟨e, hs⟩ := hsm
    have hlen := hs.len
    have hparts := hs.parts
    unfold okV at hok
    rw [if_pos h1, List.all_eq_true] at hok
    rcases h1 with h4 | h5
    · have e5 : decide (t.k = 5) = false := decide_eq_false (by omega)
      rw [e5] at hel hok
      rw [show bxL (d + 1) false t = t.l.flatMap (bxL d false) from by unfold bxL; rw [if_neg (by omega), if_pos h4]] at hb ⊢
      rw [if_pos h4]
      exact bx_list d H1 t.l la lc w0 S hel hok hparts hlen w ao n cap ns o hw hb
    · have e5 : decide (t.k = 5) = true := decide_eq_true h5
      rw [e5] at hel hok
      rw [show bxL (d + 1) false t = t.l.flatMap (bxL d true) from by unfold bxL; rw [if_neg (by omega), if_neg (by omega), if_pos h5]] at hb ⊢
      rw [if_neg (by omega)]
      exact bx_quot d H2 t.l la lc w0 S hel hok hparts hlen w ao n cap ns o hw hb
set_option maxRecDepth 100000 in
theorem bi_push (u : Value) (hu : u = .nilIface ∨ ∃ T y, u = .iface T y) (Q : List Int) (w0 w : World) (ao : Option Addr) (n cap : Nat) (HC0 : ∀ w1, Only (fun _ => False) w w1 → Calls Tryz.prog 51 #[.slice ao n cap, u] w1 fun e w' => ∃ ao' n' cap', e = .returned (.slice ao' n' cap') ∧ Hid (BnAt w' w0.heap.size (.slice ao' n' cap') Q ∧ Only (fun _ => False) w0 w')) :
    Calls Tryz.prog 71 #[.slice ao n cap, .iface 170 (.agg #[u])] w fun e w' => ∃ ao' n' cap', e = .returned (.slice ao' n' cap') ∧ Hid (BnAt w' w0.heap.size (.slice ao' n' cap') Q ∧ Only (fun _ => False) w0 w') := by
  have HC : Hid (∀ w1, Only (fun _ => False) w w1 → Calls Tryz.prog 51 #[.slice ao n cap, u] w1 fun e w' => ∃ ao' n' cap', e = .returned (.slice ao' n' cap') ∧ Hid (BnAt w' w0.heap.size (.slice ao' n' cap') Q ∧ Only (fun _ => False) w0 w')) := HC0
  have hPush := va_hit 170 137 _ Tryz.underlying170 (by intro m h; cases h)
  clear HC0
  rcases hu with rfl | ⟨T, y, rfl⟩
  all_goals
    go_enter Tryz.func71, Tryz.ntmps71
    go_wp2_with fail
    refine (show Calls Tryz.prog 51 _ _ _ from HC.out _ (by repeat' first | exact Only.refl _ _ | apply Only.alloc)).mono ?_
    rintro e w1 ⟨a1, n1, c1, rfl, G1⟩
    clear HC
    go_wp2
    go_ret
    exact ⟨a1, n1, c1, rfl, G1⟩
set_option maxRecDepth 100000 in
theorem bi_call (s : ByteArray) (w : World) (ao : Option Addr) (n cap : Nat) :
    Calls Tryz.prog 71 #[.slice ao n cap, .iface 111 (.agg #[.string s])] w fun e w' => e = .returned (.slice ao n cap) ∧ Only (fun _ => False) w w' := by
  have mPush := va_miss 111 170 137 _ Tryz.underlying170 (by intro m h; cases h) (by decide) _ vzero_Push
  have O : Hid (Only (fun _ => False) w w) := Only.refl _ _
  go_enter Tryz.func71, Tryz.ntmps71
  go_wp2
  go_ret
  exact ⟨rfl, by repeat' first | exact O.out | apply Only.alloc⟩
theorem bi_of (d : Nat) (H : BxC d 51 false) : BxC (d + 1) 71 true := by
  intro t v w0 S h hok hsm w ao n cap ns o hw hb
  rcases h with ⟨h1, _, rfl⟩ | ⟨h1, _, _⟩ | ⟨h7, h8, u, rfl, hu⟩
  · rw [show bxL (d + 1) true t = [] from if_pos h1, List.append_nil]
    exact (bi_call _ w ao n cap).mono fun e w' g => ⟨ao, n, cap, g.1, hw.only g.2 (fun _ _ _ g => g), o.trans g.2 (fun _ _ g => g)⟩
  · rw [show okV (d + 1) true t = false from (if_neg (by omega)).trans (if_pos h1)] at hok
    exact absurd hok (by decide)
  · rw [show okV (d + 1) true t = okV d false t from (if_neg h7).trans (if_neg h8)] at hok
    rw [show bxL (d + 1) true t = bxL d false t from if_neg h7] at hb ⊢
    exact bi_push u hu.shape _ w0 w ao n cap (fun w1 o1 => H t _ w0 S hu hok hsm w1 ao n cap ns (o.trans o1 (fun _ _ g => g)) (hw.only o1 (fun _ _ _ g => g)) hb)
theorem bx_all : ∀ (D d : Nat), d < D → BxC d 51 false ∧ BxC d 71 true
  | 0, d, h => by omega
  | D + 1, d, h => by
    cases d with
    | zero => exact ⟨fun t v w0 S h => h.elim, fun t v w0 S h => h.elim⟩
    | succ d =>
      have ih := bx_all D d (by omega)
      exact ⟨bx_of d ih.1 ih.2, bi_of d ih.1⟩
theorem bflat_le {α β : Type} (f : α → List β) (g : α → Nat) (l : List α) (h : ∀ x ∈ l, (f x).length ≤ g x) : (l.flatMap f).length ≤ (l.map g).sum := by
  induction l with
  | nil => simp
  | cons x l ih =>
    simp only [List.flatMap_cons, List.length_append, List.map_cons, List.sum_cons]
    have h1 := h x (List.mem_cons_self ..)
    have h2 := ih (fun y hy => h y (List.mem_cons_of_mem _ hy))
    omega
/-- there are no more boxes than values -/
theorem bx_sz : ∀ (d : Nat) (i : Bool) (t : Vt), (bxL d i t).length ≤ sz d i t
  | 0, _, _ => Nat.zero_le _
  | d + 1, true, t => by
    unfold bxL sz
    by_cases h7 : t.k = 7
    · rw [if_pos h7, if_pos (.inl h7)]; exact Nat.zero_le _
    · rw [if_neg h7]
      by_cases h8 : t.k = 8
      · rw [if_pos (.inr h8)]
        cases d with
        | zero => exact Nat.zero_le _
        | succ d => unfold bxL; rw [if_neg (by omega), if_neg (by omega), if_neg (by omega)]; exact Nat.zero_le _
      · rw [if_neg (by omega)]; exact bx_sz d false t
  | d + 1, false, t => by
    unfold bxL sz
    split
    · simp
    split
    · rename_i h6 h4
      rw [decide_eq_false (show ¬ t.k = 5 by omega)]
      have := bflat_le (bxL d false) (sz d false) t.l (fun x _ => bx_sz d false x)
      omega
    split
    · rename_i h6 h4 h5
      rw [decide_eq_true h5]
      have := bflat_le (bxL d true) (sz d true) t.l (fun x _ => bx_sz d true x)
      omega
    · simp
theorem sd_bx {d : Nat} {t : Vt} (h : sdB d t = true) : okV d false t = true ∧ (bxL d false t).length ≤ 1024 := by
  unfold sdB msB at h
  simp only [Bool.and_eq_true, decide_eq_true_eq] at h
  exact ⟨h.1.1, Nat.le_trans (bx_sz d false t) (by omega)⟩
/-- what Boxes answers: an iterator over the numbers zs -/
def BoxIs (z : Int) (zs : List Int) (w : World) (e : Ending) (w' : World) : Prop :=
  ∃ Bs Pb sv, e = .returned (.tuple #[.func (.func 70) #[] #[.pointer (some ⟨Bs, 0, none⟩)], .int .i64 z]) ∧ w'.cell? ⟨Bs, 0, none⟩ = some sv ∧ IntsIn w' Pb sv zs ∧ (w.heap.size ≤ Bs ∧ Bs < w'.heap.size) ∧ (w.heap.size ≤ Pb ∧ Pb < w'.heap.size) ∧ Only (fun _ => False) w w'
theorem BnAt.ints {w : World} {B : Nat} {v : Value} {ns : List Int} (h : BnAt w B v ns) : (v = .slice none 0 0 ∧ ns = []) ∨ ∃ Pb, B ≤ Pb ∧ Pb < w.heap.size ∧ IntsIn w Pb v ns := by
  rcases h.2 with ⟨h1, h2⟩ | ⟨g, cap, cur, h1, hB, hg, rest⟩
  · exact .inl ⟨h1, List.eq_nil_of_length_eq_zero h2⟩
  · refine .inr ⟨g, hB, (Array.getElem?_eq_some_iff.1 hg).1, .inr ⟨0, cap, h1, fun j hj => ?_⟩⟩
    have h' : w.ownsRow B 3 1 v ns.length (ns.map (Value.int .i64)) := h
    have hc := h'.cells (g := g) (by rw [h1]; rfl) j (.int .i64 (ns.getD j 0)) (by simp [List.getD, hj])
    rw [addr_ad] at hc
    rw [Nat.zero_add]
    exact hc
set_option maxRecDepth 100000 in
theorem vboxes_any {d : Nat} {t : Vt} {v : Value} {w : World} {S : Nat → Prop} (h : TiAt w S d false t v) (hS : ∀ b, S b → b < w.heap.size) (hsm : ∃ e, SmT e t) (hT : Tb w) : Calls Tryz.prog 32 #[v] w fun e w' => BoxIs (if sdB d t then 0 else 1) (if sdB d t then bxL d false t else []) w e w' := by
  have HC : Hid _ := vcheck_any h hS hsm hT
  have HV : Hid (∀ a n c w, Calls Tryz.prog 50 #[.slice a n c] w fun e w' => e = .returned (.func (.func 70) #[] #[.pointer (some ⟨w.heap.size, 0, none⟩)]) ∧ w' = w.alloc (.cells #[.slice a n c] 104)) := fun a n c w => (callsIn_wide (n := 5)).1 (values_in 5 a n c w)
  cases hZ : sdB d t with
  | false =>
    rw [hZ] at HC
    have HP : Hid (∀ w1, Only (fun _ => False) w w1 → BoxIs 1 [] w (.returned (.tuple #[.func (.func 70) #[] #[.pointer (some ⟨w1.heap.size, 0, none⟩)], .int .i64 1])) (w1.alloc (.cells #[.slice none 0 0] 104))) := fun w1 o => ⟨w1.heap.size, w1.heap.size, .slice none 0 0, rfl, (vblk_cells (valloc_at _ _ _ rfl) 0).trans rfl, .inl ⟨rfl, rfl⟩, ⟨o.size, by simp⟩, ⟨o.size, by simp⟩, o.alloc _⟩
    clear h hS hsm hT hZ
    go_enter Tryz.func32, Tryz.ntmps32
    go_wp2_with fail
    refine (show Calls Tryz.prog 48 _ _ _ from HC.out).mono ?_
    rintro e w1 ⟨rfl, o1⟩
    have O1 : Hid (Only (fun _ => False) w w1) := o1
    clear HC o1
    go_wp2_with fail
    refine (show Calls Tryz.prog 50 _ _ _ from HV.out _ _ _ _).mono ?_
    rintro e w2 ⟨rfl, rfl⟩
    clear HV
    go_wp2
    go_ret2
    exact HP.out _ O1.out
  | true =>
    rw [hZ] at HC
    obtain ⟨hok, hle⟩ := sd_bx hZ
    have HB : Hid (∀ w1, Only (fun _ => False) w w1 → Calls Tryz.prog 51 #[.slice none 0 0, v] w1 fun e w' => ∃ ao' n' cap', e = .returned (.slice ao' n' cap') ∧ Hid (BnAt w' w1.heap.size (.slice ao' n' cap') (bxL d false t) ∧ Only (fun _ => False) w1 w')) := fun w1 o1 => by
      have := (bx_all (d + 1) d (by omega)).1 t v w1 S (h.only o1 (fun _ _ g => g)) hok hsm w1 none 0 0 [] (Only.refl _ _) (bn_nil _ _) (by simp; omega)
      rwa [List.nil_append] at this
    have HP : Hid (∀ w1 w2 ao' n' cap', Only (fun _ => False) w w1 → BnAt w2 w1.heap.size (.slice ao' n' cap') (bxL d false t) → Only (fun _ => False) w1 w2 → BoxIs 0 (bxL d false t) w (.returned (.tuple #[.func (.func 70) #[] #[.pointer (some ⟨w2.heap.size, 0, none⟩)], .int .i64 0])) (w2.alloc (.cells #[.slice ao' n' cap'] 104))) := fun w1 w2 ao' n' cap' o1 hb o2 => by
      have o3 : Only (fun _ => False) w2 (w2.alloc (.cells #[.slice ao' n' cap'] 104)) := (Only.refl _ _).alloc _
      have hc : (w2.alloc (.cells #[.slice ao' n' cap'] 104)).cell? ⟨w2.heap.size, 0, none⟩ = some (.slice ao' n' cap') := (vblk_cells (valloc_at _ _ _ rfl) 0).trans rfl
      have l1 := o1.size
      have l2 := o2.size
      rcases (hb.only o3 (fun _ _ _ g => g)).ints with ⟨h1, h2⟩ | ⟨Pb, p1, p2, p3⟩
      · exact ⟨_, w2.heap.size, _, rfl, hc, .inl ⟨h1, h2⟩, ⟨by omega, by simp⟩, ⟨by omega, by simp⟩, (o1.trans o2 (fun _ _ g => g)).alloc _⟩
      · exact ⟨_, Pb, _, rfl, hc, p3, ⟨by omega, by simp⟩, ⟨by omega, p2⟩, (o1.trans o2 (fun _ _ g => g)).alloc _⟩
    clear h hS hsm hT hZ hok hle
    go_enter Tryz.func32, Tryz.ntmps32
    go_wp2_with fail
    refine (show Calls Tryz.prog 48 _ _ _ from HC.out).mono ?_
    rintro e w1 ⟨rfl, o1⟩
    have O1 : Hid (Only (fun _ => False) w w1) := o1
    clear HC o1
    go_wp2_with fail
    refine (show Calls Tryz.prog 51 _ _ _ from HB.out _ O1.out).mono ?_
    rintro e w2 ⟨a2, n2, c2, rfl, G2⟩
    clear HB
    go_wp2_with fail
    refine (show Calls Tryz.prog 50 _ _ _ from HV.out _ _ _ _).mono ?_
    rintro e w3 ⟨rfl, rfl⟩
    clear HV
    go_wp2
    go_ret2
    exact HP.out _ _ _ _ _ O1.out G2.out.1 G2.out.2
end Go.Proofs.YtdkbioahhkmpoaaGreatDoor
namespace Go.Proofs.YtdkbioahhkmpoaaGreatDoor
open Go.RowKit Go.Lib
set_option linter.unusedSimpArgs false
set_option linter.unusedVariables false
set_option maxRecDepth 100000 in
theorem ditems_of (a : Option Addr) (n c : Nat) (w : World) : Calls Tryz.prog 33 #[.iface 80 (.agg #[.slice a n c])] w fun e w' => e = .returned (.slice a n c) ∧ Only (fun _ => False) w w' := by
  have O : Hid (Only (fun _ => False) w w) := Only.refl _ _
  have hQ := va_hit 80 76 _ Tryz.underlying80 (by intro m h; cases h)
  go_enter Tryz.func33, Tryz.ntmps33
  go_wp2
  go_ret
  exact ⟨rfl, by repeat' first | exact O.out | apply Only.alloc⟩

attribute [local go_sem] Oper.semAt_some
/-- the quotation without items -/
def q0V : Value := .iface 80 (.agg #[.slice none 0 0])
theorem Below.only {w w' : World} {B : Nat} (h : Below B w w') : Only (fun i => B ≤ i) w w' := ⟨h.os, h.tape, h.output, h.size, fun k hk hn => h.block k (by omega)⟩
theorem results_cell2 {fn : Func} {p u : Tmp} {t1 t2 : TypeId} (h : fn.results = #[.cell p t1, .cell u t2]) (tmps : Array Value) (P : Program) (w : World) :
    (results fn tmps).run P w = ((asAddr (tmps.getD p undef)).run P w).andThen fun a w₁ => ((loadVar t1 a).run P w₁).andThen fun v w₂ => ((asAddr (tmps.getD u undef)).run P w₂).andThen fun b w₃ => ((loadVar t2 b).run P w₃).andThen fun v' w₄ => .ok (.tuple #[v, v']) w₄ := by
  simp only [results, h]
  simp [Sem.run_bind, Result.andThen]
theorem load_items (b : Nat) (v : Value) (w : World) (h : w.cell? ⟨b, 0, none⟩ = some v) : (loadVar 25 ⟨b, 0, none⟩).run Tryz.prog w = .ok v w := by go_simp
theorem load_bool (b : Nat) (v : Value) (w : World) (h : w.cell? ⟨b, 0, none⟩ = some v) : (loadVar 4 ⟨b, 0, none⟩).run Tryz.prog w = .ok v w := by go_simp
theorem func_not_nil (b : Nat) (w : World) : (binOp .eql 82 (.func (.func 70) #[] #[.pointer (some ⟨b, 0, none⟩)]) .nilFunc).run Tryz.prog w = .ok (.bool false) w := by kernel_rfl
/-- what Copy answers of the quotation without items -/
def CqP (w : World) (e : Ending) (w' : World) : Prop := ∃ ao cap, e = .returned (.tuple #[.iface 80 (.agg #[.slice ao 0 cap]), .int .i64 0]) ∧ Only (fun _ => False) w w'
set_option maxRecDepth 100000 in
set_option maxHeartbeats 2000000 in
theorem dbody_core (w : World) (HC : ∀ w1, Only (fun _ => False) w w1 → CallsIn Fence.wide 5 Tryz.prog 31 #[.iface 80 (.agg #[.slice none 0 0])] w1 (CqP w1)) (HP : ∀ w1 ao cap, Only (fun _ => False) w w1 → CallsIn Fence.wide 5 Tryz.prog 32 #[.iface 80 (.agg #[.slice ao 0 cap])] w1 (BoxIs 0 [] w1)) (HI : ∀ w1 ao cap, CallsIn Fence.wide 5 Tryz.prog 33 #[.iface 80 (.agg #[.slice ao 0 cap])] w1 fun e w' => e = .returned (.slice ao 0 cap) ∧ Only (fun _ => False) w1 w') :
    CallsIn Fence.wide 6 Tryz.prog 22 #[.slice none 0 0] w fun e w' => ∃ ao cap, e = .returned (.tuple #[.slice ao 0 cap, .bool true]) ∧ Only (fun _ => False) w w' := by
  refine callsIn_of_wp_marks Tryz.func22 rfl trivial ?_ rfl
  simp only [Tryz.ntmps22, List.size_toArray, List.length_cons, List.length_nil, Nat.reduceAdd, Nat.reduceSub, Array.replicate_succ, Array.replicate_zero, List.push_toArray, List.append_toArray, List.nil_append, List.cons_append]
  gi_wp2_with fail
  have HPc := HC _ (((Only.refl (fun _ => False) w).alloc (.cells #[.slice none 0 0] 25)).alloc (.cells #[.bool false] 4))
  obtain ⟨wA, hwA⟩ : ∃ x, x = (w.alloc (.cells #[.slice none 0 0] 25)).alloc (.cells #[.bool false] 4) := ⟨_, rfl⟩
  have hA1 : wA.heap[w.heap.size]? = some (.cells #[.slice none 0 0] 25 (0, 0)) := by rw [hwA]; exact heap_alloc2_old w _ _
  have hA2 : wA.heap[w.heap.size + 1]? = some (.cells #[.bool false] 4 (0, 0)) := by rw [hwA]; exact heap_alloc2_new w _ _
  have oA : Only (fun _ => False) w wA := by rw [hwA]; exact ((Only.refl _ w).alloc _).alloc _
  have sA : wA.heap.size = w.heap.size + 2 := by rw [hwA]; simp
  rw [← hwA] at HPc ⊢
  clear hwA
  refine ⟨trivial, HPc.mono ?_⟩
  rintro e w2 ⟨ao, cap, rfl, o2⟩
  clear HPc HC
  have HB2 := HP w2 ao cap (oA.trans o2 (fun _ _ g => g))
  have HI2 : Hid _ := HI
  clear HP HI
  gi_wp2_with fail
  refine ⟨trivial, HB2.mono ?_⟩
  rintro e w3 ⟨Bs, Pb, lv, rfl, hb, hin, hBs0, hPb0, ho3⟩
  have hPb := hPb0.2
  clear hBs0 hPb0 HB2
  have hnn := func_not_nil Bs
  have h31 : w3.heap[w.heap.size]? = some (.cells #[.slice none 0 0] 25 (0, 0)) := by rw [ho3.block _ (by have := o2.size; omega) (fun e => e), o2.block _ (by omega) (fun e => e)]; exact hA1
  have h32 : w3.heap[w.heap.size + 1]? = some (.cells #[.bool false] 4 (0, 0)) := by rw [ho3.block _ (by have := o2.size; omega) (fun e => e), o2.block _ (by omega) (fun e => e)]; exact hA2
  have hs3 : w.heap.size + 2 ≤ w3.heap.size := by have := o2.size; have := ho3.size; omega
  have o3 : Only (fun _ => False) w w3 := (oA.trans o2 (fun _ _ g => g)).trans ho3 (fun _ _ g => g)
  clear hA1 hA2 oA sA o2 ho3
  gi_wp2
  clear hnn
  refine wpIn_rangeFunc_ownG rfl (by omega) (gf := 70) (lb := #[.pointer (some ⟨Bs, 0, none⟩)]) rfl trivial (enters_of Tryz.func70 (by kernel_rfl) rfl)
    (values_stops 5 Bs Pb lv [] w3 (by unfold maxLen; simp) hb hin (by omega)) (fun h k => Eq.trans k h) ?hKb (Below.refl _ _) (fun _ => rfl)
    (fun pre W => Below w3.heap.size w3 W)
    (fun _ _ _ => False)
    (ownFrom_below (by omega) (by omega))
    (fun _ _ _ _ _ hs _ _ => hs)
    (Below.refl _ _)
    (fun x => { tmps := #[.slice none 0 0, undef, .pointer (some ⟨w.heap.size, 0, none⟩), .pointer (some ⟨w.heap.size + 1, 0, none⟩), .iface 80 (.agg #[.slice ao 0 cap]), .int .i64 0, .func (.func 70) #[] #[.pointer (some ⟨Bs, 0, none⟩)], .int .i64 0,
      .tuple #[.iface 80 (.agg #[.slice ao 0 cap]), .int .i64 0], .slice none 0 0, .agg #[.slice none 0 0], .iface 80 (.agg #[.slice none 0 0]), .tuple #[.iface 80 (.agg #[.slice ao 0 cap]), .int .i64 0], .iface 80 (.agg #[.slice ao 0 cap]), .int .i64 0, .int .i64 0, .bool false,
      .tuple #[.func (.func 70) #[] #[.pointer (some ⟨Bs, 0, none⟩)], .int .i64 0], .iface 80 (.agg #[.slice ao 0 cap]), .tuple #[.func (.func 70) #[] #[.pointer (some ⟨Bs, 0, none⟩)], .int .i64 0], .func (.func 70) #[] #[.pointer (some ⟨Bs, 0, none⟩)], .int .i64 0, .func (.func 70) #[] #[.pointer (some ⟨Bs, 0, none⟩)], .int .i64 x, undef, undef], defers := [] }) ?assign ?body ?done ?stop
  case hKb =>
    intro W l0 o o' hl0 hw0 ho1 ho2
    exact (grownBy_putObj' W l0 o').block Pb (by have := (Array.getElem?_eq_some_iff.1 hw0).1; omega) (fun e => by cases e; omega)
  case assign =>
    intro l0 x W K hK
    simp only [intEnc, List.zip_toArray, List.zip_cons_cons, List.zip_nil_right, List.foldl_toArray, List.foldl_cons, List.foldl_nil, List.setIfInBounds_toArray, List.set_cons_zero, List.set_cons_succ]
    gi_wp2
    exact hK
  case body =>
    intro l0 pre x W hB hlt
    exact absurd hlt (by simp)
  case done =>
    rintro D ys W hD _ hB hK
    have b1 : Boxed W w.heap.size 25 (.slice none 0 0) := (hB.block _ (by omega)).trans h31
    have b2 : Boxed W (w.heap.size + 1) 4 (.bool false) := (hB.block _ (by omega)).trans h32
    have oW : Only (fun _ => False) w W := o3.trans (Below.only hB) (fun k hk e => by omega)
    have hDW := (Array.getElem?_eq_some_iff.1 hK).1
    have HI3 := HI2.out W ao cap
    clear HI2
    gi_wp2_with fail
    refine ⟨trivial, HI3.mono ?_⟩
    rintro e w4 ⟨rfl, o4⟩
    clear HI3
    have b3 : Boxed w4 w.heap.size 25 (.slice none 0 0) := (o4.block _ (by omega) (fun g => g)).trans b1
    have b4 : Boxed w4 (w.heap.size + 1) 4 (.bool false) := (o4.block _ (by omega) (fun g => g)).trans b2
    have hK4 : w4.heap[D]? = some (.deferred (some [])) := (o4.block _ hDW (fun g => g)).trans hK
    have c1 := b3.cell
    have f1 := b3.frozen
    have b5 : Boxed (w4.setCell ⟨w.heap.size, 0, none⟩ (.slice ao 0 cap)) (w.heap.size + 1) 4 (.bool false) := (Below.heap_setCell _ _ _ _ (by simp)).trans b4
    have c3 := b5.cell
    have f3 := b5.frozen
    gi_wp2
    obtain ⟨WF, hWF⟩ : ∃ x, x = (w4.setCell ⟨w.heap.size, 0, none⟩ (.slice ao 0 cap)).setCell ⟨w.heap.size + 1, 0, none⟩ (.bool true) := ⟨_, rfl⟩
    rw [← hWF]
    have e1 : Boxed WF w.heap.size 25 (.slice ao 0 cap) := by rw [hWF]; exact (Below.heap_setCell _ _ _ _ (by simp)).trans (b3.set _)
    have e2 : Boxed WF (w.heap.size + 1) 4 (.bool true) := by rw [hWF]; exact b5.set _
    have hKF : WF.heap[D]? = some (.deferred (some [])) := by rw [hWF, Below.heap_setCell _ _ _ _ (by simp; omega), Below.heap_setCell _ _ _ _ (by simp; omega)]; exact hK4
    have oF : Only (fun _ => False) w WF := by
      rw [hWF]
      refine (Only.setCell (Only.setCell ?_ _ _ (fun h => by simp at h)) _ _ (fun h => by simp at h; omega))
      exact oW.trans o4 (fun k hk e => e)
    clear hWF
    refine ⟨by simp, .inl ⟨_, _, rfl, run_takeDeferred hKF, ?_⟩⟩
    obtain ⟨WG, hWG⟩ : ∃ x, x = WF.putObj D (.deferred none) := ⟨_, rfl⟩
    have oG : Only (fun k => k = D) WF WG := by
      rw [hWG]
      exact (Only.refl _ WF).grown (grownBy_putObj' WF D _) (fun k e _ => by injection e with e; exact e.symm)
    rw [← hWG]
    have g1 := load_items _ _ WG (oG.cell e1.cell (by simp; omega))
    have g2 := load_bool _ _ WG (oG.cell e2.cell (by simp; omega))
    refine ⟨.tuple #[.slice ao 0 cap, .bool true], ?_, ao, cap, rfl, oF.trans oG (fun k hk e => by omega)⟩
    rw [results_cell2 rfl]
    change ((loadVar 25 ⟨w.heap.size, 0, none⟩).run Tryz.prog WG).andThen (fun v w₂ => ((loadVar 4 ⟨w.heap.size + 1, 0, none⟩).run Tryz.prog w₂).andThen fun v' w₄ => Result.ok (Value.tuple #[v, v']) w₄) = Result.ok (Value.tuple #[.slice ao 0 cap, .bool true]) WG
    rw [g1]
    change ((loadVar 4 ⟨w.heap.size + 1, 0, none⟩).run Tryz.prog WG).andThen (fun v' w₄ => Result.ok (Value.tuple #[.slice ao 0 cap, v']) w₄) = Result.ok (Value.tuple #[.slice ao 0 cap, .bool true]) WG
    rw [g2]
    rfl
  case stop =>
    rintro D c pre W _ _ h _
    exact h.elim
theorem q0_ti (w : World) (S : Nat → Prop) (ao : Option Addr) (cap : Nat) : TiAt w S 1 false ⟨5, 0, ⟨#[]⟩, []⟩ (.iface 80 (.agg #[.slice ao 0 cap])) :=
  .inr (.inr (.inr (.inr (.inr ⟨.inr rfl, ao, cap, rfl, Nat.zero_le _, fun i x h => by simp at h⟩))))
theorem q0_sm : SmT 1 ⟨5, 0, ⟨#[]⟩, []⟩ := ⟨by decide, by decide, by decide, by decide, fun x h => by simp at h⟩
theorem q0_sd : sdB 1 ⟨5, 0, ⟨#[]⟩, []⟩ = true := by decide
theorem q0_bx : bxL 1 false ⟨5, 0, ⟨#[]⟩, []⟩ = [] := by decide
theorem dbody_nil (w : World) (hT : Tb w) : Calls Tryz.prog 22 #[.slice none 0 0] w fun e w' => ∃ ao cap, e = .returned (.tuple #[.slice ao 0 cap, .bool true]) ∧ Only (fun _ => False) w w' :=
  (callsIn_wide (n := 6)).1 (dbody_core w
    (fun w1 o1 => callsIn_wide.2 ((vcopy_any (q0_ti w1 (fun _ => False) none 0) (fun _ h => h.elim) ⟨_, q0_sm⟩ (hT.frame o1)).mono fun e w' g => by
      obtain ⟨v', he, h1, _, o⟩ := g
      have h2 := h1 q0_sd
      obtain ⟨S, h3, _⟩ := h2
      rcases h3 with ⟨h, _⟩ | ⟨h, _⟩ | ⟨h, _⟩ | ⟨h, _⟩ | ⟨h, _⟩ | ⟨_, ao, cap, rfl, _⟩
      all_goals first | (exact absurd h (by decide)) | skip
      exact ⟨ao, cap, he, o⟩))
    (fun w1 ao cap o1 => callsIn_wide.2 ((vboxes_any (q0_ti w1 (fun _ => False) ao cap) (fun _ h => h.elim) ⟨_, q0_sm⟩ (hT.frame o1)).mono fun e w' g => by
      rw [q0_sd, q0_bx] at g
      exact g))
    (fun w1 ao cap => callsIn_wide.2 (ditems_of ao 0 cap w1)))
end Go.Proofs.YtdkbioahhkmpoaaGreatDoor
namespace Go.Proofs.YtdkbioahhkmpoaaGreatDoor
open Go.RowKit Go.Lib
set_option linter.unusedSimpArgs false
set_option linter.unusedVariables false
theorem results_dict {fn : Func} {t u : Tmp} (h : fn.results = #[.cell u 33, .tmp t]) (tmps : Array Value) (w : World) (B : Nat) {x y : Value} (h0 : w.cell? ⟨B, 0, none⟩ = some x) (h1 : w.cell? ⟨B, 1, none⟩ = some y) (ha : tmps.getD u undef = .pointer (some ⟨B, 0, none⟩)) :
    (results fn tmps).run Tryz.prog w = .ok (.tuple #[.agg #[x, y], tmps.getD t undef]) w := by
  have ha' : tmps[u]?.getD undef = .pointer (some ⟨B, 0, none⟩) := by simpa using ha
  simp [results, h, ha', asAddr, go_sem, loadVar, isAgg, Tryz.underlying33, h0, h1]
theorem Only.kat {w w1 : World} {B : Nat} {o : Obj} (h : Only (fun _ => False) w w1) (g : w.heap[B]? = some o) : w1.heap[B]? = some o :=
  (h.block B (Array.getElem?_eq_some_iff.1 g).1 (fun g => g)).trans g
theorem valloc_old {W : World} {o p : Obj} {n : Nat} (h : W.heap[n]? = some o) : (W.alloc p).heap[n]? = some o :=
  ((Only.refl (fun _ => False) W).alloc p).kat h
theorem lset2 {w : World} {B : Nat} {a b : Value} {t : TypeId} (h : w.heap[B]? = some (.cells #[a, b] t)) (x0 x1 : Value) :
    ((w.setCell ⟨B, 0, none⟩ x0).setCell ⟨B, 1, none⟩ x1).heap[B]? = some (.cells #[x0, x1] t) := by
  have g1 := heap_setCell_same _ B 0 _ _ x0 h
  have g2 := heap_setCell_same _ B 1 _ _ x1 g1
  exact g2
theorem lonly2 {w : World} {B : Nat} (x0 x1 : Value) : Only (fun b => b = B) w ((w.setCell ⟨B, 0, none⟩ x0).setCell ⟨B, 1, none⟩ x1) :=
  ((Only.refl (fun b => b = B) w).setCell ⟨B, 0, none⟩ _ (fun _ => rfl)).setCell ⟨B, 1, none⟩ _ (fun _ => rfl)
/-- three blocks of two cells -/
def Ld3 (w : World) (a b : Value) (W : World) : Prop := W = ((w.alloc (.cells #[a, b] 33)).alloc (.cells #[.slice none 0 0, .slice none 0 0] 33)).alloc (.cells #[.slice none 0 0, .slice none 0 0] 33)
theorem Ld3.facts {w W : World} {a b : Value} (h : Ld3 w a b W) : Only (fun _ => False) w W ∧ W.heap.size = w.heap.size + 3 ∧ W.heap[w.heap.size]? = some (.cells #[a, b] 33) ∧ W.heap[w.heap.size + 1]? = some (.cells #[.slice none 0 0, .slice none 0 0] 33) ∧ W.heap[w.heap.size + 2]? = some (.cells #[.slice none 0 0, .slice none 0 0] 33) := by
  rw [show W = _ from h]
  refine ⟨(((Only.refl _ _).alloc _).alloc _).alloc _, by simp, valloc_old (valloc_old (valloc_at _ _ _ rfl)), valloc_old (valloc_at _ _ _ (by simp)), valloc_at _ _ _ (by simp)⟩
set_option maxRecDepth 100000 in
theorem dcopied_none (w : World) : Calls Tryz.prog 15 #[.agg #[.slice none 0 0, .slice none 0 0]] w fun e w' => e = .returned (.tuple #[.agg #[.slice none 0 0, .slice none 0 0], .bool true]) ∧ Only (fun _ => False) w w' := by
  obtain ⟨W, hW⟩ : ∃ W, Ld3 w (.slice none 0 0) (.slice none 0 0) W := ⟨_, rfl⟩
  obtain ⟨oW, _, e0, e1, e2⟩ := hW.facts
  have hW' : W = _ := hW
  have c00 := vblk_cells e0 0
  have c01 := vblk_cells e0 1
  have c10 := vblk_cells e1 0
  have c20 := vblk_cells e2 0
  have c21 := vblk_cells e2 1
  have c11' := vblk_cells (heap_setCell_same _ _ 0 _ _ (.slice none 0 0) e1) 1
  simp only [List.getElem?_toArray, List.getElem?_cons_zero, List.getElem?_cons_succ] at c00 c01 c10 c20 c21
  replace c11' : (W.setCell ⟨w.heap.size + 1, 0, none⟩ (.slice none 0 0)).cell? ⟨w.heap.size + 1, 1, none⟩ = some (.slice none 0 0) := c11'
  have f0 := (Liv.of e1).froz 0
  have f1 := (Liv.of e1).froz 1
  have f1' : (W.setCell ⟨w.heap.size + 1, 0, none⟩ (.slice none 0 0)).frozen? ⟨w.heap.size + 1, 1, none⟩ = false := (Liv.of (heap_setCell_same _ _ 0 _ _ (.slice none 0 0) e1)).froz 1
  have h2 := lset2 e1 (.slice none 0 0) (.slice none 0 0)
  obtain ⟨WF, hWF⟩ : ∃ WF, WF = (W.setCell ⟨w.heap.size + 1, 0, none⟩ (.slice none 0 0)).setCell ⟨w.heap.size + 1, 1, none⟩ (.slice none 0 0) := ⟨_, rfl⟩
  rw [← hWF] at h2
  have HR : Hid (Only (fun _ => False) w WF ∧ WF.heap[w.heap.size + 1]? = some (.cells #[.slice none 0 0, .slice none 0 0] 33)) := ⟨oW.trans (by rw [hWF]; exact lonly2 _ _) (fun k hk e => by omega), h2⟩
  clear oW e0 e1 e2 h2
  go_enter Tryz.func15, Tryz.ntmps15
  go_wp2
  rw [← hW']
  clear hW hW'
  go_loopw [14] (fun a wr => a = .int .i64 0 ∧ wr = W) (fun _ _ => 0)
  case atStart => exact ⟨rfl, rfl⟩
  case round =>
    obtain ⟨rfl, hwr⟩ := hrel
    rw [hwr]
    clear hwr
    go_wp2
    go_loopw [33] (fun a wr => a = .int .i64 0 ∧ wr = W) (fun _ _ => 0)
    case atStart => exact ⟨rfl, rfl⟩
    case round =>
      obtain ⟨rfl, hwr⟩ := hrel
      rw [hwr]
      clear hwr
      go_wp2
      rw [← hWF]
      exact bodyPost_ret (results_dict rfl _ _ (w.heap.size + 1) (vblk_cells HR.out.2 0) (vblk_cells HR.out.2 1) rfl) rfl ⟨rfl, HR.out.1⟩
end Go.Proofs.YtdkbioahhkmpoaaGreatDoor
namespace Go.Proofs.YtdkbioahhkmpoaaGreatDoor
open Go.RowKit Go.Lib
set_option linter.unusedSimpArgs false
set_option linter.unusedVariables false
set_option maxRecDepth 100000 in
theorem wd_info : ∃ i z, Tryz.prog.info? 29 = some i ∧ i.zero = some z ∧ i.size = 5 ∧ i.bytes = 72 ∧ z.cells.size = 5 := ⟨_, _, rfl, rfl, rfl, rfl, rfl⟩
/-- a word's cells -/
def wdC (vn dn : ByteArray) (i j : Int) (a : Option Addr) (n c : Nat) : List Value := [.string vn, .string dn, .int .i64 i, .int .i64 j, .slice a n c]
theorem app_word1 (w : World) (vn dn : ByteArray) (i j : Int) (a : Option Addr) (n c : Nat) : ∃ g cap w', (∀ ty, (Builtin.append_ #[30, 30] ty #[.slice none 0 0, .slice (some ⟨w.heap.size, 0, none⟩) 1 1]).run Tryz.prog (w.alloc (.cells #[.string vn, .string dn, .int .i64 i, .int .i64 j, .slice a n c] 29)) = .ok (.slice (some ⟨g, 0, none⟩) 1 cap) w') ∧ (∀ k u, (wdC vn dn i j a n c)[k]? = some u → w'.cell? ⟨g, k, none⟩ = some u) ∧ Only (fun _ => False) w w' ∧ w.heap.size ≤ g := by
  obtain ⟨i0, z0, hi, hz0, hz1, hz2, hz3⟩ := wd_info
  obtain ⟨W, hW⟩ : ∃ W, W = w.alloc (.cells #[.string vn, .string dn, .int .i64 i, .int .i64 j, .slice a n c] 29) := ⟨_, rfl⟩
  have oo : Only (fun _ => False) w W := by rw [hW]; exact (Only.refl _ w).alloc _
  have hblk : W.heap[w.heap.size]? = some (.cells #[.string vn, .string dn, .int .i64 i, .int .i64 j, .slice a n c] 29) := by rw [hW]; exact valloc_at _ _ _ rfl
  have key := fun ty => run_append_own_at (P := Tryz.prog) W w.heap.size 30 ty 29 i0 z0 5 72 Tryz.underlying30 hi hz0 hz1 hz2 hz3 (by omega) (.slice none 0 0) 0 [] (World.ownsRow_nil _ _ _ _) ⟨w.heap.size, 0, none⟩ 1 1 (wdC vn dn i j a n c) rfl (by
      intro k u hk
      rw [addr_ad, vblk_cells hblk]
      simpa [wdC] using hk) (fun u hu => by
      simp only [wdC, List.mem_cons, List.not_mem_nil, or_false] at hu
      rcases hu with rfl | rfl | rfl | rfl | rfl <;> rfl) (by unfold maxLen; omega) (by omega) (by have := oo.size; omega)
  obtain ⟨v', w', hr, own', hg, _, hat⟩ := key 0
  rcases own'.2 with ⟨_, h0⟩ | ⟨g, cap, cur, rfl, hB, rest⟩
  · omega
  · refine ⟨g, cap, w', fun ty => by rw [← hW, ← hr]; rfl, fun k u hk => ?_, oo.trans ((Only.refl (fun _ => False) W).grown hg (fun k e _ => by cases e)) (fun _ _ g => g), hB⟩
    have := own'.cells (g := g) rfl k u (by simpa using hk)
    rwa [addr_ad] at this
set_option maxRecDepth 100000 in
set_option maxHeartbeats 2000000 in
theorem dcopied_one (w : World) (hT : Tb w) (vn dn : ByteArray) (i j : Int) (g : Nat) (hg : w.heap[g]? = some (.cells #[.string vn, .string dn, .int .i64 i, .int .i64 j, .slice none 0 0] 29)) : Calls Tryz.prog 15 #[.agg #[.slice none 0 0, .slice (some ⟨g, 0, none⟩) 1 1]] w fun e w' => ∃ g' cap ao cp, e = .returned (.tuple #[.agg #[.slice none 0 0, .slice (some ⟨g', 0, none⟩) 1 cap], .bool true]) ∧ Hid ((∀ k u, (wdC vn dn i j ao 0 cp)[k]? = some u → w'.cell? ⟨g', k, none⟩ = some u) ∧ Only (fun _ => False) w w') := by
  obtain ⟨W, hW⟩ : ∃ W, Ld3 w (.slice none 0 0) (.slice (some ⟨g, 0, none⟩) 1 1) W := ⟨_, rfl⟩
  obtain ⟨oW, sW, e0, e1, e2⟩ := hW.facts
  have hW' : W = _ := hW
  have c00 := vblk_cells e0 0
  have c01 := vblk_cells e0 1
  simp only [List.getElem?_toArray, List.getElem?_cons_zero, List.getElem?_cons_succ] at c00 c01
  have hgW := oW.kat hg
  have g0 := vblk_cells hgW 0
  have g1 := vblk_cells hgW 1
  have g2 := vblk_cells hgW 2
  have g3 := vblk_cells hgW 3
  have g4 := vblk_cells hgW 4
  simp only [List.getElem?_toArray, List.getElem?_cons_zero, List.getElem?_cons_succ] at g0 g1 g2 g3 g4
  have HB : Hid (∀ w1, Only (fun _ => False) w w1 → Calls Tryz.prog 22 #[.slice none 0 0] w1 fun e w' => ∃ ao cap, e = .returned (.tuple #[.slice ao 0 cap, .bool true]) ∧ Only (fun _ => False) w1 w') := fun w1 o1 => dbody_nil w1 (hT.frame o1)
  have HO : Hid (Only (fun _ => False) w W ∧ W.heap[w.heap.size + 1]? = some (.cells #[.slice none 0 0, .slice none 0 0] 33) ∧ W.heap[w.heap.size + 2]? = some (.cells #[.slice none 0 0, .slice none 0 0] 33) ∧ W.heap.size = w.heap.size + 3) := ⟨oW, e1, e2, sW⟩
  clear hT hg hgW oW e0 e1 e2 sW
  go_enter Tryz.func15, Tryz.ntmps15
  go_wp2
  rw [← hW']
  clear hW hW'
  go_loopw [14] (fun a wr => a = .int .i64 0 ∧ wr = W) (fun _ _ => 0)
  case atStart => exact ⟨rfl, rfl⟩
  case round =>
    obtain ⟨rfl, hwr⟩ := hrel
    rw [hwr]
    clear hwr
    go_wp2
    go_loopw [33] (fun a wr => (a = .int .i64 0 ∧ wr = W) ∨ a = .int .i64 1 ∧ Hid (∃ g' cap ao cp, wr.heap[w.heap.size + 1]? = some (.cells #[.slice none 0 0, .slice none 0 0] 33) ∧ wr.heap[w.heap.size + 2]? = some (.cells #[.slice none 0 0, .slice (some ⟨g', 0, none⟩) 1 cap] 33) ∧ (∀ k u, (wdC vn dn i j ao 0 cp)[k]? = some u → wr.cell? ⟨g', k, none⟩ = some u) ∧ w.heap.size + 2 < g' ∧ Only (fun _ => False) w wr)) (fun a _ => 1 - vuOf a)
    case atStart => exact .inl ⟨rfl, rfl⟩
    case round =>
      rcases hrel with ⟨rfl, hwr⟩ | ⟨rfl, HE⟩
      · rw [hwr]
        clear hwr
        obtain ⟨V, hV⟩ : ∃ V, V = W.alloc (.cells #[.string vn, .string dn, .int .i64 i, .int .i64 j, .slice none 0 0] 29) := ⟨_, rfl⟩
        have oV : Only (fun _ => False) W V := by rw [hV]; exact (Only.refl _ _).alloc _
        have hv0 : V.heap[W.heap.size]? = some (.cells #[.string vn, .string dn, .int .i64 i, .int .i64 j, .slice none 0 0] 29) := by rw [hV]; exact valloc_at _ _ _ rfl
        have hv4 := vblk_cells hv0 4
        simp only [List.getElem?_toArray, List.getElem?_cons_zero, List.getElem?_cons_succ] at hv4
        have HC : Hid _ := HB.out V (HO.out.1.trans oV (fun _ _ g => g))
        have HV : Hid (Only (fun _ => False) W V ∧ V.heap[W.heap.size]? = some (.cells #[.string vn, .string dn, .int .i64 i, .int .i64 j, .slice none 0 0] 29)) := ⟨oV, hv0⟩
        clear oV hv0 HB
        go_wp2_with fail
        rw [← hV]
        clear hV
        refine (show Calls Tryz.prog 22 _ _ _ from HC.out).mono ?_
        rintro e w3 ⟨ao, cp, rfl, o3⟩
        obtain ⟨oV, hv0⟩ := HV.out
        obtain ⟨oW, e1, e2, sW⟩ := HO.out
        have h30 := o3.kat hv0
        have h32 := o3.kat (oV.kat e2)
        have f34 := (Liv.of h30).froz 4
        have h34 := vblk_cells h30 4
        obtain ⟨X, hX⟩ : ∃ X, X = w3.setCell ⟨W.heap.size, 4, none⟩ (.slice ao 0 cp) := ⟨_, rfl⟩
        have hX0 : X.heap[W.heap.size]? = some (.cells #[.string vn, .string dn, .int .i64 i, .int .i64 j, .slice ao 0 cp] 29) := by rw [hX]; exact heap_setCell_same _ _ 4 _ _ _ h30
        have oX : Only (fun b => b = W.heap.size) w3 X := by rw [hX]; exact (Only.refl (fun b => b = W.heap.size) _).setCell ⟨_, 4, none⟩ _ (fun _ => rfl)
        have hX2 : X.heap[w.heap.size + 2]? = some (.cells #[.slice none 0 0, .slice none 0 0] 33) := (oX.block _ (Array.getElem?_eq_some_iff.1 h32).1 (by omega)).trans h32
        have hX1 : X.heap[w.heap.size + 1]? = some (.cells #[.slice none 0 0, .slice none 0 0] 33) := by
          have h31 := o3.kat (oV.kat e1)
          exact (oX.block _ (Array.getElem?_eq_some_iff.1 h31).1 (by omega)).trans h31
        have oWX : Only (fun _ => False) W X := (oV.trans o3 (fun _ _ g => g)).trans oX (fun k hk e => by omega)
        have x0 := vblk_cells h30 0
        have x1 := vblk_cells h30 1
        have x2 := vblk_cells h30 2
        have x3 := vblk_cells h30 3
        have x21 := vblk_cells h32 1
        simp only [List.getElem?_toArray, List.getElem?_cons_zero, List.getElem?_cons_succ] at x0 x1 x2 x3 x21 h34
        replace x21 : w3.cell? ⟨w.heap.size + 1 + 1, 1, none⟩ = some (.slice none 0 0) := x21
        have hXs : X.heap.size = w3.heap.size := by rw [hX]; simp
        obtain ⟨g', cap, Y, hr, hc, oY, hg'⟩ := app_word1 X vn dn i j ao 0 cp
        have y1 := oY.kat hX1
        have y2 := oY.kat hX2
        have fy := (Liv.of y2).froz 1
        have hy := heap_setCell_same _ _ 1 _ _ (.slice (some ⟨g', 0, none⟩) 1 cap) y2
        have cy := vblk_cells y2 1
        simp only [List.getElem?_toArray, List.getElem?_cons_zero, List.getElem?_cons_succ] at cy
        have HR : Hid (∀ Z, Z = Y.setCell ⟨w.heap.size + 2, 1, none⟩ (.slice (some ⟨g', 0, none⟩) 1 cap) → ∃ g' cap ao cp, Z.heap[w.heap.size + 1]? = some (.cells #[.slice none 0 0, .slice none 0 0] 33) ∧ Z.heap[w.heap.size + 2]? = some (.cells #[.slice none 0 0, .slice (some ⟨g', 0, none⟩) 1 cap] 33) ∧ (∀ k u, (wdC vn dn i j ao 0 cp)[k]? = some u → Z.cell? ⟨g', k, none⟩ = some u) ∧ w.heap.size + 2 < g' ∧ Only (fun _ => False) w Z) := fun Z hZ => by
          subst hZ
          have sX := oWX.size
          have oZ : Only (fun b => b = w.heap.size + 2) Y (Y.setCell ⟨w.heap.size + 2, 1, none⟩ (.slice (some ⟨g', 0, none⟩) 1 cap)) := (Only.refl (fun b => b = w.heap.size + 2) _).setCell ⟨_, 1, none⟩ _ (fun _ => rfl)
          exact ⟨g', cap, ao, cp, (oZ.block _ (Array.getElem?_eq_some_iff.1 y1).1 (by omega)).trans y1, hy, fun k u hk => oZ.cell (hc k u hk) (fun e => by simp only at e; omega), by omega, ((oW.trans oWX (fun _ _ g => g)).trans oY (fun _ _ g => g)).trans oZ (fun k hk e => by omega)⟩
        rw [hXs, hX] at hr
        have HAP : Hid _ := hr
        replace cy : Y.cell? ⟨w.heap.size + 1 + 1, 1, none⟩ = some (.slice none 0 0) := cy
        replace fy : Y.frozen? ⟨w.heap.size + 1 + 1, 1, none⟩ = false := fy
        clear hX hXs oV hv0 oW e1 e2 sW h30 h32 hX0 oX hX1 hX2 oWX hr hc oY hg' y1 y2 hy HC HV HO o3
        go_wp2_with (at_builtin; refine vwpList_append_run rfl _ _ 30 rfl _ _ _ rfl rfl HAP.out ?_)
        clear HAP
        go_roundw
        case rel => exact .inr ⟨rfl, HR.out _ rfl⟩
        case measure => decide
      · obtain ⟨w1, hw1⟩ : ∃ x, x = wr := ⟨_, rfl⟩
        rw [← hw1] at HE ⊢
        clear hw1
        obtain ⟨g', cap, ao, cp, e1, e2, hc, hg', o⟩ := HE.out
        have c10 := vblk_cells e1 0
        have c20 := vblk_cells e2 0
        have c21 := vblk_cells e2 1
        have c11' := vblk_cells (heap_setCell_same _ _ 0 _ _ (.slice none 0 0) e1) 1
        simp only [List.getElem?_toArray, List.getElem?_cons_zero, List.getElem?_cons_succ] at c10 c20 c21
        replace c11' : (w1.setCell ⟨w.heap.size + 1, 0, none⟩ (.slice none 0 0)).cell? ⟨w.heap.size + 1, 1, none⟩ = some (.slice none 0 0) := c11'
        have f0 := (Liv.of e1).froz 0
        have f1' : (w1.setCell ⟨w.heap.size + 1, 0, none⟩ (.slice none 0 0)).frozen? ⟨w.heap.size + 1, 1, none⟩ = false := (Liv.of (heap_setCell_same _ _ 0 _ _ (.slice none 0 0) e1)).froz 1
        have h2 := lset2 e1 (.slice none 0 0) (.slice (some ⟨g', 0, none⟩) 1 cap)
        obtain ⟨WF, hWF⟩ : ∃ WF, WF = (w1.setCell ⟨w.heap.size + 1, 0, none⟩ (.slice none 0 0)).setCell ⟨w.heap.size + 1, 1, none⟩ (.slice (some ⟨g', 0, none⟩) 1 cap) := ⟨_, rfl⟩
        rw [← hWF] at h2
        have oF : Only (fun b => b = w.heap.size + 1) w1 WF := by rw [hWF]; exact lonly2 _ _
        have HR : Hid ((∀ k u, (wdC vn dn i j ao 0 cp)[k]? = some u → WF.cell? ⟨g', k, none⟩ = some u) ∧ Only (fun _ => False) w WF ∧ WF.heap[w.heap.size + 1]? = some (.cells #[.slice none 0 0, .slice (some ⟨g', 0, none⟩) 1 cap] 33)) := ⟨fun k u hk => oF.cell (hc k u hk) (fun e => by simp only at e; omega), o.trans oF (fun k hk e => by omega), h2⟩
        clear e1 e2 hc hg' o h2 oF HE HB HO
        go_wp2
        rw [← hWF]
        exact bodyPost_ret (results_dict rfl _ _ (w.heap.size + 1) (vblk_cells HR.out.2.2 0) (vblk_cells HR.out.2.2 1) rfl) rfl ⟨g', cap, ao, cp, rfl, HR.out.1, HR.out.2.1⟩
end Go.Proofs.YtdkbioahhkmpoaaGreatDoor
namespace Go.Proofs.YtdkbioahhkmpoaaGreatDoor
open Go.RowKit Go.Lib
set_option linter.unusedSimpArgs false
set_option linter.unusedVariables false
set_option maxRecDepth 100000 in
theorem dwords_none (w : World) : Calls Tryz.prog 24 #[.agg #[.slice none 0 0, .slice none 0 0]] w fun e w' => e = .returned (.bool true) ∧ Only (fun _ => False) w w' := by
  obtain ⟨W, hW⟩ : ∃ W, W = w.alloc (.cells #[.slice none 0 0, .slice none 0 0] 33) := ⟨_, rfl⟩
  have oW : Only (fun _ => False) w W := by rw [hW]; exact (Only.refl _ _).alloc _
  have e0 : W.cell? ⟨w.heap.size, 0, none⟩ = some (.slice none 0 0) := by rw [hW]; exact (vblk_cells (valloc_at _ _ _ rfl) 0).trans rfl
  have e1 : W.cell? ⟨w.heap.size, 1, none⟩ = some (.slice none 0 0) := by rw [hW]; exact (vblk_cells (valloc_at _ _ _ rfl) 1).trans rfl
  have OW : Hid (Only (fun _ => False) w W) := oW
  clear oW
  go_enter Tryz.func24, Tryz.ntmps24
  go_wp2
  rw [← hW]
  clear hW
  go_loopw [13] (fun a wr => a = .int .i64 0 ∧ wr = W) (fun _ _ => 0)
  case atStart => exact ⟨rfl, rfl⟩
  case round =>
    obtain ⟨rfl, hwr⟩ := hrel
    rw [hwr]
    clear hwr
    go_wp2
    go_loopw [47] (fun a wr => a = .int .i64 0 ∧ wr = W) (fun _ _ => 0)
    case atStart => exact ⟨rfl, rfl⟩
    case round =>
      obtain ⟨rfl, hwr⟩ := hrel
      rw [hwr]
      clear hwr
      go_wp2
      go_ret
      exact ⟨rfl, OW.out⟩
set_option maxRecDepth 100000 in
theorem dwords_one (w : World) (vn dn : ByteArray) (i j : Int) (a : Option Addr) (n c g cap : Nat) (hc : ∀ k u, (wdC vn dn i j a n c)[k]? = some u → w.cell? ⟨g, k, none⟩ = some u) : Calls Tryz.prog 24 #[.agg #[.slice none 0 0, .slice (some ⟨g, 0, none⟩) 1 cap]] w fun e w' => e = .returned (.bool false) ∧ Only (fun _ => False) w w' := by
  obtain ⟨W, hW⟩ : ∃ W, W = w.alloc (.cells #[.slice none 0 0, .slice (some ⟨g, 0, none⟩) 1 cap] 33) := ⟨_, rfl⟩
  have oW : Only (fun _ => False) w W := by rw [hW]; exact (Only.refl _ _).alloc _
  have e0 : W.cell? ⟨w.heap.size, 0, none⟩ = some (.slice none 0 0) := by rw [hW]; exact (vblk_cells (valloc_at _ _ _ rfl) 0).trans rfl
  have e1 : W.cell? ⟨w.heap.size, 1, none⟩ = some (.slice (some ⟨g, 0, none⟩) 1 cap) := by rw [hW]; exact (vblk_cells (valloc_at _ _ _ rfl) 1).trans rfl
  have g0 := oW.cell (hc 0 _ rfl) (fun g => g)
  have g1 := oW.cell (hc 1 _ rfl) (fun g => g)
  have g2 := oW.cell (hc 2 _ rfl) (fun g => g)
  have g3 := oW.cell (hc 3 _ rfl) (fun g => g)
  have g4 := oW.cell (hc 4 _ rfl) (fun g => g)
  obtain ⟨V, hV⟩ : ∃ V, V = W.alloc (.cells #[.string vn, .string dn, .int .i64 i, .int .i64 j, .slice a n c] 29) := ⟨_, rfl⟩
  have oV : Only (fun _ => False) W V := by rw [hV]; exact (Only.refl _ _).alloc _
  have hv0 : V.heap[W.heap.size]? = some (.cells #[.string vn, .string dn, .int .i64 i, .int .i64 j, .slice a n c] 29) := by rw [hV]; exact valloc_at _ _ _ rfl
  have v0 := vblk_cells hv0 0
  have v1 := vblk_cells hv0 1
  simp only [List.getElem?_toArray, List.getElem?_cons_zero, List.getElem?_cons_succ] at v0 v1
  have d0 := oV.cell e0 (fun g => g)
  have d1 := oV.cell e1 (fun g => g)
  have OV : Hid (Only (fun _ => False) w V) := oW.trans oV (fun _ _ g => g)
  have HP : Hid (∀ w1, Calls Tryz.prog 26 #[.agg #[.slice none 0 0, .slice (some ⟨g, 0, none⟩) 1 cap], .string vn] w1 fun e w' => e = .returned (.tuple #[.int .i64 0, .bool false]) ∧ Only (fun _ => False) w1 w') := fun w1 => dplace_none vn _ _ _ w1
  clear oW oV hv0 hc
  rw [hV] at d0 d1 v0 v1
  go_enter Tryz.func24, Tryz.ntmps24
  go_wp2
  rw [← hW]
  clear hW
  go_loopw [13] (fun a wr => a = .int .i64 0 ∧ wr = W) (fun _ _ => 0)
  case atStart => exact ⟨rfl, rfl⟩
  case round =>
    obtain ⟨rfl, hwr⟩ := hrel
    rw [hwr]
    clear hwr
    go_wp2_with fail
    rw [← hV]
    clear hV d0 d1 v0 v1
    refine (show Calls Tryz.prog 26 _ _ _ from HP.out _).mono ?_
    rintro e w1 ⟨rfl, o1⟩
    have O1 : Hid (Only (fun _ => False) w w1) := OV.out.trans o1 (fun _ _ g => g)
    clear HP OV o1
    go_wp2
    go_ret
    exact ⟨rfl, O1.out⟩
/-- what copyOf answers of the empty dictionary -/
def EdP (w : World) (e : Ending) (w' : World) : Prop := e = .returned (.tuple #[.agg #[.slice none 0 0, .slice none 0 0], .int .i64 0]) ∧ Hid (Only (fun _ => False) w w')
set_option maxRecDepth 100000 in
theorem dcopyOf_none (w : World) : Calls Tryz.prog 16 #[.agg #[.slice none 0 0, .slice none 0 0]] w (EdP w) := by
  have HC : Hid (∀ w1, Calls Tryz.prog 15 #[.agg #[.slice none 0 0, .slice none 0 0]] w1 fun e w' => e = .returned (.tuple #[.agg #[.slice none 0 0, .slice none 0 0], .bool true]) ∧ Only (fun _ => False) w1 w') := dcopied_none
  have HV : Hid (∀ w1, Calls Tryz.prog 23 #[.agg #[.slice none 0 0, .slice none 0 0]] w1 fun e w' => e = .returned (.bool true) ∧ Only (fun _ => False) w1 w') := dvocabs_none none 0 0
  have HW : Hid (∀ w1, Calls Tryz.prog 24 #[.agg #[.slice none 0 0, .slice none 0 0]] w1 fun e w' => e = .returned (.bool true) ∧ Only (fun _ => False) w1 w') := dwords_none
  obtain ⟨B, hB⟩ : ∃ B, B = w.heap.size := ⟨_, rfl⟩
  obtain ⟨W, hW⟩ : ∃ W, W = (w.alloc (.cells #[.slice none 0 0, .slice none 0 0] 33)).alloc (.cells #[.slice none 0 0, .slice none 0 0] 33) := ⟨_, rfl⟩
  have oW : Only (fun _ => False) w W := by rw [hW]; exact ((Only.refl _ _).alloc _).alloc _
  have b0 : W.heap[B]? = some (.cells #[.slice none 0 0, .slice none 0 0] 33) := by rw [hW]; exact valloc_old (valloc_at _ _ _ hB)
  have b1 : W.heap[B + 1]? = some (.cells #[.slice none 0 0, .slice none 0 0] 33) := by rw [hW]; exact valloc_at _ _ _ (by simp [hB])
  have e0 := vblk_cells b0 0
  have e1 := vblk_cells b0 1
  simp only [List.getElem?_toArray, List.getElem?_cons_zero, List.getElem?_cons_succ] at e0 e1
  have OW : Hid (Only (fun _ => False) w W ∧ W.heap[B + 1]? = some (.cells #[.slice none 0 0, .slice none 0 0] 33) ∧ B + 2 = W.heap.size ∧ w.heap.size = B) := ⟨oW, b1, by rw [hW, hB]; simp, hB.symm⟩
  clear oW b0 b1
  go_enter Tryz.func16, Tryz.ntmps16
  go_wp2_with fail
  rw [← hW, ← hB]
  clear hW hB
  refine (show Calls Tryz.prog 15 _ _ _ from HC.out _).mono ?_
  rintro e w1 ⟨rfl, o1⟩
  obtain ⟨oW, b1, hBs, hwB⟩ := OW.out
  obtain ⟨C, hC⟩ : ∃ C, C = w1.heap.size := ⟨_, rfl⟩
  obtain ⟨V, hV⟩ : ∃ V, V = w1.alloc (.cells #[.slice none 0 0, .slice none 0 0] 33) := ⟨_, rfl⟩
  have oV : Only (fun _ => False) w1 V := by rw [hV]; exact (Only.refl _ _).alloc _
  have v0 : V.heap[C]? = some (.cells #[.slice none 0 0, .slice none 0 0] 33) := by rw [hV]; exact valloc_at _ _ _ hC
  have v1 := oV.kat (o1.kat b1)
  have HS : Hid (∀ w2, Only (fun _ => False) V w2 → Only (fun _ => False) w w2 ∧ w2.heap[C]? = some (.cells #[.slice none 0 0, .slice none 0 0] 33) ∧ w2.heap[B + 1]? = some (.cells #[.slice none 0 0, .slice none 0 0] 33) ∧ w.heap.size = B) := fun w2 o2 => ⟨((oW.trans o1 (fun _ _ g => g)).trans oV (fun _ _ g => g)).trans o2 (fun _ _ g => g), o2.kat v0, o2.kat v1, hwB⟩
  have x0 := vblk_cells v0 0
  have x1 := vblk_cells v0 1
  simp only [List.getElem?_toArray, List.getElem?_cons_zero, List.getElem?_cons_succ] at x0 x1
  have HE : Hid (∀ w2, Only (fun _ => False) V w2 → w2.cell? ⟨C, 0, none⟩ = some (.slice none 0 0) ∧ w2.cell? ⟨C, 1, none⟩ = some (.slice none 0 0)) := fun w2 o2 => ⟨o2.cell x0 (fun g => g), o2.cell x1 (fun g => g)⟩
  clear o1 oW b1 hBs hwB oV v0 v1 OW HC e0 e1
  go_wp2_with fail
  rw [← hV, ← hC]
  clear hV hC
  refine (show Calls Tryz.prog 23 _ _ _ from HV.out _).mono ?_
  rintro e w2 ⟨rfl, o2⟩
  obtain ⟨y0, y1⟩ := HE.out w2 o2
  have O2 : Hid (Only (fun _ => False) V w2) := o2
  clear o2 x0 x1 HV
  go_wp2_with fail
  refine (show Calls Tryz.prog 24 _ _ _ from HW.out _).mono ?_
  rintro e w3 ⟨rfl, o3⟩
  have o23 := O2.out.trans o3 (fun _ _ g => g)
  obtain ⟨z0, z1⟩ := HE.out w3 o23
  obtain ⟨oo, hC3, hB3, hwB⟩ := HS.out w3 o23
  have c10 := vblk_cells hB3 0
  have c11' := vblk_cells (heap_setCell_same _ _ 0 _ _ (.slice none 0 0) hB3) 1
  simp only [List.getElem?_toArray, List.getElem?_cons_zero, List.getElem?_cons_succ] at c10
  replace c11' : (w3.setCell ⟨B + 1, 0, none⟩ (.slice none 0 0)).cell? ⟨B + 1, 1, none⟩ = some (.slice none 0 0) := c11'
  have f0 := (Liv.of hB3).froz 0
  have f1' : (w3.setCell ⟨B + 1, 0, none⟩ (.slice none 0 0)).frozen? ⟨B + 1, 1, none⟩ = false := (Liv.of (heap_setCell_same _ _ 0 _ _ (.slice none 0 0) hB3)).froz 1
  have h2 := lset2 hB3 (.slice none 0 0) (.slice none 0 0)
  obtain ⟨WF, hWF⟩ : ∃ WF, WF = (w3.setCell ⟨B + 1, 0, none⟩ (.slice none 0 0)).setCell ⟨B + 1, 1, none⟩ (.slice none 0 0) := ⟨_, rfl⟩
  rw [← hWF] at h2
  have oF : Only (fun b => b = B + 1) w3 WF := by rw [hWF]; exact lonly2 _ _
  have HR : Hid (Only (fun _ => False) w WF ∧ WF.heap[B + 1]? = some (.cells #[.slice none 0 0, .slice none 0 0] 33)) := ⟨oo.trans oF (fun k hk e => by omega), h2⟩
  clear o3 o23 oo hC3 hB3 hwB h2 oF HS HE O2 y0 y1 HW
  go_wp2
  rw [← hWF]
  exact bodyPost_ret (results_dict rfl _ _ (B + 1) (vblk_cells HR.out.2 0) (vblk_cells HR.out.2 1) rfl) rfl ⟨rfl, HR.out.1⟩
end Go.Proofs.YtdkbioahhkmpoaaGreatDoor
namespace Go.Proofs.YtdkbioahhkmpoaaGreatDoor
open Go.RowKit Go.Lib
set_option linter.unusedSimpArgs false
set_option linter.unusedVariables false
/-- what copyOf answers of a dictionary that is not sound -/
def BdP (w : World) (e : Ending) (w' : World) : Prop := e = .returned (.tuple #[.agg #[.slice none 0 0, .slice none 0 0], .int .i64 1]) ∧ Hid (Only (fun _ => False) w w')
set_option maxRecDepth 100000 in
theorem dcopyOf_one (w : World) (hT : Tb w) (vn dn : ByteArray) (i j : Int) (g : Nat) (hg : w.heap[g]? = some (.cells #[.string vn, .string dn, .int .i64 i, .int .i64 j, .slice none 0 0] 29)) : Calls Tryz.prog 16 #[.agg #[.slice none 0 0, .slice (some ⟨g, 0, none⟩) 1 1]] w (BdP w) := by
  have HC : Hid (∀ w1, Only (fun _ => False) w w1 → Calls Tryz.prog 15 #[.agg #[.slice none 0 0, .slice (some ⟨g, 0, none⟩) 1 1]] w1 fun e w' => ∃ g' cap ao cp, e = .returned (.tuple #[.agg #[.slice none 0 0, .slice (some ⟨g', 0, none⟩) 1 cap], .bool true]) ∧ Hid ((∀ k u, (wdC vn dn i j ao 0 cp)[k]? = some u → w'.cell? ⟨g', k, none⟩ = some u) ∧ Only (fun _ => False) w1 w')) := fun w1 o1 => dcopied_one w1 (hT.frame o1) vn dn i j g (o1.kat hg)
  have HV : Hid (∀ g' cap w1, Calls Tryz.prog 23 #[.agg #[.slice none 0 0, .slice (some ⟨g', 0, none⟩) 1 cap]] w1 fun e w' => e = .returned (.bool true) ∧ Only (fun _ => False) w1 w') := fun g' cap w1 => dvocabs_none (some ⟨g', 0, none⟩) 1 cap w1
  have HW : Hid (∀ g' cap ao cp w1, (∀ k u, (wdC vn dn i j ao 0 cp)[k]? = some u → w1.cell? ⟨g', k, none⟩ = some u) → Calls Tryz.prog 24 #[.agg #[.slice none 0 0, .slice (some ⟨g', 0, none⟩) 1 cap]] w1 fun e w' => e = .returned (.bool false) ∧ Only (fun _ => False) w1 w') := fun g' cap ao cp w1 h => dwords_one w1 vn dn i j ao 0 cp g' cap h
  obtain ⟨B, hB⟩ : ∃ B, B = w.heap.size := ⟨_, rfl⟩
  obtain ⟨W, hW⟩ : ∃ W, W = (w.alloc (.cells #[.slice none 0 0, .slice (some ⟨g, 0, none⟩) 1 1] 33)).alloc (.cells #[.slice none 0 0, .slice none 0 0] 33) := ⟨_, rfl⟩
  have oW : Only (fun _ => False) w W := by rw [hW]; exact ((Only.refl _ _).alloc _).alloc _
  have b0 : W.heap[B]? = some (.cells #[.slice none 0 0, .slice (some ⟨g, 0, none⟩) 1 1] 33) := by rw [hW]; exact valloc_old (valloc_at _ _ _ hB)
  have b1 : W.heap[B + 1]? = some (.cells #[.slice none 0 0, .slice none 0 0] 33) := by rw [hW]; exact valloc_at _ _ _ (by simp [hB])
  have e0 := vblk_cells b0 0
  have e1 := vblk_cells b0 1
  simp only [List.getElem?_toArray, List.getElem?_cons_zero, List.getElem?_cons_succ] at e0 e1
  have OW : Hid (Only (fun _ => False) w W ∧ W.heap[B + 1]? = some (.cells #[.slice none 0 0, .slice none 0 0] 33) ∧ w.heap.size = B) := ⟨oW, b1, hB.symm⟩
  clear oW b0 b1 hT hg
  go_enter Tryz.func16, Tryz.ntmps16
  go_wp2_with fail
  rw [← hW, ← hB]
  clear hW hB
  refine (show Calls Tryz.prog 15 _ _ _ from HC.out _ OW.out.1).mono ?_
  rintro e w1 ⟨g', cap, ao, cp, rfl, G1⟩
  obtain ⟨oW, b1, hwB⟩ := OW.out
  have o1 := G1.out.2
  obtain ⟨C, hC⟩ : ∃ C, C = w1.heap.size := ⟨_, rfl⟩
  obtain ⟨V, hV⟩ : ∃ V, V = w1.alloc (.cells #[.slice none 0 0, .slice (some ⟨g', 0, none⟩) 1 cap] 33) := ⟨_, rfl⟩
  have oV : Only (fun _ => False) w1 V := by rw [hV]; exact (Only.refl _ _).alloc _
  have v0 : V.heap[C]? = some (.cells #[.slice none 0 0, .slice (some ⟨g', 0, none⟩) 1 cap] 33) := by rw [hV]; exact valloc_at _ _ _ hC
  have v1 := oV.kat (o1.kat b1)
  have HS : Hid (∀ w2, Only (fun _ => False) V w2 → Only (fun _ => False) w w2 ∧ w2.heap[B + 1]? = some (.cells #[.slice none 0 0, .slice none 0 0] 33) ∧ w.heap.size = B) := fun w2 o2 => ⟨((oW.trans o1 (fun _ _ g => g)).trans oV (fun _ _ g => g)).trans o2 (fun _ _ g => g), o2.kat v1, hwB⟩
  have x0 := vblk_cells v0 0
  have x1 := vblk_cells v0 1
  simp only [List.getElem?_toArray, List.getElem?_cons_zero, List.getElem?_cons_succ] at x0 x1
  have HE : Hid (∀ w2, Only (fun _ => False) V w2 → w2.cell? ⟨C, 0, none⟩ = some (.slice none 0 0) ∧ w2.cell? ⟨C, 1, none⟩ = some (.slice (some ⟨g', 0, none⟩) 1 cap) ∧ (∀ k u, (wdC vn dn i j ao 0 cp)[k]? = some u → w2.cell? ⟨g', k, none⟩ = some u)) := fun w2 o2 => ⟨o2.cell x0 (fun g => g), o2.cell x1 (fun g => g), fun k u hk => o2.cell (oV.cell (G1.out.1 k u hk) (fun g => g)) (fun g => g)⟩
  clear o1 oW b1 hwB oV v0 v1 OW HC e0 e1 G1
  go_wp2_with fail
  rw [← hV, ← hC]
  clear hV hC
  refine (show Calls Tryz.prog 23 _ _ _ from HV.out _ _ _).mono ?_
  rintro e w2 ⟨rfl, o2⟩
  obtain ⟨y0, y1, y2⟩ := HE.out w2 o2
  have HW2 : Hid _ := HW.out g' cap ao cp w2 y2
  have O2 : Hid (Only (fun _ => False) V w2) := o2
  clear o2 x0 x1 HV y2 HW
  go_wp2_with fail
  refine (show Calls Tryz.prog 24 _ _ _ from HW2.out).mono ?_
  rintro e w3 ⟨rfl, o3⟩
  have o23 := O2.out.trans o3 (fun _ _ g => g)
  obtain ⟨z0, z1, _⟩ := HE.out w3 o23
  obtain ⟨oo, hB3, hwB⟩ := HS.out w3 o23
  have c10 := vblk_cells hB3 0
  have c11' := vblk_cells (heap_setCell_same _ _ 0 _ _ (.slice none 0 0) hB3) 1
  simp only [List.getElem?_toArray, List.getElem?_cons_zero, List.getElem?_cons_succ] at c10
  replace c11' : (w3.setCell ⟨B + 1, 0, none⟩ (.slice none 0 0)).cell? ⟨B + 1, 1, none⟩ = some (.slice none 0 0) := c11'
  have f0 := (Liv.of hB3).froz 0
  have f1' : (w3.setCell ⟨B + 1, 0, none⟩ (.slice none 0 0)).frozen? ⟨B + 1, 1, none⟩ = false := (Liv.of (heap_setCell_same _ _ 0 _ _ (.slice none 0 0) hB3)).froz 1
  have h2 := lset2 hB3 (.slice none 0 0) (.slice none 0 0)
  obtain ⟨WF, hWF⟩ : ∃ WF, WF = (w3.setCell ⟨B + 1, 0, none⟩ (.slice none 0 0)).setCell ⟨B + 1, 1, none⟩ (.slice none 0 0) := ⟨_, rfl⟩
  rw [← hWF] at h2
  have oF : Only (fun b => b = B + 1) w3 WF := by rw [hWF]; exact lonly2 _ _
  have HR : Hid (Only (fun _ => False) w WF ∧ WF.heap[B + 1]? = some (.cells #[.slice none 0 0, .slice none 0 0] 33)) := ⟨oo.trans oF (fun k hk e => by omega), h2⟩
  clear o3 o23 oo hB3 hwB h2 oF HS HE O2 y0 y1 HW2
  go_wp2
  rw [← hWF]
  exact bodyPost_ret (results_dict rfl _ _ (B + 1) (vblk_cells HR.out.2 0) (vblk_cells HR.out.2 1) rfl) rfl ⟨rfl, HR.out.1⟩
set_option maxRecDepth 100000 in
theorem dcheck_none (w : World) : Calls Tryz.prog 14 #[.agg #[.slice none 0 0, .slice none 0 0]] w fun e w' => e = .returned (.int .i64 0) ∧ Hid (Only (fun _ => False) w w') := by
  have H : Hid (∀ w1, Calls Tryz.prog 16 #[.agg #[.slice none 0 0, .slice none 0 0]] w1 (EdP w1)) := dcopyOf_none
  have O : Hid (Only (fun _ => False) w w) := Only.refl _ _
  go_enter Tryz.func14, Tryz.ntmps14
  go_wp2_with fail
  refine (show Calls Tryz.prog 16 _ _ _ from H.out _).mono ?_
  rintro e w1 ⟨rfl, o1⟩
  have O1 : Hid (Only (fun _ => False) w w1) := by
    refine Only.trans ?_ o1.out (fun _ _ g => g)
    repeat' first | exact O.out | apply Only.alloc
  clear H o1 O
  go_wp2
  go_ret
  exact ⟨rfl, O1.out.alloc _⟩
set_option maxRecDepth 100000 in
theorem dcheck_one (w : World) (hT : Tb w) (vn dn : ByteArray) (i j : Int) (g : Nat) (hg : w.heap[g]? = some (.cells #[.string vn, .string dn, .int .i64 i, .int .i64 j, .slice none 0 0] 29)) : Calls Tryz.prog 14 #[.agg #[.slice none 0 0, .slice (some ⟨g, 0, none⟩) 1 1]] w fun e w' => e = .returned (.int .i64 1) ∧ Hid (Only (fun _ => False) w w') := by
  have H : Hid (∀ w1, Only (fun _ => False) w w1 → Calls Tryz.prog 16 #[.agg #[.slice none 0 0, .slice (some ⟨g, 0, none⟩) 1 1]] w1 (BdP w1)) := fun w1 o1 => dcopyOf_one w1 (hT.frame o1) vn dn i j g (o1.kat hg)
  have O : Hid (Only (fun _ => False) w w) := Only.refl _ _
  clear hT hg
  go_enter Tryz.func14, Tryz.ntmps14
  go_wp2_with fail
  refine (show Calls Tryz.prog 16 _ _ _ from H.out _ (by repeat' first | exact O.out | apply Only.alloc)).mono ?_
  rintro e w1 ⟨rfl, o1⟩
  have O1 : Hid (Only (fun _ => False) w w1) := by
    refine Only.trans ?_ o1.out (fun _ _ g => g)
    repeat' first | exact O.out | apply Only.alloc
  clear H o1 O
  go_wp2
  go_ret
  exact ⟨rfl, O1.out.alloc _⟩
end Go.Proofs.YtdkbioahhkmpoaaGreatDoor
namespace Go.Proofs
open Go.Shelf
def Tryz.growD_ren : Go.Shelf.Ren := ⟨fun | 4 => 20 | n => n, fun | 22 => 34 | 25 => 33 | 3 => 3 | 4 => 4 | 9 => 9 | 20 => 20 | 0 => 0 | n => n, fun | n => n⟩
theorem Tryz.growD : Go.Proofs.Lays8.n4 Tryz.prog Tryz.growD_ren := {
  mixed := by kernel_rfl
  f4 := ⟨Tryz.f20.name, by decide, Tryz.func20.trans (congrArg some (by kernel_rfl))⟩
  t0 := Tryz.underlying0
  a0 := Tryz.isAgg0
  z0 := Tryz.sizeOf0
  v0 := Tryz.zeroValue0
  t3 := Tryz.underlying3
  a3 := Tryz.isAgg3
  z3 := Tryz.sizeOf3
  v3 := Tryz.zeroValue3
  t4 := Tryz.underlying4
  a4 := Tryz.isAgg4
  z4 := Tryz.sizeOf4
  v4 := Tryz.zeroValue4
  t9 := Tryz.underlying9
  a9 := Tryz.isAgg9
  z9 := Tryz.sizeOf9
  v9 := Tryz.zeroValue9
  t20 := Tryz.underlying20
  a20 := Tryz.isAgg20
  z20 := Tryz.sizeOf20
  v20 := Tryz.zeroValue20
  t22 := Tryz.underlying34
  a22 := Tryz.isAgg34
  z22 := Tryz.sizeOf34
  v22 := Tryz.zeroValue34 }
end Go.Proofs
