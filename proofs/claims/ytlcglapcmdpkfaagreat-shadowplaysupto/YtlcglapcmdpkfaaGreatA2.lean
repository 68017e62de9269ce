import Derived.Test.YtlcglapcmdpkfaaGreatA1
import Derived.Test.YtlcglapcmdpkfaaGreatV3
namespace Go.Proofs.YtlcglapcmdpkfaaGreat
open Go.RowKit Go.Maps Go.Shelf
set_option linter.unusedSimpArgs false
set_option linter.unusedVariables false
attribute [local go_sem] Oper.semAt_some
theorem wpListIn_append_run {F : Fence} {n : Nat} {P : Program} {w w' : World} {ops : Array Oper} {rest : List Oper} {o : Oper} {a : Act} {Q : Exit → Act → World → Prop}
  (hg : o.guard = none) (s x : Operand) (t : TypeId) (hop : o.op = Op.call { callee := Callee.builtin Builtin.append, args := #[s, x], argTypes := #[t, t] }) (v1 v2 v' : Value) (hs : a.eval s = v1) (hx : a.eval x = v2)
  (hr : ∀ ty, (Builtin.append_ #[t, t] ty #[v1, v2]).run P w = .ok v' w') (h : wpListIn F n P ops Q rest (a.put o.dst v') w') : wpListIn F n P ops Q (o :: rest) a w := by
 refine wpListIn_plain hg fun K hK' => ?_
 unfold Oper.wpIn
 refine ⟨?_, ?_⟩
 ·simp [Oper.about, hop, resolve, Target.leads, Sem.run_pure]
 ·rw [Oper.semAt_plain F _ _ (by rw [hop]; intro c hc'; cases hc')]
  simp [execOp, hop, resolve, invoke, builtin, hs, hx, hr, Result.andThen]
  exact hK' _ _ h
def PagesNew (zs : List Int) (w : World) (e : Ending) (w' : World) : Prop :=
 ∃ Bs Pb sv, e = .returned (.func (.func 118) #[] #[.pointer (some ⟨Bs, 0, none⟩)]) ∧ w'.cell? ⟨Bs, 0, none⟩ = some sv ∧ IntsIn w' Pb sv zs ∧ (w.heap.size ≤ Pb ∧ Pb < w'.heap.size) ∧ Only (fun _ => False) w w'
theorem ints_of_own2 {w : World} {B n : Nat} {a : Option Addr} {c : Nat} {zs : List Int} (h : w.ownsRow B 3 1 (.slice a n c) n (zs.map (Value.int .i64))) (hn : zs.length = n) : ∃ Pb, (B ≤ Pb ∧ Pb < w.heap.size) ∧ IntsIn w Pb (.slice a n c) zs ∨ (zs = [] ∧ a = none ∧ c = 0) := by
 rcases h.2 with ⟨h1, h2⟩ | ⟨g, cap, cur, h1, hB, hg, hcap, _, _, _⟩
 ·injection h1 with h1 h3 h4
  subst h1 h3 h4
  exact ⟨0, .inr ⟨List.eq_nil_of_length_eq_zero hn, rfl, rfl⟩⟩
 ·injection h1 with h1 h3 h4
  subst h1 h4
  refine ⟨g, .inl ⟨⟨hB, (Array.getElem?_eq_some_iff.1 hg).1⟩, .inr ⟨0, _, by rw [hn], fun j hj => ?_⟩⟩⟩
  rw [Nat.zero_add, h.cellAt j (by omega)]
  simp [List.getD, hj]
set_option maxRecDepth 100000 in
set_option maxHeartbeats 1000000 in
theorem pages_new {w : World} {dk : Nat → Prop} {s p mc mn : Nat} {tv : Value} {x : SS} (h : StAt w dk s p mc mn tv x) : Calls Tryz.prog 77 #[.pointer (some ⟨s, 0, none⟩)] w (PagesNew (x.now.map (·.1)) w) := by
 obtain ⟨N, hN⟩ : ∃ N, N = w.heap.size := ⟨_, rfl⟩
 have HN : Hid (N = w.heap.size) := hN
 have HU := usable_ok s p w h.c0
 have h6 := h.c6
 obtain ⟨sl, hm, _⟩ := h.now
 have hlen : (x.now.map fun p => (p.1, pgV sl p)).length ≤ 1000 := by
  rw [List.length_map]
  have := Rise.len (a := 0) (b := 728) h.now.rise (fun p hp => (h.wf.now p hp).1)
  simp at this
  omega
 have HK := keys_calls mn w
 have HS : Hid (Calls Tryz.prog 103 _ _ _) := (callsIn_wide (n := 6)).1 (sorted_keys mn _ w hm hlen)
 have HV : ∀ a n c w, Calls Tryz.prog 102 #[.slice a n c] w _ := fun a n c w => (callsIn_wide (n := 5)).1 (values_in 5 a n c w)
 have HKK : Hid ((x.now.map fun p => (p.1, pgV sl p)).map (·.1) = x.now.map (·.1)) := (by rw [List.map_map]; rfl : _ = _)
 clear h hm hlen hN
 go_enter Tryz.func77, Tryz.ntmps77
 go_wp2_with (first | (go_at_call 35; refine HU.mono ?_; rintro e w' ⟨rfl, rfl⟩) | (go_at_call 104; refine HK.mono ?_; rintro e w' ⟨rfl, rfl⟩))
 refine (show Calls Tryz.prog 103 _ _ _ from HS.out).mono ?_
 rintro e w2 ⟨v, rfl, hrow, ho⟩
 rw [List.length_map, HKK.out, ← HN.out] at hrow
 obtain ⟨a, c, rfl⟩ := ownsRow_slice hrow
 have H2 : Hid (w2.ownsRow N 3 1 (.slice a x.now.length c) x.now.length ((x.now.map (fun q : Int × Nat × List Nat => q.1)).map (Value.int .i64))) := hrow
 have HO : Hid (Only (fun _ => False) _ w2) := ho
 clear hrow ho HS HK HU
 go_wp2_with (go_at_call 102; refine (HV _ _ _ _).mono ?_; rintro e w3 ⟨rfl, rfl⟩)
 go_ret
 have hrow := H2.out
 have hs2 := HO.out.size
 have oA : Only (fun _ => False) w2 (w2.alloc (.cells #[.slice a x.now.length c] 76)) := (Only.refl _ w2).alloc _
 have hrow3 := oA.owns hrow (fun _ _ e => e)
 obtain ⟨Pb, hP | ⟨h0, rfl, rfl⟩⟩ := ints_of_own2 hrow3 (by simp)
 ·exact ⟨_, Pb, _, rfl, (Boxed.new _ _ _).cell, hP.2, by rw [← HN.out]; exact hP.1, HO.out.trans oA (fun _ _ e => e)⟩
 ·refine ⟨_, w2.heap.size, _, rfl, (Boxed.new _ _ _).cell, .inl ⟨?_, h0⟩, ⟨hs2, by simp⟩, HO.out.trans oA (fun _ _ e => e)⟩
  have : x.now = [] := List.eq_nil_of_map_eq_nil h0
  simp [this]
def nthEnc (zs : List Int) (k : Nat) : Array Value := #[.int .i64 (zs.getD k 0)]
theorem values_nth (m Bs Pb : Nat) (sv : Value) (zs : List Int) (w : World) (hl : zs.length ≤ maxLen) (hBs : w.cell? ⟨Bs, 0, none⟩ = some sv) (hi : IntsIn w Pb sv zs) (hP : Pb < w.heap.size) :
  SeqStopsK Fence.wide m Tryz.prog 118 #[.pointer (some ⟨Bs, 0, none⟩)] (nthEnc zs) (KpP Pb) (fun ys => ys = List.range zs.length) (fun _ => True) zs.length w := fun lo J Jx W hW _ _ hY h0 => by
 have hBl := World.block_lt_of_cell? w _ hBs
 have hBs' : W.cell? ⟨Bs, 0, none⟩ = some sv := (hW.cell (p := ⟨Bs, 0, none⟩) hBl).trans hBs
 rcases hi with ⟨rfl, rfl⟩ | ⟨off, cap, rfl, hc⟩
 ·exact (values_none m lo Bs (J []) W hBs' h0).mono fun e W' ⟨he, hj⟩ => ⟨he, .inl ⟨_, rfl, hj⟩⟩
 ·have key : ∀ k, k < zs.length → List.range (zs.take k ++ [zs.getD k 0]).length = List.range (zs.take k).length ++ [k] := fun k hk => by
   rw [List.length_append, List.length_take, Nat.min_eq_left (by omega)]
   exact List.range_succ
  refine (values_core m lo Bs Pb off cap zs hl (fun ys W => J (List.range ys.length) W) (fun ys W => Jx (List.range ys.length) W) (fun k W1 hk hJ => ?_) W hBs' (fun j hj => (hW.cell (p := ⟨Pb, off + j, none⟩) hP).trans (hc j hj)) h0).mono ?_
  ·have := hY (List.range (zs.take k).length) k W1 hJ (by rw [List.length_range, List.length_take]; omega)
   simp only [key k hk]
   exact this
  ·rintro e W' ⟨he, hj | ⟨k, _, hj⟩⟩
   ·exact ⟨he, .inl ⟨_, rfl, hj⟩⟩
   ·exact ⟨he, .inr ⟨_, trivial, hj⟩⟩
def atOf (l : Pgs) (i : Int) : Nat := ((pgAt l i).getD (0, [])).1
def putOf (l : Pgs) (zs : List Int) (pre : List Nat) : List Nat := ((pre.map fun k => zs.getD k 0).filter fun i => atOf l i == 0).map Int.toNat
theorem putOf_snoc (l : Pgs) (zs : List Int) (pre : List Nat) (k : Nat) : putOf l zs (pre ++ [k]) = putOf l zs pre ++ (if atOf l (zs.getD k 0) = 0 then [(zs.getD k 0).toNat] else []) := by
 simp only [putOf, List.map_append, List.filter_append, List.map_cons, List.map_nil]
 congr 1
 by_cases h : atOf l (zs.getD k 0) = 0
 ·simp only [List.filter_cons, List.filter_nil, h, beq_self_eq_true, if_true, List.map_cons, List.map_nil]
 ·have h' : (atOf l (zs.getD k 0) == 0) = false := by simpa using h
  simp only [List.filter_cons, List.filter_nil, h', h, if_false, List.map_nil, Bool.false_eq_true]
theorem map_range_getD (zs : List Int) : (List.range zs.length).map (fun k => zs.getD k 0) = zs := by
 apply List.ext_getElem
 ·simp
 ·intro i h1 h2
  simp at h1
  simp [List.getD, h1]
theorem putOf_all {l : Pgs} (h : Rise l) : putOf l (l.map (·.1)) (List.range (l.map (·.1)).length) = freshN l := by
 unfold putOf freshN
 rw [map_range_getD, List.filter_map, List.map_map]
 have : (l.filter ((fun i => atOf l i == 0) ∘ fun p => p.1)) = l.filter fun p => p.2.1 == 0 := by
  apply List.filter_congr
  intro p hp
  simp only [Function.comp, atOf, pgAt]
  rw [(getL_mem h p.1 p.2).2 hp]
  rfl
 rw [this]
 rfl
theorem putOf_len (l : Pgs) (zs : List Int) (pre : List Nat) : (putOf l zs pre).length ≤ pre.length := by
 unfold putOf
 rw [List.length_map]
 refine Nat.le_trans (List.length_filter_le ..) ?_
 simp
theorem app_int1 {w : World} {B : Nat} {v : Value} {zs : List Nat} (h : FreshI w B v zs) (hB : B ≤ w.heap.size) (q : Nat) (hl : zs.length + 1 ≤ 1048576) :
  ∃ a cap w', (∀ ty, (Builtin.append_ #[76, 76] ty #[v, .slice (some ⟨w.heap.size, 0, none⟩) 1 1]).run Tryz.prog (w.alloc (.cells #[.int .i64 (q : Int)] 3)) = .ok (.slice a (zs.length + 1) cap) w') ∧ FreshI w' B (.slice a (zs.length + 1) cap) (zs ++ [q]) ∧ Only (fun i => v.ownBlock = some i) w w' := by
 obtain ⟨i0, hi0, hz0, hz1, hz2⟩ := info_parts info3
 have o1 : Only (fun _ => False) w (w.alloc (.cells #[.int .i64 (q : Int)] 3)) := (Only.refl _ w).alloc _
 have h2 := h.frame o1
 have key := fun ty => run_append_own_at (P := Tryz.prog) (w.alloc (.cells #[.int .i64 (q : Int)] 3)) B 76 ty 3 i0 _ 1 8 Tryz.underlying76 hi0 hz0 hz1 hz2 rfl (by omega) v zs.length (IL zs) h2.1 ⟨w.heap.size, 0, none⟩ 1 1 [.int .i64 (q : Int)] rfl (World.news_of_block (heap_alloc_new w _)) (by simp [Value.oneCell']) (by unfold maxLen; omega) (by omega) (by have := o1.size; omega)
 obtain ⟨v', w', hr, own', hg, _, _⟩ := key 0
 obtain ⟨a, cap, rfl⟩ := ownsRow_slice own'
 refine ⟨a, cap, w', fun ty => by rw [← hr]; rfl, ⟨?_, by simpa using hl⟩, (o1.mono (fun _ _ e => e.elim)).trans ((Only.refl _ _).grown hg (fun k e hk => e)) (fun _ _ e => e)⟩
 have e : IL (zs ++ [q]) = IL zs ++ [.int .i64 (q : Int)] := by simp [IL]
 rw [e, List.length_append]
 exact own'
theorem keeps_of {base : Nat} {W W' : World} {bs : Nat → Prop} (ho : Only bs W W') (hc : ∀ b o, bs b → base ≤ b → W.heap[b]? = some o → o.isCells = true) : KeepsFrom base W W' :=
 ⟨ho.size, fun k ob hk hob hnc => by
  rw [ho.block k (Array.getElem?_eq_some_iff.1 hob).1 (fun e => by
   rw [hc k ob e hk hob] at hnc
   cases hnc)]
  exact hob⟩
structure FrI (wl : World) (Bx : Nat) (l : Pgs) (zs : List Int) (pre : List Nat) (W : World) : Prop where
 box : ∃ v, Boxed W Bx 76 v ∧ FreshI W wl.heap.size v (putOf l zs pre)
 only : Only (fun k => k = Bx) wl W
theorem owned_cells {W : World} {B e : Nat} {v : Value} {n : Nat} {xs : List Value} (h : W.ownsRow B e 1 v n xs) {b : Nat} {o : Obj} (hb : v.ownBlock = some b) (ho : W.heap[b]? = some o) : o.isCells = true := by
 rcases h.2 with ⟨e1, _⟩ | ⟨g, cap, cur, e1, _, e2, _⟩
 ·rw [e1] at hb; simp [Value.ownBlock] at hb
 ·rw [e1] at hb
  simp only [Value.ownBlock, Option.some.injEq] at hb
  subst hb
  rw [e2] at ho
  cases ho
  rfl
theorem FrI.frame {wl W W' : World} {Bx : Nat} {l : Pgs} {zs : List Int} {pre : List Nat} {row : Option Nat} (h : FrI wl Bx l zs pre W) (hBx : Bx < wl.heap.size)
  (hg : W.grownBy W' row) (hr : ∀ r, row = some r → wl.heap.size ≤ r ∧ ∃ o : Obj, W.heap[r]? = some o ∧ o.isCells = false) : FrI wl Bx l zs pre W' := by
 have oo : Only (fun k => row = some k) W W' := (Only.refl _ W).grown hg (fun k e _ => e)
 obtain ⟨v, hb, hf⟩ := h.box
 refine { box := ⟨v, hb.kept hg (fun e => by have := (hr Bx e.symm).1; omega), ⟨oo.owns hf.1 (fun b e1 e2 => ?_), hf.2⟩⟩, only := h.only.grown hg (fun k e hk => by have := (hr k e).1; omega) }
 obtain ⟨_, o, ho, hc⟩ := hr b e2
 rw [owned_cells hf.1 e1 ho] at hc
 cases hc
theorem getD_mem0 (zs : List Int) (h : ∀ z ∈ zs, 0 ≤ z ∧ z < 728) (k : Nat) : 0 ≤ zs.getD k 0 ∧ zs.getD k 0 < 728 := by
 simp only [List.getD]
 rcases Nat.lt_or_ge k zs.length with hl | hl
 ·rw [List.getElem?_eq_getElem hl]; exact h _ (List.getElem_mem hl)
 ·rw [List.getElem?_eq_none hl]; simp
set_option maxRecDepth 100000 in
set_option maxHeartbeats 1000000 in
theorem fresh_core {w : World} {dk : Nat → Prop} {s p mc mn : Nat} {tv : Value} {x : SS} (h : StAt w dk s p mc mn tv x) :
  CallsIn Fence.wide 6 Tryz.prog 78 #[.pointer (some ⟨s, 0, none⟩)] w fun e w' => ∃ v, e = .returned v ∧ FreshI w' w.heap.size v (freshN x.now) ∧ Only (fun _ => False) w w' := by
 obtain ⟨zs, hzs⟩ : ∃ q, q = x.now.map (·.1) := ⟨_, rfl⟩
 have hzl : zs.length ≤ 728 := by
  have := Rise.len (a := 0) (b := 728) h.now.rise (fun p hp => (h.wf.now p hp).1)
  simp at this
  rw [hzs, List.length_map]
  omega
 have hzk : ∀ z ∈ zs, 0 ≤ z ∧ z < 728 := fun z hz => by
  rw [hzs] at hz
  obtain ⟨q, hq, rfl⟩ := List.mem_map.1 hz
  exact (h.wf.now q hq).1
 have HP : Hid (∀ w1, Only (fun _ => False) w w1 → Calls Tryz.prog 77 #[.pointer (some ⟨s, 0, none⟩)] w1 (PagesNew zs w1)) := fun w1 ho => by rw [hzs]; exact pages_new (h.still ho)
 have HZ : Hid (zs = x.now.map (·.1)) := hzs
 have HS : Hid (StAt w dk s p mc mn tv x) := h
 have hsl := h.lt
 clear h hzs
 refine callsIn_of_wp_marks Tryz.func78 rfl trivial ?_ rfl
 simp only [Tryz.ntmps78, List.size_toArray, List.length_cons, List.length_nil, Nat.reduceAdd, Nat.reduceSub, Array.replicate_succ, Array.replicate_zero, List.push_toArray, List.append_toArray, List.nil_append, List.cons_append]
 gi_wp2_with fail
 obtain ⟨wA, hwA⟩ : ∃ q, q = (w.alloc (.cells #[.pointer (some ⟨s, 0, none⟩)] 32)).alloc (.cells #[.slice none 0 0] 76) := ⟨_, rfl⟩
 have hA1 : wA.heap[w.heap.size]? = some (.cells #[.pointer (some ⟨s, 0, none⟩)] 32 (0, 0)) := by rw [hwA]; exact heap_alloc2_old w _ _
 have hA2 : wA.heap[w.heap.size + 1]? = some (.cells #[.slice none 0 0] 76 (0, 0)) := by rw [hwA]; exact heap_alloc2_new w _ _
 have oA : Only (fun _ => False) w wA := by rw [hwA]; exact ((Only.refl _ w).alloc _).alloc _
 have sA : wA.heap.size = w.heap.size + 2 := by rw [hwA]; simp
 rw [← hwA]
 clear hwA
 refine ⟨trivial, ((callsIn_wide (n := 5)).2 (HP.out wA oA)).mono ?_⟩
 rintro e wl ⟨Bs, Pb, lv, rfl, hb, hin, hPb, ho2⟩
 have s2 := ho2.size
 have hl1 : wl.heap[w.heap.size]? = some (.cells #[.pointer (some ⟨s, 0, none⟩)] 32 (0, 0)) := by rw [ho2.block _ (by omega) (fun e => e)]; exact hA1
 have hl2 : Boxed wl (w.heap.size + 1) 76 (.slice none 0 0) := by unfold Boxed; rw [ho2.block _ (by omega) (fun e => e)]; exact hA2
 have owl : Only (fun _ => False) w wl := oA.trans ho2 (fun _ _ e => e)
 have hNP : Pb ≠ w.heap.size + 1 ∧ w.heap.size + 1 < wl.heap.size := by omega
 have hPl := hPb.2
 clear hA1 hA2 oA sA ho2 s2 HP
 gi_wp2
 refine wpIn_rangeFunc_ownG (w := wl) rfl (by omega) (gf := 118) (lb := #[.pointer (some ⟨Bs, 0, none⟩)]) rfl trivial (enters_of Tryz.func118 (by kernel_rfl) rfl)
  (values_nth 5 Bs Pb lv zs wl (by unfold maxLen; omega) hb hin hPl) (fun h k => Eq.trans k h) ?hKb (Below.refl _ _) (fun _ => rfl)
  (fun pre W => FrI wl (w.heap.size + 1) x.now zs pre W) (fun _ _ _ => False) ?hI (fun _ _ _ _ _ hs _ _ => hs)
  { box := ⟨_, hl2, FreshI.nil _ _⟩, only := Only.refl _ _ }
  (fun k => { tmps := #[.pointer (some ⟨s, 0, none⟩), .pointer (some ⟨w.heap.size, 0, none⟩), .slice none 0 0, .pointer (some ⟨w.heap.size + 1, 0, none⟩), .int .i64 (zs.getD k 0), .pointer (some ⟨s, 0, none⟩), .func (.func 118) #[] #[.pointer (some ⟨Bs, 0, none⟩)], .int .i64 (zs.getD k 0), undef, undef, undef, undef, undef, undef, undef, undef, undef, undef, undef, undef, undef], defers := [] }) ?assign ?body ?done ?stop
 case hKb =>
  intro W l0 o o' hl0 hw0 ho1 ho2
  exact (grownBy_putObj' W l0 o').block Pb (by have := (Array.getElem?_eq_some_iff.1 hw0).1; omega) (fun e => by cases e; omega)
 case hI => exact fun pre W W' row hs hg' hr => hs.frame hNP.2 hg' hr
 case assign =>
  intro l0 k W K hK
  simp only [nthEnc, List.zip_toArray, List.zip_cons_cons, List.zip_nil_right, List.foldl_toArray, List.foldl_cons, List.foldl_nil, List.setIfInBounds_toArray, List.set_cons_zero, List.set_cons_succ]
  gi_wp2
  exact hK
 case body =>
  rintro l0 pre k W hI hlen
  obtain ⟨v, hv, hf⟩ := hI.box
  have hik := getD_mem0 zs hzk k
  obtain ⟨q, hq⟩ : ∃ q : Nat, zs.getD k 0 = (q : Int) := ⟨(zs.getD k 0).toNat, by omega⟩
  have hsnoc := putOf_snoc x.now zs pre k
  rw [hq] at hik hsnoc ⊢
  have oW : Only (fun _ => False) w W := owl.trans hI.only (fun j hj e => by omega)
  have hsW := HS.out.still oW
  have c6 := hsW.c6
  obtain ⟨sl, hm, hbb⟩ := hsW.now
  obtain ⟨a, ad, n, c, zz, hval, _, hat, _⟩ := look_val hbb (q : Int)
  have hlk := hm.look1 (q : Int) (by omega)
  rw [hval] at hlk
  have cN : W.cell? ⟨w.heap.size, 0, none⟩ = some (.pointer (some ⟨s, 0, none⟩)) := hI.only.cell (by rw [cell_of_row _ _ _ _ _ _ hl1]; rfl) (by simp)
  have hc1 := hv.cell
  have hfz := hv.frozen
  have hfd := field_at (a : Int) ad n c
  have hpl := putOf_len x.now zs pre
  have hata : atOf x.now (q : Int) = a := by unfold atOf; rw [hat]
  rw [hata] at hsnoc
  obtain ⟨a2, c2, rfl, _⟩ := hf.form
  have HI : Hid (FrI wl (w.heap.size + 1) x.now zs pre W) := hI
  have HV : Hid (Boxed W (w.heap.size + 1) 76 (.slice a2 (putOf x.now zs pre).length c2) ∧ FreshI W wl.heap.size (.slice a2 (putOf x.now zs pre).length c2) (putOf x.now zs pre)) := ⟨hv, hf⟩
  have HSN : Hid _ := hsnoc
  have hwls := hI.only.size
  obtain ⟨m, hmm⟩ : ∃ m, m = (putOf x.now zs pre).length := ⟨_, rfl⟩
  rw [← hmm] at hc1 HV hpl hf
  by_cases ha : a = 0
  ·subst ha
   have hfd0 := field_at 0 ad n c
   clear hfd
   obtain ⟨a5, c5, w5, hr5, hf5, ho5⟩ := app_int1 hf hwls q (by omega)
   rw [← hmm] at hr5 hf5
   have HR5 : Hid _ := hr5
   have HF5 : Hid (FreshI w5 wl.heap.size (.slice a5 (m + 1) c5) (putOf x.now zs (pre ++ [k]))) := by
    rw [hsnoc, if_pos rfl]
    exact hf5
   have HO5 : Hid (Only (fun i => (Value.slice a2 m c2).ownBlock = some i) W w5) := ho5
   have hb5 : Boxed w5 (w.heap.size + 1) 76 (.slice a2 m c2) := by
    unfold Boxed
    rw [ho5.block _ (by omega) (fun e => by have := (hf.1.lt _ e).1; omega)]
    exact HV.out.1
   have c5' := hb5.cell
   have f5' := hb5.frozen
   have HB5 : Hid (Boxed w5 (w.heap.size + 1) 76 (.slice a2 m c2)) := hb5
   clear hI hv hf hsnoc hsW hm hbb hval hat hata hq hpl hmm hr5 hf5 ho5 hb5 oW hl1 hl2 hb hin
   gi_wp2_with (gi_at_builtin; refine wpListIn_append_run rfl _ _ 76 rfl _ _ (.slice a5 (m + 1) c5) rfl rfl HR5.out ?_)
   obtain ⟨W5, hW5⟩ : ∃ q, q = w5.setCell ⟨w.heap.size + 1, 0, none⟩ (.slice a5 (m + 1) c5) := ⟨_, rfl⟩
   rw [← hW5]
   have o5 : Only (fun k => k = w.heap.size + 1) w5 W5 := by rw [hW5]; exact (Only.refl _ w5).setCell _ _ (fun _ => rfl)
   have b5 : Boxed W5 (w.heap.size + 1) 76 (.slice a5 (m + 1) c5) := by rw [hW5]; exact HB5.out.set _
   have oo : Only (fun i => (Value.slice a2 m c2).ownBlock = some i ∨ i = w.heap.size + 1) W W5 := (HO5.out.mono (fun _ _ e => .inl e)).trans (o5.mono (fun _ _ e => .inr e)) (fun _ _ e => e)
   have hlt := fun b e => HV.out.2.1.lt b e
   refine ⟨keeps_of oo (fun b o e hb ho => ?_), ?_, { box := ⟨_, b5, ⟨o5.owns HF5.out.1 (fun b e e' => ?_), HF5.out.2⟩⟩, only := HI.out.only.trans oo (fun b hb e => ?_) }⟩
   ·rcases e with e | e
    ·exact owned_cells HV.out.2.1 e ho
    ·omega
   ·exact oo.block Pb (by omega) (fun e => by
     rcases e with e | e
     ·have := (hlt _ e).1; omega
     ·omega)
   ·have := (HF5.out.1.lt b e).1; omega
   ·rcases e with e | e
    ·have := (hlt _ e).1; omega
    ·exact e
  ·have ha' : ((a : Int) == 0) = false := by simp; omega
   rw [if_neg ha, List.append_nil] at hsnoc
   have HSN2 : Hid _ := hsnoc
   clear hI hv hf hsnoc hsW hm hbb hval hat hata hq hpl hmm oW hl1 hl2 hb hin hc1 hfz
   gi_wp2
   refine ⟨KeepsFrom.refl _ _, rfl, { box := ⟨_, HV.out.1, ?_⟩, only := HI.out.only }⟩
   rw [HSN2.out]
   exact HV.out.2
 case done =>
  rintro D ys W hD rfl hI hK
  obtain ⟨v, hv, hf⟩ := hI.box
  have hc1 := hv.cell
  rw [HZ.out, putOf_all HS.out.now.rise] at hf
  obtain ⟨a, c, rfl, _⟩ := hf.form
  have HI : Hid _ := hI
  have HF : Hid (FreshI W wl.heap.size (.slice a (freshN x.now).length c) (freshN x.now)) := hf
  have hwls := hI.only.size
  clear hI hv hf
  gi_wp2
  have oG : Only (fun k => k = D) W (W.putObj D (.deferred none)) := (Only.refl _ W).grown (grownBy_putObj' W D _) (fun k e _ => by injection e with e; exact e.symm)
  refine ⟨by simp, .inl ⟨_, _, rfl, run_takeDeferred hK, ?_⟩⟩
  refine ⟨_, results_tmp rfl _ _ _, _, rfl, ⟨ownsRow_base (oG.owns HF.out.1 (fun b e e' => ?_)) (by omega), HF.out.2⟩, (owl.trans HI.out.only (fun j hj e => by omega)).trans oG (fun j hj e => by omega)⟩
  subst e'
  have := owned_cells HF.out.1 e hK
  cases this
 case stop =>
  rintro D c pre W _ _ h _
  exact h.elim
end Go.Proofs.YtlcglapcmdpkfaaGreat
