/-       -/
import Derived.Test.YtlcglapcmdpkfaaGreatGaa
import Derived.Test.YtlcglapcmdpkfaaGreatGac
namespace Go.Proofs.YtlcglapcmdpkfaaGreat
open Go.RowKit Go.Shelf
set_option linter.unusedSimpArgs false
set_option linter.unusedVariables false
set_option maxRecDepth 100000
set_option maxHeartbeats 16000000
attribute [local go_sem] Oper.semAt_some
def undo {n : Nat} (pre : List (At n)) (sec : Nat → Nat → Int) : Nat → Nat → Int := pre.foldl (fun s x => upd s x.1.2.at_ x.1.2.bef) sec
theorem undo_snoc {n : Nat} (pre : List (At n)) (x : At n) (sec : Nat → Nat → Int) : undo (pre ++ [x]) sec = upd (undo pre sec) x.1.2.at_ x.1.2.bef := by simp [undo]
theorem Only.keeps {S B : Nat} {W W' : World} (h : Only (fun i => i = S) W W') (hS : S < B) : KeepsFrom B W W' :=
 ⟨h.size, fun k o hB hk _ => (h.block k (Array.getElem?_eq_some_iff.1 hk).1 (fun e => by omega)).trans hk⟩
theorem DiskAt.storedL {W : World} {B p S : Nat} {pv : Value} {d : DS} (hd : DiskAt W B p S pv d) (k : Nat) (f : Nat → Int) (cs : List Value) (hcs : cs.length = 32) (hf : secL f = cs) (hk : k < d.n) :
  DiskAt (W.drew.setCells S (k * 32) cs) B p S pv { d with sec := upd d.sec k f } := by
 have oS : Only (fun i => i = S) W (W.drew.setCells S (k * 32) cs) := (Only.refl _ W).drew.setCells _ _ _ (fun _ => rfl)
 have hpS := hd.pS
 obtain ⟨c, hc0⟩ := hd.c0
 have hsame := World.rangeAt_setCells_same W.drew S (k * 32) cs (by rw [hcs]; simpa using (hd.secs k hk).2)
 exact { pB := hd.pB, SB := hd.SB, pS := hd.pS
         c0 := ⟨c, oS.cell hc0 hpS⟩
         c1 := oS.cell hd.c1 hpS
         c2 := oS.cell hd.c2 hpS
         f1 := (oS.frozen (World.block_lt_of_cell? W _ hd.c1) hpS).trans hd.f1
         f2 := (oS.frozen (World.block_lt_of_cell? W _ hd.c2) hpS).trans hd.f2
         secs := fun i hi => by
          refine ⟨?_, World.there_setCells (by simpa using (hd.secs i hi).2) _ _ _⟩
          by_cases e : i = k
          ·subst e; simp only; rw [show upd d.sec i f i = f from if_pos rfl, hf]; exact hsame
          ·simp only [upd, if_neg e]
           exact World.rangeAt_setCells_apart (by simpa using (hd.secs i hi).1) _ _ _ (by rw [secL_length, hcs]; omega)
         own := oS.owns hd.own (fun k hk e => hd.hS (by rw [hk, e]))
         hp := hd.hp, hS := hd.hS, n1 := hd.n1, n2 := hd.n2, at_ := hd.at_, l1 := hd.l1, l2 := hd.l2 }
theorem DiskAt.stored {W : World} {B p S : Nat} {pv : Value} {d : DS} (hd : DiskAt W B p S pv d) (k : Nat) (f : Nat → Int) (hk : k < d.n) :
  DiskAt (W.drew.setCells S (k * 32) (secL f)) B p S pv { d with sec := upd d.sec k f } := hd.storedL k f _ (secL_length f) rfl hk
theorem take_core (p S B : Nat) (pv : Value) (d : DS) (l : List (At d.n)) (Pb : Nat) (w : World) (h : DiskAt w B p S pv d) (h1 : pv.oneCell' = true) (h2 : pv.cells = #[pv]) (hl : l.length ≤ maxLen) (hx : ∀ j (h : j < l.length), l[j].1.1 = j)
  (hpv : (pv = .slice none 0 0 ∧ l = []) ∨ ∃ cap, pv = .slice (some ⟨Pb, 0, none⟩) l.length cap) (hc : ∀ j (h : j < l.length), w.rangeAt Pb (j * 65) l[j].1.2.cells) (hPb : Pb < w.heap.size) (hPS : Pb ≠ S) :
  CallsIn Fence.wide 5 Tryz.prog 68 #[.pointer (some ⟨p, 0, none⟩)] w fun e w' => e = .returned (.tuple #[]) ∧ DiskAt w' B p S pv { d with sec := undo (fromLast d.n l 0) d.sec } ∧ Only (fun i => i = S) w w' := by
 have c1 := h.c1
 have lp : p < w.heap.size := World.block_lt_of_cell? w _ c1
 refine callsIn_of_wp_marks Tryz.func68 rfl trivial ?_ rfl
 simp only [Tryz.ntmps68, List.size_toArray, List.length_cons, List.length_nil, Nat.reduceAdd, Nat.reduceSub, Array.replicate_succ, Array.replicate_zero, List.push_toArray, List.append_toArray, List.nil_append, List.cons_append]
 gi_wp2_with fail
 refine ⟨trivial, (backward_in _ pv _ h1 h2).mono ?_⟩
 rintro e wq ⟨rfl, hwq⟩
 obtain ⟨Bd, hBd⟩ : ∃ x, x = w.heap.size := ⟨_, rfl⟩
 obtain ⟨Bs, hBs⟩ : ∃ x, x = (w.alloc (.cells #[.pointer (some ⟨p, 0, none⟩)] 24)).heap.size := ⟨_, rfl⟩
 have hBs2 : Bs = Bd + 1 := by rw [hBs, hBd]; simp
 have o0 : Only (fun i => i = S) w wq := by rw [hwq]; exact ((Only.refl _ w).alloc _).alloc _
 have hsz : wq.heap.size = w.heap.size + 2 := by rw [hwq]; simp
 have eBd : wq.cell? ⟨Bd, 0, none⟩ = some (.pointer (some ⟨p, 0, none⟩)) := by rw [hwq, hBd, cell_of_row _ _ _ _ _ _ (heap_alloc2_old w _ _)]; rfl
 have eBs : wq.cell? ⟨Bs, 0, none⟩ = some pv := by
  have : Bs = w.heap.size + 1 := by rw [hBs]; simp
  rw [hwq, this, cell_of_row _ _ _ _ _ _ (heap_alloc2_new w _ _)]; rfl
 have oF : Only (fun _ => False) w wq := by rw [hwq]; exact ((Only.refl _ w).alloc _).alloc _
 have dq : DiskAt wq B p S pv d := h.frame oF (fun _ _ e => e)
 have hcq : ∀ j (h : j < l.length), wq.rangeAt Pb (j * 65) l[j].1.2.cells := fun j hj => oF.range (hc j hj) (fun e => e)
 have hlt := h.lt
 have q1 : w.heap.size ≤ Bd := by omega
 have q2 : Bd < wq.heap.size := by omega
 have q3 : Bs < wq.heap.size := by omega
 have q5 : w.heap.size ≤ Bs := by omega
 have q4 : w.heap.size ≤ wq.heap.size := by omega
 rw [← hBd, ← hBs]
 clear hwq hBs hBs2 hBd hsz
 gi_wp2
 refine wpIn_rangeFunc_ownH (w := wq) rfl (by omega) (gf := 113) (lb := #[.pointer (some ⟨Bs, 0, none⟩)]) rfl trivial (enters_of Tryz.func113 (by kernel_rfl) rfl)
  (back_stops 4 Bs Pb d.n pv l wq hl hx eBs hpv hcq) (fun h k => ⟨k.1.trans h.1, k.2.trans h.2⟩) ?hKb (Below.refl _ _) (fun _ => rfl)
  (fun pre W => DiskAt W B p S pv { d with sec := undo pre d.sec } ∧ W.cell? ⟨Bd, 0, none⟩ = some (.pointer (some ⟨p, 0, none⟩)) ∧ Only (fun i => i = S) w W ∧ wq.heap.size ≤ W.heap.size)
  (fun _ _ _ => False) ?hI (fun _ _ _ _ _ hs _ _ => hs) ⟨dq, eBd, o0, Nat.le_refl _⟩
  (fun x a' W => ∃ Bx, wq.heap.size ≤ Bx ∧ W.heap[Bx]? = some (.cells x.1.2.cells.toArray 119 (0, 0)) ∧ a' = { tmps := #[.pointer (some ⟨p, 0, none⟩), .pointer (some ⟨Bd, 0, none⟩), undef, .pointer (some ⟨Bx, 0, none⟩), .pointer (some ⟨p, 0, none⟩), .pointer (some ⟨p, 0, none⟩), .pointer (some ⟨p, 1, none⟩), pv, .func (.func 113) #[] #[.pointer (some ⟨Bs, 0, none⟩)], .int .i64 x.1.1, .agg x.1.2.cells.toArray, undef, undef, undef, undef, undef, undef, undef, undef, undef], defers := [] })
  ?hAx ?assign ?body ?done ?stop
 case hKb =>
  intro W l0 o o' hl0 hw0 ho1 ho2
  have e1 : ∀ k, k < wq.heap.size → (W.putObj l0 o').heap[k]? = W.heap[k]? := fun k hk => (grownBy_putObj' W l0 o').block k (by have := (Array.getElem?_eq_some_iff.1 hw0).1; omega) (fun e => by cases e; omega)
  exact ⟨e1 Bs (by omega), e1 Pb (by omega)⟩
 case hI =>
  intro pre W W' row hs hg hr
  obtain ⟨hd, hb, ho, hz⟩ := hs
  have oo : Only (fun k => row = some k) W W' := (Only.refl _ W).grown hg (fun k e _ => e)
  refine ⟨hd.frame oo (fun k hk e => by have := (hr k e).1; have := (hlt k hk).2; omega), oo.cell hb (fun e => by have h9 : wq.heap.size ≤ Bd := (hr _ e).1; omega),
   ho.grown hg (fun k e hk => by have := (hr k e).1; omega), Nat.le_trans hz hg.size⟩
 case hAx =>
  intro x a' _ W W' row hs hg hr
  obtain ⟨Bx, hB, hbx, ha⟩ := hs
  refine ⟨Bx, hB, ?_, ha⟩
  rw [hg.block Bx (Array.getElem?_eq_some_iff.1 hbx).1 (fun e => ?_)]
  ·exact hbx
  ·obtain ⟨o, ho, hno⟩ := (hr Bx e.symm).2
   rw [hbx] at ho; cases ho; cases hno
 case assign =>
  rintro l0 pre x W K ⟨hd, hb, ho, hz⟩ hK
  have hi : (Tryz.prog.info? 119).map (·.size) = some x.1.2.cells.toArray.size := by rw [size71]; simp [Wr.cells, wrL_length]
  have hone : x.1.2.cells.toArray.all (·.oneCell') = true := all_oneCell_toArray (wrL_one _ _ _)
  have hln : x.1.2.cells.length = 65 := wrL_length _ _ _
  have hs0 : (wrL 0 (fun _ => 0) (fun _ => 0)).toArray.size = x.1.2.cells.toArray.size := by simp [hln, wrL_length]
  have hK2 : Hid _ := hK
  clear hK
  simp only [atEnc, List.zip_toArray, List.zip_cons_cons, List.zip_nil_right, List.foldl_toArray, List.foldl_cons, List.foldl_nil, List.setIfInBounds_toArray, List.set_cons_zero, List.set_cons_succ]
  refine wpIn_region_lit ?_
  refine wpListIn_alloc rfl 119 rfl _ (alloc71 _) ?_
  refine wpListIn_storeNew rfl 119 _ _ rfl W _ x.1.2.cells.toArray rfl rfl hi hs0 hone ?_
  gi_wp2
  refine hK2.out _ _ ((KeepsOthers.alloc _ _).from _) ⟨Below.heap_alloc _ _ _ (by omega), Below.heap_alloc _ _ _ (by have := ho.size; omega)⟩
   ⟨hd.frame ((Only.refl (fun _ => False) W).alloc _) (fun _ _ e => e), ((Only.refl (fun _ => False) W).alloc _).cell hb (fun e => e), ho.alloc _, by simp; omega⟩ ⟨W.heap.size, hz, heap_alloc_new W _, rfl⟩
 case body =>
  rintro l0 pre x a' W hl0 ⟨r, hr⟩ ⟨hd, hb, ho, hz⟩ ⟨Bx, hBx, bX, rfl⟩ hlen
  obtain ⟨⟨xi, xw⟩, hat⟩ := x
  simp only at hat bX
  obtain ⟨c, hc0⟩ := hd.c0
  simp only at hc0
  have hX0 : W.cell? ⟨Bx, 0, none⟩ = some (.int .i64 xw.at_) := by rw [cell_of_row _ _ _ _ _ _ bX]; rfl
  have hX1 : W.rangeAt Bx 1 (secL xw.bef) := fun j v hv => by
   have hj : j < 32 := by have := (List.getElem?_eq_some_iff.1 hv).1; rwa [secL_length] at this
   rw [cell_of_row _ _ _ _ _ _ bX]
   simp only [Wr.cells, wrL, List.getElem?_toArray]
   rw [Nat.add_comm, List.getElem?_cons_succ, List.getElem?_append_left (by rw [secL_length]; exact hj)]
   exact hv
  have ht := (hd.secs xw.at_ hat).2
  have hpS := h.pS
  have hSl := (hlt S (.inr (.inl rfl))).2
  have hu := Tryz.underlying67
  have hi : (Tryz.prog.info? 67).map (·.size) = some (secL xw.bef).length := by rw [size68, secL_length]
  have k0 : (0 : Int) ≤ (xw.at_ : Int) := Int.natCast_nonneg _
  have k1 : (xw.at_ : Int) < (d.n : Int) := by omega
  refine wpIn_block ?_
  refine wpIn_region_held (S := fun w' => w'.cell? ⟨Bd, 0, none⟩ = some (.pointer (some ⟨p, 0, none⟩)) ∧ w'.cell? ⟨p, 0, none⟩ = some (.slice (some ⟨S, 0, none⟩) d.n c) ∧ w'.cell? ⟨Bx, 0, none⟩ = some (.int .i64 xw.at_) ∧ w'.rangeAt Bx 1 (secL xw.bef)) (by kernel_rfl) (by kernel_rfl) ?hQ ?hS (fun hHeld => ?_)
  case hQ => rintro ⟨_, _, h⟩; exact h
  case hS => exact ⟨by simpa using hb, by simpa using hc0, by simpa using hX0, by simpa using hX1⟩
  refine t8 (i := 0) (v := .pointer (some ⟨p, 0, none⟩)) rfl hHeld ?_
  simp only [Act.put, z9]
  refine t8 (i := 1) (v := .pointer (some ⟨p, 0, none⟩)) rfl hHeld ?_
  simp only [Act.put, z9]
  refine t8 (i := 2) (v := .pointer (some ⟨p, 0, none⟩)) rfl hHeld ?_
  simp only [Act.put, z9]
  refine t8 (i := 3) (v := .slice (some ⟨S, 0, none⟩) d.n c) rfl hHeld ?_
  simp only [Act.put, z9]
  refine t8 (i := 4) (v := .pointer (some ⟨Bx, 0, none⟩)) rfl hHeld ?_
  simp only [Act.put, z9]
  refine t8 (i := 5) (v := .int .i64 xw.at_) rfl hHeld ?_
  simp only [Act.put, z9]
  refine t8 (i := 6) (v := .pointer (some ⟨Bx, 1, none⟩)) rfl hHeld ?_
  simp only [Act.put, z9]
  refine wpAnyH_take (i := 7) (v := .agg (secL xw.bef).toArray) rfl (by kernel_rfl) (by kernel_rfl) (by kernel_rfl) (fun _ _ _ h => h) (yieldsIf_load_mid (by rfl) 67 _ rfl Bx 1 rfl (secL xw.bef) _ (fun wx hSw => hSw.2.2.2) hu rfl hi) hHeld ?_
  simp only [Act.put, z9]
  refine t8 (i := 8) (v := .pointer (some ⟨S, xw.at_ * 32, none⟩)) rfl hHeld ?_
  simp only [Act.put, z9]
  refine wpAnyH_ready (rs := [9]) (by kernel_rfl) (by simp) ?_
  refine AllReadyH.cons rfl (fun K hK => ?_) AllReadyH.nil
  rw [if_pos (by rfl)]
  refine wp_store_mid 67 _ _ rfl S (xw.at_ * 32) (secL xw.bef).toArray rfl rfl (by simpa [secL_length] using ht) (by rw [size68]; simp [secL_length]) (all_oneCell_toArray (secL_one _)) ?_
  have oS : Only (fun i => i = S) W (W.drew.setCells S (xw.at_ * 32) (secL xw.bef)) := (Only.refl _ W).drew.setCells _ _ _ (fun _ => rfl)
  have hBS : Bd ≠ S := by omega
  have hXS : Bx ≠ S := by omega
  have hBsS : Bs ≠ S := by omega
  refine hK.out _ _ ⟨oS.cell hb hBS, oS.cell hc0 hpS, oS.cell hX0 hXS, oS.range hX1 hXS⟩ (fun hHeld => ?_)
  clear hK K
  refine wpAnyH_done (by kernel_rfl) ?_ _
  refine ⟨oS.keeps (by omega), ⟨oS.block Bs (by omega) hBsS, oS.block Pb (by have := ho.size; omega) hPS⟩, ?_, oS.cell hb hBS, ho.trans oS (fun _ _ e => e), Nat.le_trans hz oS.size⟩
  rw [undo_snoc]
  exact hd.stored xw.at_ xw.bef hat
 case done =>
  rintro D zs W hD rfl ⟨hd, hb, ho, hz⟩ hK
  gi_wp2
  refine ⟨by simp, .inl ⟨_, _, rfl, run_takeDeferred hK, ?_⟩⟩
  have oo : Only (fun k => some k = some D) W (W.putObj D (.deferred none)) := (Only.refl _ W).grown (grownBy_putObj' W D _) (fun k e _ => e.symm)
  refine ⟨_, results_none rfl _ _ _, rfl, hd.frame oo (fun k hk e => by cases e; have := (hlt _ hk).2; omega), ho.trans oo (fun k hk e => by cases e; omega)⟩
 case stop =>
  rintro D c pre W _ _ h _
  exact h.elim
def undoW (ws : List Wr) (sec : Nat → Nat → Int) : Nat → Nat → Int := ws.reverse.foldl (fun s x => upd s x.at_ x.bef) sec
theorem wrsL_get : ∀ (ws : List Wr) (j : Nat) (h : j < ws.length) (q : Nat), q < 65 → (wrsL ws)[j * 65 + q]? = (ws[j]).cells[q]?
 | x :: r, 0, h, q, hq => by
   simp only [wrsL, List.flatMap_cons, Nat.zero_mul, Nat.zero_add, List.getElem_cons_zero]
   rw [List.getElem?_append_left (by simp [Wr.cells, wrL_length]; exact hq)]
 | x :: r, j + 1, h, q, hq => by
   simp only [wrsL, List.flatMap_cons, List.getElem_cons_succ]
   rw [List.getElem?_append_right (by simp [Wr.cells, wrL_length]; omega)]
   have e : (j + 1) * 65 + q - x.cells.length = j * 65 + q := by simp [Wr.cells, wrL_length]; omega
   rw [e]
   exact wrsL_get r j (by simpa using h) q hq
theorem DiskAt.form {w : World} {B p S : Nat} {pv : Value} {d : DS} (h : DiskAt w B p S pv d) : (pv = .slice none 0 0 ∧ d.pend = []) ∨ ∃ g cap, pv = .slice (some ⟨g, 0, none⟩) d.pend.length cap ∧ pv.ownBlock = some g := by
 rcases h.own.2 with ⟨h1, h2⟩ | ⟨g, cap, cur, h1, _⟩
 ·exact .inl ⟨h1, List.eq_nil_of_length_eq_zero h2⟩
 ·exact .inr ⟨g, cap, h1, by rw [h1]; rfl⟩
theorem DiskAt.ranges {w : World} {B p S g cap : Nat} {pv : Value} {d : DS} (h : DiskAt w B p S pv d) (hv : pv = .slice (some ⟨g, 0, none⟩) d.pend.length cap) (j : Nat) (hj : j < d.pend.length) : w.rangeAt g (j * 65) (d.pend[j]).cells := fun q v hq => by
 have hq2 : q < 65 := by have := (List.getElem?_eq_some_iff.1 hq).1; simpa [Wr.cells, wrL_length] using this
 have ho := h.own
 rw [hv] at ho
 rw [ho.cellAt (j * 65 + q) (by omega), wrsL_get d.pend j hj q hq2]
 exact hq
theorem takeback_any (p S B : Nat) (pv : Value) (d : DS) (w : World) (h : DiskAt w B p S pv d) (hl : d.pend.length ≤ maxLen) :
  Calls Tryz.prog 68 #[.pointer (some ⟨p, 0, none⟩)] w fun e w' => e = .returned (.tuple #[]) ∧ DiskAt w' B p S pv { d with sec := undoW d.pend d.sec } ∧ Only (fun i => i = S) w w' := by
 refine (callsIn_wide (n := 5)).1 ?_
 obtain ⟨l, hl1, hl2, hl3⟩ : ∃ l : List (At d.n), l.length = d.pend.length ∧ (∀ j (h : j < l.length), l[j].1.1 = j) ∧ l.map (fun x => x.1.2) = d.pend := by
  refine ⟨List.ofFn (n := d.pend.length) fun i => ⟨(i.val, d.pend[i.val]), h.at_ _ (List.getElem_mem _)⟩, by simp, by simp, ?_⟩
  apply List.ext_getElem
  ·simp
  ·intro i h1 h2; simp
 have hu : undo (fromLast d.n l 0) d.sec = undoW d.pend d.sec := by
  simp only [undo, undoW, fromLast, List.drop_zero]
  rw [← hl3, ← List.map_reverse, List.foldl_map]
 have hw : ∀ j (hj : j < l.length), l[j].1.2 = d.pend[j]'(by omega) := fun j hj => by
  have := List.getElem_map (f := fun x : At d.n => x.1.2) (l := l) (i := j) (h := by simpa using hj)
  rw [← this]; simp only [hl3]
 rw [← hu]
 rcases h.form with ⟨h1, h2⟩ | ⟨g, cap, h1, h2⟩
 ·have hz : l = [] := List.eq_nil_of_length_eq_zero (by rw [hl1, h2]; rfl)
  exact take_core p S B pv d l p w h (by rw [h1]; rfl) (by rw [h1]; rfl) (by omega) hl2 (.inl ⟨h1, hz⟩) (fun j hj => by rw [hz] at hj; simp at hj) (World.block_lt_of_cell? w _ h.c1) h.pS
 ·refine take_core p S B pv d l g w h (by rw [h1]; rfl) (by rw [h1]; rfl) (by omega) hl2 (.inr ⟨cap, by rw [hl1]; exact h1⟩) (fun j hj => ?_) (h.own.lt g h2).2 (fun e => h.hS (by rw [h2, e]))
  rw [hw j hj]
  exact h.ranges h1 j (by omega)
end Go.Proofs.YtlcglapcmdpkfaaGreat
namespace Go.Proofs.YtlcglapcmdpkfaaGreat
open Go.RowKit
set_option linter.unusedSimpArgs false
set_option linter.unusedVariables false
set_option maxRecDepth 100000
set_option maxHeartbeats 16000000
def mix (n : Nat) (f g : Nat → Int) : Nat → Int := fun j => if j < n then f j else g j
def crashTo (kp : Nat → Bool) (torn : Int) (cut : Nat) (ws : List Wr) (s : Nat → Nat → Int) : Nat → Nat → Nat → Int
 | 0 => s
 | i + 1 => match ws[i]? with
   | some x => if kp i = true then upd (crashTo kp torn cut ws s i) x.at_ (mix (if (i : Int) = torn then cut else 32) x.aft (crashTo kp torn cut ws s i x.at_)) else crashTo kp torn cut ws s i
   | none => crashTo kp torn cut ws s i
section
variable {P : Program} {op : Oper} {a : Act} {w : World} {K : Act → World → Prop} {Q : Exit → Act → World → Prop}
theorem run_copy_mid (w : World) (dT sT ty elem : TypeId) (g o dLen dCap : Nat) (a : Addr) (sLen sCap : Nat) (cs : List Value)
  (hu : P.underlying dT = some (.slice elem)) (hs : (P.info? elem).map (·.size) = some 1) (ht : w.there g o cs.length) (hn : cs.length = Nat.min sLen dLen)
  (hsrc : ∀ j v, cs[j]? = some v → w.cell? (a.add j) = some v) (h1 : ∀ v ∈ cs, v.oneCell' = true) :
  (Builtin.copy_ #[dT, sT] ty #[.slice (some ⟨g, o, none⟩) dLen dCap, .slice (some a) sLen sCap]).run P w = .ok (goInt cs.length) (w.setCells g o cs) := by
 have hl := run_loadCells_list (P := P) w a cs hsrc
 have hst := run_storeCells_cells (P := P) g o cs 0 w (fun j hj => by simpa using (ht j (by simpa using hj)).1) (fun j hj => by simpa using (ht j (by simpa using hj)).2) h1
 cases hq : P.info? elem with
 | none => simp [hq] at hs
 | some i =>
   have hi : i.size = 1 := by simpa [hq] using hs
   simp only [Nat.add_zero] at hst
   simp [Builtin.copy_, run_underlying hu, Builtin.lenOf, Builtin.firstCells, sizeOf, typeInfo, hq, hi, ← hn, hl, hst]
theorem wp_copy_mid (d s : Operand) (dT sT : TypeId) (ho : op.op = .call { callee := .builtin .copy, args := #[d, s], argTypes := #[dT, sT] }) (elem : TypeId) (hu : P.underlying dT = some (.slice elem)) (hsz : (P.info? elem).map (·.size) = some 1)
  (g o dLen dCap : Nat) (ad : Addr) (sLen sCap : Nat) (cs : List Value) (hd : a.eval d = .slice (some ⟨g, o, none⟩) dLen dCap) (hs : a.eval s = .slice (some ad) sLen sCap) (ht : w.there g o cs.length) (hn : cs.length = Nat.min sLen dLen)
  (hsrc : ∀ j v, cs[j]? = some v → w.cell? (ad.add j) = some v) (h1 : ∀ v ∈ cs, v.oneCell' = true) (h : K (a.put op.dst (goInt cs.length)) (w.setCells g o cs)) : op.wp P a w K Q := by
 have hrun := run_copy_mid (P := P) w dT sT op.type elem g o dLen dCap ad sLen sCap cs hu hsz ht hn hsrc h1
 unfold Oper.wp
 simp [execOp, ho, resolve, invoke, builtin, hd, hs, hrun, Result.andThen]
 exact h
end
theorem DiskAt.len {w : World} {B p S : Nat} {pv : Value} {d : DS} (h : DiskAt w B p S pv d) : d.pend.length ≤ maxLen := by
 rcases h.own.2 with ⟨_, h2⟩ | ⟨g, cap, cur, _, _, _, h1, h2, _⟩
 ·rw [h2]; exact Nat.zero_le _
 ·omega
theorem DiskAt.part {W : World} {B p S : Nat} {pv : Value} {d : DS} (hd : DiskAt W B p S pv d) (k n : Nat) (f : Nat → Int) (cs : List Value) (hcs : cs.length = n) (hn : n ≤ 32) (hf : ∀ j, j < n → cs[j]? = some (.int .u8 (f j))) (hk : k < d.n) :
  DiskAt (W.setCells S (k * 32) cs) B p S pv { d with sec := upd d.sec k (mix n f (d.sec k)) } := by
 have oS : Only (fun i => i = S) W (W.setCells S (k * 32) cs) := (Only.refl _ W).setCells _ _ _ (fun _ => rfl)
 have hpS := hd.pS
 obtain ⟨c, hc0⟩ := hd.c0
 have ht := (hd.secs k hk).2
 exact { pB := hd.pB, SB := hd.SB, pS := hd.pS
         c0 := ⟨c, oS.cell hc0 hpS⟩
         c1 := oS.cell hd.c1 hpS
         c2 := oS.cell hd.c2 hpS
         f1 := (oS.frozen (World.block_lt_of_cell? W _ hd.c1) hpS).trans hd.f1
         f2 := (oS.frozen (World.block_lt_of_cell? W _ hd.c2) hpS).trans hd.f2
         secs := fun i hi => by
          refine ⟨?_, World.there_setCells (hd.secs i hi).2 _ _ _⟩
          by_cases e : i = k
          ·subst e
           simp only
           rw [show upd d.sec i (mix n f (d.sec i)) i = mix n f (d.sec i) from if_pos rfl]
           intro j v hv
           have hj : j < 32 := by have := (List.getElem?_eq_some_iff.1 hv).1; rwa [secL_length] at this
           rw [secL_get _ _ hj] at hv
           by_cases hjn : j < n
           ·rw [World.cell?_setCells_in S cs (i * 32) W (fun q hq => (ht q (by omega)).1) j (by omega), ← hv]
            have := hf j hjn
            rw [List.getElem?_eq_getElem (by omega)] at this
            rw [Option.some.inj this]
            simp [mix, hjn]
           ·rw [World.cell?_setCells_out S cs (i * 32) W ⟨S, i * 32 + j, none⟩ (fun _ _ => .inr (by rw [hcs]; simp only; omega))]
            rw [(hd.secs i hi).1 j _ (secL_get _ _ hj), ← hv]
            simp [mix, hjn]
          ·simp only [upd, if_neg e]
           exact World.rangeAt_setCells_apart (hd.secs i hi).1 _ _ _ (by rw [secL_length, hcs]; omega)
         own := oS.owns hd.own (fun k hk e => hd.hS (by rw [hk, e]))
         hp := hd.hp, hS := hd.hS, n1 := hd.n1, n2 := hd.n2, at_ := hd.at_, l1 := hd.l1, l2 := hd.l2 }
theorem DiskAt.drew {W : World} {B p S : Nat} {pv : Value} {d : DS} (hd : DiskAt W B p S pv d) : DiskAt W.drew B p S pv d := hd.frame ((Only.refl (fun _ => False) W).drew) (fun _ _ e => e)
theorem DiskAt.alloc {W : World} {B p S : Nat} {pv : Value} {d : DS} (hd : DiskAt W B p S pv d) (o : Obj) : DiskAt (W.alloc o) B p S pv d := hd.frame ((Only.refl (fun _ => False) W).alloc o) (fun _ _ e => e)
theorem crashTo_no (kp : Nat → Bool) (torn : Int) (cut : Nat) (ws : List Wr) (s : Nat → Nat → Int) (i : Nat) (h : kp i = false) : crashTo kp torn cut ws s (i + 1) = crashTo kp torn cut ws s i := by
 simp only [crashTo]
 cases ws[i]? <;> simp [h]
theorem crashTo_yes (kp : Nat → Bool) (torn : Int) (cut : Nat) (ws : List Wr) (s : Nat → Nat → Int) (i : Nat) (x : Wr) (hx : ws[i]? = some x) (h : kp i = true) : crashTo kp torn cut ws s (i + 1) = upd (crashTo kp torn cut ws s i) x.at_ (mix (if (i : Int) = torn then cut else 32) x.aft (crashTo kp torn cut ws s i x.at_)) := by
 simp only [crashTo, hx, if_pos h]
theorem crashed_end {W : World} {B p S : Nat} {pv : Value} {d : DS} (h : DiskAt W B p S pv d) : DiskAt ((W.setCell ⟨p, 1, none⟩ (.slice none 0 0)).setCell ⟨p, 2, none⟩ (.int .i64 (-1))) B p S (.slice none 0 0) ⟨d.n, d.sec, [], -1⟩ := by
 have oP : Only (fun i => i = p) W ((W.setCell ⟨p, 1, none⟩ (.slice none 0 0)).setCell ⟨p, 2, none⟩ (.int .i64 (-1))) := ((Only.refl (fun i => i = p) W).setCell _ _ (fun _ => rfl)).setCell _ _ (fun _ => rfl)
 obtain ⟨c, hc⟩ := h.c0
 have hSp : S ≠ p := Ne.symm h.pS
 exact { pB := h.pB, SB := h.SB, pS := h.pS
         c0 := ⟨c, by rw [World.cell?_setCell_other _ _ _ _ (by simp), World.cell?_setCell_other _ _ _ _ (by simp)]; exact hc⟩
         c1 := by rw [World.cell?_setCell_other _ _ _ _ (by simp), World.cell?_setCell_same _ _ _ h.c1]
         c2 := World.cell?_setCell_same _ _ _ ((World.cell?_setCell_other _ _ _ _ (by simp)).trans h.c2)
         f1 := by simpa using h.f1
         f2 := by simpa using h.f2
         secs := fun i hi => ⟨oP.range (h.secs i hi).1 hSp, oP.there (h.secs i hi).2 hSp⟩
         own := World.ownsRow_nil _ _ _ _
         hp := by simp [Value.ownBlock]
         hS := by simp [Value.ownBlock]
         n1 := h.n1, n2 := h.n2
         at_ := fun x hx => by cases hx
         l1 := by simp
         l2 := by simp }
theorem crash_core (p S B kl kc cut cap : Nat) (ka pa : Option Addr) (kf : Nat → Bool) (torn : Int) (d : DS) (w : World) (h : DiskAt w B p S (.slice pa d.pend.length cap) d) (hcut : (cut : Int) ≤ 32) (hkl : kl ≤ maxLen)
  (hka : ∀ i, i < kl → ∃ kb ko, ka = some ⟨kb, ko, none⟩ ∧ kb ≠ S ∧ w.cell? ⟨kb, ko + i, none⟩ = some (.bool (kf i)))
  (hpa : ∀ i (hi : i < d.pend.length), ∃ g, pa = some ⟨g, 0, none⟩ ∧ g ≠ S ∧ w.rangeAt g (i * 65) (d.pend[i]).cells) :
  Calls Tryz.prog 36 #[.pointer (some ⟨p, 0, none⟩), .slice ka kl kc, .int .i64 torn, .int .i64 cut] w fun e w' => e = .returned (.int .i64 0) ∧
   DiskAt w' B p S (.slice none 0 0) ⟨d.n, crashTo (fun i => decide (i < kl) && kf i) torn cut d.pend (undoW d.pend d.sec) d.pend.length, [], -1⟩ ∧ Only (fun i => i = p ∨ i = S) w w' := by
 have hl := h.len
 have hcut0 : (0 : Int) ≤ (cut : Int) := Int.natCast_nonneg _
 have hc1 : ¬ (cut : Int) < 0 := by omega
 have hc2 : ¬ (32 : Int) < (cut : Int) := by omega
 have hml := hl
 unfold maxLen at hml hkl
 go_enter Tryz.func36, Tryz.ntmps36
 go_wp2_with fail
 refine (takeback_any p S B _ d w h hl).mono ?_
 rintro e w1 ⟨rfl, d1, o1⟩
 have y1 := d1.c1
 have HD : Hid (DiskAt w1 B p S (.slice pa d.pend.length cap) { d with sec := undoW d.pend d.sec }) := d1
 have HO1 : Hid (Only (fun i => i = S) w w1) := o1
 clear d1 o1
 go_wp2_with fail
 go_loopw [29] (fun t wr => ∃ i : Nat, i ≤ d.pend.length ∧ t = .int .i64 i ∧ DiskAt wr B p S (.slice pa d.pend.length cap) { d with sec := crashTo (fun i => decide (i < kl) && kf i) torn cut d.pend (undoW d.pend d.sec) i } ∧ Only (fun i => i = S) w wr) (fun t _ => d.pend.length - (intOf t).toNat)
 case atStart => exact ⟨0, Nat.zero_le _, rfl, HD.out, HO1.out⟩
 case round =>
  obtain ⟨i, hi, rfl, dr, ho⟩ := hrel
  by_cases hlt : i < d.pend.length
  ·obtain ⟨g, rfl, hgS, hrg⟩ := hpa i hlt
   have hr1 := ho.range hrg hgS
   obtain ⟨x, hx⟩ : ∃ x, x = d.pend[i] := ⟨_, rfl⟩
   have hxg : d.pend[i]? = some x := by rw [hx]; exact List.getElem?_eq_getElem hlt
   have hat : x.at_ < d.n := h.at_ x (by rw [hx]; exact List.getElem_mem _)
   rw [← hx] at hr1
   have hi71 : (Tryz.prog.info? 119).map (·.size) = some x.cells.length := by rw [size71]; simp [Wr.cells, wrL_length]
   have hi71a : (Tryz.prog.info? 119).map (·.size) = some x.cells.toArray.size := by rw [size71]; simp [Wr.cells, wrL_length]
   have hone : x.cells.toArray.all (·.oneCell') = true := all_oneCell_toArray (wrL_one _ _ _)
   have hs0 : (wrL 0 (fun _ => 0) (fun _ => 0)).toArray.size = x.cells.toArray.size := by simp [Wr.cells, wrL_length]
   have hu71 := Tryz.underlying119
   have i0 : (0 : Int) ≤ (i : Int) := Int.natCast_nonneg _
   have i1 : (i : Int) < (d.pend.length : Int) := by omega
   -- the world behind the copy of the write
   obtain ⟨wx, hwx⟩ : ∃ q, q = wr.alloc (.cells x.cells.toArray 119) := ⟨_, rfl⟩
   have oX : Only (fun _ => False) wr wx := by rw [hwx]; exact (Only.refl _ wr).alloc _
   have dX := dr.frame oX (fun _ _ e => e)
   obtain ⟨Bx, hBx⟩ : ∃ q, q = wr.heap.size := ⟨_, rfl⟩
   have bX : wx.heap[Bx]? = some (.cells x.cells.toArray 119 (0, 0)) := by rw [hwx, hBx]; exact heap_alloc_new wr _
   have hXS : Bx ≠ S := by have := (dr.lt S (.inr (.inl rfl))).2; omega
   have HX : Hid (d.pend[i]? = some x) := hxg
   have HO : Hid (Only (fun i => i = S) w wr) := ho
   have HOX : Hid (Only (fun _ => False) wr wx) := oX
   have HW : Hid (wx = wr.alloc (.cells x.cells.toArray 119)) := hwx
   have HB : Hid (Bx = wr.heap.size) := hBx
   have HDX : Hid (DiskAt wx B p S (.slice (some ⟨g, 0, none⟩) d.pend.length cap) { d with sec := crashTo (fun i => decide (i < kl) && kf i) torn cut d.pend (undoW d.pend d.sec) i }) := dX
   clear hx hxg hpa hrg dr hwx hBx dX y1 HD oX
   by_cases hk : i < kl
   ·obtain ⟨kb, ko, rfl, hkS, hkc⟩ := hka i hk
    have hkx : wx.cell? ⟨kb, ko + i, none⟩ = some (.bool (kf i)) := HOX.out.cell (HO.out.cell hkc hkS) (fun e => e)
    have hk1 : ¬ (kl : Int) ≤ (i : Int) := by omega
    have hk2 : (i : Int) < (kl : Int) := by omega
    clear hka hkc ho
    cases hkf : kf i with
    | false =>
      rw [hkf] at hkx
      go_wp2_with (first | (refine wpList_load_mid rfl 119 _ rfl g (i * 65) rfl x.cells _ hr1 hu71 rfl hi71 ?_) | (refine wpList_value rfl rfl (alloc71 _) ?_) | (refine wpList_storeNew rfl 119 _ _ rfl wr _ x.cells.toArray rfl rfl hi71a hs0 hone ?_; rw [← HW.out, ← HB.out]))
      go_roundw
      case rel => exact ⟨i + 1, by omega, by go_num, by rw [crashTo_no _ _ _ _ _ _ (by simp [hkf])]; exact HDX.out, HO.out.trans HOX.out (fun _ _ e => e.elim)⟩
      case measure => simp [intOf]; omega
    | true =>
      rw [hkf] at hkx
      have hkp : (decide (i < kl) && kf i) = true := by simp [hk, hkf]
      have HKP : Hid ((decide (i < kl) && kf i) = true) := hkp
      clear hkp hkf
      have dX := HDX.out
      obtain ⟨c, y0⟩ := dX.c0
      simp only at y0
      have yX : wx.cell? ⟨Bx, 0, none⟩ = some (.int .i64 x.at_) := by rw [cell_of_row _ _ _ _ _ _ bX]; rfl
      have k0 : (0 : Int) ≤ (x.at_ : Int) := Int.natCast_nonneg _
      have k1 : (x.at_ : Int) < (d.n : Int) := by omega
      by_cases htn : (i : Int) = torn
      ·subst htn
       obtain ⟨cs, hcs⟩ : ∃ q, q = (secL x.aft).take cut := ⟨_, rfl⟩
       have hcl : cs.length = cut := by rw [hcs, List.length_take, secL_length]; omega
       have hn32 : cut ≤ 32 := by omega
       have hmin : cs.length = Nat.min cut 32 := by rw [hcl]; exact (Nat.min_eq_left hn32).symm
       have hcf : ∀ j, j < cut → cs[j]? = some (.int .u8 (x.aft j)) := fun j hj => by rw [hcs, List.getElem?_take_of_lt hj, secL_get _ _ (by omega)]
       have ocs : ∀ v ∈ cs, v.oneCell' = true := fun v hv => secL_one x.aft v (List.mem_of_mem_take (by rw [← hcs]; exact hv))
       have rX : wx.rangeAt Bx 33 cs := fun j v hv => by
        have hj : j < cut := by have := (List.getElem?_eq_some_iff.1 hv).1; omega
        rw [hcf j hj] at hv
        rw [cell_of_row _ _ _ _ _ _ bX, ← hv]
        simp only [Wr.cells, wrL, List.getElem?_toArray]
        rw [show 33 + j = (32 + j) + 1 by omega, List.getElem?_cons_succ, List.getElem?_append_right (by rw [secL_length]; omega), secL_length, show 32 + j - 32 = j by omega, secL_get _ _ (by omega)]
       have tS : wx.there S (x.at_ * 32) cs.length := fun j hj => (dX.secs x.at_ hat).2 j (by omega)
       clear hcs
       go_wp2_with (first | (refine wpList_load_mid rfl 119 _ rfl g (i * 65) rfl x.cells _ hr1 hu71 rfl hi71 ?_) | (refine wpList_value rfl rfl (alloc71 _) ?_) | (refine wpList_storeNew rfl 119 _ _ rfl wr _ x.cells.toArray rfl rfl hi71a hs0 hone ?_; rw [← HW.out, ← HB.out]))
       refine wp_region_noPanic ?_
       refine wp_region_held_drew (S := fun w' => w'.cell? ⟨p, 0, none⟩ = some (.slice (some ⟨S, 0, none⟩) d.n c) ∧ w'.cell? ⟨Bx, 0, none⟩ = some (.int .i64 x.at_)) (by kernel_rfl) ⟨by simpa using y0, by simpa using yX⟩ (fun hHeld => ?_)
       refine t8 (i := 0) (v := .pointer (some ⟨p, 0, none⟩)) rfl hHeld ?_
       simp only [Act.put, z9]
       refine t8 (i := 1) (v := .pointer (some ⟨p, 0, none⟩)) rfl hHeld ?_
       simp only [Act.put, z9]
       refine t8 (i := 2) (v := .pointer (some ⟨p, 0, none⟩)) rfl hHeld ?_
       simp only [Act.put, z9]
       refine t8 (i := 3) (v := .slice (some ⟨S, 0, none⟩) d.n c) rfl hHeld ?_
       simp only [Act.put, z9]
       refine t8 (i := 4) (v := .pointer (some ⟨Bx, 0, none⟩)) rfl hHeld ?_
       simp only [Act.put, z9]
       refine t8 (i := 5) (v := .int .i64 x.at_) rfl hHeld ?_
       simp only [Act.put, z9]
       refine t8 (i := 6) (v := .pointer (some ⟨S, x.at_ * 32, none⟩)) rfl hHeld ?_
       simp only [Act.put, z9]
       refine t8 (i := 7) (v := .slice (some ⟨S, x.at_ * 32, none⟩) 32 32) rfl hHeld ?_
       simp only [Act.put, z9]
       refine t8 (i := 8) (v := .pointer (some ⟨Bx, 33, none⟩)) rfl hHeld ?_
       simp only [Act.put, z9]
       refine t8 (i := 9) (v := .int .i64 cut) rfl hHeld ?_
       simp only [Act.put, z9]
       refine t8 (i := 10) (v := .slice (some ⟨Bx, 33, none⟩) cut 32) rfl hHeld ?_
       simp only [Act.put, z9]
       refine wpAnyH_ready (rs := [11]) (by kernel_rfl) (by simp) ?_
       refine AllReadyH.cons rfl (fun K hK => ?_) AllReadyH.nil
       rw [if_pos (by rfl)]
       refine wp_copy_mid (.tmp 56) (.tmp 59) 37 37 rfl 5 Tryz.underlying37 size5 S (x.at_ * 32) 32 32 ⟨Bx, 33, none⟩ cut 32 cs (by rfl) (by rfl) (by simpa using tS) hmin (fun j v hv => by rw [Addr.add_mid]; simpa using rX j v hv) ocs ?_
       have oS : Only (fun i => i = S) wx (wx.drew.setCells S (x.at_ * 32) cs) := (Only.refl _ wx).drew.setCells _ _ _ (fun _ => rfl)
       refine hK.out _ _ ⟨oS.cell y0 h.pS, oS.cell yX hXS⟩ (fun hHeld => ?_)
       clear hK K hHeld
       simp only [Act.put, z9]
       refine wpAnyH_done (by kernel_rfl) ?_ _
       refine NoPanic.normal ?_
       obtain ⟨w5, hw5⟩ : ∃ q, q = wx.drew.setCells S (x.at_ * 32) cs := ⟨_, rfl⟩
       have d5 := (dX.drew).part x.at_ cut x.aft cs hcl hn32 hcf hat
       rw [← hw5] at oS d5 ⊢
       have D5 : Hid _ := d5
       have OS : Hid _ := oS
       clear hw5 d5 oS rX tS y0 yX dX
       go_wp2
       go_roundw
       case rel => exact ⟨i + 1, by omega, by go_num, by rw [crashTo_yes _ _ _ _ _ _ x HX.out HKP.out, if_pos rfl]; exact D5.out, (HO.out.trans HOX.out (fun _ _ e => e.elim)).trans OS.out (fun _ _ e => e)⟩
       case measure => simp [intOf]; omega
      ·have htb : ((i : Int) == torn) = false := by simpa using htn
       obtain ⟨cs, hcs⟩ : ∃ q, q = (secL x.aft).take 32 := ⟨_, rfl⟩
       have hcl : cs.length = 32 := by rw [hcs, List.length_take, secL_length]; omega
       have hn32 : 32 ≤ 32 := by omega
       have hmin : cs.length = Nat.min 32 32 := by rw [hcl]; exact (Nat.min_eq_left hn32).symm
       have hcf : ∀ j, j < 32 → cs[j]? = some (.int .u8 (x.aft j)) := fun j hj => by rw [hcs, List.getElem?_take_of_lt hj, secL_get _ _ (by omega)]
       have ocs : ∀ v ∈ cs, v.oneCell' = true := fun v hv => secL_one x.aft v (List.mem_of_mem_take (by rw [← hcs]; exact hv))
       have rX : wx.rangeAt Bx 33 cs := fun j v hv => by
        have hj : j < 32 := by have := (List.getElem?_eq_some_iff.1 hv).1; omega
        rw [hcf j hj] at hv
        rw [cell_of_row _ _ _ _ _ _ bX, ← hv]
        simp only [Wr.cells, wrL, List.getElem?_toArray]
        rw [show 33 + j = (32 + j) + 1 by omega, List.getElem?_cons_succ, List.getElem?_append_right (by rw [secL_length]; omega), secL_length, show 32 + j - 32 = j by omega, secL_get _ _ (by omega)]
       have tS : wx.there S (x.at_ * 32) cs.length := fun j hj => (dX.secs x.at_ hat).2 j (by omega)
       clear hcs
       have HT : Hid (¬ (i : Int) = torn) := htn
       clear htn
       go_wp2_with (first | (refine wpList_load_mid rfl 119 _ rfl g (i * 65) rfl x.cells _ hr1 hu71 rfl hi71 ?_) | (refine wpList_value rfl rfl (alloc71 _) ?_) | (refine wpList_storeNew rfl 119 _ _ rfl wr _ x.cells.toArray rfl rfl hi71a hs0 hone ?_; rw [← HW.out, ← HB.out]))
       refine wp_region_noPanic ?_
       refine wp_region_held_drew (S := fun w' => w'.cell? ⟨p, 0, none⟩ = some (.slice (some ⟨S, 0, none⟩) d.n c) ∧ w'.cell? ⟨Bx, 0, none⟩ = some (.int .i64 x.at_)) (by kernel_rfl) ⟨by simpa using y0, by simpa using yX⟩ (fun hHeld => ?_)
       refine t8 (i := 0) (v := .pointer (some ⟨p, 0, none⟩)) rfl hHeld ?_
       simp only [Act.put, z9]
       refine t8 (i := 1) (v := .pointer (some ⟨p, 0, none⟩)) rfl hHeld ?_
       simp only [Act.put, z9]
       refine t8 (i := 2) (v := .pointer (some ⟨p, 0, none⟩)) rfl hHeld ?_
       simp only [Act.put, z9]
       refine t8 (i := 3) (v := .slice (some ⟨S, 0, none⟩) d.n c) rfl hHeld ?_
       simp only [Act.put, z9]
       refine t8 (i := 4) (v := .pointer (some ⟨Bx, 0, none⟩)) rfl hHeld ?_
       simp only [Act.put, z9]
       refine t8 (i := 5) (v := .int .i64 x.at_) rfl hHeld ?_
       simp only [Act.put, z9]
       refine t8 (i := 6) (v := .pointer (some ⟨S, x.at_ * 32, none⟩)) rfl hHeld ?_
       simp only [Act.put, z9]
       refine t8 (i := 7) (v := .slice (some ⟨S, x.at_ * 32, none⟩) 32 32) rfl hHeld ?_
       simp only [Act.put, z9]
       refine t8 (i := 8) (v := .pointer (some ⟨Bx, 33, none⟩)) rfl hHeld ?_
       simp only [Act.put, z9]
       refine t8 (i := 9) (v := .int .i64 32) rfl hHeld ?_
       simp only [Act.put, z9]
       refine t8 (i := 10) (v := .slice (some ⟨Bx, 33, none⟩) 32 32) rfl hHeld ?_
       simp only [Act.put, z9]
       refine wpAnyH_ready (rs := [11]) (by kernel_rfl) (by simp) ?_
       refine AllReadyH.cons rfl (fun K hK => ?_) AllReadyH.nil
       rw [if_pos (by rfl)]
       refine wp_copy_mid (.tmp 56) (.tmp 59) 37 37 rfl 5 Tryz.underlying37 size5 S (x.at_ * 32) 32 32 ⟨Bx, 33, none⟩ 32 32 cs (by rfl) (by rfl) (by simpa using tS) hmin (fun j v hv => by rw [Addr.add_mid]; simpa using rX j v hv) ocs ?_
       have oS : Only (fun i => i = S) wx (wx.drew.setCells S (x.at_ * 32) cs) := (Only.refl _ wx).drew.setCells _ _ _ (fun _ => rfl)
       refine hK.out _ _ ⟨oS.cell y0 h.pS, oS.cell yX hXS⟩ (fun hHeld => ?_)
       clear hK K hHeld
       simp only [Act.put, z9]
       refine wpAnyH_done (by kernel_rfl) ?_ _
       refine NoPanic.normal ?_
       obtain ⟨w5, hw5⟩ : ∃ q, q = wx.drew.setCells S (x.at_ * 32) cs := ⟨_, rfl⟩
       have d5 := (dX.drew).part x.at_ 32 x.aft cs hcl hn32 hcf hat
       rw [← hw5] at oS d5 ⊢
       have D5 : Hid _ := d5
       have OS : Hid _ := oS
       clear hw5 d5 oS rX tS y0 yX dX
       go_wp2
       go_roundw
       case rel => exact ⟨i + 1, by omega, by go_num, by rw [crashTo_yes _ _ _ _ _ _ x HX.out HKP.out, if_neg HT.out]; exact D5.out, (HO.out.trans HOX.out (fun _ _ e => e.elim)).trans OS.out (fun _ _ e => e)⟩
       case measure => simp [intOf]; omega
   ·have hk1 : (kl : Int) ≤ (i : Int) := by omega
    clear hka ho
    go_wp2_with (first | (refine wpList_load_mid rfl 119 _ rfl g (i * 65) rfl x.cells _ hr1 hu71 rfl hi71 ?_) | (refine wpList_value rfl rfl (alloc71 _) ?_) | (refine wpList_storeNew rfl 119 _ _ rfl wr _ x.cells.toArray rfl rfl hi71a hs0 hone ?_; rw [← HW.out, ← HB.out]))
    go_roundw
    case rel => exact ⟨i + 1, by omega, by go_num, by rw [crashTo_no _ _ _ _ _ _ (by simp [hk])]; exact HDX.out, HO.out.trans HOX.out (fun _ _ e => e.elim)⟩
    case measure => simp [intOf]; omega
  ·obtain rfl : i = d.pend.length := by omega
   have z1 := dr.c1
   have z2 := dr.c2
   have zf1 := dr.f1
   have zf2 := dr.f2
   simp only at z2
   have HDR : Hid _ := dr
   have HO : Hid (Only (fun i => i = S) w wr) := ho
   clear dr ho hka hpa y1 HD
   go_wp2
   go_ret
   refine ⟨rfl, ?_, ?_⟩
   ·exact crashed_end HDR.out
   ·exact ((HO.out.mono (fun _ _ e => .inr e)).setCell _ _ (fun _ => .inl rfl)).setCell _ _ (fun _ => .inl rfl)
def DFlags (w : World) (v : Value) (kl : Nat) (kf : Nat → Bool) (S : Nat) : Prop := ∃ ka kc, v = .slice ka kl kc ∧ kl ≤ maxLen ∧ ∀ i, i < kl → ∃ kb ko, ka = some ⟨kb, ko, none⟩ ∧ kb ≠ S ∧ w.cell? ⟨kb, ko + i, none⟩ = some (.bool (kf i))
theorem crash_any (p S B kl cut : Nat) (pv kv : Value) (kf : Nat → Bool) (torn : Int) (d : DS) (w : World) (h : DiskAt w B p S pv d) (hcut : cut ≤ 32) (hk : DFlags w kv kl kf S) :
  Calls Tryz.prog 36 #[.pointer (some ⟨p, 0, none⟩), kv, .int .i64 torn, .int .i64 cut] w fun e w' => e = .returned (.int .i64 0) ∧
   DiskAt w' B p S (.slice none 0 0) ⟨d.n, crashTo (fun i => decide (i < kl) && kf i) torn cut d.pend (undoW d.pend d.sec) d.pend.length, [], -1⟩ ∧ Only (fun i => i = p ∨ i = S) w w' := by
 obtain ⟨ka, kc, rfl, hkl, hka⟩ := hk
 rcases h.form with ⟨h1, h2⟩ | ⟨g, cap, h1, h2⟩
 ·have e : Value.slice none 0 0 = .slice none d.pend.length 0 := by rw [h2]; rfl
  rw [h1, e] at h
  exact crash_core p S B kl kc cut 0 ka none kf torn d w h (by omega) hkl hka (fun i hi => by rw [h2] at hi; simp at hi)
 ·have hr := fun i hi => h.ranges h1 i hi
  have hS := h.hS
  rw [h1] at h
  exact crash_core p S B kl kc cut cap ka _ kf torn d w h (by omega) hkl hka (fun i hi => ⟨g, rfl, fun e => hS (by rw [h2, e]), hr i hi⟩)
theorem crash_bad (p : Nat) (kv : Value) (torn cut : Int) (w : World) (h : cut < 0 ∨ 32 < cut) :
  Calls Tryz.prog 36 #[.pointer (some ⟨p, 0, none⟩), kv, .int .i64 torn, .int .i64 cut] w fun e w' => e = .returned (.int .i64 2) ∧ w' = w := by
 rcases h with h | h
 ·go_enter Tryz.func36, Tryz.ntmps36
  go_wp2
  go_ret
  exact ⟨rfl, rfl⟩
 ·have h' : ¬ cut < 0 := by omega
  go_enter Tryz.func36, Tryz.ntmps36
  go_wp2
  go_ret
  exact ⟨rfl, rfl⟩
theorem info4 : (Tryz.prog.info? 4).map (fun i => (i.zero, i.size, i.bytes)) = some (some (.bool false), 1, 1) := by kernel_rfl
def allL (n : Nat) (sec : Nat → Nat → Int) : List Value := (List.range (n * 32)).map fun k => .int .u8 (sec (k / 32) (k % 32))
theorem allL_get (n : Nat) (sec : Nat → Nat → Int) (i j : Nat) (hi : i < n) (hj : j < 32) : (allL n sec)[i * 32 + j]? = some (.int .u8 (sec i j)) := by
 have h1 : i * 32 + j < n * 32 := by omega
 have h2 : (i * 32 + j) / 32 = i := by omega
 have h3 : (i * 32 + j) % 32 = j := by omega
 simp [allL, h1, h2, h3]
theorem ownsRow_base {w : World} {B B' e size n : Nat} {v : Value} {xs : List Value} (h : w.ownsRow B e size v n xs) (hb : B' ≤ B) : w.ownsRow B' e size v n xs := by
 refine ⟨h.1, h.2.imp id ?_⟩
 rintro ⟨g, cap, cur, h1, h2, rest⟩
 exact ⟨g, cap, cur, h1, by omega, rest⟩
theorem live_any (p S B : Nat) (pv : Value) (d : DS) (n : Int) (w : World) (h : DiskAt w B p S pv d) (h1 : -1 ≤ n) (h2 : n ≤ 9223372036854775807) :
  Calls Tryz.prog 38 #[.pointer (some ⟨p, 0, none⟩), .int .i64 n] w fun e w' => e = .returned (.int .i64 0) ∧ DiskAt w' B p S pv { d with life := n } ∧ Only (fun i => i = p) w w' := by
 refine (live_ok p _ n w h1 h.c2 h.f2).mono ?_
 rintro e w' ⟨rfl, rfl⟩
 have oP : Only (fun i => i = p) w (w.setCell ⟨p, 2, none⟩ (.int .i64 n)) := (Only.refl (fun i => i = p) w).setCell _ _ (fun _ => rfl)
 have hSp : S ≠ p := Ne.symm h.pS
 obtain ⟨c, hc⟩ := h.c0
 refine ⟨rfl, ?_, oP⟩
 exact { pB := h.pB, SB := h.SB, pS := h.pS
         c0 := ⟨c, by rw [World.cell?_setCell_other _ _ _ _ (by simp)]; exact hc⟩
         c1 := by rw [World.cell?_setCell_other _ _ _ _ (by simp)]; exact h.c1
         c2 := World.cell?_setCell_same _ _ _ h.c2
         f1 := by simpa using h.f1
         f2 := by simpa using h.f2
         secs := fun i hi => ⟨oP.range (h.secs i hi).1 hSp, oP.there (h.secs i hi).2 hSp⟩
         own := oP.owns h.own (fun k hk e => h.hp (by rw [hk, e]))
         hp := h.hp, hS := h.hS, n1 := h.n1, n2 := h.n2, at_ := h.at_, l1 := h1, l2 := h2 }
theorem barred {W W' : World} {B p S : Nat} {pv : Value} {d : DS} (h : DiskAt W B p S pv d) (l : Int) (hl1 : -1 ≤ l) (hl2 : l ≤ 9223372036854775807) (oP : Only (fun i => i = p) W W') (e0 : ∀ v, W.cell? ⟨p, 0, none⟩ = some v → W'.cell? ⟨p, 0, none⟩ = some v)
  (e1 : W'.cell? ⟨p, 1, none⟩ = some (.slice none 0 0)) (e2 : W'.cell? ⟨p, 2, none⟩ = some (.int .i64 l)) (f : ∀ a, W'.frozen? a = W.frozen? a) : DiskAt W' B p S (.slice none 0 0) { d with pend := [], life := l } := by
 have hSp : S ≠ p := Ne.symm h.pS
 obtain ⟨c, hc⟩ := h.c0
 exact { pB := h.pB, SB := h.SB, pS := h.pS
         c0 := ⟨c, e0 _ hc⟩
         c1 := e1
         c2 := e2
         f1 := (f _).trans h.f1
         f2 := (f _).trans h.f2
         secs := fun i hi => ⟨oP.range (h.secs i hi).1 hSp, oP.there (h.secs i hi).2 hSp⟩
         own := World.ownsRow_nil _ _ _ _
         hp := by simp [Value.ownBlock]
         hS := by simp [Value.ownBlock]
         n1 := h.n1, n2 := h.n2
         at_ := fun x hx => by cases hx
         l1 := hl1, l2 := hl2 }
theorem barrier_any (p S B : Nat) (pv : Value) (d : DS) (w : World) (h : DiskAt w B p S pv d) (hl : d.life ≠ 0) :
  Calls Tryz.prog 65 #[.pointer (some ⟨p, 0, none⟩)] w fun e w' => e = .returned (.int .i64 0) ∧ DiskAt w' B p S (.slice none 0 0) { d with pend := [], life := aged d.life } ∧ Only (fun i => i = p) w w' := by
 have h1 := h.l1
 have h2 := h.l2
 by_cases e : d.life = -1
 ·refine (barrier_end p _ w h.c1 h.f1 (by rw [← e]; exact h.c2)).mono ?_
  rintro e' w' ⟨rfl, rfl⟩
  have oP : Only (fun i => i = p) w (w.setCell ⟨p, 1, none⟩ (.slice none 0 0)) := (Only.refl (fun i => i = p) w).setCell _ _ (fun _ => rfl)
  refine ⟨rfl, barred h _ (by simp [aged, e]) (by simp [aged, e]) oP (fun v hv => by rw [World.cell?_setCell_other _ _ _ _ (by simp)]; exact hv) (World.cell?_setCell_same _ _ _ h.c1) ?_ (fun a => by simp), oP⟩
  rw [World.cell?_setCell_other _ _ _ _ (by simp), h.c2, e]; rfl
 ·refine (barrier_less p _ d.life w h.c1 h.f1 h.c2 h.f2 (by omega) h2).mono ?_
  rintro e' w' ⟨rfl, rfl⟩
  have oP : Only (fun i => i = p) w ((w.setCell ⟨p, 1, none⟩ (.slice none 0 0)).setCell ⟨p, 2, none⟩ (.int .i64 (d.life - 1))) := ((Only.refl (fun i => i = p) w).setCell _ _ (fun _ => rfl)).setCell _ _ (fun _ => rfl)
  refine ⟨rfl, barred h _ (by simp only [aged]; split <;> omega) (by simp only [aged]; split <;> omega) oP (fun v hv => by rw [World.cell?_setCell_other _ _ _ _ (by simp), World.cell?_setCell_other _ _ _ _ (by simp)]; exact hv) ?_ ?_ (fun a => by simp), oP⟩
  ·rw [World.cell?_setCell_other _ _ _ _ (by simp), World.cell?_setCell_same _ _ _ h.c1]
  ·rw [World.cell?_setCell_same _ _ _ ((World.cell?_setCell_other _ _ _ _ (by simp)).trans h.c2)]
   simp [aged, e]
def DS.write (d : DS) (k : Int) (f : Nat → Int) (m : Nat) : Int × DS :=
 if m ≠ 32 then (2, d) else if d.life = 0 then (3, d) else if k < 0 ∨ (d.n : Int) ≤ k then (4, d)
 else (0, { d with sec := upd d.sec k.toNat f, pend := d.pend ++ [⟨k.toNat, d.sec k.toNat, f⟩], life := aged d.life })
theorem write_all (p S m c B : Nat) (a : Option Addr) (pv : Value) (d : DS) (k : Int) (f : Nat → Int) (w : World) (h : DiskAt w B p S pv d) (hr : RowAt w (.slice a m c) m 1 (fun j => .int .u8 (f j))) (hB : B ≤ w.heap.size) (hby : (d.pend.length + 1) * 72 ≤ 140737488355328) (hm : m ≤ 140737488351232) :
  Calls Tryz.prog 40 #[.pointer (some ⟨p, 0, none⟩), .int .i64 k, .slice a m c] w fun e w' => e = .returned (.int .i64 (d.write k f m).1) ∧ ∃ pv', DiskAt w' B p S pv' (d.write k f m).2 ∧ Only (diskB p S pv) w w' ∧ (∀ b, pv'.ownBlock = some b → pv.ownBlock = some b ∨ w.heap.size ≤ b) := by
 have same : ∀ (x : Int) (e : Ending) (w' : World), d.write k f m = (x, d) → e = .returned (.int .i64 x) ∧ w' = w → e = .returned (.int .i64 (d.write k f m).1) ∧ ∃ pv', DiskAt w' B p S pv' (d.write k f m).2 ∧ Only (diskB p S pv) w w' ∧ (∀ b, pv'.ownBlock = some b → pv.ownBlock = some b ∨ w.heap.size ≤ b) := by
  rintro x e w' hw ⟨rfl, rfl⟩
  rw [hw]
  exact ⟨rfl, pv, h, Only.refl _ _, fun b hb => .inl hb⟩
 obtain ⟨c0, hc0⟩ := h.c0
 by_cases e1 : m = 32
 ·subst e1
  by_cases e2 : d.life = 0
  ·refine (write_dead p c a k w (by rw [← e2]; exact h.c2)).mono fun e w' hh => same 3 e w' (by simp [DS.write, e2]) hh
  ·by_cases e3 : k < 0 ∨ (d.n : Int) ≤ k
   ·refine (write_out p S d.n c0 c a d.life k w hc0 h.c2 (by simpa using e2) e3).mono fun e w' hh => same 4 e w' (by simp [DS.write, e2, e3]) hh
   ·obtain ⟨g, o, c', hv, hcell, hg⟩ := hr.at (by omega)
    simp only [Value.slice.injEq] at hv
    obtain ⟨rfl, _, rfl⟩ := hv
    have hk : k = (k.toNat : Int) := by omega
    have hrange : w.rangeAt g o (secL f) := fun j v hv => by
     have hj : j < 32 := by have := (List.getElem?_eq_some_iff.1 hv).1; rwa [secL_length] at this
     rw [secL_get _ _ hj] at hv
     rw [hcell j (by omega)]; exact hv
    have hwr : d.write k f 32 = (0, { d with sec := upd d.sec k.toNat f, pend := d.pend ++ [⟨k.toNat, d.sec k.toNat, f⟩], life := aged d.life }) := by simp [DS.write, e2, e3]
    rw [hwr]
    have := write_ok p S k.toNat g o c B pv d f w h e2 (by omega) hrange hB hby
    rw [← hk] at this
    exact this
 ·refine (write_len _ k a m c w (by simp; omega)).mono fun e w' hh => same 2 e w' (by simp [DS.write, e1]) hh
def DS.crash (d : DS) (ks : List Bool) (torn cut : Int) : Int × DS :=
 if cut < 0 ∨ 32 < cut then (2, d) else (0, ⟨d.n, crashTo (fun i => decide (i < ks.length) && ks.getD i false) torn cut.toNat d.pend (undoW d.pend d.sec) d.pend.length, [], -1⟩)
theorem crash_all (p S B : Nat) (pv kv : Value) (d : DS) (ks : List Bool) (torn cut : Int) (w : World) (h : DiskAt w B p S pv d) (hk : DFlags w kv ks.length (fun j => ks.getD j false) S) :
  Calls Tryz.prog 36 #[.pointer (some ⟨p, 0, none⟩), kv, .int .i64 torn, .int .i64 cut] w fun e w' => e = .returned (.int .i64 (d.crash ks torn cut).1) ∧ ∃ pv', DiskAt w' B p S pv' (d.crash ks torn cut).2 ∧ Only (fun i => i = p ∨ i = S) w w' ∧ (∀ b, pv'.ownBlock = some b → pv.ownBlock = some b) := by
 by_cases e : cut < 0 ∨ 32 < cut
 ·have hw : d.crash ks torn cut = (2, d) := by simp [DS.crash, e]
  rw [hw]
  refine (crash_bad p kv torn cut w e).mono ?_
  rintro e' w' ⟨rfl, rfl⟩
  exact ⟨rfl, pv, h, Only.refl _ _, fun _ hb => hb⟩
 ·have hw : d.crash ks torn cut = (0, ⟨d.n, crashTo (fun i => decide (i < ks.length) && ks.getD i false) torn cut.toNat d.pend (undoW d.pend d.sec) d.pend.length, [], -1⟩) := by simp [DS.crash, e]
  rw [hw]
  have hc : cut = (cut.toNat : Int) := by omega
  have := crash_any p S B ks.length cut.toNat pv kv (fun j => ks.getD j false) torn d w h (by omega) hk
  rw [← hc] at this
  refine this.mono ?_
  rintro e' w' ⟨he, hd, ho⟩
  exact ⟨he, _, hd, ho, fun b hb => by simp [Value.ownBlock] at hb⟩
theorem flags_own {w : World} {B m cap S : Nat} {a : Option Addr} {f : Nat → Bool} (h : w.ownsRow B 4 1 (.slice a m cap) m ((List.range m).map fun j => .bool (f j))) (hm : m ≤ maxLen) (hS : S < B) : DFlags w (.slice a m cap) m f S := by
 refine ⟨a, cap, rfl, hm, fun i hi => ?_⟩
 rcases h.2 with ⟨_, h2⟩ | ⟨g, c2, cur, hv, hg, _⟩
 ·omega
 ·simp only [Value.slice.injEq] at hv
  obtain ⟨rfl, _, rfl⟩ := hv
  refine ⟨g, 0, rfl, by omega, ?_⟩
  rw [Nat.zero_add, h.cellAt i (by omega)]
  simp [hi]
theorem allL_congr (n : Nat) (f g : Nat → Nat → Int) (h : ∀ i, i < n → ∀ j, j < 32 → f i j = g i j) : allL n f = allL n g := by
 simp only [allL]
 apply List.map_congr_left
 intro k hk
 have hk' : k < n * 32 := by simpa using hk
 rw [h (k / 32) (by omega) (k % 32) (by omega)]
theorem upd_back (s : Nat → Nat → Int) (k : Nat) (f : Nat → Int) : upd (upd s k f) k (s k) = s := by
 funext i
 by_cases e : i = k
 ·subst e; simp [upd]
 ·simp [upd, e]
theorem undoW_snoc (ws : List Wr) (x : Wr) (s : Nat → Nat → Int) : undoW (ws ++ [x]) s = undoW ws (upd s x.at_ x.bef) := by simp [undoW]
theorem undoW_write (ws : List Wr) (k : Nat) (f : Nat → Int) (s : Nat → Nat → Int) : undoW (ws ++ [⟨k, s k, f⟩]) (upd s k f) = undoW ws s := by
 rw [undoW_snoc, upd_back]
theorem write_n (d : DS) (k : Int) (f : Nat → Int) (m : Nat) : (d.write k f m).2.n = d.n := by
 simp only [DS.write]; split; rfl; split; rfl; split; rfl; rfl
theorem write_len2 (d : DS) (k : Int) (f : Nat → Int) (m : Nat) : (d.write k f m).2.pend.length ≤ d.pend.length + 1 := by
 simp only [DS.write]; split; simp; split; simp; split; simp; simp
theorem DFlags.frame {w w' : World} {v : Value} {kl S : Nat} {kf : Nat → Bool} (h : DFlags w v kl kf S) (S' : Nat) (ho : Only (fun _ => False) w w') (hS : w.heap.size ≤ S') : DFlags w' v kl kf S' := by
 obtain ⟨ka, kc, hv, hm, hk⟩ := h
 refine ⟨ka, kc, hv, hm, fun i hi => ?_⟩
 obtain ⟨kb, ko, h1, h2, h3⟩ := hk i hi
 refine ⟨kb, ko, h1, ?_, ho.cell h3 (fun e => e)⟩
 have : kb < w.heap.size := World.block_lt_of_cell? w _ h3
 omega
theorem range_lt {w : World} {g n : Nat} {s : Nat → Nat → Int} (hn : 1 ≤ n) (h : w.rangeAt g 0 (allL n s)) : g < w.heap.size :=
 World.block_lt_of_cell? w ⟨g, 0 + 0, none⟩ (h 0 (.int .u8 (s 0 0)) (by simpa using allL_get n s 0 0 (by omega) (by omega)))
def doAll (l : List Wr) (s : Nat → Nat → Int) : Nat → Nat → Int := l.foldl (fun s x => upd s x.at_ x.aft) s
theorem doAll_snoc (l : List Wr) (x : Wr) (s : Nat → Nat → Int) : doAll (l ++ [x]) s = upd (doAll l s) x.at_ x.aft := by simp [doAll]
theorem doAll_append (l l' : List Wr) (s : Nat → Nat → Int) : doAll (l ++ l') s = doAll l' (doAll l s) := by simp [doAll]
theorem doAll_keep : ∀ (l : List Wr) (s : Nat → Nat → Int) (k : Nat), (∀ x ∈ l, x.at_ ≠ k) → doAll l s k = s k
 | [], _, _, _ => rfl
 | x :: r, s, k, h => by
   have e : doAll (x :: r) s = doAll r (upd s x.at_ x.aft) := rfl
   rw [e, doAll_keep r _ k (fun y hy => h y (List.mem_cons_of_mem _ hy))]
   simp [upd, Ne.symm (h x (List.mem_cons_self ..))]
theorem doAll_take (l : List Wr) (s : Nat → Nat → Int) (i : Nat) (h : i < l.length) : doAll (l.take (i + 1)) s = upd (doAll (l.take i) s) (l[i]).at_ (l[i]).aft := by
 have e : l.take (i + 1) = l.take i ++ [l[i]] := by rw [List.take_add_one, List.getElem?_eq_getElem h]; rfl
 rw [e, doAll_snoc]
theorem doAll_last (l : List Wr) (s : Nat → Nat → Int) (i : Nat) (h : i < l.length) (hl : ∀ j (hj : j < l.length), i < j → (l[j]).at_ ≠ (l[i]).at_) : doAll l s (l[i]).at_ = (l[i]).aft := by
 have e : l = l.take (i + 1) ++ l.drop (i + 1) := (List.take_append_drop _ _).symm
 have : doAll l s = doAll (l.drop (i + 1)) (doAll (l.take (i + 1)) s) := by
  conv => lhs; rw [e]
  exact doAll_append _ _ _
 rw [this, doAll_keep _ _ _ (fun x hx => ?_), doAll_take l s i h]
 ·simp [upd]
 ·obtain ⟨j, hj, rfl⟩ := List.getElem_of_mem hx
  simp only [List.length_drop] at hj
  rw [List.getElem_drop]
  exact hl _ (by omega) (by omega)
def Good (d : DS) : Prop := doAll d.pend (undoW d.pend d.sec) = d.sec
theorem Good.nil (n : Nat) (s : Nat → Nat → Int) (l : Int) : Good ⟨n, s, [], l⟩ := rfl
theorem Good.write {d : DS} (h : Good d) (k : Int) (f : Nat → Int) (m : Nat) : Good (d.write k f m).2 := by
 simp only [DS.write]
 split
 ·exact h
 ·split
  ·exact h
  ·split
   ·exact h
   ·show doAll (d.pend ++ [_]) (undoW (d.pend ++ [_]) _) = _
    rw [undoW_write, doAll_snoc]
    simp only
    rw [show doAll d.pend (undoW d.pend d.sec) = d.sec from h]
theorem Good.crash {d : DS} (h : Good d) (ks : List Bool) (torn cut : Int) : Good (d.crash ks torn cut).2 := by
 simp only [DS.crash]
 split
 ·exact h
 ·rfl
end Go.Proofs.YtlcglapcmdpkfaaGreat
