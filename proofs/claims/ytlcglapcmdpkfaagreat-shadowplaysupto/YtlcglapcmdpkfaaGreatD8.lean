import Derived.Test.YtlcglapcmdpkfaaGreatTk
import Derived.Test.YtlcglapcmdpkfaaGreatD7
namespace Go.Proofs.YtlcglapcmdpkfaaGreat
open Go.RowKit Go.Shelf
set_option linter.unusedSimpArgs false
set_option linter.unusedVariables false
attribute [local go_sem] Oper.semAt_some
def undo {n : Nat} (pre : List (At n)) (sec : Nat → Nat → Int) : Nat → Nat → Int := pre.foldl (fun s x => upd s x.1.2.at_ x.1.2.bef) sec
theorem undo_snoc {n : Nat} (pre : List (At n)) (x : At n) (sec : Nat → Nat → Int) : undo (pre ++ [x]) sec = upd (undo pre sec) x.1.2.at_ x.1.2.bef := by simp [undo]
theorem Only.keeps {S B : Nat} {W W' : World} (h : Only (fun i => i = S) W W') (hS : S < B) : KeepsFrom B W W' :=
 ⟨h.size, fun k o hB hk _ => (h.block k (Array.getElem?_eq_some_iff.1 hk).1 (fun e => by omega)).trans hk⟩
theorem DiskAt.storedL {W : World} {B p S : Nat} {pv : Value} {d : DS} (hd : DiskAt W B p S pv d) (k : Nat) (f : Nat → Int) (cs : List Value) (hcs : cs.length = 32) (hf : secL f = cs) (hk : k < d.n) :
  DiskAt (W.drew.setCells S (k * 32) cs) B p S pv { d with sec := upd d.sec k f } := by
 have oS : Only (fun i => i = S) W (W.drew.setCells S (k * 32) cs) := (Only.refl _ W).drew.setCells _ _ _ (fun _ => rfl)
 have hpS := hd.pS
 obtain ⟨c, hc0⟩ := hd.c0
 have hsame := World.rangeAt_setCells_same W.drew S (k * 32) cs (by rw [hcs]; simpa using (hd.secs k hk).2)
 exact { pB := hd.pB, SB := hd.SB, pS := hd.pS
         c0 := ⟨c, oS.cell hc0 hpS⟩
         c1 := oS.cell hd.c1 hpS
         c2 := oS.cell hd.c2 hpS
         f1 := (oS.frozen (World.block_lt_of_cell? W _ hd.c1) hpS).trans hd.f1
         f2 := (oS.frozen (World.block_lt_of_cell? W _ hd.c2) hpS).trans hd.f2
         secs := fun i hi => by
          refine ⟨?_, World.there_setCells (by simpa using (hd.secs i hi).2) _ _ _⟩
          by_cases e : i = k
          ·subst e; simp only; rw [show upd d.sec i f i = f from if_pos rfl, hf]; exact hsame
          ·simp only [upd, if_neg e]
           exact World.rangeAt_setCells_apart (by simpa using (hd.secs i hi).1) _ _ _ (by rw [secL_length, hcs]; omega)
         own := oS.owns hd.own (fun k hk e => hd.hS (by rw [hk, e]))
         hp := hd.hp, hS := hd.hS, n1 := hd.n1, n2 := hd.n2, at_ := hd.at_, l1 := hd.l1, l2 := hd.l2 }
theorem DiskAt.stored {W : World} {B p S : Nat} {pv : Value} {d : DS} (hd : DiskAt W B p S pv d) (k : Nat) (f : Nat → Int) (hk : k < d.n) :
  DiskAt (W.drew.setCells S (k * 32) (secL f)) B p S pv { d with sec := upd d.sec k f } := hd.storedL k f _ (secL_length f) rfl hk
set_option maxRecDepth 100000 in
set_option maxHeartbeats 2000000 in
theorem take_core (p S B : Nat) (pv : Value) (d : DS) (l : List (At d.n)) (Pb : Nat) (w : World) (h : DiskAt w B p S pv d) (h1 : pv.oneCell' = true) (h2 : pv.cells = #[pv]) (hl : l.length ≤ maxLen) (hx : ∀ j (h : j < l.length), l[j].1.1 = j)
  (hpv : (pv = .slice none 0 0 ∧ l = []) ∨ ∃ cap, pv = .slice (some ⟨Pb, 0, none⟩) l.length cap) (hc : ∀ j (h : j < l.length), w.rangeAt Pb (j * 65) l[j].1.2.cells) (hPb : Pb < w.heap.size) (hPS : Pb ≠ S) :
  CallsIn Fence.wide 5 Tryz.prog 68 #[.pointer (some ⟨p, 0, none⟩)] w fun e w' => e = .returned (.tuple #[]) ∧ DiskAt w' B p S pv { d with sec := undo (fromLast d.n l 0) d.sec } ∧ Only (fun i => i = S) w w' := by
 have c1 := h.c1
 have lp : p < w.heap.size := World.block_lt_of_cell? w _ c1
 refine callsIn_of_wp_marks Tryz.func68 rfl trivial ?_ rfl
 simp only [Tryz.ntmps68, List.size_toArray, List.length_cons, List.length_nil, Nat.reduceAdd, Nat.reduceSub, Array.replicate_succ, Array.replicate_zero, List.push_toArray, List.append_toArray, List.nil_append, List.cons_append]
 gi_wp2_with fail
 refine ⟨trivial, (backward_in _ pv _ h1 h2).mono ?_⟩
 rintro e wq ⟨rfl, hwq⟩
 obtain ⟨Bd, hBd⟩ : ∃ x, x = w.heap.size := ⟨_, rfl⟩
 obtain ⟨Bs, hBs⟩ : ∃ x, x = (w.alloc (.cells #[.pointer (some ⟨p, 0, none⟩)] 24)).heap.size := ⟨_, rfl⟩
 have hBs2 : Bs = Bd + 1 := by rw [hBs, hBd]; simp
 have o0 : Only (fun i => i = S) w wq := by rw [hwq]; exact ((Only.refl _ w).alloc _).alloc _
 have hsz : wq.heap.size = w.heap.size + 2 := by rw [hwq]; simp
 have eBd : wq.cell? ⟨Bd, 0, none⟩ = some (.pointer (some ⟨p, 0, none⟩)) := by rw [hwq, hBd, cell_of_row _ _ _ _ _ _ (heap_alloc2_old w _ _)]; rfl
 have eBs : wq.cell? ⟨Bs, 0, none⟩ = some pv := by
  have : Bs = w.heap.size + 1 := by rw [hBs]; simp
  rw [hwq, this, cell_of_row _ _ _ _ _ _ (heap_alloc2_new w _ _)]; rfl
 have oF : Only (fun _ => False) w wq := by rw [hwq]; exact ((Only.refl _ w).alloc _).alloc _
 have dq : DiskAt wq B p S pv d := h.frame oF (fun _ _ e => e)
 have hcq : ∀ j (h : j < l.length), wq.rangeAt Pb (j * 65) l[j].1.2.cells := fun j hj => oF.range (hc j hj) (fun e => e)
 have hlt := h.lt
 have q1 : w.heap.size ≤ Bd := by omega
 have q2 : Bd < wq.heap.size := by omega
 have q3 : Bs < wq.heap.size := by omega
 have q5 : w.heap.size ≤ Bs := by omega
 have q4 : w.heap.size ≤ wq.heap.size := by omega
 rw [← hBd, ← hBs]
 clear hwq hBs hBs2 hBd hsz
 gi_wp2
 refine wpIn_rangeFunc_ownH (w := wq) rfl (by omega) (gf := 113) (lb := #[.pointer (some ⟨Bs, 0, none⟩)]) rfl trivial (enters_of Tryz.func113 (by kernel_rfl) rfl)
  (back_stops 4 Bs Pb d.n pv l wq hl hx eBs hpv hcq) (fun h k => ⟨k.1.trans h.1, k.2.trans h.2⟩) ?hKb (Below.refl _ _) (fun _ => rfl)
  (fun pre W => DiskAt W B p S pv { d with sec := undo pre d.sec } ∧ W.cell? ⟨Bd, 0, none⟩ = some (.pointer (some ⟨p, 0, none⟩)) ∧ Only (fun i => i = S) w W ∧ wq.heap.size ≤ W.heap.size)
  (fun _ _ _ => False) ?hI (fun _ _ _ _ _ hs _ _ => hs) ⟨dq, eBd, o0, Nat.le_refl _⟩
  (fun x a' W => ∃ Bx, wq.heap.size ≤ Bx ∧ W.heap[Bx]? = some (.cells x.1.2.cells.toArray 119 (0, 0)) ∧ a' = { tmps := #[.pointer (some ⟨p, 0, none⟩), .pointer (some ⟨Bd, 0, none⟩), undef, .pointer (some ⟨Bx, 0, none⟩), .pointer (some ⟨p, 0, none⟩), .pointer (some ⟨p, 0, none⟩), .pointer (some ⟨p, 1, none⟩), pv, .func (.func 113) #[] #[.pointer (some ⟨Bs, 0, none⟩)], .int .i64 x.1.1, .agg x.1.2.cells.toArray, undef, undef, undef, undef, undef, undef, undef, undef, undef], defers := [] })
  ?hAx ?assign ?body ?done ?stop
 case hKb =>
  intro W l0 o o' hl0 hw0 ho1 ho2
  have e1 : ∀ k, k < wq.heap.size → (W.putObj l0 o').heap[k]? = W.heap[k]? := fun k hk => (grownBy_putObj' W l0 o').block k (by have := (Array.getElem?_eq_some_iff.1 hw0).1; omega) (fun e => by cases e; omega)
  exact ⟨e1 Bs (by omega), e1 Pb (by omega)⟩
 case hI =>
  intro pre W W' row hs hg hr
  obtain ⟨hd, hb, ho, hz⟩ := hs
  have oo : Only (fun k => row = some k) W W' := (Only.refl _ W).grown hg (fun k e _ => e)
  refine ⟨hd.frame oo (fun k hk e => by have := (hr k e).1; have := (hlt k hk).2; omega), oo.cell hb (fun e => by have h9 : wq.heap.size ≤ Bd := (hr _ e).1; omega),
   ho.grown hg (fun k e hk => by have := (hr k e).1; omega), Nat.le_trans hz hg.size⟩
 case hAx =>
  intro x a' _ W W' row hs hg hr
  obtain ⟨Bx, hB, hbx, ha⟩ := hs
  refine ⟨Bx, hB, ?_, ha⟩
  rw [hg.block Bx (Array.getElem?_eq_some_iff.1 hbx).1 (fun e => ?_)]
  ·exact hbx
  ·obtain ⟨o, ho, hno⟩ := (hr Bx e.symm).2
   rw [hbx] at ho; cases ho; cases hno
 case assign =>
  rintro l0 pre x W K ⟨hd, hb, ho, hz⟩ hK
  have hi : (Tryz.prog.info? 119).map (·.size) = some x.1.2.cells.toArray.size := by rw [size71]; simp [Wr.cells, wrL_length]
  have hone : x.1.2.cells.toArray.all (·.oneCell') = true := all_oneCell_toArray (wrL_one _ _ _)
  have hln : x.1.2.cells.length = 65 := wrL_length _ _ _
  have hs0 : (wrL 0 (fun _ => 0) (fun _ => 0)).toArray.size = x.1.2.cells.toArray.size := by simp [hln, wrL_length]
  have hK2 : Hid _ := hK
  clear hK
  simp only [atEnc, List.zip_toArray, List.zip_cons_cons, List.zip_nil_right, List.foldl_toArray, List.foldl_cons, List.foldl_nil, List.setIfInBounds_toArray, List.set_cons_zero, List.set_cons_succ]
  refine wpIn_region_lit ?_
  refine wpListIn_alloc rfl 119 rfl _ (alloc71 _) ?_
  refine wpListIn_storeNew rfl 119 _ _ rfl W _ x.1.2.cells.toArray rfl rfl hi hs0 hone ?_
  gi_wp2
  refine hK2.out _ _ ((KeepsOthers.alloc _ _).from _) ⟨Below.heap_alloc _ _ _ (by omega), Below.heap_alloc _ _ _ (by have := ho.size; omega)⟩
   ⟨hd.frame ((Only.refl (fun _ => False) W).alloc _) (fun _ _ e => e), ((Only.refl (fun _ => False) W).alloc _).cell hb (fun e => e), ho.alloc _, by simp; omega⟩ ⟨W.heap.size, hz, heap_alloc_new W _, rfl⟩
 case body =>
  rintro l0 pre x a' W hl0 ⟨r, hr⟩ ⟨hd, hb, ho, hz⟩ ⟨Bx, hBx, bX, rfl⟩ hlen
  obtain ⟨⟨xi, xw⟩, hat⟩ := x
  simp only at hat bX
  obtain ⟨c, hc0⟩ := hd.c0
  simp only at hc0
  have hX0 : W.cell? ⟨Bx, 0, none⟩ = some (.int .i64 xw.at_) := by rw [cell_of_row _ _ _ _ _ _ bX]; rfl
  have hX1 : W.rangeAt Bx 1 (secL xw.bef) := fun j v hv => by
   have hj : j < 32 := by have := (List.getElem?_eq_some_iff.1 hv).1; rwa [secL_length] at this
   rw [cell_of_row _ _ _ _ _ _ bX]
   simp only [Wr.cells, wrL, List.getElem?_toArray]
   rw [Nat.add_comm, List.getElem?_cons_succ, List.getElem?_append_left (by rw [secL_length]; exact hj)]
   exact hv
  have ht := (hd.secs xw.at_ hat).2
  have hpS := h.pS
  have hSl := (hlt S (.inr (.inl rfl))).2
  have hu := Tryz.underlying67
  have hi : (Tryz.prog.info? 67).map (·.size) = some (secL xw.bef).length := by rw [size68, secL_length]
  have k0 : (0 : Int) ≤ (xw.at_ : Int) := Int.natCast_nonneg _
  have k1 : (xw.at_ : Int) < (d.n : Int) := by omega
  refine wpIn_block ?_
  refine wpIn_region_held (S := fun w' => w'.cell? ⟨Bd, 0, none⟩ = some (.pointer (some ⟨p, 0, none⟩)) ∧ w'.cell? ⟨p, 0, none⟩ = some (.slice (some ⟨S, 0, none⟩) d.n c) ∧ w'.cell? ⟨Bx, 0, none⟩ = some (.int .i64 xw.at_) ∧ w'.rangeAt Bx 1 (secL xw.bef)) (by kernel_rfl) (by kernel_rfl) ?hQ ?hS (fun hHeld => ?_)
  case hQ => rintro ⟨_, _, h⟩; exact h
  case hS => exact ⟨by simpa using hb, by simpa using hc0, by simpa using hX0, by simpa using hX1⟩
  refine t8 (i := 0) (v := .pointer (some ⟨p, 0, none⟩)) rfl hHeld ?_
  simp only [Act.put, z9]
  refine t8 (i := 1) (v := .pointer (some ⟨p, 0, none⟩)) rfl hHeld ?_
  simp only [Act.put, z9]
  refine t8 (i := 2) (v := .pointer (some ⟨p, 0, none⟩)) rfl hHeld ?_
  simp only [Act.put, z9]
  refine t8 (i := 3) (v := .slice (some ⟨S, 0, none⟩) d.n c) rfl hHeld ?_
  simp only [Act.put, z9]
  refine t8 (i := 4) (v := .pointer (some ⟨Bx, 0, none⟩)) rfl hHeld ?_
  simp only [Act.put, z9]
  refine t8 (i := 5) (v := .int .i64 xw.at_) rfl hHeld ?_
  simp only [Act.put, z9]
  refine t8 (i := 6) (v := .pointer (some ⟨Bx, 1, none⟩)) rfl hHeld ?_
  simp only [Act.put, z9]
  refine wpAnyH_take (i := 7) (v := .agg (secL xw.bef).toArray) rfl (by kernel_rfl) (by kernel_rfl) (by kernel_rfl) (fun _ _ _ h => h) (yieldsIf_load_mid (by rfl) 67 _ rfl Bx 1 rfl (secL xw.bef) _ (fun wx hSw => hSw.2.2.2) hu rfl hi) hHeld ?_
  simp only [Act.put, z9]
  refine t8 (i := 8) (v := .pointer (some ⟨S, xw.at_ * 32, none⟩)) rfl hHeld ?_
  simp only [Act.put, z9]
  refine wpAnyH_ready (rs := [9]) (by kernel_rfl) (by simp) ?_
  refine AllReadyH.cons rfl (fun K hK => ?_) AllReadyH.nil
  rw [if_pos (by rfl)]
  refine wp_store_mid 67 _ _ rfl S (xw.at_ * 32) (secL xw.bef).toArray rfl rfl (by simpa [secL_length] using ht) (by rw [size68]; simp [secL_length]) (all_oneCell_toArray (secL_one _)) ?_
  have oS : Only (fun i => i = S) W (W.drew.setCells S (xw.at_ * 32) (secL xw.bef)) := (Only.refl _ W).drew.setCells _ _ _ (fun _ => rfl)
  have hBS : Bd ≠ S := by omega
  have hXS : Bx ≠ S := by omega
  have hBsS : Bs ≠ S := by omega
  refine hK.out _ _ ⟨oS.cell hb hBS, oS.cell hc0 hpS, oS.cell hX0 hXS, oS.range hX1 hXS⟩ (fun hHeld => ?_)
  clear hK K
  refine wpAnyH_done (by kernel_rfl) ?_ _
  refine ⟨oS.keeps (by omega), ⟨oS.block Bs (by omega) hBsS, oS.block Pb (by have := ho.size; omega) hPS⟩, ?_, oS.cell hb hBS, ho.trans oS (fun _ _ e => e), Nat.le_trans hz oS.size⟩
  rw [undo_snoc]
  exact hd.stored xw.at_ xw.bef hat
 case done =>
  rintro D zs W hD rfl ⟨hd, hb, ho, hz⟩ hK
  gi_wp2
  refine ⟨by simp, .inl ⟨_, _, rfl, run_takeDeferred hK, ?_⟩⟩
  have oo : Only (fun k => some k = some D) W (W.putObj D (.deferred none)) := (Only.refl _ W).grown (grownBy_putObj' W D _) (fun k e _ => e.symm)
  refine ⟨_, results_none rfl _ _ _, rfl, hd.frame oo (fun k hk e => by cases e; have := (hlt _ hk).2; omega), ho.trans oo (fun k hk e => by cases e; omega)⟩
 case stop =>
  rintro D c pre W _ _ h _
  exact h.elim
def undoW (ws : List Wr) (sec : Nat → Nat → Int) : Nat → Nat → Int := ws.reverse.foldl (fun s x => upd s x.at_ x.bef) sec
theorem wrsL_get : ∀ (ws : List Wr) (j : Nat) (h : j < ws.length) (q : Nat), q < 65 → (wrsL ws)[j * 65 + q]? = (ws[j]).cells[q]?
 | x :: r, 0, h, q, hq => by
   simp only [wrsL, List.flatMap_cons, Nat.zero_mul, Nat.zero_add, List.getElem_cons_zero]
   rw [List.getElem?_append_left (by simp [Wr.cells, wrL_length]; exact hq)]
 | x :: r, j + 1, h, q, hq => by
   simp only [wrsL, List.flatMap_cons, List.getElem_cons_succ]
   rw [List.getElem?_append_right (by simp [Wr.cells, wrL_length]; omega)]
   have e : (j + 1) * 65 + q - x.cells.length = j * 65 + q := by simp [Wr.cells, wrL_length]; omega
   rw [e]
   exact wrsL_get r j (by simpa using h) q hq
theorem DiskAt.form {w : World} {B p S : Nat} {pv : Value} {d : DS} (h : DiskAt w B p S pv d) : (pv = .slice none 0 0 ∧ d.pend = []) ∨ ∃ g cap, pv = .slice (some ⟨g, 0, none⟩) d.pend.length cap ∧ pv.ownBlock = some g := by
 rcases h.own.2 with ⟨h1, h2⟩ | ⟨g, cap, cur, h1, _⟩
 ·exact .inl ⟨h1, List.eq_nil_of_length_eq_zero h2⟩
 ·exact .inr ⟨g, cap, h1, by rw [h1]; rfl⟩
theorem DiskAt.ranges {w : World} {B p S g cap : Nat} {pv : Value} {d : DS} (h : DiskAt w B p S pv d) (hv : pv = .slice (some ⟨g, 0, none⟩) d.pend.length cap) (j : Nat) (hj : j < d.pend.length) : w.rangeAt g (j * 65) (d.pend[j]).cells := fun q v hq => by
 have hq2 : q < 65 := by have := (List.getElem?_eq_some_iff.1 hq).1; simpa [Wr.cells, wrL_length] using this
 have ho := h.own
 rw [hv] at ho
 rw [ho.cellAt (j * 65 + q) (by omega), wrsL_get d.pend j hj q hq2]
 exact hq
theorem takeback_any (p S B : Nat) (pv : Value) (d : DS) (w : World) (h : DiskAt w B p S pv d) (hl : d.pend.length ≤ maxLen) :
  Calls Tryz.prog 68 #[.pointer (some ⟨p, 0, none⟩)] w fun e w' => e = .returned (.tuple #[]) ∧ DiskAt w' B p S pv { d with sec := undoW d.pend d.sec } ∧ Only (fun i => i = S) w w' := by
 refine (callsIn_wide (n := 5)).1 ?_
 obtain ⟨l, hl1, hl2, hl3⟩ : ∃ l : List (At d.n), l.length = d.pend.length ∧ (∀ j (h : j < l.length), l[j].1.1 = j) ∧ l.map (fun x => x.1.2) = d.pend := by
  refine ⟨List.ofFn (n := d.pend.length) fun i => ⟨(i.val, d.pend[i.val]), h.at_ _ (List.getElem_mem _)⟩, by simp, by simp, ?_⟩
  apply List.ext_getElem
  ·simp
  ·intro i h1 h2; simp
 have hu : undo (fromLast d.n l 0) d.sec = undoW d.pend d.sec := by
  simp only [undo, undoW, fromLast, List.drop_zero]
  rw [← hl3, ← List.map_reverse, List.foldl_map]
 have hw : ∀ j (hj : j < l.length), l[j].1.2 = d.pend[j]'(by omega) := fun j hj => by
  have := List.getElem_map (f := fun x : At d.n => x.1.2) (l := l) (i := j) (h := by simpa using hj)
  rw [← this]; simp only [hl3]
 rw [← hu]
 rcases h.form with ⟨h1, h2⟩ | ⟨g, cap, h1, h2⟩
 ·have hz : l = [] := List.eq_nil_of_length_eq_zero (by rw [hl1, h2]; rfl)
  exact take_core p S B pv d l p w h (by rw [h1]; rfl) (by rw [h1]; rfl) (by omega) hl2 (.inl ⟨h1, hz⟩) (fun j hj => by rw [hz] at hj; simp at hj) (World.block_lt_of_cell? w _ h.c1) h.pS
 ·refine take_core p S B pv d l g w h (by rw [h1]; rfl) (by rw [h1]; rfl) (by omega) hl2 (.inr ⟨cap, by rw [hl1]; exact h1⟩) (fun j hj => ?_) (h.own.lt g h2).2 (fun e => h.hS (by rw [h2, e]))
  rw [hw j hj]
  exact h.ranges h1 j (by omega)
end Go.Proofs.YtlcglapcmdpkfaaGreat
