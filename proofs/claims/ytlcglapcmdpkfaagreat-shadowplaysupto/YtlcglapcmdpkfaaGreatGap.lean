/-  -/
import Derived.Test.YtlcglapcmdpkfaaGreatGao
import Derived.Test.YtlcglapcmdpkfaaGreatGaa
import Derived.Test.YtlcglapcmdpkfaaGreatGan
namespace Go.Proofs.YtlcglapcmdpkfaaGreat
open Go.RowKit Go.Maps Go.Shelf
set_option linter.unusedSimpArgs false
set_option linter.unusedVariables false
set_option maxRecDepth 100000
set_option maxHeartbeats 16000000
attribute [local go_sem] Oper.semAt_some
section
variable {P : Program} {op : Oper} {a : Act} {w w' : World} {K : Act → World → Prop} {Q : Exit → Act → World → Prop}
variable {n : Nat} {ops : Array Oper}
theorem wpOp_wide {i : Nat} (hc : ∀ o, ops[i]? = some o → plainOp o.op = true) (hQ : ¬ LetsOut Q) (h : wpOp P ops Q i K a w) : wpOpIn Fence.wide n P ops Q i K a w := by
 unfold wpOp at h
 unfold wpOpIn
 cases ho : ops[i]? with
 | none => rw [ho] at h; exact h
 | some o =>
   rw [ho] at h
   have hco := hc o ho
   simp only at h ⊢
   split
   ·rename_i hw
    rw [if_pos hw] at h
    rcases h with h | ⟨_, hl⟩
    ·refine ⟨fun f hf => trivial, ?_⟩
     rw [Oper.semAt_eq _ _ _ (fun c hc' => by rw [hc'] at hco; cases hco)]
     unfold Oper.wp at h
     cases hr : (execOp a.eval o).run P w with
     | ok x w1 =>
       rw [hr] at h
       cases x with
       | value v => exact h
       | skip => exact h
       | defer d => exact h
       | enter f args =>
         refine ⟨fun e => (by cases e), ?_⟩
         exact (callsIn_wide (n := n - 1)).2 h
       | row r args =>
         refine ⟨fun e => (by cases e), fun c cs _ => ?_⟩
         obtain ⟨v, w', hr', hs'⟩ := (h : Rows P r args w1 _) c cs
         exact ⟨v, w', hr', stepsIn_wide.2 hs'⟩
       | _ => exact (h : False).elim
     | halt e w1 =>
       rw [hr] at h
       cases e <;> first | exact h | exact (h : False).elim
    ·exact absurd hl hQ
   ·rename_i hw
    rw [if_neg hw] at h
    exact ⟨fun f hf => trivial, h⟩
theorem wpAny_wide {md : Region.Mode} (hc : ∀ (i : Nat) (o : Oper), ops[i]? = some o → plainOp o.op = true) (hQ : ¬ LetsOut Q) : ∀ (fuel : Nat) (listed : Array Bool) (a : Act) (w : World), wpAny P md ops Q fuel listed a w → wpAnyIn Fence.wide n P md ops Q fuel listed a w
 | 0, _, _, _, h => h
 | fuel + 1, _, _, _, h => ⟨h.1, fun i hi => wpOp_wide (hc i) hQ (wpOp_mono (fun a' w' h' => wpAny_wide hc hQ fuel _ a' w' h') (h.2 i hi))⟩
theorem wpIn_region_wide {id : Nat} {S : World → Prop} (hm : P.follows .mixedOrders = true) (hc : ops.all (fun o => plainOp o.op) = true) (hQ : ¬ LetsOut Q) (hS : S w.drew)
  (h : S w.drew → wpAnyH P .any ops Q S ops.size (Array.replicate ops.size false) a w.drew) : (Code.region id ops true).wpIn Fence.wide n P Q a w :=
 wpIn_region_any hm (wpAny_wide (fun i o ho => by
  rw [Array.all_eq_true_iff_forall_mem] at hc
  exact hc o (Array.mem_of_getElem? ho)) hQ _ _ _ _ (wpAny_of_held _ _ _ _ (h hS)))
theorem wpIn_region_calm {id : Nat} {S : World → Prop} (hm : P.follows .mixedOrders = true) (hc : ops.all (fun o => plainOp o.op) = true) (hS : S w.drew)
  (h : S w.drew → wpAnyH P .any ops (fun e a w => e = .normal ∧ Q .normal a w) S ops.size (Array.replicate ops.size false) a w.drew) : (Code.region id ops true).wpIn Fence.wide n P Q a w :=
 Code.wpIn_mono (fun e a w h => by obtain ⟨rfl, h⟩ := h; exact h) (wpIn_region_wide hm hc (by rintro ⟨_, _, h⟩; cases h.1) hS h)
theorem wp_of_skip (hr : (execOp a.eval op).run P w = .ok .skip w') (h : K (a.put op.dst undef) w') : op.wp P a w K Q := by
 unfold Oper.wp
 rw [hr]
 exact h
theorem wp_mapUpdate (t : TypeId) (m k y : Operand) (ho : op.op = .mapUpdate t m k y) (vm vk vy : Value) (h1 : a.eval m = vm) (h2 : a.eval k = vk) (h3 : a.eval y = vy) (hr : (Instr.mapUpdate t vm vk vy).run P w = .ok () w') (h : K (a.put op.dst undef) w') : op.wp P a w K Q := by
 refine wp_of_skip ?_ h
 simp [execOp, ho, h1, h2, h3, hr, Sem.run_bind, Result.andThen]
theorem wp_of_same {v : Value} (hr : (execOp a.eval op).run P w = .ok (.value v) w) (h : K (a.put op.dst v) w) : op.wp P a w K Q := by
 unfold Oper.wp
 rw [hr]
 exact h
end
structure LpI (w : World) (x : SS) (sl : Int → Value) (A : List Nat) (fv : Value) (k : Nat) (W : World) : Prop where
 map : MapAt W (w.heap.size + 1) ((layK x.now A k).map fun p => (p.1, pgV sl p))
 plan : W.heap[w.heap.size + 2]? = some (.cells #[fv, .map (some (w.heap.size + 1)), .slice none 0 0] 105 (0, 0))
 res : W.heap[w.heap.size]? = some (.cells #[.slice none 0 0, .map none, .slice none 0 0] 105 (0, 0))
 only : Only (fun _ => False) w W
theorem build_pg (a : Int) (ad : Option Addr) (n c : Nat) (w : World) : (Instr.build 82 #[(0, .int .i64 a), (1, .slice ad n c)]).run Tryz.prog w = .ok (.agg #[.int .i64 a, .slice ad n c]) w := by kernel_rfl
theorem lay_step {w W : World} {x : SS} {sl : Int → Value} {A : List Nat} {fv : Value} {k : Nat} {i : Nat} {dt : List Nat} (h : LpI w x sl A fv k W) (hr : Rise x.now) (h0 : ∀ p ∈ x.now, 0 ≤ p.1 ∧ p.1 < 728) (hm : ((i : Int), 0, dt) ∈ x.now) (hk : (freshN x.now)[k]? = some i) :
  ∃ W', (Instr.mapUpdate 77 (.map (some (w.heap.size + 1))) (.int .i64 (i : Nat)) (.agg #[.int .i64 (A.getD k 0 : Nat), sl (i : Int)])).run Tryz.prog W.drew = .ok () W' ∧ LpI w x sl A fv (k + 1) W' ∧ Only (fun j => j = w.heap.size + 1) W W' := by
 have hi := h0 _ hm
 have hrl : Rise (layK x.now A k) := hr.keys (layK_keys _ _ _)
 have hlen : (layK x.now A k).length = x.now.length := by
  have := congrArg List.length (layK_keys x.now A k)
  simpa using this
 have hl := Rise.len (a := 0) (b := 728) hr h0
 simp at hl
 have od : Only (fun _ => False) W W.drew := (Only.refl _ W).drew
 obtain ⟨W', hrun, hmap, ho, hsz⟩ := (h.map.frame od (fun e => e)).store (i : Int) (by omega) (by rw [List.length_map, hlen]; unfold maxLen; omega) (.agg #[.int .i64 (A.getD k 0 : Nat), sl (i : Int)])
 have oW : Only (fun j => j = w.heap.size + 1) W W' := (od.mono (fun _ _ e => e.elim)).trans ho (fun _ _ e => e)
 have hlt := h.map.lt
 refine ⟨W', hrun, { map := ?_, plan := ?_, res := ?_, only := h.only.trans oW (fun j hj e => by omega) }, oW⟩
 ·have hex : ∃ q ∈ layK x.now A k, q.1 = (i : Int) := by
   have : (i : Int) ∈ (layK x.now A k).map (·.1) := by rw [layK_keys]; exact List.mem_map.2 ⟨_, hm, rfl⟩
   obtain ⟨q, hq, e⟩ := List.mem_map.1 this
   exact ⟨q, hq, e⟩
  have e1 := layK_step x.now A k (i : Int) dt hr (fun p hp => (h0 p hp).1) hm (by simpa using hk)
  have e2 := putL_map (pgV sl) (pgV sl) ((i : Int), (A.getD k 0, dt)) (layK x.now A k) (fun _ _ => rfl)
  rw [putL_set hrl hex, e1] at e2
  have e3 : pgV sl ((i : Int), (A.getD k 0, dt)) = .agg #[.int .i64 (A.getD k 0 : Nat), sl (i : Int)] := rfl
  rw [e3] at e2
  rw [← e2]
  exact hmap
 ·rw [oW.block _ (Array.getElem?_eq_some_iff.1 h.plan).1 (by omega)]; exact h.plan
 ·rw [oW.block _ (Array.getElem?_eq_some_iff.1 h.res).1 (by omega)]; exact h.res
theorem app_fresh1 {w : World} {B : Nat} {v u : Value} {zs ys : List Nat} (h : Fresh w B v zs) (hu : BytesAt w u ys) (hB : B ≤ w.heap.size) (hl : zs.length + ys.length ≤ 140737488355328) :
  ∃ a cap w', (∀ ty, (Builtin.append_ #[37, 37] ty #[v, u]).run Tryz.prog w = .ok (.slice a (zs.length + ys.length) cap) w') ∧ Fresh w' B (.slice a (zs.length + ys.length) cap) (zs ++ ys) ∧ Only (fun i => v.ownBlock = some i) w w' := by
 obtain ⟨i0, hi0, hz0, hz1, hz2⟩ := info_parts info5
 rcases hu.1 with ⟨rfl, h0⟩ | ⟨ad, c, rfl, hkc, hc⟩
 ·obtain rfl : ys = [] := List.eq_nil_of_length_eq_zero h0
  obtain ⟨a, cap, rfl⟩ := h.form
  refine ⟨a, cap, w, fun ty => run_append_owned_none _ B 37 ty 5 i0 1 Tryz.underlying37 hi0 _ zs.length (BL zs) h.1, by simpa using h, Only.refl _ _⟩
 ·have hnews : ∀ j x, (BL ys)[j]? = some x → w.cell? (ad.add j) = some x := fun j x hx => by
   have hj : j < ys.length := by have := (List.getElem?_eq_some_iff.1 hx).1; rwa [BL_length] at this
   rw [hc j (by omega)]
   rw [BL_get _ _ hj] at hx
   rw [← hx]
   simp [List.getD, hj]
  have key := fun ty => run_append_own_at (P := Tryz.prog) w B 37 ty 5 i0 _ 1 1 Tryz.underlying37 hi0 hz0 hz1 hz2 rfl (by omega) v zs.length (BL zs) h.1 ad ys.length c (BL ys) (by rw [BL_length]; omega) hnews (BL_one ys) (by unfold maxLen; omega) (by omega) hB
  obtain ⟨v', w', hr, own', hg, _, _⟩ := key 0
  obtain ⟨a, cap, rfl⟩ := ownsRow_slice own'
  exact ⟨a, cap, w', fun ty => by rw [← hr]; rfl, Fresh.more own' hl h.2.2 hu.2.2, (Only.refl _ w).grown hg (fun k e hk => e)⟩
structure PmI (wl : World) (b : Nat) (fv mv : Value) (tab : List Nat) (W : World) : Prop where
 plan : ∃ v, W.heap[b]? = some (.cells #[fv, mv, v] 105 (0, 0)) ∧ Fresh W wl.heap.size v tab
 only : Only (fun k => k = b) wl W
theorem PmI.frame {wl W W' : World} {b : Nat} {fv mv : Value} {tab : List Nat} {row : Option Nat} (h : PmI wl b fv mv tab W) (hb : b < wl.heap.size)
  (hg : W.grownBy W' row) (hr : ∀ r, row = some r → wl.heap.size ≤ r ∧ ∃ o : Obj, W.heap[r]? = some o ∧ o.isCells = false) : PmI wl b fv mv tab W' := by
 have oo : Only (fun k => row = some k) W W' := (Only.refl _ W).grown hg (fun k e _ => e)
 obtain ⟨v, hp, hf⟩ := h.plan
 have hbl := (Array.getElem?_eq_some_iff.1 hp).1
 refine { plan := ⟨v, ?_, ⟨oo.owns hf.1 (fun j e1 e2 => ?_), hf.2⟩⟩, only := h.only.grown hg (fun k e hk => by have := (hr k e).1; omega) }
 ·rw [oo.block b hbl (fun e => by have := (hr b e).1; omega)]; exact hp
 ·obtain ⟨_, o, ho, hc⟩ := hr j e2
  rw [owned_cells hf.1 e1 ho] at hc
  cases hc
theorem PmI.app {wl W W2 : World} {b : Nat} {fv mv v u : Value} {tab zs : List Nat} (h : PmI wl b fv mv tab W) (hb : b < wl.heap.size) (hp : W.heap[b]? = some (.cells #[fv, mv, v] 105 (0, 0))) (hf : Fresh W wl.heap.size v tab) (hu : Fresh W2 W.heap.size u zs) (ho : Only (fun _ => False) W W2) (hl : tab.length + zs.length ≤ 1000000) :
  ∃ a5 c5 W3 W4, (∀ ty, (Builtin.append_ #[37, 37] ty #[v, u]).run Tryz.prog W2 = .ok (.slice a5 (tab.length + zs.length) c5) W3) ∧ W3.cell? ⟨b, 2, none⟩ = some v ∧ W3.frozen? ⟨b, 2, none⟩ = false ∧ W4 = W3.setCell ⟨b, 2, none⟩ (.slice a5 (tab.length + zs.length) c5) ∧
    Hid (PmI wl b fv mv (tab ++ zs) W4 ∧ W4.heap[b]? = some (.cells #[fv, mv, .slice a5 (tab.length + zs.length) c5] 105 (0, 0)) ∧ Fresh W4 wl.heap.size (.slice a5 (tab.length + zs.length) c5) (tab ++ zs) ∧ KeepsFrom wl.heap.size W W4 ∧ Only (fun i => v.ownBlock = some i) W W3 ∧ Only (fun i => v.ownBlock = some i ∨ i = b) W W4) := by
 have hs := h.only.size
 have hbl := (Array.getElem?_eq_some_iff.1 hp).1
 obtain ⟨a5, c5, W3, hr, hf3, ho3⟩ := app_fresh1 (hf.frame ho) hu.bytes (by have := ho.size; omega) (by omega)
 have hnb : ¬ v.ownBlock = some b := fun e => by have := (hf.1.lt b e).1; omega
 have hp3 : W3.heap[b]? = some (.cells #[fv, mv, v] 105 (0, 0)) := by
  rw [ho3.block b (by have := ho.size; omega) hnb, ho.block b hbl (fun e => e)]; exact hp
 have oW3 : Only (fun i => v.ownBlock = some i) W W3 := (ho.mono (fun _ _ e => e.elim)).trans ho3 (fun _ _ e => e)
 have o4 : Only (fun i => i = b) W3 (W3.setCell ⟨b, 2, none⟩ (.slice a5 (tab.length + zs.length) c5)) := (Only.refl _ W3).setCell _ _ (fun _ => rfl)
 have oW4 : Only (fun i => v.ownBlock = some i ∨ i = b) W (W3.setCell ⟨b, 2, none⟩ (.slice a5 (tab.length + zs.length) c5)) := (oW3.mono (fun _ _ e => .inl e)).trans (o4.mono (fun _ _ e => .inr e)) (fun _ _ e => e)
 have hp4 : (W3.setCell ⟨b, 2, none⟩ (.slice a5 (tab.length + zs.length) c5)).heap[b]? = some (.cells #[fv, mv, .slice a5 (tab.length + zs.length) c5] 105 (0, 0)) := by
  rw [heap_setCell_same W3 b 2 _ _ _ hp3]; rfl
 have hf4 : Fresh (W3.setCell ⟨b, 2, none⟩ (.slice a5 (tab.length + zs.length) c5)) wl.heap.size (.slice a5 (tab.length + zs.length) c5) (tab ++ zs) := ⟨o4.owns hf3.1 (fun j e1 e2 => by have := (hf3.1.lt j e1).1; omega), hf3.2⟩
 refine ⟨a5, c5, W3, _, hr, by rw [cell_of_row _ _ _ _ _ _ hp3]; rfl, frozen_of_row _ _ _ _ _ hp3, rfl, ⟨{ plan := ⟨_, hp4, hf4⟩, only := h.only.trans oW4 (fun j hj e => ?_) }, hp4, hf4, keeps_of oW4 (fun j o e hj ho' => ?_), oW3, oW4⟩⟩
 ·rcases e with e | e
  ·have := (hf.1.lt j e).1; omega
  ·exact e
 ·rcases e with e | e
  ·exact owned_cells hf.1 e ho'
  ·omega
def tabOf (L : Pgs) (zs : List Int) (pre : List Nat) : List Nat := (pre.map fun k => zs.getD k 0).flatMap fun i => num i.toNat ++ num (atOf L i)
theorem tabOf_snoc (L : Pgs) (zs : List Int) (pre : List Nat) (k : Nat) : tabOf L zs (pre ++ [k]) = tabOf L zs pre ++ (num (zs.getD k 0).toNat ++ num (atOf L (zs.getD k 0))) := by
 simp only [tabOf, List.map_append, List.map_cons, List.map_nil, List.flatMap_append, List.flatMap_cons, List.flatMap_nil, List.append_nil]
theorem tabOf_all {L : Pgs} (h : Rise L) : tabOf L (L.map (·.1)) (List.range (L.map (·.1)).length) = tabB L := by
 unfold tabOf tabB
 rw [map_range_getD, List.flatMap_map]
 have : ∀ p ∈ L, num p.1.toNat ++ num (atOf L p.1) = num p.1.toNat ++ num p.2.1 := fun p hp => by
  unfold atOf pgAt
  rw [(getL_mem h p.1 p.2).2 hp]
  rfl
 simp only [List.flatMap]
 rw [List.map_congr_left this]
theorem tabOf_len (L : Pgs) (zs : List Int) (hz : ∀ z ∈ zs, 0 ≤ z ∧ z < 728) (hL : ∀ i, atOf L i < 16384) : ∀ (pre : List Nat), (tabOf L zs pre).length ≤ 4 * pre.length
 | [] => by simp [tabOf]
 | k :: pre => by
   have ih := tabOf_len L zs hz hL pre
   have hk := getD_mem0 zs hz k
   have e1 := num_len 1 (zs.getD k 0).toNat (by omega)
   have e2 := num_len 1 (atOf L (zs.getD k 0)) (hL _)
   have e3 : tabOf L zs (k :: pre) = (num (zs.getD k 0).toNat ++ num (atOf L (zs.getD k 0))) ++ tabOf L zs pre := by simp [tabOf]
   rw [e3]
   simp only [List.length_append, List.length_cons]
   omega
theorem lay_at {x : SS} (h : x.Wf) {A : List Nat} (hA : ∀ a ∈ A, a < 2048) (k : Nat) (i : Int) : atOf (layK x.now A k) i < 2048 := by
 unfold atOf pgAt
 cases e : getL (layK x.now A k) i with
 | none => simp
 | some v =>
   simp only [Option.getD_some]
   have hm : ∃ q ∈ layK x.now A k, q.2 = v := by
    simp only [getL, Option.map_eq_some_iff] at e
    obtain ⟨q, hq, rfl⟩ := e
    exact ⟨q, (find_key hq).1, rfl⟩
   obtain ⟨q, hq, rfl⟩ := hm
   rcases layP_mem hq with hq | ⟨_, hq⟩
   ·have := (h.now q hq).2.1
    have := h.size
    omega
   ·rcases hq with hq | hq
    ·exact hA _ hq
    ·omega
theorem only_set3 (W : World) (g i j k : Nat) (u v y : Value) : Only (fun b => b = g) W (((W.setCell ⟨g, i, none⟩ u).setCell ⟨g, j, none⟩ v).setCell ⟨g, k, none⟩ y) :=
 (((Only.refl (fun b => b = g) W).setCell ⟨g, i, none⟩ u (fun _ => rfl)).setCell ⟨g, j, none⟩ v (fun _ => rfl)).setCell ⟨g, k, none⟩ y (fun _ => rfl)
theorem row_set3 {W : World} {g : Nat} {a b c : Value} {ty : TypeId} (h : W.heap[g]? = some (.cells #[a, b, c] ty (0, 0))) (u v y : Value) : (((W.setCell ⟨g, 0, none⟩ u).setCell ⟨g, 1, none⟩ v).setCell ⟨g, 2, none⟩ y).heap[g]? = some (.cells #[u, v, y] ty (0, 0)) := by
 have g1 := heap_setCell_same W g 0 _ _ u h
 have g2 := heap_setCell_same _ g 1 _ _ v g1
 have g3 := heap_setCell_same _ g 2 _ _ y g2
 rw [g3]
 rfl
theorem numb_app {wl W : World} {b : Nat} {fv mv : Value} {a3 : Option Addr} {c3 T z : Nat} {tab : List Nat} (S : World → Prop) (hS : ∀ W', Only (fun j => wl.heap.size ≤ j ∨ j = b) wl W' → W'.cell? ⟨b, 1, none⟩ = some mv → S W')
  (h : PmI wl b fv mv tab W) (hb : b < wl.heap.size) (hp : W.heap[b]? = some (.cells #[fv, mv, .slice a3 T c3] 105 (0, 0))) (hf : Fresh W wl.heap.size (.slice a3 T c3) tab) (hT : tab.length = T) (hz : z < 9223372036854775808) (hl : tab.length ≤ 100000) :
  Calls Tryz.prog 105 #[.int .u64 z] W.drew fun e W2 => ∃ u, e = .returned u ∧ W2.cell? ⟨b, 2, none⟩ = some (.slice a3 T c3) ∧ Hid (S W2) ∧ Hid (∃ a5 c5 W3 W4, (∀ ty, (Builtin.append_ #[37, 37] ty #[.slice a3 T c3, u]).run Tryz.prog W2 = .ok (.slice a5 (T + (num z).length) c5) W3) ∧ W3.cell? ⟨b, 2, none⟩ = some (.slice a3 T c3) ∧ W3.frozen? ⟨b, 2, none⟩ = false ∧ W4 = W3.setCell ⟨b, 2, none⟩ (.slice a5 (T + (num z).length) c5) ∧ Hid (S W3) ∧ Hid (S W4) ∧
   Hid (PmI wl b fv mv (tab ++ num z) W4 ∧ W4.heap[b]? = some (.cells #[fv, mv, .slice a5 (T + (num z).length) c5] 105 (0, 0)) ∧ Fresh W4 wl.heap.size (.slice a5 (T + (num z).length) c5) (tab ++ num z) ∧ KeepsFrom wl.heap.size W W4 ∧ Only (fun i => wl.heap.size ≤ i ∨ i = b) W W4)) := by
 refine (number_any z W.drew (by omega)).mono ?_
 rintro e W2 ⟨u, rfl, hu, ho⟩
 rw [Nat.mod_eq_of_lt hz] at hu
 have ho' : Only (fun _ => False) W W2 := ((Only.refl _ W).drew).trans ho (fun _ _ e => e)
 have hbl := (Array.getElem?_eq_some_iff.1 hp).1
 have hp2 : W2.heap[b]? = some (.cells #[fv, mv, .slice a3 T c3] 105 (0, 0)) := by rw [ho'.block b hbl (fun e => e)]; exact hp
 have h9 := num_nine hz
 obtain ⟨a5, c5, W3, W4, hr, hc, hfz, h4, hh⟩ := h.app hb hp hf (show Fresh W2 W.heap.size u (num z) from hu) ho' (by omega)
 rw [hT] at hr h4 hh
 obtain ⟨i1, i2, i3, i4, i5, i6⟩ := hh.out
 have lt : ∀ j, (Value.slice a3 T c3).ownBlock = some j → wl.heap.size ≤ j := fun j e => (hf.1.lt j e).1
 have oW : Only (fun j => wl.heap.size ≤ j ∨ j = b) wl W := h.only.mono (fun _ _ e => .inr e)
 have q3 : W3.cell? ⟨b, 1, none⟩ = some mv := by
  have : W3.heap[b]? = some (.cells #[fv, mv, .slice a3 T c3] 105 (0, 0)) := by
   rw [i5.block b hbl (fun e => by have := lt b e; omega)]; exact hp
  rw [cell_of_row _ _ _ _ _ _ this]; rfl
 refine ⟨u, rfl, by rw [cell_of_row _ _ _ _ _ _ hp2]; rfl, hS _ (oW.trans ho' (fun _ _ e => e.elim)) (by rw [cell_of_row _ _ _ _ _ _ hp2]; rfl), a5, c5, W3, W4, hr, hc, hfz, h4, hS _ (oW.trans i5 (fun j _ e => .inl (lt j e))) q3, hS _ (oW.trans i6 (fun j _ e => ?_)) (by rw [cell_of_row _ _ _ _ _ _ i2]; rfl), ⟨i1, i2, i3, i4, i6.mono (fun j _ e => ?_)⟩⟩
 ·rcases e with e | e
  ·exact .inl (lt j e)
  ·exact .inr e
 ·rcases e with e | e
  ·exact .inl (lt j e)
  ·exact .inr e
theorem planat_core {w : World} {dk : Nat → Prop} {s p mc mn : Nat} {tv : Value} {x : SS} (h : StAt w dk s p mc mn tv x) (av : Nat → Prop) (hv : PMap w av mn x.now) (a1 a2 : Option Addr) (c1 c2 : Nat) (A : List Nat)
  (h1 : IntsAt w (.slice a1 (freshN x.now).length c1) (freshN x.now)) (h2 : IntsAt w (.slice a2 A.length c2) A) (hA : A.length = (freshN x.now).length) (hAb : ∀ a ∈ A, a < 2048) :
  CallsIn Fence.wide 6 Tryz.prog 79 #[.pointer (some ⟨s, 0, none⟩), .slice a1 (freshN x.now).length c1, .slice a2 A.length c2] w fun e w' => ∃ m a3 c3, e = .returned (.agg #[.slice a1 (freshN x.now).length c1, .map (some m), .slice a3 (tabB (layP x.now A)).length c3]) ∧ Hid (w.heap.size ≤ m ∧ PMap w' av m (layP x.now A) ∧ Fresh w' w.heap.size (.slice a3 (tabB (layP x.now A)).length c3) (tabB (layP x.now A)) ∧ Only (fun _ => False) w w') := by
 have c6 := h.c6
 have HS : Hid (StAt w dk s p mc mn tv x) := h
 obtain ⟨F, hF⟩ : ∃ F, F = (freshN x.now).length := ⟨_, rfl⟩
 have HF : Hid (F = (freshN x.now).length) := hF
 have HA : Hid (A.length = F) := hA.trans hF.symm
 rw [hA, ← hF] at h2
 rw [← hF] at h1
 rw [hA, ← hF]
 have hF728 : F ≤ 728 := by
  have l1 := Rise.len (a := 0) (b := 728) h.now.rise (fun p hp => (h.wf.now p hp).1)
  simp at l1
  have l2 := freshN_len x.now
  omega
 clear hA hF
 refine callsIn_of_wp_marks Tryz.func79 rfl trivial ?_ rfl
 simp only [Tryz.ntmps79, List.size_toArray, List.length_cons, List.length_nil, Nat.reduceAdd, Nat.reduceSub, Array.replicate_succ, Array.replicate_zero, List.push_toArray, List.append_toArray, List.nil_append, List.cons_append]
 obtain ⟨wa, hwa⟩ : ∃ q, q = w.alloc (.cells #[.slice none 0 0, .map none, .slice none 0 0] 105) := ⟨_, rfl⟩
 have oa : Only (fun _ => False) w wa := by rw [hwa]; exact (Only.refl _ w).alloc _
 have c6a := (h.still oa).c6
 rw [hwa] at c6a
 obtain ⟨sl, hm, hbd⟩ := hv
 have HM : Hid (MapAt w mn (x.now.map fun p => (p.1, pgV sl p)) ∧ ∀ p ∈ x.now, BytesAt w (sl p.1) p.2.2 ∧ ∀ b, (sl p.1).ownBlock = some b → b < w.heap.size ∧ ¬ av b) := ⟨hm, hbd⟩
 have HCl : Hid (Calls Tryz.prog 67 #[.map (some mn)] wa fun e w2 => e = .returned (.map (some (w.heap.size + 1))) ∧ MapAt w2 (w.heap.size + 1) (x.now.map fun p => (p.1, pgV sl p)) ∧ Only (fun _ => False) wa w2 ∧ w2.heap.size = w.heap.size + 2) := by
  have e : wa.heap.size = w.heap.size + 1 := by rw [hwa]; simp
  refine (mclone_any mn _ wa (hm.frame oa (fun e => e))).mono ?_
  rw [e]
  rintro e w' ⟨rfl, q1, q2, q3⟩
  exact ⟨rfl, q1, q2, by omega⟩
 have HWA : Hid (wa = w.alloc (.cells #[.slice none 0 0, .map none, .slice none 0 0] 105)) := hwa
 have HOA : Hid (Only (fun _ => False) w wa) := oa
 have hsl := h.lt
 clear h hm hbd oa hwa
 gi_wp2_with fail
 rw [← HWA.out]
 refine ⟨trivial, ((callsIn_wide (n := 5)).2 (show Calls Tryz.prog 67 _ _ _ from HCl.out)).mono ?_⟩
 rintro e w2 ⟨rfl, hm2, ho2, hs2⟩
 clear HCl c6a
 obtain ⟨wb, hwb⟩ : ∃ q, q = w2.alloc (.cells #[.slice a1 F c1, .map (some (w.heap.size + 1)), .slice none 0 0] 105) := ⟨_, rfl⟩
 have HWB : Hid (wb = w2.alloc (.cells #[.slice a1 F c1, .map (some (w.heap.size + 1)), .slice none 0 0] 105)) := hwb
 have hI0 : LpI w x sl A (.slice a1 F c1) 0 wb := by
  have ob : Only (fun _ => False) w2 wb := by rw [hwb]; exact (Only.refl _ w2).alloc _
  refine { map := ?_, plan := ?_, res := ?_, only := (HOA.out.trans ho2 (fun _ _ e => e)).trans ob (fun _ _ e => e) }
  ·rw [layK_zero]; exact hm2.frame ob (fun e => e)
  ·rw [hwb, ← hs2]; exact heap_alloc_new w2 _
  ·rw [ob.block _ (by omega) (fun e => e), ho2.block _ (by have := HWA.out; rw [this]; simp) (fun e => e), HWA.out]
   exact heap_alloc_new w _
 have HI0 : Hid _ := hI0
 clear hwb hm2 ho2 hI0
 gi_wp2_with fail
 rw [← HWB.out]
 gi_loopw [20] (fun t W => ∃ k : Nat, k ≤ F ∧ t = .int .i64 k ∧ LpI w x sl A (.slice a1 F c1) k W) (fun t _ => F - (intOf t).toNat)
 case atStart => exact ⟨0, Nat.zero_le _, rfl, HI0.out⟩
 case round =>
  clear HI0
  obtain ⟨k, hk, rfl, hI⟩ := hrel
  obtain ⟨W, rfl⟩ : ∃ W, W = wr := ⟨_, rfl⟩
  by_cases hlt : k < F
  ·have hr := HS.out.now.rise
   have h0 : ∀ p ∈ x.now, 0 ≤ p.1 ∧ p.1 < 728 := fun p hp => (HS.out.wf.now p hp).1
   have hkl : k < (freshN x.now).length := by have := HF.out; omega
   obtain ⟨i, hi⟩ : ∃ i, i = (freshN x.now).getD k 0 := ⟨_, rfl⟩
   have hki : (freshN x.now)[k]? = some i := by rw [hi]; simp [List.getD, hkl]
   obtain ⟨dt, hmem⟩ := (freshN_mem (fun p hp => (h0 p hp).1)).1 (List.mem_of_getElem? hki)
   have hi728 := h0 _ hmem
   obtain ⟨W', hrun, hI', oW'⟩ := lay_step hI hr h0 hmem hki
   obtain ⟨q, hq⟩ : ∃ q, q = A.getD k 0 := ⟨_, rfl⟩
   obtain ⟨_, _, e1, hc1⟩ := RowAt.shape h1
   have hkF : k < (freshN x.now).length := hkl
   obtain ⟨g1, o1, ea1, hg1⟩ := hc1 k hkF
   obtain ⟨_, _, e2, hc2⟩ := RowAt.shape h2
   obtain ⟨g2, o2, ea2, hg2⟩ := hc2 k (by have := HA.out; omega)
   injection e1 with e1 q11 q12
   injection e2 with e2 q21 q22
   clear q11 q12 q21 q22
   obtain rfl := e1.trans ea1
   obtain rfl := e2.trans ea2
   obtain ⟨ad, n, c, hsi⟩ := bytes_slice (HM.out.2 _ hmem).1
   have hgl : getL (x.now.map fun p => (p.1, pgV sl p)) (i : Int) = some (.agg #[.int .i64 0, .slice ad n c]) := by
    have : Rise (x.now.map fun p => (p.1, pgV sl p)) := (Rise.map _).2 hr
    rw [getL_mem this]
    refine List.mem_map.2 ⟨_, hmem, ?_⟩
    show ((i : Int), Value.agg #[.int .i64 ((0 : Nat) : Int), sl (i : Int)]) = _
    rw [hsi]
    rfl
   have HSS : Hid (∀ w', Only (fun j => w.heap.size ≤ j) w w' → w'.heap[w.heap.size + 2]? = some (.cells #[.slice (some ⟨g1, o1, none⟩) F c1, .map (some (w.heap.size + 1)), .slice none 0 0] 105 (0, 0)) → w'.cell? ⟨w.heap.size + 2, 1, none⟩ = some (.map (some (w.heap.size + 1))) ∧ w'.cell? ⟨g2, o2 + k, none⟩ = some (.int .i64 (q : Nat)) ∧ w'.cell? ⟨s, 6, none⟩ = some (.map (some mn)) ∧ (Instr.lookup 77 (.map (some mn)) (.int .i64 (i : Nat)) false).run Tryz.prog w' = .ok (.agg #[.int .i64 0, .slice ad n c]) w') := by
    intro w' ho hp
    have hl2 := World.block_lt_of_cell? w _ hg2
    refine ⟨by rw [cell_of_row _ _ _ _ _ _ hp]; rfl, by rw [hq]; exact ho.cell hg2 (by simp at hl2 ⊢; omega), ho.cell c6 (by simp; omega), ?_⟩
    have hml := HM.out.1.lt
    have := (HM.out.1.frame ho (by omega)).look1 (i : Int) (by omega)
    rw [hgl] at this
    exact this
   have hSd := HSS.out W.drew ((hI.only.drew).mono (fun _ _ e => e.elim)) hI.plan
   have hSn := HSS.out W' (hI'.only.mono (fun _ _ e => e.elim)) hI'.plan
   have HSd : Hid _ := hSd
   have HSn : Hid _ := hSn
   have y1 : W.cell? ⟨g1, o1 + k, none⟩ = some (.int .i64 (i : Nat)) := by rw [hi]; exact hI.only.cell hg1 (fun e => e)
   have HI' : Hid (LpI w x sl A (.slice (some ⟨g1, o1, none⟩) F c1) (k + 1) W') := hI'
   rw [← hq, hsi] at hrun
   have HRU : Hid _ := hrun
   have k0 : (0 : Int) ≤ (k : Int) := by omega
   have k1 : (k : Int) < (F : Int) := by omega
   have hbp := build_pg (q : Int) ad n c
   have hfd := field_data 0 ad n c
   clear hI hI' hrun hSd hSn hmem hki hgl hg1 hg2 hc1 hc2 e1 e2 ea1 ea2 hq hi HSS oW' h1 h2 hkl hkF hi728
   gi_wp2
   refine wpIn_region_calm (S := fun w' => w'.cell? ⟨w.heap.size + 2, 1, none⟩ = some (.map (some (w.heap.size + 1))) ∧ w'.cell? ⟨g2, o2 + k, none⟩ = some (.int .i64 (q : Nat)) ∧ w'.cell? ⟨s, 6, none⟩ = some (.map (some mn)) ∧ (Instr.lookup 77 (.map (some mn)) (.int .i64 (i : Nat)) false).run Tryz.prog w' = .ok (.agg #[.int .i64 0, .slice ad n c]) w') (by kernel_rfl) (by kernel_rfl) ?hS (fun hHeld => ?_)
   case hS => exact HSd.out
   refine wpAnyH_take (i := 0) (v := .pointer (some ⟨w.heap.size + 2, 1, none⟩)) rfl (by kernel_rfl) (by kernel_rfl) (by kernel_rfl) (fun _ _ _ h => by cases h.1) (Or.inl ⟨by rfl, fun wx hSw => by go_simp⟩) hHeld ?_
   simp only [Act.put, z9]
   refine wpAnyH_take (i := 1) (v := .map (some (w.heap.size + 1))) rfl (by kernel_rfl) (by kernel_rfl) (by kernel_rfl) (fun _ _ _ h => by cases h.1) (Or.inl ⟨by rfl, fun wx hSw => by go_simp⟩) hHeld ?_
   simp only [Act.put, z9]
   refine wpAnyH_take (i := 2) (v := .int .i64 (i : Nat)) rfl (by kernel_rfl) (by kernel_rfl) (by kernel_rfl) (fun _ _ _ h => by cases h.1) (Or.inl ⟨by rfl, fun wx hSw => by go_simp⟩) hHeld ?_
   simp only [Act.put, z9]
   refine wpAnyH_take (i := 3) (v := .slice (some ⟨g2, o2, none⟩) F c2) rfl (by kernel_rfl) (by kernel_rfl) (by kernel_rfl) (fun _ _ _ h => by cases h.1) (Or.inl ⟨by rfl, fun wx hSw => by go_simp⟩) hHeld ?_
   simp only [Act.put, z9]
   refine wpAnyH_take (i := 4) (v := .int .i64 (k : Nat)) rfl (by kernel_rfl) (by kernel_rfl) (by kernel_rfl) (fun _ _ _ h => by cases h.1) (Or.inl ⟨by rfl, fun wx hSw => by go_simp⟩) hHeld ?_
   simp only [Act.put, z9]
   refine wpAnyH_take (i := 5) (v := .pointer (some ⟨g2, o2 + k, none⟩)) rfl (by kernel_rfl) (by kernel_rfl) (by kernel_rfl) (fun _ _ _ h => by cases h.1) (Or.inl ⟨by rfl, fun wx hSw => by go_simp⟩) hHeld ?_
   simp only [Act.put, z9]
   refine wpAnyH_take (i := 6) (v := .int .i64 (q : Nat)) rfl (by kernel_rfl) (by kernel_rfl) (by kernel_rfl) (fun _ _ _ h => by cases h.1) (Or.inl ⟨by rfl, fun wx hSw => by go_simp⟩) hHeld ?_
   simp only [Act.put, z9]
   refine wpAnyH_take (i := 7) (v := .pointer (some ⟨s, 0, none⟩)) rfl (by kernel_rfl) (by kernel_rfl) (by kernel_rfl) (fun _ _ _ h => by cases h.1) (Or.inl ⟨by rfl, fun wx hSw => by go_simp⟩) hHeld ?_
   simp only [Act.put, z9]
   refine wpAnyH_take (i := 8) (v := .pointer (some ⟨s, 0, none⟩)) rfl (by kernel_rfl) (by kernel_rfl) (by kernel_rfl) (fun _ _ _ h => by cases h.1) (Or.inl ⟨by rfl, fun wx hSw => by go_simp⟩) hHeld ?_
   simp only [Act.put, z9]
   refine wpAnyH_take (i := 9) (v := .pointer (some ⟨s, 6, none⟩)) rfl (by kernel_rfl) (by kernel_rfl) (by kernel_rfl) (fun _ _ _ h => by cases h.1) (Or.inl ⟨by rfl, fun wx hSw => by go_simp⟩) hHeld ?_
   simp only [Act.put, z9]
   refine wpAnyH_take (i := 10) (v := .map (some mn)) rfl (by kernel_rfl) (by kernel_rfl) (by kernel_rfl) (fun _ _ _ h => by cases h.1) (Or.inl ⟨by rfl, fun wx hSw => by go_simp⟩) hHeld ?_
   simp only [Act.put, z9]
   refine wpAnyH_take (i := 11) (v := .int .i64 (i : Nat)) rfl (by kernel_rfl) (by kernel_rfl) (by kernel_rfl) (fun _ _ _ h => by cases h.1) (Or.inl ⟨by rfl, fun wx hSw => by go_simp⟩) hHeld ?_
   simp only [Act.put, z9]
   refine wpAnyH_take (i := 12) (v := .agg #[.int .i64 0, .slice ad n c]) rfl (by kernel_rfl) (by kernel_rfl) (by kernel_rfl) (fun _ _ _ h => by cases h.1) (Or.inl ⟨by rfl, fun wx hSw => by go_simp⟩) hHeld ?_
   simp only [Act.put, z9]
   refine wpAnyH_take (i := 13) (v := .slice ad n c) rfl (by kernel_rfl) (by kernel_rfl) (by kernel_rfl) (fun _ _ _ h => by cases h.1) (Or.inl ⟨by rfl, fun wx hSw => by go_simp⟩) hHeld ?_
   simp only [Act.put, z9]
   refine wpAnyH_take (i := 14) (v := .agg #[.int .i64 (q : Nat), .slice ad n c]) rfl (by kernel_rfl) (by kernel_rfl) (by kernel_rfl) (fun _ _ _ h => by cases h.1) (Or.inl ⟨by rfl, fun wx hSw => by go_simp⟩) hHeld ?_
   simp only [Act.put, z9]
   refine wpAnyH_ready (rs := [15]) (by kernel_rfl) (by simp) ?_
   refine AllReadyH.cons rfl (fun K hK => ?_) AllReadyH.nil
   rw [if_pos (by rfl)]
   refine wp_mapUpdate 77 _ _ _ rfl _ _ _ rfl rfl rfl HRU.out ?_
   refine hK _ _ HSn.out (fun hHeld => ?_)
   clear hK K
   simp only [Act.put, z9]
   refine wpAnyH_done (by kernel_rfl) ⟨rfl, ?_⟩ _
   clear hHeld HSd HSn y1 HRU hbp hfd
   gi_wp2
   go_roundw
   case rel => exact ⟨k + 1, by omega, by go_num, HI'.out⟩
   case measure => simp [intOf]; omega
  ·have e : F = k := by omega
   subst e
   have HI : Hid (LpI w x sl A (.slice a1 F c1) F W) := hI
   have hP := pages_new (HS.out.still hI.only)
   clear hI
   gi_wp2_with fail
   refine ⟨trivial, ((callsIn_wide (n := 5)).2 hP).mono ?_⟩
   rintro e wl ⟨Bs, Pb, lv, rfl, hb, hin, hPb, ho2⟩
   clear hP
   obtain ⟨zs, hzs⟩ : ∃ q, q = x.now.map (·.1) := ⟨_, rfl⟩
   rw [← hzs] at hin
   have hwf := HS.out.wf
   have hzl : zs.length ≤ 728 := by
    have := Rise.len (a := 0) (b := 728) HS.out.now.rise (fun p hp => (hwf.now p hp).1)
    simp at this
    rw [hzs, List.length_map]
    omega
   have hzk : ∀ z ∈ zs, 0 ≤ z ∧ z < 728 := fun z hz => by
    rw [hzs] at hz
    obtain ⟨q, hq, rfl⟩ := List.mem_map.1 hz
    exact (hwf.now q hq).1
   obtain ⟨L, hL⟩ : ∃ L, L = layP x.now A := ⟨_, rfl⟩
   have hLF : layK x.now A F = L := by rw [hL, layP, HF.out]
   have hLz : zs = L.map (·.1) := by rw [hzs, hL, layP_keys]
   have hLr : Rise L := by rw [hL]; exact layP_rise HS.out.now.rise A
   have hLa : ∀ i, atOf L i < 2048 := fun i => by rw [← hLF]; exact lay_at hwf hAb F i
   have s2 := ho2.size
   have sW := World.block_lt_of_cell? W ⟨w.heap.size + 2, 0, none⟩ (by rw [cell_of_row _ _ _ _ _ _ HI.out.plan]; rfl)
   simp only at sW
   have owl : Only (fun _ => False) w wl := HI.out.only.trans ho2 (fun _ _ e => e)
   have hm : MapAt wl (w.heap.size + 1) (L.map fun p => (p.1, pgV sl p)) := by have := HI.out.map.frame ho2 (fun e => e); rwa [hLF] at this
   have hpl : wl.heap[w.heap.size + 2]? = some (.cells #[.slice a1 F c1, .map (some (w.heap.size + 1)), .slice none 0 0] 105 (0, 0)) := by rw [ho2.block _ (by omega) (fun e => e)]; exact HI.out.plan
   have hrs : wl.heap[w.heap.size]? = some (.cells #[.slice none 0 0, .map none, .slice none 0 0] 105 (0, 0)) := by rw [ho2.block _ (by omega) (fun e => e)]; exact HI.out.res
   have hPl := hPb.2
   have hPne : Pb ≠ w.heap.size + 2 := by omega
   have hbs : w.heap.size + 2 < wl.heap.size := by omega
   have hLd : ∀ q ∈ L, BytesAt w (sl q.1) q.2.2 ∧ ∀ b, (sl q.1).ownBlock = some b → b < w.heap.size ∧ ¬ av b := fun q hq => by
    have : (q.1, q.2.2) ∈ L.map (fun p => (p.1, p.2.2)) := List.mem_map.2 ⟨q, hq, rfl⟩
    rw [← hLF, layK_data] at this
    obtain ⟨q', hq', e⟩ := List.mem_map.1 this
    injection e with e1 e2
    have := HM.out.2 q' hq'
    rw [e1, e2] at this
    exact this
   have HLd : Hid _ := hLd
   have HMp : Hid (MapAt wl (w.heap.size + 1) (L.map fun p => (p.1, pgV sl p)) ∧ Only (fun _ => False) w wl ∧ wl.heap[w.heap.size]? = some (.cells #[.slice none 0 0, .map none, .slice none 0 0] 105 (0, 0))) := ⟨hm, owl, hrs⟩
   have HL : Hid (L = layP x.now A ∧ zs = L.map (·.1) ∧ Rise L ∧ (∀ i, atOf L i < 2048)) := ⟨hL, hLz, hLr, hLa⟩
   clear hm owl hrs ho2 s2 sW HI hL hLF hLz hLr hLa hzs hLd hwf hPb
   gi_wp2
   refine wpIn_rangeFunc_ownG (w := wl) rfl (by omega) (gf := 118) (lb := #[.pointer (some ⟨Bs, 0, none⟩)]) rfl trivial (enters_of Tryz.func118 (by kernel_rfl) rfl)
    (values_nth 5 Bs Pb lv zs wl (by unfold maxLen; omega) hb hin hPl) (fun h k => Eq.trans k h) ?hKb (Below.refl _ _) (fun _ => rfl)
    (fun pre W => PmI wl (w.heap.size + 2) (.slice a1 F c1) (.map (some (w.heap.size + 1))) (tabOf L zs pre) W) (fun _ _ _ => False) ?hI (fun _ _ _ _ _ hs _ _ => hs)
    { plan := ⟨_, hpl, Fresh.nil _ _⟩, only := Only.refl _ _ }
    (fun k => { tmps := #[.pointer (some ⟨s, 0, none⟩), .slice a1 F c1, .slice a2 F c2, undef, undef, undef, .pointer (some ⟨w.heap.size, 0, none⟩), .pointer (some ⟨w.heap.size + 2, 0, none⟩), u8, u9, .int .i64 (zs.getD k 0), .slice a1 F c1, .pointer (some ⟨s, 0, none⟩), .pointer (some ⟨s, 0, none⟩), .pointer (some ⟨s, 6, none⟩), .map (some mn), .map (some (w.heap.size + 1)), .agg #[.slice a1 F c1, .map (some (w.heap.size + 1)), .slice none 0 0], .slice a1 F c1, .int .i64 F, .int .i64 F, .bool false, u22, u23, u24, u25, u26, u27, u28, u29, u30, u31, u32, u33, u34, u35, u36, u37, u38, u39, u40, .pointer (some ⟨s, 0, none⟩), .func (.func 118) #[] #[.pointer (some ⟨Bs, 0, none⟩)], .int .i64 (zs.getD k 0), undef, undef, undef, undef, undef, undef, undef, undef, undef, undef, undef, undef, undef, undef, undef, undef, undef, undef, undef], defers := [] }) ?assign ?body ?done ?stop
   case hKb =>
    intro W l0 o o' hl0 hw0 ho1 ho2
    exact (grownBy_putObj' W l0 o').block Pb (by have := (Array.getElem?_eq_some_iff.1 hw0).1; omega) (fun e => by cases e; omega)
   case hI => exact fun pre W W' row hs hg' hr => hs.frame hbs hg' hr
   case assign =>
    intro l0 k W K hK
    simp only [nthEnc, List.zip_toArray, List.zip_cons_cons, List.zip_nil_right, List.foldl_toArray, List.foldl_cons, List.foldl_nil, List.setIfInBounds_toArray, List.set_cons_zero, List.set_cons_succ]
    gi_wp2
    exact hK
   case body =>
    rintro l0 pre k W hI hlen
    obtain ⟨v, hp0, hf0⟩ := hI.plan
    obtain ⟨a3, c3, rfl⟩ := hf0.form
    have hik := getD_mem0 zs hzk k
    obtain ⟨q, hq⟩ : ∃ q : Nat, zs.getD k 0 = (q : Int) := ⟨(zs.getD k 0).toNat, by omega⟩
    have hsnoc := tabOf_snoc L zs pre k
    rw [hq] at hik hsnoc ⊢
    have hlen4 := tabOf_len L zs hzk (fun i => by have := HL.out.2.2.2 i; omega) pre
    obtain ⟨T, hT⟩ : ∃ T, T = (tabOf L zs pre).length := ⟨_, rfl⟩
    have HT : Hid (T = (tabOf L zs pre).length) := hT
    obtain ⟨r, hr⟩ : ∃ r, r = atOf L (q : Int) := ⟨_, rfl⟩
    have hr2 : r < 2048 := by rw [hr]; exact HL.out.2.2.2 _
    rw [← hr, Int.toNat_natCast] at hsnoc
    have HSN : Hid _ := hsnoc
    obtain ⟨a0, ad, n, c, zz, hval, _, hat, _⟩ := look_val (av := av) HLd.out (q : Int)
    have hr' : a0 = r := by rw [hr]; unfold atOf; rw [hat]
    rw [hr'] at hval
    have HLk : Hid (∀ W', Only (fun j => wl.heap.size ≤ j ∨ j = w.heap.size + 2) wl W' → (Instr.lookup 77 (.map (some (w.heap.size + 1))) (.int .i64 (q : Nat)) false).run Tryz.prog W' = .ok (.agg #[.int .i64 (r : Nat), .slice ad n c]) W') := fun W' ho => by
     have hm := HMp.out.1
     have hml := hm.lt
     have := (hm.frame ho (by omega)).look1 (q : Int) (by omega)
     rw [hval] at this
     exact this
    have hW := hI.only.size
    have hn3 := num_len 1 q (by omega)
    rw [← hT] at hf0 hp0 hlen4
    have hc0 : W.drew.cell? ⟨w.heap.size + 2, 2, none⟩ = some (.slice a3 T c3) := by show W.cell? _ = _; rw [cell_of_row _ _ _ _ _ _ hp0]; rfl
    have HC1 : Hid (Calls Tryz.prog 105 #[.int .u64 (q : Nat)] W.drew _) := numb_app (fun _ => True) (fun _ _ _ => trivial) hI hbs hp0 hf0 hT.symm (by omega) (by omega)
    have hq64 : IntKind.u64.wrap (q : Int) = (q : Int) := by rw [IntKind.wrap_u64]; omega
    have hr64 : IntKind.u64.wrap (r : Int) = (r : Int) := by rw [IntKind.wrap_u64]; omega
    have hfd := field_at (r : Int) ad n c
    clear hI hp0 hf0 hsnoc hT hr hr' hat hval hq hpl hb hin
    gi_wp2
    refine wpIn_region_round (S := fun _ => True) (by kernel_rfl) (by kernel_rfl) ?hQ ?hS (fun hHeld => ?_)
    case hQ => rintro ⟨_, _, h⟩; exact h
    case hS => exact trivial
    refine t8 (i := 0) (v := .pointer (some ⟨w.heap.size + 2, 2, none⟩)) rfl hHeld ?_
    simp only [Act.put, z9]
    refine t8 (i := 2) (v := .int .i64 (q : Nat)) rfl hHeld ?_
    simp only [Act.put, z9]
    refine t8 (i := 3) (v := .int .u64 (q : Nat)) rfl hHeld ?_
    simp only [Act.put, z9]
    refine wpAnyH_ready (rs := [1, 4]) (by kernel_rfl) (by simp) ?_
    refine AllReadyH.cons rfl (fun K hK => ?_) (AllReadyH.cons rfl (fun K hK => ?_) AllReadyH.nil)
    ·rw [if_pos (by rfl)]
     refine wp_of_same (v := .slice a3 T c3) (by go_simp) ?_
     refine hK _ _ hHeld (fun hHeld => ?_)
     clear hK K
     simp only [Act.put, z9]
     refine wpAnyH_ready (rs := [4]) (by kernel_rfl) (by simp) ?_
     refine AllReadyH.cons rfl (fun K hK => ?_) AllReadyH.nil
     rw [if_pos (by rfl)]
     refine wp_call_func #[.tmp 47] #[49] rfl #[.int .u64 (q : Nat)] (by simp [Act.eval]) (enters_of Tryz.func105 (by kernel_rfl) rfl) (show Calls Tryz.prog 105 _ _ _ from HC1.out) (fun e W2 he => ?_)
     obtain ⟨u, rfl, hcu, HS2, HA2⟩ := he
     refine ⟨_, rfl, hK _ _ HS2.out (fun hHeld => ?_)⟩
     clear hK K
     simp only [Act.put, z9]
     obtain ⟨a5, c5, W3, W4, hr5, hc5, hf5, hW4, HS3, HS4, HP4⟩ := HA2.out
     clear HA2
     refine wpAnyH_ready (rs := [5]) (by kernel_rfl) (by simp) ?_
     refine AllReadyH.cons rfl (fun K hK => ?_) AllReadyH.nil
     rw [if_pos (by rfl)]
     refine wp_append_run _ _ 37 rfl _ _ _ rfl rfl (hr5 _) ?_
     refine hK _ _ HS3.out (fun hHeld => ?_)
     clear hK K
     simp only [Act.put, z9]
     refine t8 (i := 6) (v := .pointer (some ⟨w.heap.size + 2, 2, none⟩)) rfl hHeld ?_
     simp only [Act.put, z9]
     refine wpAnyH_ready (rs := [7]) (by kernel_rfl) (by simp) ?_
     refine AllReadyH.cons rfl (fun K hK => ?_) AllReadyH.nil
     rw [if_pos (by rfl)]
     refine wp_of_skip (w' := W4) (by rw [hW4]; go_simp) ?_
     refine hK _ _ HS4.out (fun hHeld => ?_)
     clear hK K
     simp only [Act.put, z9]
     refine wpAnyH_done (by kernel_rfl) ?_ _
     clear hc5 hf5 hr5 hcu hHeld HS2 HS3 HS4
     obtain ⟨i1, i2, i3, i4, i5⟩ := HP4.out
     have hc6 : W4.drew.cell? ⟨w.heap.size + 2, 2, none⟩ = some (.slice a5 (T + (num q).length) c5) := by show W4.cell? _ = _; rw [cell_of_row _ _ _ _ _ _ i2]; rfl
     have hl6 : (tabOf L zs pre ++ num q).length = T + (num q).length := by rw [List.length_append, ← HT.out]
     have HC2 : Hid (Calls Tryz.prog 105 #[.int .u64 (r : Nat)] W4.drew _) := numb_app (fun w' => w'.cell? ⟨w.heap.size + 2, 1, none⟩ = some (.map (some (w.heap.size + 1))) ∧ (Instr.lookup 77 (.map (some (w.heap.size + 1))) (.int .i64 (q : Nat)) false).run Tryz.prog w' = .ok (.agg #[.int .i64 (r : Nat), .slice ad n c]) w') (fun W' ho hc => ⟨hc, HLk.out W' ho⟩) i1 hbs i2 i3 hl6 (by omega) (by rw [hl6]; omega)
     have hS0 : (fun w' => w'.cell? ⟨w.heap.size + 2, 1, none⟩ = some (.map (some (w.heap.size + 1))) ∧ (Instr.lookup 77 (.map (some (w.heap.size + 1))) (.int .i64 (q : Nat)) false).run Tryz.prog w' = .ok (.agg #[.int .i64 (r : Nat), .slice ad n c]) w') W4.drew := ⟨by show W4.cell? _ = _; rw [cell_of_row _ _ _ _ _ _ i2]; rfl, HLk.out W4.drew ((i1.only.mono (fun _ _ e => .inr e)).drew)⟩
     have HS0 : Hid _ := hS0
     have HK4 : Hid (KeepsFrom wl.heap.size W W4 ∧ KpP Pb W W4) := ⟨i4, i5.block Pb (by omega) (by omega)⟩
     obtain ⟨M, hM⟩ : ∃ M, M = T + (num q).length := ⟨_, rfl⟩
     rw [← hM] at hc6 HC2 hl6 ⊢
     obtain ⟨W5, hW5⟩ : ∃ W5, W5 = W4 := ⟨_, rfl⟩
     rw [← hW5] at hc6 HC2 HS0 HK4 ⊢
     clear i1 i2 i3 i4 i5 hW4 HP4 hS0 hM hW5 W3 W4
     gi_wp2
     refine wpIn_region_round (S := fun w' => w'.cell? ⟨w.heap.size + 2, 1, none⟩ = some (.map (some (w.heap.size + 1))) ∧ (Instr.lookup 77 (.map (some (w.heap.size + 1))) (.int .i64 (q : Nat)) false).run Tryz.prog w' = .ok (.agg #[.int .i64 (r : Nat), .slice ad n c]) w') (by kernel_rfl) (by kernel_rfl) ?hQ ?hS (fun hHeld => ?_)
     case hQ => rintro ⟨_, _, h⟩; exact h
     case hS => exact HS0.out
     refine t8 (i := 0) (v := .pointer (some ⟨w.heap.size + 2, 2, none⟩)) rfl hHeld ?_
     simp only [Act.put, z9]
     refine t8 (i := 2) (v := .pointer (some ⟨w.heap.size + 2, 1, none⟩)) rfl hHeld ?_
     simp only [Act.put, z9]
     refine t8 (i := 3) (v := .map (some (w.heap.size + 1))) rfl hHeld ?_
     simp only [Act.put, z9]
     refine t8 (i := 4) (v := .int .i64 (q : Nat)) rfl hHeld ?_
     simp only [Act.put, z9]
     refine t8 (i := 5) (v := .agg #[.int .i64 (r : Nat), .slice ad n c]) rfl hHeld ?_
     simp only [Act.put, z9]
     refine t8 (i := 6) (v := .int .i64 (r : Nat)) rfl hHeld ?_
     simp only [Act.put, z9]
     refine t8 (i := 7) (v := .int .u64 (r : Nat)) rfl hHeld ?_
     simp only [Act.put, z9]
     refine wpAnyH_ready (rs := [1, 8]) (by kernel_rfl) (by simp) ?_
     refine AllReadyH.cons rfl (fun K hK => ?_) (AllReadyH.cons rfl (fun K hK => ?_) AllReadyH.nil)
     ·rw [if_pos (by rfl)]
      refine wp_of_same (v := .slice a5 M c5) (by go_simp) ?_
      refine hK _ _ hHeld (fun hHeld => ?_)
      clear hK K
      simp only [Act.put, z9]
      refine wpAnyH_ready (rs := [8]) (by kernel_rfl) (by simp) ?_
      refine AllReadyH.cons rfl (fun K hK => ?_) AllReadyH.nil
      rw [if_pos (by rfl)]
      refine wp_call_func #[.tmp 58] #[49] rfl #[.int .u64 (r : Nat)] (by simp [Act.eval]) (enters_of Tryz.func105 (by kernel_rfl) rfl) (show Calls Tryz.prog 105 _ _ _ from HC2.out) (fun e W2 he => ?_)
      obtain ⟨u, rfl, hcu, HS2, HA2⟩ := he
      refine ⟨_, rfl, hK _ _ HS2.out (fun hHeld => ?_)⟩
      clear hK K
      simp only [Act.put, z9]
      obtain ⟨a7, c7, W3, W4, hr5, hc5, hf5, hW4, HS3, HS4, HP4⟩ := HA2.out
      clear HA2
      refine wpAnyH_ready (rs := [9]) (by kernel_rfl) (by simp) ?_
      refine AllReadyH.cons rfl (fun K hK => ?_) AllReadyH.nil
      rw [if_pos (by rfl)]
      refine wp_append_run _ _ 37 rfl _ _ _ rfl rfl (hr5 _) ?_
      refine hK _ _ HS3.out (fun hHeld => ?_)
      clear hK K
      simp only [Act.put, z9]
      refine t8 (i := 10) (v := .pointer (some ⟨w.heap.size + 2, 2, none⟩)) rfl hHeld ?_
      simp only [Act.put, z9]
      refine wpAnyH_ready (rs := [11]) (by kernel_rfl) (by simp) ?_
      refine AllReadyH.cons rfl (fun K hK => ?_) AllReadyH.nil
      rw [if_pos (by rfl)]
      refine wp_of_skip (w' := W4) (by rw [hW4]; go_simp) ?_
      refine hK _ _ HS4.out (fun hHeld => ?_)
      clear hK K
      simp only [Act.put, z9]
      refine wpAnyH_done (by kernel_rfl) ?_ _
      have hfin := HP4.out
      have hk4 := HK4.out
      gi_wp2
      refine ⟨hk4.1.trans hfin.2.2.2.1, (hfin.2.2.2.2.block Pb (by have := hk4.1.1; omega) (by omega)).trans hk4.2, ?_⟩
      have := hfin.1
      rw [List.append_assoc] at this
      show PmI wl (w.heap.size + 2) _ _ (tabOf L zs (pre ++ [k])) W4
      rw [HSN.out]
      exact this
     ·rw [if_pos (by rfl)]
      refine wp_call_func #[.tmp 58] #[49] rfl #[.int .u64 (r : Nat)] (by simp [Act.eval]) (enters_of Tryz.func105 (by kernel_rfl) rfl) (show Calls Tryz.prog 105 _ _ _ from HC2.out) (fun e W2 he => ?_)
      obtain ⟨u, rfl, hcu, HS2, HA2⟩ := he
      refine ⟨_, rfl, hK _ _ HS2.out (fun hHeld => ?_)⟩
      clear hK K
      simp only [Act.put, z9]
      obtain ⟨a7, c7, W3, W4, hr5, hc5, hf5, hW4, HS3, HS4, HP4⟩ := HA2.out
      clear HA2
      refine wpAnyH_ready (rs := [1]) (by kernel_rfl) (by simp) ?_
      refine AllReadyH.cons rfl (fun K hK => ?_) AllReadyH.nil
      rw [if_pos (by rfl)]
      refine wp_of_same (v := .slice a5 M c5) (by go_simp) ?_
      refine hK _ _ HS2.out (fun hHeld => ?_)
      clear hK K
      simp only [Act.put, z9]
      refine wpAnyH_ready (rs := [9]) (by kernel_rfl) (by simp) ?_
      refine AllReadyH.cons rfl (fun K hK => ?_) AllReadyH.nil
      rw [if_pos (by rfl)]
      refine wp_append_run _ _ 37 rfl _ _ _ rfl rfl (hr5 _) ?_
      refine hK _ _ HS3.out (fun hHeld => ?_)
      clear hK K
      simp only [Act.put, z9]
      refine t8 (i := 10) (v := .pointer (some ⟨w.heap.size + 2, 2, none⟩)) rfl hHeld ?_
      simp only [Act.put, z9]
      refine wpAnyH_ready (rs := [11]) (by kernel_rfl) (by simp) ?_
      refine AllReadyH.cons rfl (fun K hK => ?_) AllReadyH.nil
      rw [if_pos (by rfl)]
      refine wp_of_skip (w' := W4) (by rw [hW4]; go_simp) ?_
      refine hK _ _ HS4.out (fun hHeld => ?_)
      clear hK K
      simp only [Act.put, z9]
      refine wpAnyH_done (by kernel_rfl) ?_ _
      have hfin := HP4.out
      have hk4 := HK4.out
      gi_wp2
      refine ⟨hk4.1.trans hfin.2.2.2.1, (hfin.2.2.2.2.block Pb (by have := hk4.1.1; omega) (by omega)).trans hk4.2, ?_⟩
      have := hfin.1
      rw [List.append_assoc] at this
      show PmI wl (w.heap.size + 2) _ _ (tabOf L zs (pre ++ [k])) W4
      rw [HSN.out]
      exact this
    ·rw [if_pos (by rfl)]
     refine wp_call_func #[.tmp 47] #[49] rfl #[.int .u64 (q : Nat)] (by simp [Act.eval]) (enters_of Tryz.func105 (by kernel_rfl) rfl) (show Calls Tryz.prog 105 _ _ _ from HC1.out) (fun e W2 he => ?_)
     obtain ⟨u, rfl, hcu, HS2, HA2⟩ := he
     refine ⟨_, rfl, hK _ _ HS2.out (fun hHeld => ?_)⟩
     clear hK K
     simp only [Act.put, z9]
     obtain ⟨a5, c5, W3, W4, hr5, hc5, hf5, hW4, HS3, HS4, HP4⟩ := HA2.out
     clear HA2
     refine wpAnyH_ready (rs := [1]) (by kernel_rfl) (by simp) ?_
     refine AllReadyH.cons rfl (fun K hK => ?_) AllReadyH.nil
     rw [if_pos (by rfl)]
     refine wp_of_same (v := .slice a3 T c3) (by go_simp) ?_
     refine hK _ _ HS2.out (fun hHeld => ?_)
     clear hK K
     simp only [Act.put, z9]
     refine wpAnyH_ready (rs := [5]) (by kernel_rfl) (by simp) ?_
     refine AllReadyH.cons rfl (fun K hK => ?_) AllReadyH.nil
     rw [if_pos (by rfl)]
     refine wp_append_run _ _ 37 rfl _ _ _ rfl rfl (hr5 _) ?_
     refine hK _ _ HS3.out (fun hHeld => ?_)
     clear hK K
     simp only [Act.put, z9]
     refine t8 (i := 6) (v := .pointer (some ⟨w.heap.size + 2, 2, none⟩)) rfl hHeld ?_
     simp only [Act.put, z9]
     refine wpAnyH_ready (rs := [7]) (by kernel_rfl) (by simp) ?_
     refine AllReadyH.cons rfl (fun K hK => ?_) AllReadyH.nil
     rw [if_pos (by rfl)]
     refine wp_of_skip (w' := W4) (by rw [hW4]; go_simp) ?_
     refine hK _ _ HS4.out (fun hHeld => ?_)
     clear hK K
     simp only [Act.put, z9]
     refine wpAnyH_done (by kernel_rfl) ?_ _
     clear hc5 hf5 hr5 hcu hHeld HS2 HS3 HS4
     obtain ⟨i1, i2, i3, i4, i5⟩ := HP4.out
     have hc6 : W4.drew.cell? ⟨w.heap.size + 2, 2, none⟩ = some (.slice a5 (T + (num q).length) c5) := by show W4.cell? _ = _; rw [cell_of_row _ _ _ _ _ _ i2]; rfl
     have hl6 : (tabOf L zs pre ++ num q).length = T + (num q).length := by rw [List.length_append, ← HT.out]
     have HC2 : Hid (Calls Tryz.prog 105 #[.int .u64 (r : Nat)] W4.drew _) := numb_app (fun w' => w'.cell? ⟨w.heap.size + 2, 1, none⟩ = some (.map (some (w.heap.size + 1))) ∧ (Instr.lookup 77 (.map (some (w.heap.size + 1))) (.int .i64 (q : Nat)) false).run Tryz.prog w' = .ok (.agg #[.int .i64 (r : Nat), .slice ad n c]) w') (fun W' ho hc => ⟨hc, HLk.out W' ho⟩) i1 hbs i2 i3 hl6 (by omega) (by rw [hl6]; omega)
     have hS0 : (fun w' => w'.cell? ⟨w.heap.size + 2, 1, none⟩ = some (.map (some (w.heap.size + 1))) ∧ (Instr.lookup 77 (.map (some (w.heap.size + 1))) (.int .i64 (q : Nat)) false).run Tryz.prog w' = .ok (.agg #[.int .i64 (r : Nat), .slice ad n c]) w') W4.drew := ⟨by show W4.cell? _ = _; rw [cell_of_row _ _ _ _ _ _ i2]; rfl, HLk.out W4.drew ((i1.only.mono (fun _ _ e => .inr e)).drew)⟩
     have HS0 : Hid _ := hS0
     have HK4 : Hid (KeepsFrom wl.heap.size W W4 ∧ KpP Pb W W4) := ⟨i4, i5.block Pb (by omega) (by omega)⟩
     obtain ⟨M, hM⟩ : ∃ M, M = T + (num q).length := ⟨_, rfl⟩
     rw [← hM] at hc6 HC2 hl6 ⊢
     obtain ⟨W5, hW5⟩ : ∃ W5, W5 = W4 := ⟨_, rfl⟩
     rw [← hW5] at hc6 HC2 HS0 HK4 ⊢
     clear i1 i2 i3 i4 i5 hW4 HP4 hS0 hM hW5 W3 W4
     gi_wp2
     refine wpIn_region_round (S := fun w' => w'.cell? ⟨w.heap.size + 2, 1, none⟩ = some (.map (some (w.heap.size + 1))) ∧ (Instr.lookup 77 (.map (some (w.heap.size + 1))) (.int .i64 (q : Nat)) false).run Tryz.prog w' = .ok (.agg #[.int .i64 (r : Nat), .slice ad n c]) w') (by kernel_rfl) (by kernel_rfl) ?hQ ?hS (fun hHeld => ?_)
     case hQ => rintro ⟨_, _, h⟩; exact h
     case hS => exact HS0.out
     refine t8 (i := 0) (v := .pointer (some ⟨w.heap.size + 2, 2, none⟩)) rfl hHeld ?_
     simp only [Act.put, z9]
     refine t8 (i := 2) (v := .pointer (some ⟨w.heap.size + 2, 1, none⟩)) rfl hHeld ?_
     simp only [Act.put, z9]
     refine t8 (i := 3) (v := .map (some (w.heap.size + 1))) rfl hHeld ?_
     simp only [Act.put, z9]
     refine t8 (i := 4) (v := .int .i64 (q : Nat)) rfl hHeld ?_
     simp only [Act.put, z9]
     refine t8 (i := 5) (v := .agg #[.int .i64 (r : Nat), .slice ad n c]) rfl hHeld ?_
     simp only [Act.put, z9]
     refine t8 (i := 6) (v := .int .i64 (r : Nat)) rfl hHeld ?_
     simp only [Act.put, z9]
     refine t8 (i := 7) (v := .int .u64 (r : Nat)) rfl hHeld ?_
     simp only [Act.put, z9]
     refine wpAnyH_ready (rs := [1, 8]) (by kernel_rfl) (by simp) ?_
     refine AllReadyH.cons rfl (fun K hK => ?_) (AllReadyH.cons rfl (fun K hK => ?_) AllReadyH.nil)
     ·rw [if_pos (by rfl)]
      refine wp_of_same (v := .slice a5 M c5) (by go_simp) ?_
      refine hK _ _ hHeld (fun hHeld => ?_)
      clear hK K
      simp only [Act.put, z9]
      refine wpAnyH_ready (rs := [8]) (by kernel_rfl) (by simp) ?_
      refine AllReadyH.cons rfl (fun K hK => ?_) AllReadyH.nil
      rw [if_pos (by rfl)]
      refine wp_call_func #[.tmp 58] #[49] rfl #[.int .u64 (r : Nat)] (by simp [Act.eval]) (enters_of Tryz.func105 (by kernel_rfl) rfl) (show Calls Tryz.prog 105 _ _ _ from HC2.out) (fun e W2 he => ?_)
      obtain ⟨u, rfl, hcu, HS2, HA2⟩ := he
      refine ⟨_, rfl, hK _ _ HS2.out (fun hHeld => ?_)⟩
      clear hK K
      simp only [Act.put, z9]
      obtain ⟨a7, c7, W3, W4, hr5, hc5, hf5, hW4, HS3, HS4, HP4⟩ := HA2.out
      clear HA2
      refine wpAnyH_ready (rs := [9]) (by kernel_rfl) (by simp) ?_
      refine AllReadyH.cons rfl (fun K hK => ?_) AllReadyH.nil
      rw [if_pos (by rfl)]
      refine wp_append_run _ _ 37 rfl _ _ _ rfl rfl (hr5 _) ?_
      refine hK _ _ HS3.out (fun hHeld => ?_)
      clear hK K
      simp only [Act.put, z9]
      refine t8 (i := 10) (v := .pointer (some ⟨w.heap.size + 2, 2, none⟩)) rfl hHeld ?_
      simp only [Act.put, z9]
      refine wpAnyH_ready (rs := [11]) (by kernel_rfl) (by simp) ?_
      refine AllReadyH.cons rfl (fun K hK => ?_) AllReadyH.nil
      rw [if_pos (by rfl)]
      refine wp_of_skip (w' := W4) (by rw [hW4]; go_simp) ?_
      refine hK _ _ HS4.out (fun hHeld => ?_)
      clear hK K
      simp only [Act.put, z9]
      refine wpAnyH_done (by kernel_rfl) ?_ _
      have hfin := HP4.out
      have hk4 := HK4.out
      gi_wp2
      refine ⟨hk4.1.trans hfin.2.2.2.1, (hfin.2.2.2.2.block Pb (by have := hk4.1.1; omega) (by omega)).trans hk4.2, ?_⟩
      have := hfin.1
      rw [List.append_assoc] at this
      show PmI wl (w.heap.size + 2) _ _ (tabOf L zs (pre ++ [k])) W4
      rw [HSN.out]
      exact this
     ·rw [if_pos (by rfl)]
      refine wp_call_func #[.tmp 58] #[49] rfl #[.int .u64 (r : Nat)] (by simp [Act.eval]) (enters_of Tryz.func105 (by kernel_rfl) rfl) (show Calls Tryz.prog 105 _ _ _ from HC2.out) (fun e W2 he => ?_)
      obtain ⟨u, rfl, hcu, HS2, HA2⟩ := he
      refine ⟨_, rfl, hK _ _ HS2.out (fun hHeld => ?_)⟩
      clear hK K
      simp only [Act.put, z9]
      obtain ⟨a7, c7, W3, W4, hr5, hc5, hf5, hW4, HS3, HS4, HP4⟩ := HA2.out
      clear HA2
      refine wpAnyH_ready (rs := [1]) (by kernel_rfl) (by simp) ?_
      refine AllReadyH.cons rfl (fun K hK => ?_) AllReadyH.nil
      rw [if_pos (by rfl)]
      refine wp_of_same (v := .slice a5 M c5) (by go_simp) ?_
      refine hK _ _ HS2.out (fun hHeld => ?_)
      clear hK K
      simp only [Act.put, z9]
      refine wpAnyH_ready (rs := [9]) (by kernel_rfl) (by simp) ?_
      refine AllReadyH.cons rfl (fun K hK => ?_) AllReadyH.nil
      rw [if_pos (by rfl)]
      refine wp_append_run _ _ 37 rfl _ _ _ rfl rfl (hr5 _) ?_
      refine hK _ _ HS3.out (fun hHeld => ?_)
      clear hK K
      simp only [Act.put, z9]
      refine t8 (i := 10) (v := .pointer (some ⟨w.heap.size + 2, 2, none⟩)) rfl hHeld ?_
      simp only [Act.put, z9]
      refine wpAnyH_ready (rs := [11]) (by kernel_rfl) (by simp) ?_
      refine AllReadyH.cons rfl (fun K hK => ?_) AllReadyH.nil
      rw [if_pos (by rfl)]
      refine wp_of_skip (w' := W4) (by rw [hW4]; go_simp) ?_
      refine hK _ _ HS4.out (fun hHeld => ?_)
      clear hK K
      simp only [Act.put, z9]
      refine wpAnyH_done (by kernel_rfl) ?_ _
      have hfin := HP4.out
      have hk4 := HK4.out
      gi_wp2
      refine ⟨hk4.1.trans hfin.2.2.2.1, (hfin.2.2.2.2.block Pb (by have := hk4.1.1; omega) (by omega)).trans hk4.2, ?_⟩
      have := hfin.1
      rw [List.append_assoc] at this
      show PmI wl (w.heap.size + 2) _ _ (tabOf L zs (pre ++ [k])) W4
      rw [HSN.out]
      exact this
   case done =>
    rintro D ys W hD rfl hI hK
    obtain ⟨v, hp0, hf0⟩ := hI.plan
    rw [HL.out.2.1, tabOf_all HL.out.2.2.1] at hf0
    obtain ⟨a3, c3, rfl⟩ := hf0.form
    have hrs : W.heap[w.heap.size]? = some (.cells #[.slice none 0 0, .map none, .slice none 0 0] 105 (0, 0)) := by rw [hI.only.block _ (by omega) (by omega)]; exact HMp.out.2.2
    have HP0 : Hid _ := hp0
    have HF0 : Hid (Fresh W wl.heap.size (.slice a3 (tabB L).length c3) (tabB L)) := hf0
    have HIo : Hid (Only (fun k => k = w.heap.size + 2) wl W) := hI.only
    have r0 : W.cell? ⟨w.heap.size, 0, none⟩ = some (.slice none 0 0) := by rw [cell_of_row _ _ _ _ _ _ hrs]; rfl
    have r1 : W.cell? ⟨w.heap.size, 1, none⟩ = some (.map none) := by rw [cell_of_row _ _ _ _ _ _ hrs]; rfl
    have r2 : W.cell? ⟨w.heap.size, 2, none⟩ = some (.slice none 0 0) := by rw [cell_of_row _ _ _ _ _ _ hrs]; rfl
    have z0 := frozen_of_row _ _ 0 _ _ hrs
    have z1 := frozen_of_row _ _ 1 _ _ hrs
    have z2 := frozen_of_row _ _ 2 _ _ hrs
    have p0 : W.cell? ⟨w.heap.size + 2, 0, none⟩ = some (.slice a1 F c1) := by rw [cell_of_row _ _ _ _ _ _ hp0]; rfl
    have p1 : W.cell? ⟨w.heap.size + 2, 1, none⟩ = some (.map (some (w.heap.size + 1))) := by rw [cell_of_row _ _ _ _ _ _ hp0]; rfl
    have p2 : W.cell? ⟨w.heap.size + 2, 2, none⟩ = some (.slice a3 (tabB L).length c3) := by rw [cell_of_row _ _ _ _ _ _ hp0]; rfl
    have HRS : Hid _ := hrs
    clear hI hf0 hpl hb hin hrs hp0
    gi_wp2
    clear r0 r1 r2 z0 z1 z2 p0 p1 p2
    obtain ⟨WF, hWF⟩ : ∃ q, q = ((W.setCell ⟨w.heap.size, 0, none⟩ (.slice a1 F c1)).setCell ⟨w.heap.size, 1, none⟩ (.map (some (w.heap.size + 1)))).setCell ⟨w.heap.size, 2, none⟩ (.slice a3 (tabB L).length c3) := ⟨_, rfl⟩
    rw [← hWF]
    have oF : Only (fun k => k = w.heap.size) W WF := by rw [hWF]; exact only_set3 _ _ _ _ _ _ _ _
    have eF : WF.heap[w.heap.size]? = some (.cells #[.slice a1 F c1, .map (some (w.heap.size + 1)), .slice a3 (tabB L).length c3] 105 (0, 0)) := by
     rw [hWF]
     exact row_set3 HRS.out _ _ _
    have hDW := (Array.getElem?_eq_some_iff.1 hK).1
    have hKF : WF.heap[D]? = some (.deferred (some [])) := by rw [oF.block D hDW (by omega)]; exact hK
    clear hWF
    refine ⟨by simp, .inl ⟨_, _, rfl, run_takeDeferred hKF, ?_⟩⟩
    have oG : Only (fun k => k = D) WF (WF.putObj D (.deferred none)) := (Only.refl _ WF).grown (grownBy_putObj' WF D _) (fun k e _ => by injection e with e; exact e.symm)
    have sF := oF.size
    have sW := HIo.out.size
    have eG : (WF.putObj D (.deferred none)).heap[w.heap.size]? = some (.cells #[.slice a1 F c1, .map (some (w.heap.size + 1)), .slice a3 (tabB L).length c3] 105 (0, 0)) := by rw [oG.block _ (by omega) (by omega)]; exact eF
    have oWG : Only (fun k => k = w.heap.size ∨ k = D) W (WF.putObj D (.deferred none)) := (oF.mono (fun _ _ e => .inl e)).trans (oG.mono (fun _ _ e => .inr e)) (fun _ _ e => e)
    have oAll : Only (fun _ => False) w (WF.putObj D (.deferred none)) := (HMp.out.2.1.trans HIo.out (fun j hj e => by omega)).trans oWG (fun j hj e => by omega)
    refine ⟨.agg #[.slice a1 F c1, .map (some (w.heap.size + 1)), .slice a3 (tabB L).length c3], results_cell_row rfl _ _ w.heap.size 105 _ _ _ rfl eG Tryz.underlying105 rfl (by kernel_rfl), w.heap.size + 1, a3, c3, ?_, ?_⟩
    ·rw [← HL.out.1]
    ·rw [← HL.out.1]
     refine ⟨by omega, ⟨sl, (HMp.out.1.frame HIo.out (by omega)).frame oWG (by omega), fun q hq => ?_⟩, ⟨ownsRow_base (oWG.owns HF0.out.1 (fun j e1 e2 => ?_)) (by omega), HF0.out.2⟩, oAll⟩
     ·obtain ⟨g1, g2⟩ := HLd.out q hq
      exact ⟨g1.keep oAll (fun _ _ e => e), fun b e => ⟨by have := (g2 b e).1; have := oAll.size; omega, (g2 b e).2⟩⟩
     ·rcases e2 with e2 | e2
      ·have := (HF0.out.1.lt j e1).1; omega
      ·subst e2
       have := owned_cells HF0.out.1 e1 hK
       cases this
   case stop =>
    rintro D c pre W _ _ h _
    exact h.elim
end Go.Proofs.YtlcglapcmdpkfaaGreat
