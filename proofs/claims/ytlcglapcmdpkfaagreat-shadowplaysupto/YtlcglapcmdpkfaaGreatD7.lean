import Derived.Test.YtlcglapcmdpkfaaGreatD6
import Derived.RangeFuncNested
import Derived.RangeFuncBound
import Derived.RangeFuncCalls
import Derived.RangeFuncLeaves
import Derived.Shelf.Abstract
import Derived.Shelf.RegionOpen
import Derived.OwnWalkIn
import Derived.TacticsInMore
import Derived.LoopNIn
import Derived.LoopIn
namespace Go.Proofs.YtlcglapcmdpkfaaGreat
open Go.RowKit Go.Shelf
set_option linter.unusedSimpArgs false
set_option linter.unusedVariables false
section
variable {P : Program} {F : Fence} {n : Nat} {ops : Array Oper} {op : Oper} {a : Act} {w w' : World} {K : Act → World → Prop} {Q : Exit → Act → World → Prop}
def calmOp : Op → Bool
 | .move _ | .assign _ | .alloc _ | .load _ _ | .store _ _ _ | .nilCheck _ | .fieldAddr _ _ _ | .indexAddr _ _ _ | .slice _ _ _ _ _ => true
 | _ => false
theorem calm_about (h : calmOp op.op = true) (ρ : Operand → Value) : op.about P w ρ = none := by
 unfold Oper.about
 cases ho : op.op <;> simp [ho, calmOp] at h ⊢
theorem calm_sem (h : calmOp op.op = true) (ro : Option Nat) (ρ : Operand → Value) : Oper.semAt ro ρ op = execOp ρ op :=
 Oper.semAt_eq ro ρ op (fun c hc => by rw [hc] at h; cases h)
theorem wpIn_value {s : Sem Value} {v : Value} (hc : calmOp op.op = true) (ho : execOp a.eval op = (do pure (.value (← s)))) (h : s.run P w = .ok v w') (hk : K (a.put op.dst v) w') : op.wpIn F n P a w K Q := by
 refine ⟨fun f hf => (by rw [calm_about hc] at hf; cases hf), ?_⟩
 rw [calm_sem hc]
 simp only [ho, Sem.run_bind, h, Result.andThen_ok, Sem.run_pure, Oper.uponIn]
 exact hk
theorem wpIn_unit {s : Sem Unit} (hc : calmOp op.op = true) (ho : execOp a.eval op = (do s; pure .skip)) (h : s.run P w = .ok () w') (hk : K (a.put op.dst undef) w') : op.wpIn F n P a w K Q := by
 refine ⟨fun f hf => (by rw [calm_about hc] at hf; cases hf), ?_⟩
 rw [calm_sem hc]
 simp only [ho, Sem.run_bind, h, Result.andThen_ok, Sem.run_pure, Oper.uponIn]
 exact hk
theorem wpListIn_value {rest : List Oper} {s : Sem Value} {v : Value} (hgd : op.guard = none) (hc : calmOp op.op = true) (ho : execOp a.eval op = (do pure (.value (← s)))) (h : s.run P w = .ok v w') (hk : wpListIn F n P ops Q rest (a.put op.dst v) w') : wpListIn F n P ops Q (op :: rest) a w :=
 wpListIn_plain hgd fun _ hK => wpIn_value hc ho h (hK _ _ hk)
theorem wpListIn_unit {rest : List Oper} {s : Sem Unit} (hgd : op.guard = none) (hc : calmOp op.op = true) (ho : execOp a.eval op = (do s; pure .skip)) (h : s.run P w = .ok () w') (hk : wpListIn F n P ops Q rest (a.put op.dst undef) w') : wpListIn F n P ops Q (op :: rest) a w :=
 wpListIn_plain hgd fun _ hK => wpIn_unit hc ho h (hK _ _ hk)
theorem wpListIn_load_mid {rest : List Oper} (hgd : op.guard = none) (ty : TypeId) (x : Operand) (ho : op.op = .load ty x)
  (b o : Nat) (hx : a.eval x = .pointer (some ⟨b, o, none⟩)) (cs : List Value) (d : TypeDesc) (hc : w.rangeAt b o cs)
  (hu : P.underlying ty = some d) (hd : d.isRow = true) (hi : (P.info? ty).map (·.size) = some cs.length)
  (h : wpListIn F n P ops Q rest (a.put op.dst (.agg cs.toArray)) w) : wpListIn F n P ops Q (op :: rest) a w :=
 wpListIn_value hgd (by rw [ho]; rfl) (s := Instr.loadAt ty (.pointer (some ⟨b, o, none⟩))) (by unfold execOp; simp only [ho, hx]) (run_loadAt_mid w b o ty cs d hc hu hd hi) h
theorem wpListIn_storeNew {rest : List Oper} (hgd : op.guard = none) (ty : TypeId) (x y : Operand) (ho : op.op = .store ty x y)
  (w0 : World) (c cells : Array Value) (hx : a.eval x = .pointer (some ⟨w0.heap.size, 0, none⟩)) (hy : a.eval y = .agg cells)
  (hi : (P.info? ty).map (·.size) = some cells.size) (hs : c.size = cells.size) (h1 : cells.all (·.oneCell') = true)
  (h : wpListIn F n P ops Q rest (a.put op.dst undef) (w0.alloc (.cells cells ty))) : wpListIn F n P ops Q (op :: rest) a (w0.alloc (.cells c ty)) :=
 wpListIn_unit hgd (by rw [ho]; rfl) (s := Instr.storeAt ty (.pointer (some ⟨w0.heap.size, 0, none⟩)) (.agg cells)) (by unfold execOp; simp only [ho, hx, hy]) (run_storeAt_new w0 ty c cells hi hs h1) h
theorem wpListIn_alloc {rest : List Oper} (hgd : op.guard = none) (ty : TypeId) (ho : op.op = .alloc ty) (c : Array Value) (hr : (Instr.alloc ty true (.tuple #[])).run P w = .ok (.pointer (some ⟨w.heap.size, 0, none⟩)) (w.alloc (.cells c ty)))
  (h : wpListIn F n P ops Q rest (a.put op.dst (.pointer (some ⟨w.heap.size, 0, none⟩))) (w.alloc (.cells c ty))) : wpListIn F n P ops Q (op :: rest) a w :=
 wpListIn_value hgd (by rw [ho]; rfl) (s := Instr.alloc ty true (.tuple #[])) (by unfold execOp; simp only [ho]) hr h
theorem calm_ok (h : calmOp op.op = true) (ρ : Operand → Value) {x : Next} (hr : (execOp ρ op).run P w = .ok x w') : (∃ v, x = .value v) ∨ x = .skip := by
 have hv : ∀ (s : Sem Value), ((do pure (Next.value (← s)) : Sem Next).run P w = .ok x w') → ∃ v, x = .value v := by
  intro s hs
  rw [Sem.run_bind] at hs
  cases hq : s.run P w with
  | ok v w1 => rw [hq] at hs; simp [Result.andThen, Sem.run_pure] at hs; exact ⟨v, hs.1.symm⟩
  | halt e w1 => rw [hq] at hs; simp [Result.andThen] at hs
 have hu : ∀ (s : Sem Unit), ((do s; pure Next.skip : Sem Next).run P w = .ok x w') → x = .skip := by
  intro s hs
  rw [Sem.run_bind] at hs
  cases hq : s.run P w with
  | ok v w1 => rw [hq] at hs; simp [Result.andThen, Sem.run_pure] at hs; exact hs.1.symm
  | halt e w1 => rw [hq] at hs; simp [Result.andThen] at hs
 unfold execOp at hr
 cases ho : op.op <;> simp only [ho, calmOp, Bool.false_eq_true] at h <;> simp only [ho] at hr
 case move x => left; simp [Sem.run_pure] at hr; exact ⟨_, hr.1.symm⟩
 case assign x => left; simp [Sem.run_pure] at hr; exact ⟨_, hr.1.symm⟩
 case alloc => exact .inl (hv _ hr)
 case load => exact .inl (hv _ hr)
 case store => exact .inr (hu _ hr)
 case fieldAddr => exact .inl (hv _ hr)
 case indexAddr => exact .inl (hv _ hr)
 case slice => exact .inl (hv _ hr)
 case nilCheck xo =>
  left
  have hp : ∀ (β : Type) (f : β → Value) (t : Sem β), ((do let b ← t; pure (Next.value (f b))) : Sem Next).run P w = .ok x w' → ∃ v, x = .value v := by
   intro β f t hs
   rw [Sem.run_bind] at hs
   cases hq : t.run P w with
   | ok v w1 => rw [hq] at hs; simp [Result.andThen, Sem.run_pure] at hs; exact ⟨_, hs.1.symm⟩
   | halt e w1 => rw [hq] at hs; simp [Result.andThen] at hs
  split at hr
  ·simp [runtimePanic, goPanic, go_sem] at hr
  ·simp [runtimePanic, goPanic, go_sem] at hr
  ·simp [runtimePanic, goPanic, go_sem] at hr
  ·split at hr
   ·simp [runtimePanic, goPanic, go_sem] at hr
   ·rw [Sem.run_bind] at hr
    cases h1 : (program).run P w with
    | halt e w1 => rw [h1] at hr; simp [Result.andThen] at hr
    | ok p w1 =>
      rw [h1] at hr
      simp only [Result.andThen_ok] at hr
      rw [Sem.run_bind] at hr
      generalize Sem.run P (nilAhead _ _ _ _) w1 = r at hr
      cases r with
      | halt e w2 => simp [Result.andThen] at hr
      | ok b w2 =>
        simp only [Result.andThen_ok] at hr
        split at hr
        ·simp [unsupported, go_sem] at hr
        ·simp [Sem.run_pure] at hr; exact ⟨_, hr.1.symm⟩
   ·simp [Sem.run_pure] at hr; exact ⟨_, hr.1.symm⟩
  ·simp [Sem.run_pure] at hr; exact ⟨_, hr.1.symm⟩
theorem wpOp_in {i : Nat} (hc : ∀ o, ops[i]? = some o → calmOp o.op = true) (hQ : ¬ LetsOut Q) (h : wpOp P ops Q i K a w) : wpOpIn F n P ops Q i K a w := by
 unfold wpOp at h
 unfold wpOpIn
 cases ho : ops[i]? with
 | none => rw [ho] at h; exact h
 | some o =>
   rw [ho] at h
   have hco := hc o ho
   simp only at h ⊢
   split
   ·rename_i hw
    rw [if_pos hw] at h
    rcases h with h | ⟨_, hl⟩
    ·refine ⟨fun f hf => (by rw [calm_about hco] at hf; cases hf), ?_⟩
     rw [calm_sem hco]
     unfold Oper.wp at h
     cases hr : (execOp a.eval o).run P w with
     | ok x w1 =>
       rw [hr] at h
       rcases calm_ok hco a.eval hr with ⟨v, rfl⟩ | rfl
       ·exact h
       ·exact h
     | halt e w1 =>
       rw [hr] at h
       cases e <;> first | exact h | exact (h : False).elim
    ·exact absurd hl hQ
   ·rename_i hw
    rw [if_neg hw] at h
    exact ⟨fun f hf => (by rw [calm_about hco] at hf; cases hf), h⟩
theorem wpAny_in {md : Region.Mode} (hc : ∀ (i : Nat) (o : Oper), ops[i]? = some o → calmOp o.op = true) (hQ : ¬ LetsOut Q) : ∀ (fuel : Nat) (listed : Array Bool) (a : Act) (w : World), wpAny P md ops Q fuel listed a w → wpAnyIn F n P md ops Q fuel listed a w
 | 0, _, _, _, h => h
 | fuel + 1, _, _, _, h => ⟨h.1, fun i hi => wpOp_in (hc i) hQ (wpOp_mono (fun a' w' h' => wpAny_in hc hQ fuel _ a' w' h') (h.2 i hi))⟩
theorem wpIn_region_held {id : Nat} {S : World → Prop} (hm : P.follows .mixedOrders = true) (hc : ops.all (fun o => calmOp o.op) = true) (hQ : ¬ LetsOut Q) (hS : S w.drew)
  (h : S w.drew → wpAnyH P .any ops Q S ops.size (Array.replicate ops.size false) a w.drew) : (Code.region id ops true).wpIn F n P Q a w :=
 wpIn_region_any hm (wpAny_in (fun i o ho => by
  rw [Array.all_eq_true_iff_forall_mem] at hc
  exact hc o (Array.mem_of_getElem? ho)) hQ _ _ _ _ (wpAny_of_held _ _ _ _ (h hS)))
end
abbrev At (n : Nat) := { x : Nat × Wr // x.2.at_ < n }
def atEnc (n : Nat) (x : At n) : Array Value := #[.int .i64 x.1.1, .agg x.1.2.cells.toArray]
def KpB (Bs Pb : Nat) (W W' : World) : Prop := W'.heap[Bs]? = W.heap[Bs]? ∧ W'.heap[Pb]? = W.heap[Pb]?
def fromLast (n : Nat) (l : List (At n)) (k : Nat) : List (At n) := (l.drop k).reverse
theorem fromLast_succ (n : Nat) (l : List (At n)) (k : Nat) (h : k < l.length) : fromLast n l k = fromLast n l (k + 1) ++ [l[k]] := by
 simp only [fromLast]
 rw [List.drop_eq_getElem_cons h, List.reverse_cons]
theorem fromLast_length (n : Nat) (l : List (At n)) (k : Nat) : (fromLast n l k).length = l.length - k := by simp [fromLast]
attribute [local go_sem] Oper.semAt_some
set_option maxRecDepth 100000 in
set_option maxHeartbeats 2000000 in
theorem back_core (m : Nat) (l Bs Pb n len cap : Nat) (cs : Nat → List Value) (y : Nat → Array Value) (hlen : len ≤ maxLen) (J : Nat → World → Prop) (Jx : World → Prop) (K : World → World → Prop)
  (hcs : ∀ j, j < len → (cs j).length = 65) (hK : ∀ W W', K W W' → KpB Bs Pb W W') (hy : ∀ j, j < len → y j = #[.int .i64 j, .agg (cs j).toArray])
  (hY : ∀ k W, k < len → J (k + 1) W → YieldAt Fence.wide (m - 1) Tryz.prog l (y k) W fun e W' =>
   (e = .returned (.bool true) ∧ J k W' ∧ K W W') ∨ (e = .returned (.bool false) ∧ Jx W'))
  (W : World) (hBs : W.cell? ⟨Bs, 0, none⟩ = some (.slice (some ⟨Pb, 0, none⟩) len cap)) (hc : ∀ j, j < len → W.rangeAt Pb (j * 65) (cs j)) (h0 : J len W) :
  CallsIn Fence.wide m Tryz.prog 113 #[.func (.yield l) #[] #[], .pointer (some ⟨Bs, 0, none⟩)] W fun e W' => (∃ v, e = .returned v) ∧ (J 0 W' ∨ Jx W') := by
 unfold maxLen at hlen
 have hu71 := Tryz.underlying119
 refine callsIn_of_wp Tryz.func113 rfl trivial ?_ rfl
 simp only [Tryz.ntmps113, List.size_toArray, List.length_cons, List.length_nil, Nat.reduceAdd, Nat.reduceSub, Array.replicate_succ, Array.replicate_zero, List.push_toArray, List.append_toArray, List.nil_append, List.cons_append]
 gi_wp2
 gi_loopw [3] (fun i wr => ∃ k : Nat, k ≤ len ∧ i = .int .i64 ((k : Int) - 1) ∧ J k wr ∧ KpB Bs Pb W wr) (fun i _ => (intOf i + 1).toNat)
 case atStart => exact ⟨len, Nat.le_refl _, rfl, h0, rfl, rfl⟩
 case round =>
  obtain ⟨k, hk, rfl, hJ, hkp⟩ := hrel
  cases k with
  | zero =>
    clear hY hc hcs hK hy h0 hBs hkp
    gi_wp2
    go_end0
    exact ⟨⟨_, rfl⟩, .inl hJ⟩
  | succ j =>
    have e1 : (((j + 1 : Nat) : Int) - 1) = (j : Int) := by omega
    rw [e1]
    obtain ⟨fn, tmps, assign, body, hyr, hR⟩ := hY j wr (by omega) hJ
    rw [hy j (by omega)] at hyr
    have hb1 : wr.cell? ⟨Bs, 0, none⟩ = some (.slice (some ⟨Pb, 0, none⟩) len cap) := (World.cell?_of_block (w := W) hkp.1).trans hBs
    have hr1 : wr.rangeAt Pb (j * 65) (cs j) := fun q v hv => (World.cell?_of_block (w := W) hkp.2).trans (hc j (by omega) q v hv)
    have hi : (Tryz.prog.info? 119).map (·.size) = some (cs j).length := by rw [size71, hcs j (by omega)]
    have hj0 : (0 : Int) ≤ (j : Int) := Int.natCast_nonneg _
    have hj1 : (j : Int) < (len : Int) := by omega
    have HKP : Hid (KpB Bs Pb W wr) := hkp
    have HK : Hid (∀ W W', K W W' → KpB Bs Pb W W') := hK
    clear hY hc hcs hy h0 hBs e1 hkp hK
    gi_wp2_with (refine wpListIn_load_mid rfl 119 _ rfl Pb (j * 65) rfl (cs j) _ hr1 hu71 rfl hi ?_)
    refine ⟨fun h => (by simp [Fence.wide] at h), hR.mono ?_⟩
    rintro e W3 (⟨rfl, hJ3, hk3⟩ | ⟨rfl, hJx3⟩)
    ·have hk4 : KpB Bs Pb W W3 := ⟨(HK.out _ _ hk3).1.trans HKP.out.1, (HK.out _ _ hk3).2.trans HKP.out.2⟩
     have HK4 : Hid (KpB Bs Pb W W3) := hk4
     clear hk4 hk3
     gi_wp2
     go_roundw
     case rel => exact ⟨j, by omega, rfl, hJ3, HK4.out⟩
     case measure => simp [intOf]
    ·gi_wp2
     refine bodyPost_ret (results_none rfl _ _ _) rfl ?_
     exact ⟨⟨_, rfl⟩, .inr hJx3⟩
set_option maxRecDepth 100000 in
set_option maxHeartbeats 1000000 in
theorem back_nil (m l Bs : Nat) (J : World → Prop) (W : World) (hBs : W.cell? ⟨Bs, 0, none⟩ = some (.slice none 0 0)) (h0 : J W) :
  CallsIn Fence.wide m Tryz.prog 113 #[.func (.yield l) #[] #[], .pointer (some ⟨Bs, 0, none⟩)] W fun e W' => (∃ v, e = .returned v) ∧ J W' := by
 refine callsIn_of_wp Tryz.func113 rfl trivial ?_ rfl
 simp only [Tryz.ntmps113, List.size_toArray, List.length_cons, List.length_nil, Nat.reduceAdd, Nat.reduceSub, Array.replicate_succ, Array.replicate_zero, List.push_toArray, List.append_toArray, List.nil_append, List.cons_append]
 gi_wp2
 gi_loopw [3] (fun i wr => i = .int .i64 (-1) ∧ J wr) (fun _ _ => 0)
 case atStart => exact ⟨rfl, h0⟩
 case round =>
  obtain ⟨rfl, hJ⟩ := hrel
  gi_wp2
  go_end0
  exact ⟨⟨_, rfl⟩, hJ⟩
set_option maxHeartbeats 1000000 in
theorem backward_in (m : Nat) (pv : Value) (w : World) (h1 : pv.oneCell' = true) (h2 : pv.cells = #[pv]) :
  CallsIn Fence.wide m Tryz.prog 94 #[pv] w fun e w' => e = .returned (.func (.func 113) #[] #[.pointer (some ⟨w.heap.size, 0, none⟩)]) ∧ w' = w.alloc (.cells #[pv] 52) := by
 refine callsIn_of_wp Tryz.func94 rfl trivial ?_ rfl
 simp only [Tryz.ntmps94, List.size_toArray, List.length_cons, List.length_nil, Nat.reduceAdd, Nat.reduceSub, Array.replicate_succ, Array.replicate_zero, List.push_toArray, List.append_toArray, List.nil_append, List.cons_append]
 gi_wp2
 go_ret
 exact ⟨rfl, rfl⟩
theorem back_stops (m Bs Pb n : Nat) (pv : Value) (l : List (At n)) (w : World) (hl : l.length ≤ maxLen) (hx : ∀ j (h : j < l.length), l[j].1.1 = j) (hBs : w.cell? ⟨Bs, 0, none⟩ = some pv)
  (hpv : (pv = .slice none 0 0 ∧ l = []) ∨ ∃ cap, pv = .slice (some ⟨Pb, 0, none⟩) l.length cap) (hc : ∀ j (h : j < l.length), w.rangeAt Pb (j * 65) l[j].1.2.cells) :
  SeqStopsK Fence.wide m Tryz.prog 113 #[.pointer (some ⟨Bs, 0, none⟩)] (atEnc n) (KpB Bs Pb) (fun ys => ys = fromLast n l 0) (fun _ => True) l.length w := fun lo J Jx W hW _ _ hY h0 => by
 have hBl := World.block_lt_of_cell? w _ hBs
 have hBs' : W.cell? ⟨Bs, 0, none⟩ = some pv := (hW.cell (p := ⟨Bs, 0, none⟩) hBl).trans hBs
 rcases hpv with ⟨rfl, rfl⟩ | ⟨cap, rfl⟩
 ·exact (back_nil m lo Bs (J []) W hBs' h0).mono fun e W' ⟨he, hj⟩ => ⟨he, .inl ⟨_, rfl, by simpa [fromLast] using hj⟩⟩
 ·refine (back_core m lo Bs Pb n l.length cap (fun j => if h : j < l.length then l[j].1.2.cells else []) (fun j => if h : j < l.length then atEnc n l[j] else #[]) hl (fun k W => J (fromLast n l k) W) (fun W => ∃ pre, Jx pre W) (KpB Bs Pb)
   (fun j hj => by simp only [dif_pos hj]; simp [Wr.cells, wrL_length]) (fun _ _ h => h) (fun j hj => by simp only [dif_pos hj, atEnc, hx j hj]) ?_ W hBs' (fun j hj => ?_) ?_).mono ?_
  ·intro k W1 hk hJ
   have := hY (fromLast n l (k + 1)) l[k] W1 hJ (by rw [fromLast_length]; omega)
   rw [← fromLast_succ n l k hk] at this
   simp only [dif_pos hk]
   obtain ⟨fn, tmps, assign, body, e1, e2⟩ := this
   refine ⟨fn, tmps, assign, body, e1, e2.mono ?_⟩
   rintro e W' (⟨he, h1, h2⟩ | ⟨he, h1⟩)
   ·exact .inl ⟨he, h1, h2⟩
   ·exact .inr ⟨he, _, h1⟩
  ·simp only [dif_pos hj]
   intro q v hv
   have h1 := hc j hj q v hv
   exact (hW.cell (p := ⟨Pb, j * 65 + q, none⟩) (World.block_lt_of_cell? w _ h1)).trans h1
  ·simpa [fromLast] using h0
  ·rintro e W' ⟨he, hj | ⟨pre, hj⟩⟩
   ·exact ⟨he, .inl ⟨_, rfl, hj⟩⟩
   ·exact ⟨he, .inr ⟨pre, trivial, hj⟩⟩
end Go.Proofs.YtlcglapcmdpkfaaGreat
