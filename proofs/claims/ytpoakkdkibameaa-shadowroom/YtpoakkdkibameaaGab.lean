/- Laws for single operations within a fence, and a region without calls within a round; what slices.Backward's closure hands to a loop's body. A region that draws its order and holds calls, within a round of a loop over a function. A map keyed by int: its entries as a list that rises; what a look, a store and a delete do of it. The sum of bytes as numbers: one step of the register, that it is linear and that nothing but 0 comes to 0. What shift answers. How bytes lie in memory, those that come in and those that are made; a copy of them. What own, Sum, the document's Sum and SameBytes of the same bytes answer. What the document's Sum answers: the same. -/
import Derived.Test.YtpoakkdkibameaaGaa
import Derived.RangeFuncNested
import Derived.RangeFuncBound
import Derived.RangeFuncCalls
import Derived.RangeFuncLeaves
import Derived.Shelf.Abstract
import Derived.Shelf.RegionOpen
import Derived.OwnWalkIn
import Derived.TacticsInMore
import Derived.LoopNIn
import Derived.LoopIn
import Derived.Test.YtpoakkdkibameaaRows
import Derived.Maps.OwnSet
import Derived.Maps.Ext
import Derived.MapKept
import Derived.WalkKit
import Derived.Laws.BitsLemmas
import Derived.WalkSpells
import Derived.WalkLawsBesides
import Derived.Deep.RegionHeld3
import Derived.Deep.MidRow
import Derived.Deep.AppendLies
import Derived.Deep.DrawnRows
import Derived.ProofKit
import Derived.SizedLaws
import Derived.Deep.Slices
import Derived.Deep.Grids
namespace Go.Proofs.Ytpoakkdkibameaa
open Go.RowKit Go.Shelf
set_option linter.unusedSimpArgs false
set_option linter.unusedVariables false

section
variable {P : Program} {F : Fence} {n : Nat} {ops : Array Oper} {op : Oper} {a : Act} {w w' : World} {K : Act → World → Prop} {Q : Exit → Act → World → Prop}
/-- An operation that makes no call and defers nothing. -/
def calmOp : Op → Bool
  | .move _ | .assign _ | .alloc _ | .load _ _ | .store _ _ _ | .nilCheck _ | .fieldAddr _ _ _ | .indexAddr _ _ _ | .slice _ _ _ _ _ => true
  | _ => false
theorem calm_about (h : calmOp op.op = true) (ρ : Operand → Value) : op.about P w ρ = none := by
  unfold Oper.about
  cases ho : op.op <;> simp [ho, calmOp] at h ⊢
theorem calm_sem (h : calmOp op.op = true) (ro : Option Nat) (ρ : Operand → Value) : Oper.semAt ro ρ op = execOp ρ op :=
  Oper.semAt_eq ro ρ op (fun c hc => by rw [hc] at h; cases h)
theorem wpIn_value {s : Sem Value} {v : Value} (hc : calmOp op.op = true) (ho : execOp a.eval op = (do pure (.value (← s)))) (h : s.run P w = .ok v w') (hk : K (a.put op.dst v) w') : op.wpIn F n P a w K Q := by
  refine ⟨fun f hf => (by rw [calm_about hc] at hf; cases hf), ?_⟩
  rw [calm_sem hc]
  simp only [ho, Sem.run_bind, h, Result.andThen_ok, Sem.run_pure, Oper.uponIn]
  exact hk
theorem wpIn_unit {s : Sem Unit} (hc : calmOp op.op = true) (ho : execOp a.eval op = (do s; pure .skip)) (h : s.run P w = .ok () w') (hk : K (a.put op.dst undef) w') : op.wpIn F n P a w K Q := by
  refine ⟨fun f hf => (by rw [calm_about hc] at hf; cases hf), ?_⟩
  rw [calm_sem hc]
  simp only [ho, Sem.run_bind, h, Result.andThen_ok, Sem.run_pure, Oper.uponIn]
  exact hk
theorem wpListIn_value {rest : List Oper} {s : Sem Value} {v : Value} (hgd : op.guard = none) (hc : calmOp op.op = true) (ho : execOp a.eval op = (do pure (.value (← s)))) (h : s.run P w = .ok v w') (hk : wpListIn F n P ops Q rest (a.put op.dst v) w') : wpListIn F n P ops Q (op :: rest) a w :=
  wpListIn_plain hgd fun _ hK => wpIn_value hc ho h (hK _ _ hk)
theorem wpListIn_unit {rest : List Oper} {s : Sem Unit} (hgd : op.guard = none) (hc : calmOp op.op = true) (ho : execOp a.eval op = (do s; pure .skip)) (h : s.run P w = .ok () w') (hk : wpListIn F n P ops Q rest (a.put op.dst undef) w') : wpListIn F n P ops Q (op :: rest) a w :=
  wpListIn_plain hgd fun _ hK => wpIn_unit hc ho h (hK _ _ hk)
theorem wpListIn_load_mid {rest : List Oper} (hgd : op.guard = none) (ty : TypeId) (x : Operand) (ho : op.op = .load ty x)
    (b o : Nat) (hx : a.eval x = .pointer (some ⟨b, o, none⟩)) (cs : List Value) (d : TypeDesc) (hc : w.rangeAt b o cs)
    (hu : P.underlying ty = some d) (hd : d.isRow = true) (hi : (P.info? ty).map (·.size) = some cs.length)
    (h : wpListIn F n P ops Q rest (a.put op.dst (.agg cs.toArray)) w) : wpListIn F n P ops Q (op :: rest) a w :=
  wpListIn_value hgd (by rw [ho]; rfl) (s := Instr.loadAt ty (.pointer (some ⟨b, o, none⟩))) (by unfold execOp; simp only [ho, hx]) (run_loadAt_mid w b o ty cs d hc hu hd hi) h
theorem wpListIn_storeNew {rest : List Oper} (hgd : op.guard = none) (ty : TypeId) (x y : Operand) (ho : op.op = .store ty x y)
    (w0 : World) (c cells : Array Value) (hx : a.eval x = .pointer (some ⟨w0.heap.size, 0, none⟩)) (hy : a.eval y = .agg cells)
    (hi : (P.info? ty).map (·.size) = some cells.size) (hs : c.size = cells.size) (h1 : cells.all (·.oneCell') = true)
    (h : wpListIn F n P ops Q rest (a.put op.dst undef) (w0.alloc (.cells cells ty))) : wpListIn F n P ops Q (op :: rest) a (w0.alloc (.cells c ty)) :=
  wpListIn_unit hgd (by rw [ho]; rfl) (s := Instr.storeAt ty (.pointer (some ⟨w0.heap.size, 0, none⟩)) (.agg cells)) (by unfold execOp; simp only [ho, hx, hy]) (run_storeAt_new w0 ty c cells hi hs h1) h
theorem wpListIn_alloc {rest : List Oper} (hgd : op.guard = none) (ty : TypeId) (ho : op.op = .alloc ty) (c : Array Value) (hr : (Instr.alloc ty true (.tuple #[])).run P w = .ok (.pointer (some ⟨w.heap.size, 0, none⟩)) (w.alloc (.cells c ty)))
    (h : wpListIn F n P ops Q rest (a.put op.dst (.pointer (some ⟨w.heap.size, 0, none⟩))) (w.alloc (.cells c ty))) : wpListIn F n P ops Q (op :: rest) a w :=
  wpListIn_value hgd (by rw [ho]; rfl) (s := Instr.alloc ty true (.tuple #[])) (by unfold execOp; simp only [ho]) hr h
/-- What a calm operation comes to. -/
theorem calm_ok (h : calmOp op.op = true) (ρ : Operand → Value) {x : Next} (hr : (execOp ρ op).run P w = .ok x w') : (∃ v, x = .value v) ∨ x = .skip := by
  have hv : ∀ (s : Sem Value), ((do pure (Next.value (← s)) : Sem Next).run P w = .ok x w') → ∃ v, x = .value v := by
    intro s hs
    rw [Sem.run_bind] at hs
    cases hq : s.run P w with
    | ok v w1 => rw [hq] at hs; simp [Result.andThen, Sem.run_pure] at hs; exact ⟨v, hs.1.symm⟩
    | halt e w1 => rw [hq] at hs; simp [Result.andThen] at hs
  have hu : ∀ (s : Sem Unit), ((do s; pure Next.skip : Sem Next).run P w = .ok x w') → x = .skip := by
    intro s hs
    rw [Sem.run_bind] at hs
    cases hq : s.run P w with
    | ok v w1 => rw [hq] at hs; simp [Result.andThen, Sem.run_pure] at hs; exact hs.1.symm
    | halt e w1 => rw [hq] at hs; simp [Result.andThen] at hs
  unfold execOp at hr
  cases ho : op.op <;> simp only [ho, calmOp, Bool.false_eq_true] at h <;> simp only [ho] at hr
  case move x => left; simp [Sem.run_pure] at hr; exact ⟨_, hr.1.symm⟩
  case assign x => left; simp [Sem.run_pure] at hr; exact ⟨_, hr.1.symm⟩
  case alloc => exact .inl (hv _ hr)
  case load => exact .inl (hv _ hr)
  case store => exact .inr (hu _ hr)
  case fieldAddr => exact .inl (hv _ hr)
  case indexAddr => exact .inl (hv _ hr)
  case slice => exact .inl (hv _ hr)
  case nilCheck xo =>
    left
    have hp : ∀ (β : Type) (f : β → Value) (t : Sem β), ((do let b ← t; pure (Next.value (f b))) : Sem Next).run P w = .ok x w' → ∃ v, x = .value v := by
      intro β f t hs
      rw [Sem.run_bind] at hs
      cases hq : t.run P w with
      | ok v w1 => rw [hq] at hs; simp [Result.andThen, Sem.run_pure] at hs; exact ⟨_, hs.1.symm⟩
      | halt e w1 => rw [hq] at hs; simp [Result.andThen] at hs
    split at hr
    · simp [runtimePanic, goPanic, go_sem] at hr
    · simp [runtimePanic, goPanic, go_sem] at hr
    · simp [runtimePanic, goPanic, go_sem] at hr
    · split at hr
      · simp [runtimePanic, goPanic, go_sem] at hr
      · rw [Sem.run_bind] at hr
        cases h1 : (program).run P w with
        | halt e w1 => rw [h1] at hr; simp [Result.andThen] at hr
        | ok p w1 =>
          rw [h1] at hr
          simp only [Result.andThen_ok] at hr
          rw [Sem.run_bind] at hr
          generalize Sem.run P (nilAhead _ _ _ _) w1 = r at hr
          cases r with
          | halt e w2 => simp [Result.andThen] at hr
          | ok b w2 =>
            simp only [Result.andThen_ok] at hr
            split at hr
            · simp [unsupported, go_sem] at hr
            · simp [Sem.run_pure] at hr; exact ⟨_, hr.1.symm⟩
      · simp [Sem.run_pure] at hr; exact ⟨_, hr.1.symm⟩
    · simp [Sem.run_pure] at hr; exact ⟨_, hr.1.symm⟩

theorem wpOp_in {i : Nat} (hc : ∀ o, ops[i]? = some o → calmOp o.op = true) (hQ : ¬ LetsOut Q) (h : wpOp P ops Q i K a w) : wpOpIn F n P ops Q i K a w := by
  unfold wpOp at h
  unfold wpOpIn
  cases ho : ops[i]? with
  | none => rw [ho] at h; exact h
  | some o =>
    rw [ho] at h
    have hco := hc o ho
    simp only at h ⊢
    split
    · rename_i hw
      rw [if_pos hw] at h
      rcases h with h | ⟨_, hl⟩
      · refine ⟨fun f hf => (by rw [calm_about hco] at hf; cases hf), ?_⟩
        rw [calm_sem hco]
        unfold Oper.wp at h
        cases hr : (execOp a.eval o).run P w with
        | ok x w1 =>
          rw [hr] at h
          rcases calm_ok hco a.eval hr with ⟨v, rfl⟩ | rfl
          · exact h
          · exact h
        | halt e w1 =>
          rw [hr] at h
          cases e <;> first | exact h | exact (h : False).elim
      · exact absurd hl hQ
    · rename_i hw
      rw [if_neg hw] at h
      exact ⟨fun f hf => (by rw [calm_about hco] at hf; cases hf), h⟩
theorem wpAny_in {md : Region.Mode} (hc : ∀ (i : Nat) (o : Oper), ops[i]? = some o → calmOp o.op = true) (hQ : ¬ LetsOut Q) : ∀ (fuel : Nat) (listed : Array Bool) (a : Act) (w : World), wpAny P md ops Q fuel listed a w → wpAnyIn F n P md ops Q fuel listed a w
  | 0, _, _, _, h => h
  | fuel + 1, _, _, _, h => ⟨h.1, fun i hi => wpOp_in (hc i) hQ (wpOp_mono (fun a' w' h' => wpAny_in hc hQ fuel _ a' w' h') (h.2 i hi))⟩
/-- A region that draws its order and makes no call, within whatever fence. -/
theorem wpIn_region_held {id : Nat} {S : World → Prop} (hm : P.follows .mixedOrders = true) (hc : ops.all (fun o => calmOp o.op) = true) (hQ : ¬ LetsOut Q) (hS : S w.drew)
    (h : S w.drew → wpAnyH P .any ops Q S ops.size (Array.replicate ops.size false) a w.drew) : (Code.region id ops true).wpIn F n P Q a w :=
  wpIn_region_any hm (wpAny_in (fun i o ho => by
    rw [Array.all_eq_true_iff_forall_mem] at hc
    exact hc o (Array.mem_of_getElem? ho)) hQ _ _ _ _ (wpAny_of_held _ _ _ _ (h hS)))
end

/-- A pending write at its number, of a disk of n sectors. -/
abbrev At (n : Nat) := { x : Nat × Wr // x.2.at_ < n }
/-- What a loop's body is handed of it. -/
def atEnc (n : Nat) (x : At n) : Array Value := #[.int .i64 x.1.1, .agg x.1.2.cells.toArray]
/-- What the iterator reads: its box, and the block of the writes. -/
def KpB (Bs Pb : Nat) (W W' : World) : Prop := W'.heap[Bs]? = W.heap[Bs]? ∧ W'.heap[Pb]? = W.heap[Pb]?
/-- The writes from the last one on, k of them left out. -/
def fromLast (n : Nat) (l : List (At n)) (k : Nat) : List (At n) := (l.drop k).reverse
theorem fromLast_succ (n : Nat) (l : List (At n)) (k : Nat) (h : k < l.length) : fromLast n l k = fromLast n l (k + 1) ++ [l[k]] := by
  simp only [fromLast]
  rw [List.drop_eq_getElem_cons h, List.reverse_cons]
theorem fromLast_length (n : Nat) (l : List (At n)) (k : Nat) : (fromLast n l k).length = l.length - k := by simp [fromLast]

attribute [local go_sem] Oper.semAt_some

end Go.Proofs.Ytpoakkdkibameaa
namespace Go.Proofs.Ytpoakkdkibameaa
open Go.RowKit Go.Shelf
set_option linter.unusedSimpArgs false
set_option linter.unusedVariables false

section
variable {P : Program} {n l : Nat} {ops : Array Oper} {op : Oper} {a : Act} {w w' : World} {K : Act → World → Prop} {Q : Exit → Act → World → Prop}
/-- An operation that defers nothing. -/
def plainOp : Op → Bool
  | .defer _ => false
  | _ => true
theorem wpOp_round {i : Nat} (hc : ∀ o, ops[i]? = some o → plainOp o.op = true) (hQ : ¬ LetsOut Q) (h : wpOp P ops Q i K a w) : wpOpIn (Fence.wide.inRound l) n P ops Q i K a w := by
  unfold wpOp at h
  unfold wpOpIn
  cases ho : ops[i]? with
  | none => rw [ho] at h; exact h
  | some o =>
    rw [ho] at h
    have hco := hc o ho
    simp only at h ⊢
    split
    · rename_i hw
      rw [if_pos hw] at h
      rcases h with h | ⟨_, hl⟩
      · refine ⟨fun f hf => trivial, ?_⟩
        rw [Oper.semAt_eq _ _ _ (fun c hc' => by rw [hc'] at hco; cases hco)]
        unfold Oper.wp at h
        cases hr : (execOp a.eval o).run P w with
        | ok x w1 =>
          rw [hr] at h
          cases x with
          | value v => exact h
          | skip => exact h
          | defer d => exact h
          | enter f args =>
            refine ⟨fun e => (by cases e), ?_⟩
            exact (callsIn_wide (n := n - 1)).2 h
          | row r args =>
            refine ⟨fun e => (by cases e), fun c cs _ => ?_⟩
            obtain ⟨v, w', hr', hs'⟩ := (h : Rows P r args w1 _) c cs
            exact ⟨v, w', hr', stepsIn_wide.2 hs'⟩
          | _ => exact (h : False).elim
        | halt e w1 =>
          rw [hr] at h
          cases e <;> first | exact h | exact (h : False).elim
      · exact absurd hl hQ
    · rename_i hw
      rw [if_neg hw] at h
      exact ⟨fun f hf => trivial, h⟩
theorem wpAny_round {md : Region.Mode} (hc : ∀ (i : Nat) (o : Oper), ops[i]? = some o → plainOp o.op = true) (hQ : ¬ LetsOut Q) : ∀ (fuel : Nat) (listed : Array Bool) (a : Act) (w : World), wpAny P md ops Q fuel listed a w → wpAnyIn (Fence.wide.inRound l) n P md ops Q fuel listed a w
  | 0, _, _, _, h => h
  | fuel + 1, _, _, _, h => ⟨h.1, fun i hi => wpOp_round (hc i) hQ (wpOp_mono (fun a' w' h' => wpAny_round hc hQ fuel _ a' w' h') (h.2 i hi))⟩
/-- A region that draws its order, within a round. -/
theorem wpIn_region_round {id : Nat} {S : World → Prop} (hm : P.follows .mixedOrders = true) (hc : ops.all (fun o => plainOp o.op) = true) (hQ : ¬ LetsOut Q) (hS : S w.drew)
    (h : S w.drew → wpAnyH P .any ops Q S ops.size (Array.replicate ops.size false) a w.drew) : (Code.region id ops true).wpIn (Fence.wide.inRound l) n P Q a w :=
  wpIn_region_any hm (wpAny_round (fun i o ho => by
    rw [Array.all_eq_true_iff_forall_mem] at hc
    exact hc o (Array.mem_of_getElem? ho)) hQ _ _ _ _ (wpAny_of_held _ _ _ _ (h hS)))
/-- A call of a function, by its contract. -/
theorem wp_call_func {f : Nat} (args : Array Operand) (tys : Array TypeId) (ho : op.op = .call { callee := .value (.func f), args := args, argTypes := tys }) (vs : Array Value) (hvs : args.map a.eval = vs) (he : ∀ args w, (callFunc f args).run P w = .ok (.enter f args) w)
    {R : Ending → World → Prop} (hc : Calls P f vs w R) (hR : ∀ e w', R e w' → ∃ v, e = .returned v ∧ K (a.put op.dst v) w') : op.wp P a w K Q := by
  have hr : (execOp a.eval op).run P w = .ok (.enter f vs) w := by
    simp [execOp, ho, resolve, invoke, go_sem, he, hvs, Result.andThen]
  unfold Oper.wp
  rw [hr, Oper.upon_enter]
  refine hc.mono fun e w' h => ?_
  obtain ⟨v, rfl, hk⟩ := hR e w' h
  exact hk
end
end Go.Proofs.Ytpoakkdkibameaa
namespace Go.Proofs.Ytpoakkdkibameaa
open Go.RowKit Go.Maps
set_option linter.unusedSimpArgs false
set_option linter.unusedVariables false

/-- An element is told as the value itself. -/
def hv : Value → Option (DataW Value × List MemPlace) := fun v => some (.held v, [])
def entL (l : List (Int × Value)) : List (Lit × DataW Value) := l.map fun p => (.int .i64 p.1, .held p.2)
section
variable {α : Type}
def Rise (l : List (Int × α)) : Prop := l.Pairwise fun p q => p.1 < q.1
def getL (l : List (Int × α)) (k : Int) : Option α := (l.find? fun p => p.1 == k).map (·.2)
def delL (l : List (Int × α)) (k : Int) : List (Int × α) := l.filter fun p => !(p.1 == k)
def insL (x : Int × α) : List (Int × α) → List (Int × α)
  | [] => [x]
  | y :: r => if x.1 < y.1 then x :: y :: r else y :: insL x r
def putL (l : List (Int × α)) (k : Int) (v : α) : List (Int × α) := insL (k, v) (delL l k)

end
theorem entL_length (l : List (Int × Value)) : (entL l).length = l.length := by simp [entL]
theorem sameKey_int (a b : Int) : (Lit.int .i64 a).sameKey (.int .i64 b) = (a == b) := by
  by_cases h : a = b <;> simp [Lit.sameKey, h]
theorem entL_find (l : List (Int × Value)) (k : Int) : (entL l).find? (fun p => p.1.sameKey (.int .i64 k)) = (l.find? fun p => p.1 == k).map fun p => (.int .i64 p.1, .held p.2) := by
  induction l with
  | nil => rfl
  | cons x r ih =>
    simp only [entL, List.map_cons, List.find?_cons, sameKey_int]
    cases x.1 == k with
    | true => rfl
    | false => exact ih
theorem entL_at (l : List (Int × Value)) (k : Int) (z : Value) : (DataW.map (entL l)).atKey (.int .i64 k) (.held z) = .held ((getL l k).getD z) := by
  simp only [DataW.atKey, entL_find, getL]
  cases l.find? fun p => p.1 == k <;> rfl
theorem entL_has (l : List (Int × Value)) (k : Int) : Maps.has (DataW.map (entL l)) (.int .i64 k) = (getL l k).isSome := by
  rw [Maps.has_eq]
  induction l with
  | nil => rfl
  | cons x r ih =>
    simp only [entL, List.map_cons, List.any_cons, sameKey_int, getL, List.find?_cons]
    cases x.1 == k with
    | true => rfl
    | false =>
      simp only [getL] at ih
      rw [Bool.false_or]
      exact ih
theorem entL_filter (l : List (Int × Value)) (k : Int) : (entL l).filter (fun p => !p.1.sameKey (.int .i64 k)) = entL (delL l k) := by
  induction l with
  | nil => rfl
  | cons x r ih =>
    simp only [entL, delL, List.map_cons, List.filter_cons, sameKey_int]
    cases x.1 == k with
    | true => simpa [entL, delL] using ih
    | false => simpa [entL, delL] using ih
theorem entL_insert (x : Int × Value) (l : List (Int × Value)) : DataW.insert (.int .i64 x.1, .held x.2) (entL l) = entL (insL x l) := by
  induction l with
  | nil => rfl
  | cons y r ih =>
    simp only [entL, List.map_cons, DataW.insert, insL, Lit.before]
    by_cases h : x.1 < y.1
    · simp [h]
    · have := ih
      simp only [entL] at this
      simp [h, this]
theorem entL_put (l : List (Int × Value)) (k : Int) (v : Value) : (DataW.map (entL l)).put (.int .i64 k) (.held v) = .map (entL (putL l k v)) := by
  simp only [DataW.put, entL_filter, putL]
  rw [← entL_insert (k, v)]
theorem entL_del (l : List (Int × Value)) (k : Int) : (DataW.map (entL l)).del (.int .i64 k) = .map (entL (delL l k)) := by
  simp only [DataW.del, entL_filter]

section
variable {α : Type}
theorem insL_mem (x : Int × α) (l : List (Int × α)) (p : Int × α) : p ∈ insL x l ↔ p = x ∨ p ∈ l := by
  induction l with
  | nil => simp [insL]
  | cons y r ih =>
    simp only [insL]
    split
    · simp
    · simp only [List.mem_cons, ih]
      constructor
      · rintro (h | h | h)
        · exact .inr (.inl h)
        · exact .inl h
        · exact .inr (.inr h)
      · rintro (h | h | h)
        · exact .inr (.inl h)
        · exact .inl h
        · exact .inr (.inr h)
theorem Rise.del {l : List (Int × α)} (h : Rise l) (k : Int) : Rise (delL l k) := List.Pairwise.filter _ h
theorem delL_mem (l : List (Int × α)) (k : Int) (p : Int × α) : p ∈ delL l k ↔ p ∈ l ∧ p.1 ≠ k := by simp [delL]
theorem Rise.ins {x : Int × α} : ∀ {l : List (Int × α)}, Rise l → (∀ p ∈ l, p.1 ≠ x.1) → Rise (insL x l)
  | [], _, _ => List.pairwise_singleton _ _
  | y :: r, h, hn => by
    have hy := List.pairwise_cons.1 h
    simp only [insL]
    split
    · rename_i hlt
      refine List.pairwise_cons.2 ⟨fun p hp => ?_, h⟩
      rcases List.mem_cons.1 hp with rfl | hp
      · exact hlt
      · exact Int.lt_trans hlt (hy.1 p hp)
    · rename_i hlt
      refine List.pairwise_cons.2 ⟨fun p hp => ?_, Rise.ins hy.2 (fun p hp => hn p (List.mem_cons_of_mem _ hp))⟩
      rcases (insL_mem x r p).1 hp with rfl | hp
      · have := hn y (List.mem_cons_self ..)
        omega
      · exact hy.1 p hp
theorem Rise.put {l : List (Int × α)} (h : Rise l) (k : Int) (v : α) : Rise (putL l k v) :=
  (h.del k).ins (fun p hp => ((delL_mem l k p).1 hp).2)
theorem putL_mem (l : List (Int × α)) (k : Int) (v : α) (p : Int × α) : p ∈ putL l k v ↔ p = (k, v) ∨ (p ∈ l ∧ p.1 ≠ k) := by
  simp [putL, insL_mem, delL_mem]
/-- What is told of a key, by the entries. -/
theorem getL_mem {l : List (Int × α)} (h : Rise l) (k : Int) (v : α) : getL l k = some v ↔ (k, v) ∈ l := by
  induction l with
  | nil => simp [getL]
  | cons x r ih =>
    have hx := List.pairwise_cons.1 h
    have ih := ih hx.2
    simp only [getL, List.find?_cons] at ih ⊢
    by_cases e : x.1 = k
    · subst e
      simp only [beq_self_eq_true, Option.map_some, Option.some.injEq, List.mem_cons]
      constructor
      · rintro rfl; exact .inl rfl
      · rintro (e | e)
        · rw [← e]
        · exact absurd (hx.1 _ e) (by simp)
    · have : (x.1 == k) = false := by simpa using e
      simp only [this, List.mem_cons]
      rw [ih]
      constructor
      · exact .inr
      · rintro (e' | e')
        · exact absurd (by rw [← e']) e
        · exact e'
theorem getL_none {l : List (Int × α)} (k : Int) : getL l k = none ↔ ∀ p ∈ l, p.1 ≠ k := by
  simp [getL, List.find?_eq_none]
theorem getL_put_same {l : List (Int × α)} (h : Rise l) (k : Int) (v : α) : getL (putL l k v) k = some v :=
  (getL_mem (h.put k v) k v).2 ((putL_mem _ _ _ _).2 (.inl rfl))
theorem getL_put_other {l : List (Int × α)} (h : Rise l) {k k' : Int} (hk : k' ≠ k) (v : α) : getL (putL l k v) k' = getL l k' := by
  cases e : getL l k' with
  | none =>
    rw [getL_none] at e ⊢
    intro p hp
    rcases (putL_mem _ _ _ _).1 hp with rfl | hp
    · exact fun e' => hk e'.symm
    · exact e p hp.1
  | some u => rw [getL_mem (h.put k v), putL_mem]; exact .inr ⟨(getL_mem h _ _).1 e, hk⟩
theorem getL_del_same (l : List (Int × α)) (k : Int) : getL (delL l k) k = none := by
  rw [getL_none]
  exact fun p hp => ((delL_mem _ _ _).1 hp).2
theorem getL_del_other {l : List (Int × α)} (h : Rise l) {k k' : Int} (hk : k' ≠ k) : getL (delL l k) k' = getL l k' := by
  cases e : getL l k' with
  | none =>
    rw [getL_none] at e ⊢
    exact fun p hp => e p ((delL_mem _ _ _).1 hp).1
  | some u => rw [getL_mem (h.del k), delL_mem]; exact ⟨(getL_mem h _ _).1 e, hk⟩

/-- Two lists that rise and tell the same are one. -/
theorem Rise.ext : ∀ {l m : List (Int × α)}, Rise l → Rise m → (∀ k, getL l k = getL m k) → l = m := by
  intro l m hl hm h
  have hmem : ∀ p, p ∈ l ↔ p ∈ m := fun p => by rw [← getL_mem hl p.1 p.2, h, getL_mem hm p.1 p.2]
  induction l generalizing m with
  | nil =>
    cases m with
    | nil => rfl
    | cons y r => exact absurd ((hmem y).2 (List.mem_cons_self ..)) (by simp)
  | cons x r ih =>
    cases m with
    | nil => exact absurd ((hmem x).1 (List.mem_cons_self ..)) (by simp)
    | cons y s =>
      have hx := List.pairwise_cons.1 hl
      have hy := List.pairwise_cons.1 hm
      have e : x = y := by
        rcases List.mem_cons.1 ((hmem x).1 (List.mem_cons_self ..)) with e | e
        · exact e
        rcases List.mem_cons.1 ((hmem y).2 (List.mem_cons_self ..)) with e' | e'
        · exact e'.symm
        have h1 := hx.1 y e'
        have h2 := hy.1 x e
        omega
      subst e
      have hm' : ∀ p, p ∈ r ↔ p ∈ s := fun p => by
        constructor
        · intro hp
          rcases List.mem_cons.1 ((hmem p).1 (List.mem_cons_of_mem _ hp)) with rfl | h'
          · exact absurd (hx.1 p hp) (by omega)
          · exact h'
        · intro hp
          rcases List.mem_cons.1 ((hmem p).2 (List.mem_cons_of_mem _ hp)) with rfl | h'
          · exact absurd (hy.1 p hp) (by omega)
          · exact h'
      rw [ih hx.2 hy.2 (fun k => by
        cases e : getL s k with
        | none =>
          rw [getL_none] at e ⊢
          exact fun p hp => e p ((hm' p).1 hp)
        | some u => rw [getL_mem hx.2, hm', ← getL_mem hy.2]; exact e) hm']

theorem delL_id {l : List (Int × α)} {k : Int} (h : getL l k = none) : delL l k = l := by
  rw [getL_none] at h
  exact List.filter_eq_self.2 fun p hp => by simpa using h p hp

theorem insL_map {β : Type} (g : Int × α → β) (x : Int × α) (l : List (Int × α)) : insL (x.1, g x) (l.map fun p => (p.1, g p)) = (insL x l).map fun p => (p.1, g p) := by
  induction l with
  | nil => rfl
  | cons y r ih =>
    simp only [List.map_cons, insL]
    split
    · simp
    · rw [ih]; simp
theorem delL_map {β : Type} (g : Int × α → β) (k : Int) (l : List (Int × α)) : delL (l.map fun p => (p.1, g p)) k = (delL l k).map fun p => (p.1, g p) := by
  simp only [delL, List.filter_map]
  rfl
theorem getL_map {β : Type} (g : Int × α → β) (k : Int) (l : List (Int × α)) : getL (l.map fun p => (p.1, g p)) k = (l.find? fun p => p.1 == k).map g := by
  induction l with
  | nil => rfl
  | cons y r ih =>
    simp only [getL, List.map_cons, List.find?_cons] at ih ⊢
    cases y.1 == k with
    | true => rfl
    | false => exact ih
theorem find_key {l : List (Int × α)} {k : Int} {p : Int × α} (h : (l.find? fun p => p.1 == k) = some p) : p ∈ l ∧ p.1 = k :=
  ⟨List.mem_of_find?_eq_some h, by simpa using List.find?_some h⟩
theorem putL_map {β : Type} (g g' : Int × α → β) (x : Int × α) (l : List (Int × α)) (h : ∀ p, p.1 ≠ x.1 → g' p = g p) : putL (l.map fun p => (p.1, g p)) x.1 (g' x) = (putL l x.1 x.2).map fun p => (p.1, g' p) := by
  unfold putL
  rw [delL_map]
  have e : (delL l x.1).map (fun p => (p.1, g p)) = (delL l x.1).map fun p => (p.1, g' p) := by
    apply List.map_congr_left
    intro p hp
    rw [h p ((delL_mem _ _ _).1 hp).2]
  rw [e, insL_map g' x]
theorem Rise.map {β : Type} (g : Int × α → β) {l : List (Int × α)} : Rise (l.map fun p => (p.1, g p)) ↔ Rise l := by
  unfold Rise
  rw [List.pairwise_map]
/-- As many entries as there are keys, at most. -/
theorem Rise.len : ∀ {l : List (Int × α)} {a b : Int}, Rise l → (∀ p ∈ l, a ≤ p.1 ∧ p.1 < b) → (l.length : Int) ≤ if a ≤ b then b - a else 0
  | [], a, b, _, _ => by split <;> simp <;> omega
  | x :: r, a, b, h, hb => by
    have hx := List.pairwise_cons.1 h
    have h1 := hb x (List.mem_cons_self ..)
    have := Rise.len (a := x.1 + 1) (b := b) hx.2 (fun p hp => ⟨by have := hx.1 p hp; omega, (hb p (List.mem_cons_of_mem _ hp)).2⟩)
    simp only [List.length_cons]
    split at this <;> split <;> omega
end
/-- Block b is a map whose entries are l. -/
structure MapAt (w : World) (b : Nat) (l : List (Int × Value)) : Prop where
  own : w.ownsMap Try.prog 3 hv b l.length (.map (entL l))
  rise : Rise l

theorem MapAt.lt {w : World} {b : Nat} {l : List (Int × Value)} (h : MapAt w b l) : b < w.heap.size := h.own.lt
theorem MapAt.frame {w w' : World} {b : Nat} {l : List (Int × Value)} {bs : Nat → Prop} (h : MapAt w b l) (ho : Only bs w w') (hn : ¬ bs b) : MapAt w' b l := by
  refine ⟨?_, h.rise⟩
  have hlt := h.lt
  obtain ⟨es, clock, hb, F, hs, hD⟩ := h.own
  exact ⟨es, clock, (ho.block b hlt hn).trans hb, F, hs, hD⟩
theorem MapAt.shrink {w : World} {b n : Nat} {l : List (Int × Value)} (h : w.ownsMap Try.prog 3 hv b n (.map (entL l))) (hr : Rise l) : MapAt w b l := by
  refine ⟨?_, hr⟩
  obtain ⟨es, clock, hb, F, hs, hD⟩ := h
  refine ⟨es, clock, hb, F, ?_, hD⟩
  have := congrArg (fun D : DataW Value => match D with | .map es => es.length | _ => 0) hD
  simp only [entL_length, length_sorted, List.length_map, Array.length_toList] at this
  omega
theorem MapAt.made (w : World) : MapAt (w.alloc (.map #[] 0)) w.heap.size [] := ⟨World.ownsMap_made w _ _ _, List.Pairwise.nil⟩
theorem map_keyed : Keyed Try.prog 3 := int_keyed Try.underlying3
def pg0 : Value := .agg #[.int .i64 0, .slice none 0 0]
theorem zero_pg (w : World) : (zeroValue 77).run Try.prog w = .ok pg0 w := by kernel_rfl
theorem wf64 {k : Int} (h : -9223372036854775808 ≤ k ∧ k ≤ 9223372036854775807) : (Lit.int .i64 k).wf = true := WalkArith.wf_i64 h
/-- v, ok := m[k] -/
theorem MapAt.look {w : World} {b : Nat} {l : List (Int × Value)} (h : MapAt w b l) (k : Int) (hk : -9223372036854775808 ≤ k ∧ k ≤ 9223372036854775807) :
    (Instr.lookup 59 (.map (some b)) (.int .i64 k) true).run Try.prog w = .ok (.tuple #[(getL l k).getD pg0, .bool (getL l k).isSome]) w := by
  obtain ⟨v, ps, hr, hR⟩ := h.own.look_ok map_keyed Try.underlying59 (zero_pg w) (zd := .held pg0) (zp := []) rfl (keyOf_int_mk Try.underlying3 (wf64 hk))
  rw [entL_at] at hR
  rw [entL_has] at hr
  simp only [hv, Option.some.injEq, Prod.mk.injEq, DataW.held.injEq] at hR
  rw [hr, hR.1]
/-- v := m[k] -/
theorem MapAt.look1 {w : World} {b : Nat} {l : List (Int × Value)} (h : MapAt w b l) (k : Int) (hk : -9223372036854775808 ≤ k ∧ k ≤ 9223372036854775807) :
    (Instr.lookup 59 (.map (some b)) (.int .i64 k) false).run Try.prog w = .ok ((getL l k).getD pg0) w := by
  obtain ⟨v, ps, hr, hR⟩ := h.own.lookup map_keyed Try.underlying59 (zero_pg w) (zd := .held pg0) (zp := []) rfl (keyOf_int_mk Try.underlying3 (wf64 hk))
  rw [entL_at] at hR
  simp only [hv, Option.some.injEq, Prod.mk.injEq, DataW.held.injEq] at hR
  rw [hr, hR.1]
theorem turned_only {w w' : World} {b : Nat} (h : w.mapTurned w' b) : Only (fun i => i = b) w w' ∧ w'.heap.size = w.heap.size := by
  have hg := h.grown
  refine ⟨⟨hg.os, hg.tape, hg.output, hg.size, fun k hk hn => hg.block k hk (fun e => hn (by injection e))⟩, ?_⟩
  obtain ⟨es, clock, es', clock', hb, rfl⟩ := h
  simp [ChangeMaps.setBlock]
/-- m[k] = v -/
theorem MapAt.store {w : World} {b : Nat} {l : List (Int × Value)} (h : MapAt w b l) (k : Int) (hk : -9223372036854775808 ≤ k ∧ k ≤ 9223372036854775807) (hl : l.length < maxLen) (v : Value) :
    ∃ w', (Instr.mapUpdate 59 (.map (some b)) (.int .i64 k) v).run Try.prog w = .ok () w' ∧ MapAt w' b (putL l k v) ∧ Only (fun i => i = b) w w' ∧ w'.heap.size = w.heap.size := by
  obtain ⟨w', hr, ho, ht⟩ := h.own.store map_keyed Try.underlying59 hl (keyOf_int_mk Try.underlying3 (wf64 hk)) (val := v) (d := .held v) (ps := []) rfl
  rw [entL_put] at ho
  exact ⟨w', hr, MapAt.shrink ho (h.rise.put k v), turned_only ht⟩
/-- delete(m, k) -/
theorem MapAt.drop {w : World} {b : Nat} {l : List (Int × Value)} (h : MapAt w b l) (k : Int) (hk : -9223372036854775808 ≤ k ∧ k ≤ 9223372036854775807) (ty : TypeId) :
    ∃ w', (Builtin.delete_ #[59, 3] ty #[.map (some b), .int .i64 k]).run Try.prog w = .ok (.tuple #[]) w' ∧ MapAt w' b (delL l k) ∧ Only (fun i => i = b) w w' ∧ w'.heap.size = w.heap.size := by
  obtain ⟨w', hr, ho, ht⟩ := h.own.drop map_keyed Try.underlying59 (keyOf_int_mk Try.underlying3 (wf64 hk)) ty
  rw [entL_del] at ho
  exact ⟨w', hr, MapAt.shrink ho (h.rise.del k), turned_only ht⟩
end Go.Proofs.Ytpoakkdkibameaa
namespace Go.Proofs.Ytpoakkdkibameaa

/-- One step of the register. -/
def st (r : Nat) : Nat := if r % 2 = 1 then (r / 2) ^^^ 3988292384 else r / 2
/-- k steps. -/
def it : Nat → Nat → Nat
  | 0, r => r
  | k + 1, r => st (it k r)
/-- One byte. -/
def eat (r c : Nat) : Nat := it 8 (r ^^^ c)
/-- The register behind the bytes. -/
def reg (l : List Nat) : Nat := l.foldl eat 4294967295
def sumN (l : List Nat) : Nat := reg l ^^^ 4294967295

theorem st_lt {r : Nat} (h : r < 4294967296) : st r < 4294967296 := by
  unfold st
  split
  · exact Nat.xor_lt_two_pow (n := 32) (by omega) (by omega)
  · omega
theorem it_lt {r : Nat} (h : r < 4294967296) : ∀ k, it k r < 4294967296
  | 0 => h
  | k + 1 => st_lt (it_lt h k)
theorem eat_lt {r c : Nat} (h : r < 4294967296) (hc : c < 256) : eat r c < 4294967296 := it_lt (Nat.xor_lt_two_pow (n := 32) (by omega) (by omega)) 8
theorem fold_lt : ∀ (l : List Nat) (r : Nat), r < 4294967296 → (∀ z ∈ l, z < 256) → l.foldl eat r < 4294967296
  | [], _, h, _ => h
  | c :: l, _, h, hl => fold_lt l _ (eat_lt h (hl c List.mem_cons_self)) (fun z hz => hl z (List.mem_cons_of_mem _ hz))
theorem reg_lt (l : List Nat) (hl : ∀ z ∈ l, z < 256) : reg l < 4294967296 := fold_lt l _ (by omega) hl
theorem sumN_lt (l : List Nat) (hl : ∀ z ∈ l, z < 256) : sumN l < 4294967296 := Nat.xor_lt_two_pow (n := 32) (reg_lt l hl) (by omega)

theorem xor_half (a b : Nat) : (a ^^^ b) / 2 = a / 2 ^^^ b / 2 := by
  have := Nat.shiftRight_xor_distrib (a := a) (b := b) (i := 1)
  simpa [Nat.shiftRight_eq_div_pow] using this
theorem xor_par (a b : Nat) : (a ^^^ b) % 2 = (a + b) % 2 := by
  have h := Nat.xor_mod_two_pow (a := a) (b := b) (n := 1)
  rw [Nat.pow_one] at h
  have k : ∀ x, x < 2 → ∀ y, y < 2 → x ^^^ y = (x + y) % 2 := by decide
  rw [h, k _ (by omega) _ (by omega)]
  omega
theorem xor_eq {a b : Nat} (h : a ^^^ b = 0) : a = b := by
  have : a ^^^ b ^^^ b = a := by rw [Nat.xor_assoc, Nat.xor_self, Nat.xor_zero]
  rw [← this, h, Nat.zero_xor]
theorem st_xor (a b : Nat) : st (a ^^^ b) = st a ^^^ st b := by
  have hp := xor_par a b
  have hx : ∀ x y z : Nat, x ^^^ y ^^^ (z ^^^ y) = x ^^^ z := fun x y z => by
    rw [Nat.xor_comm z y, ← Nat.xor_assoc, Nat.xor_assoc x y y, Nat.xor_self, Nat.xor_zero]
  unfold st
  rw [xor_half]
  by_cases h1 : a % 2 = 1 <;> by_cases h2 : b % 2 = 1
  · rw [if_neg (by omega), if_pos h1, if_pos h2, hx]
  · rw [if_pos (by omega), if_pos h1, if_neg h2, Nat.xor_assoc, Nat.xor_assoc, Nat.xor_comm (b / 2)]
  · rw [if_pos (by omega), if_neg h1, if_pos h2, Nat.xor_assoc]
  · rw [if_neg (by omega), if_neg h1, if_neg h2]
theorem it_xor (a b : Nat) : ∀ k, it k (a ^^^ b) = it k a ^^^ it k b
  | 0 => rfl
  | k + 1 => by simp only [it]; rw [it_xor a b k, st_xor]
theorem st_zero : st 0 = 0 := by decide
theorem it_zero : ∀ k, it k 0 = 0
  | 0 => rfl
  | k + 1 => by simp only [it]; rw [it_zero k, st_zero]
theorem st_ker {r : Nat} (h : r < 4294967296) (h0 : st r = 0) : r = 0 := by
  unfold st at h0
  split at h0
  · have := xor_eq h0
    omega
  · omega
theorem it_ker {r : Nat} (h : r < 4294967296) : ∀ k, it k r = 0 → r = 0
  | 0, h0 => h0
  | k + 1, h0 => it_ker h k (st_ker (it_lt h k) h0)
theorem it_add (j r : Nat) : ∀ k, it (j + k) r = it k (it j r)
  | 0 => rfl
  | k + 1 => by show st (it (j + k) r) = st (it k (it j r)); rw [it_add j r k]
theorem it_pow (d : Nat) : ∀ k, it k (d * 2 ^ k) = d
  | 0 => by simp [it]
  | k + 1 => by
    rw [show k + 1 = 1 + k by omega, it_add]
    have : it 1 (d * 2 ^ (1 + k)) = d * 2 ^ k := by
      have e : d * 2 ^ (1 + k) = 2 * (d * 2 ^ k) := by rw [Nat.pow_add]; simp [Nat.mul_left_comm]
      show st (d * 2 ^ (1 + k)) = _
      rw [e]
      unfold st
      rw [if_neg (by omega)]
      omega
    rw [this, it_pow d k]

/-- Four registers whose xor is 0 stay so. -/
theorem eat4 {a b c d w x y z : Nat} (hr : a ^^^ b ^^^ c ^^^ d = 0) (hc : w ^^^ x ^^^ y ^^^ z = 0) : eat a w ^^^ eat b x ^^^ eat c y ^^^ eat d z = 0 := by
  unfold eat
  rw [← it_xor, ← it_xor, ← it_xor]
  have : a ^^^ w ^^^ (b ^^^ x) ^^^ (c ^^^ y) ^^^ (d ^^^ z) = (a ^^^ b ^^^ c ^^^ d) ^^^ (w ^^^ x ^^^ y ^^^ z) := by ac_rfl
  rw [this, hr, hc]
  exact it_zero 8
theorem sum_xor4 (f g h : Nat → Nat) : ∀ n, reg ((List.range n).map f) ^^^ reg ((List.range n).map g) ^^^ reg ((List.range n).map h) ^^^ reg ((List.range n).map fun i => f i ^^^ g i ^^^ h i) = 0
  | 0 => by simp [reg]
  | n + 1 => by
    unfold reg
    simp only [List.range_succ, List.map_append, List.map_cons, List.map_nil, List.foldl_append, List.foldl_cons, List.foldl_nil]
    exact eat4 (sum_xor4 f g h n) (by rw [Nat.xor_self])
theorem sumN_xor4 (f g h : Nat → Nat) (n : Nat) : sumN ((List.range n).map f) ^^^ sumN ((List.range n).map g) ^^^ sumN ((List.range n).map h) ^^^ sumN ((List.range n).map fun i => f i ^^^ g i ^^^ h i) = 0 := by
  have := sum_xor4 f g h n
  unfold sumN
  have e : ∀ a b c d o : Nat, a ^^^ o ^^^ (b ^^^ o) ^^^ (c ^^^ o) ^^^ (d ^^^ o) = (a ^^^ b ^^^ c ^^^ d) ^^^ ((o ^^^ o) ^^^ (o ^^^ o)) := fun a b c d o => by ac_rfl
  rw [e, this]
  simp
end Go.Proofs.Ytpoakkdkibameaa
namespace Go.Proofs.Ytpoakkdkibameaa
open Go.RowKit
set_option linter.unusedSimpArgs false
set_option linter.unusedVariables false

theorem bx32 (a b : Nat) (ha : a < 4294967296) (hb : b < 4294967296) : bits .xor .u32 (a : Int) (b : Int) = ((a ^^^ b : Nat) : Int) := by
  have hx : a ^^^ b < 4294967296 := Nat.xor_lt_two_pow (n := 32) ha hb
  have e1 : a % 2 ^ IntKind.u32.bits = a := Nat.mod_eq_of_lt ha
  have e2 : b % 2 ^ IntKind.u32.bits = b := Nat.mod_eq_of_lt hb
  simp only [bits, BitVec.ofInt_natCast, BitVec.toNat_xor, BitVec.toNat_ofNat, e1, e2]
  rw [IntKind.wrap_u32]
  omega
theorem bx8 (a b : Nat) (ha : a < 256) (hb : b < 256) : bits .xor .u8 (a : Int) (b : Int) = ((a ^^^ b : Nat) : Int) := by
  have hx : a ^^^ b < 256 := Nat.xor_lt_two_pow (n := 8) ha hb
  have e1 : a % 2 ^ IntKind.u8.bits = a := Nat.mod_eq_of_lt ha
  have e2 : b % 2 ^ IntKind.u8.bits = b := Nat.mod_eq_of_lt hb
  simp only [bits, BitVec.ofInt_natCast, BitVec.toNat_xor, BitVec.toNat_ofNat, e1, e2]
  rw [IntKind.wrap_u8]
  omega
theorem ba32 (a : Nat) (ha : a < 4294967296) : bits .and .u32 (a : Int) 1 = ((a % 2 : Nat) : Int) := by
  have e1 : a % 2 ^ IntKind.u32.bits = a := Nat.mod_eq_of_lt ha
  have e2 : (1 : Int) = ((1 : Nat) : Int) := rfl
  have e3 : 1 % 2 ^ IntKind.u32.bits = 1 := rfl
  rw [e2]
  simp only [bits, BitVec.ofInt_natCast, BitVec.toNat_and, BitVec.toNat_ofNat, e1, e3]
  rw [IntKind.wrap_u32, Nat.and_one_is_mod]
  omega

set_option maxHeartbeats 400000 in
theorem shift_any (r : Nat) (w : World) (h : r < 4294967296) :
    Calls Try.prog 90 #[.int .u32 r] w fun e w' => e = .returned (.int .u32 (it 8 r : Nat)) ∧ w' = w := by
  go_enter Try.func90, Try.ntmps90
  go_wp2
  go_loopw [0, 4] (fun a t wr => ∃ k : Nat, k ≤ 8 ∧ t = .int .i64 k ∧ a = .int .u32 (it k r : Nat) ∧ w = wr) (fun _ t _ => 8 - (intOf t).toNat)
  case atStart => exact ⟨0, by omega, rfl, rfl, rfl⟩
  case round =>
    obtain ⟨k, hk, rfl, rfl, rfl⟩ := hrel
    by_cases hlt : k < 8
    · have k0 : (k : Int) < 8 := by omega
      have HX : Hid (it (k + 1) r = st (it k r)) := rfl
      have hx := it_lt h k
      obtain ⟨x, hxx⟩ : ∃ x, x = it k r := ⟨_, rfl⟩
      rw [← hxx] at hx
      have HXX : Hid (x = it k r) := hxx
      rw [← hxx]
      clear hxx
      have hb := ba32 x hx
      by_cases h1 : x % 2 = 1
      · rw [h1] at hb
        have hs : bits .xor .u32 ((x : Int) / 2) 3988292384 = ((st x : Nat) : Int) := by
          have := bx32 (x / 2) 3988292384 (by omega) (by omega)
          simp only [st, h1, if_true]
          rw [← this]; rfl
        have H1 : Hid (x % 2 = 1) := h1
        clear h1
        go_wp2
        go_roundw
        case rel => exact ⟨k + 1, by omega, by go_num, by rw [HX.out, ← HXX.out], trivial⟩
        case measure => simp [intOf]; omega
      · have h2 : x % 2 = 0 := by omega
        rw [h2] at hb
        have hs : (x : Int) / 2 = ((st x : Nat) : Int) := by
          simp only [st, h2]; rfl
        have H1 : Hid (x % 2 = 0) := h2
        clear h1 h2
        go_wp2
        go_roundw
        case rel => exact ⟨k + 1, by omega, by go_num, by rw [HX.out, ← HXX.out], trivial⟩
        case measure => simp [intOf]; omega
    · obtain rfl : k = 8 := by omega
      go_wp2
      go_ret
      exact ⟨rfl, rfl⟩
end Go.Proofs.Ytpoakkdkibameaa
namespace Go.Proofs.Ytpoakkdkibameaa
open Go.RowKit Go.ChangeShapes Go.WideShapes
set_option linter.unusedVariables false

/-- A slice of k elements of size cells each, whose cells are f's. -/
def RowAt (W : World) (v : Value) (k size : Nat) (f : Nat → Value) : Prop :=
  (v = .slice none 0 0 ∧ k = 0) ∨ ∃ ad c, v = .slice (some ad) k c ∧ k ≤ c ∧ ∀ j, j < k * size → W.cell? (ad.add j) = some (f j)
theorem RowAt.frame {W W' : World} {v : Value} {k size : Nat} {f : Nat → Value} {bs : Nat → Prop} (h : RowAt W v k size f) (ho : Only bs W W') (hn : ∀ b, bs b → W.heap.size ≤ b) : RowAt W' v k size f := by
  rcases h with h | ⟨ad, c, hv, hkc, hc⟩
  · exact .inl h
  · exact .inr ⟨ad, c, hv, hkc, fun j hj => ho.cell (hc j hj) (fun e => by have := hn _ e; have := World.block_lt_of_cell? W _ (hc j hj); omega)⟩
theorem RowAt.at {W : World} {v : Value} {k size : Nat} {f : Nat → Value} (h : RowAt W v k size f) (hk : 0 < k * size) : ∃ g o c, v = .slice (some ⟨g, o, none⟩) k c ∧ (∀ j, j < k * size → W.cell? ⟨g, o + j, none⟩ = some (f j)) ∧ g < W.heap.size := by
  rcases h with ⟨_, h0⟩ | ⟨ad, c, hv, hkc, hc⟩
  · subst h0; simp at hk
  · have h0 := hc 0 hk
    have e0 : ad.add 0 = ad := by simp [Addr.add]
    rw [e0] at h0
    obtain ⟨g, o, spot⟩ := ad
    have hs : spot = none := World.cell?_spot h0
    subst hs
    exact ⟨g, o, c, hv, fun j hj => by rw [← Addr.add_mid]; exact hc j hj, World.block_lt_of_cell? W _ h0⟩


/-- Bytes as cells. -/
def BL (zs : List Nat) : List Value := zs.map fun z => .int .u8 (z : Nat)
theorem BL_length (zs : List Nat) : (BL zs).length = zs.length := by simp [BL]
theorem BL_get (zs : List Nat) (j : Nat) (h : j < zs.length) : (BL zs)[j]? = some (.int .u8 (zs[j] : Nat)) := by simp [BL, h]
theorem BL_getD (zs : List Nat) : BL zs = (List.range zs.length).map fun j => .int .u8 (zs.getD j 0 : Nat) := by
  apply List.ext_getElem
  · simp [BL]
  · intro i h1 h2
    simp [BL] at h1
    simp [BL, List.getD, h1]
theorem BL_append (a b : List Nat) : BL (a ++ b) = BL a ++ BL b := by simp [BL]
theorem BL_one (zs : List Nat) : ∀ v ∈ BL zs, v.oneCell' = true := by
  intro v hv
  simp only [BL, List.mem_map] at hv
  obtain ⟨j, _, rfl⟩ := hv
  rfl
/-- The slice v holds the bytes zs. -/
def BytesAt (W : World) (v : Value) (zs : List Nat) : Prop := RowAt W v zs.length 1 (fun j => .int .u8 (zs.getD j 0 : Nat)) ∧ zs.length ≤ 140737488355328 ∧ ∀ z ∈ zs, z < 256
theorem BytesAt.frame {W W' : World} {v : Value} {zs : List Nat} (h : BytesAt W v zs) (ho : Only (fun _ => False) W W') : BytesAt W' v zs := ⟨h.1.frame ho (fun _ e => e.elim), h.2⟩
theorem BytesAt.form {W : World} {v : Value} {zs : List Nat} (h : BytesAt W v zs) : ∃ a c, v = .slice a zs.length c ∧ zs.length ≤ c ∧ ∀ j, j < zs.length → ∃ g o, a = some ⟨g, o, none⟩ ∧ W.cell? ⟨g, o + j, none⟩ = some (.int .u8 (zs.getD j 0 : Nat)) := by
  rcases h.1 with ⟨rfl, h0⟩ | ⟨ad, c, rfl, hkc, hc⟩
  · exact ⟨none, 0, by rw [h0], by omega, fun j hj => by omega⟩
  · refine ⟨some ad, c, rfl, hkc, fun j hj => ?_⟩
    obtain ⟨g, o, c', hv, hc', _⟩ := h.1.at (by omega)
    simp only [Value.slice.injEq, Option.some.injEq] at hv
    obtain ⟨rfl, _, rfl⟩ := hv
    exact ⟨g, o, rfl, hc' j (by omega)⟩

section
variable {H : Type} {enc : TypeId × Value → H} {w : World} {base fuel : Nat} {held : Bool}
theorem cells5 : Try.prog.cellsOf 5 = 1 := by kernel_rfl
theorem bytes5 : Try.prog.bytesOf 5 = 1 := by kernel_rfl
theorem u8_bounds {z : Int} (h : (Lit.int .u8 z).wf = true) : 0 ≤ z ∧ z ≤ 255 := by
  have h' : IntKind.u8.min ≤ z ∧ z ≤ IntKind.u8.max := by simpa [Lit.wf] using h
  exact h'
/-- Bytes that come in: not as many as 2^47. -/
def InAt (W : World) (v : Value) (zs : List Nat) : Prop := BytesAt W v zs ∧ zs.length ≤ 140737488351232
theorem read_bytes {v : Value} {x : DataW H × List MemPlace} (h : DataW.trod enc Try.prog w base (fun _ => true) held fuel 28 [v] = some x) (hw : ∀ n ∈ x.1.weights Try.prog 28, n ≤ reachBytes) : ∃ zs, InAt w v zs := by
  rcases open_ints Try.underlying28 Try.underlying5 cells5 h with ⟨hcs, _⟩ | ⟨a, len, cap, zs, hcs, _, hl, hm, hz, hx, hcell, hwz⟩
  · simp at hcs
    exact ⟨[], ⟨.inl ⟨hcs, rfl⟩, Nat.zero_le _, fun _ h => by cases h⟩, Nat.zero_le _⟩
  · simp at hcs
    rw [if_pos rfl] at hz
    have hb := hw _ (by rw [hx]; simp only [DataW.weights, Try.underlying28]; exact List.mem_cons_self ..)
    rw [bytes5] at hb
    simp only [lits, List.length_map, List.length_take, List.length_drop, reachBytes] at hb
    have hlen : ((zs.take len).map Int.toNat).length = len := by rw [List.length_map, List.length_take]; omega
    refine ⟨(zs.take len).map Int.toNat, ⟨.inr ⟨a, cap, by rw [hlen]; exact hcs, by rw [hlen]; exact hl, fun j hj => ?_⟩, by rw [hlen]; omega, fun z hz' => ?_⟩, by rw [hlen]; omega⟩
    · rw [hlen] at hj
      rw [hcell j (by omega)]
      have hj2 : j < zs.length := by omega
      have : ((zs.take len).map Int.toNat).getD j 0 = (zs.getD j 0).toNat := by
        simp only [List.getD]
        rw [List.getElem?_map, List.getElem?_take_of_lt (by omega), List.getElem?_eq_getElem hj2]
        rfl
      have hz0 := u8_bounds (hwz (zs[j]) (List.getElem_mem hj2))
      show some (Value.int IntKind.u8 (zs.getD j 0)) = some (Value.int IntKind.u8 ((((zs.take len).map Int.toNat).getD j 0 : Nat) : Int))
      rw [this]
      simp only [List.getD, List.getElem?_eq_getElem hj2, Option.getD_some]
      rw [Int.toNat_of_nonneg hz0.1]
    · obtain ⟨y, hy, rfl⟩ := List.mem_map.1 hz'
      have := u8_bounds (hwz y (List.mem_of_mem_take hy))
      omega
end

theorem info_parts {t : TypeId} {z : Value} {s b : Nat} (h : (Try.prog.info? t).map (fun i => (i.zero, i.size, i.bytes)) = some (some z, s, b)) : ∃ i, Try.prog.info? t = some i ∧ i.zero = some z ∧ i.size = s ∧ i.bytes = b := by
  cases hi : Try.prog.info? t with
  | none => rw [hi] at h; simp at h
  | some i => rw [hi] at h; simp at h; exact ⟨i, rfl, h.1, h.2.1, h.2.2⟩
theorem info5 : (Try.prog.info? 5).map (fun i => (i.zero, i.size, i.bytes)) = some (some (.int .u8 0), 1, 1) := by kernel_rfl
theorem info23 : (Try.prog.info? 28).map (fun i => (i.zero, i.size, i.bytes)) = some (some (.slice none 0 0), 1, 24) := by kernel_rfl
theorem empty23 (w : World) : (Instr.buildSlice 28 0 #[]).run Try.prog w = .ok (.slice (some ⟨w.heap.size, 0, none⟩) 0 0) (w.alloc (.cells #[] 5)) := by kernel_rfl
section
variable {P : Program} {op : Oper} {a : Act} {w w' : World} {K : Act → World → Prop} {Q : Exit → Act → World → Prop}
theorem wp_append_run (s x : Operand) (t : TypeId) (ho : op.op = .call { callee := .builtin .append, args := #[s, x], argTypes := #[t, t] }) (v1 v2 v' : Value) (hs : a.eval s = v1) (hx : a.eval x = v2)
    (hr : (Builtin.append_ #[t, t] op.type #[v1, v2]).run P w = .ok v' w') (h : K (a.put op.dst v') w') : op.wp P a w K Q := by
  unfold Oper.wp
  simp [execOp, ho, resolve, invoke, builtin, hs, hx, hr, Result.andThen]
  exact h
theorem step_append_run {ops : Array Oper} {E : Prop} (hgd : op.guard = none) (s x : Operand) (t : TypeId) (ho : op.op = .call { callee := .builtin .append, args := #[s, x], argTypes := #[t, t] }) (v1 v2 v' : Value) (hs : a.eval s = v1) (hx : a.eval x = v2)
    (hr : ∀ ty, (Builtin.append_ #[t, t] ty #[v1, v2]).run P w = .ok v' w') (h : K (a.put op.dst v') w') : if Region.wanted op (yielded ops a.tmps) = true then Oper.wp P op a w K Q else E := by
  have hw : Region.wanted op (yielded ops a.tmps) = true := by simp [Region.wanted, hgd]
  rw [if_pos hw]
  exact wp_append_run s x t ho v1 v2 v' hs hx (hr _) h
theorem wpList_append_run {ops : Array Oper} {rest : List Oper} (hgd : op.guard = none) (s x : Operand) (t : TypeId) (ho : op.op = .call { callee := .builtin .append, args := #[s, x], argTypes := #[t, t] }) (v1 v2 v' : Value) (hs : a.eval s = v1) (hx : a.eval x = v2)
    (hr : ∀ ty, (Builtin.append_ #[t, t] ty #[v1, v2]).run P w = .ok v' w') (h : wpList P ops Q rest (a.put op.dst v') w') : wpList P ops Q (op :: rest) a w :=
  wpList_plain hgd fun _ hK => wp_append_run s x t ho v1 v2 v' hs hx (hr _) (hK _ _ h)
end

/-- append(T{}, v...): a copy in new memory, of one-cell elements. -/
theorem app_copy (t e : TypeId) (i : TypeInfo) (z : Value) (bytes : Nat) (ht : Try.prog.underlying t = some (.slice e)) (hi : Try.prog.info? e = some i) (hz : i.zero = some z) (hsize : i.size = 1) (hby : i.bytes = bytes) (hzs : z.cells.size = 1) (hb1 : bytes = 1)
    (w : World) (v : Value) (m : Nat) (f : Nat → Value) (hv : RowAt w v m 1 f) (ho : ∀ j, (f j).oneCell' = true) (hm : m ≤ 140737488355328) :
    ∃ a cap w', (∀ ty, (Builtin.append_ #[t, t] ty #[.slice (some ⟨w.heap.size, 0, none⟩) 0 0, v]).run Try.prog (w.alloc (.cells #[] e)) = .ok (.slice a m cap) w') ∧ w'.ownsRow w.heap.size e 1 (.slice a m cap) m ((List.range m).map f) ∧ Only (fun _ => False) w w' := by
  have hown : (w.alloc (.cells #[] e)).ownsRow w.heap.size e 1 (.slice (some ⟨w.heap.size, 0, none⟩) 0 0) 0 [] := World.ownsRow_made w #[] 0 (Nat.le_refl _) (Nat.zero_le _) rfl
  have oA : Only (fun _ => False) w (w.alloc (.cells #[] e)) := (Only.refl _ w).alloc _
  rcases hv with ⟨rfl, rfl⟩ | ⟨ad, c, rfl, hkc, hc⟩
  · exact ⟨some ⟨w.heap.size, 0, none⟩, 0, _, fun ty => run_append_owned_none _ w.heap.size t ty e i 1 ht hi _ 0 [] hown, by simpa using hown, oA⟩
  · have hnews : ∀ j u, ((List.range m).map f)[j]? = some u → (w.alloc (.cells #[] e)).cell? (ad.add j) = some u := fun j u hu => by
      have hj : j < m := by have := (List.getElem?_eq_some_iff.1 hu).1; simpa using this
      simp [hj] at hu
      rw [← hu]
      exact oA.cell (hc j (by omega)) (fun e => e)
    have h1 : ∀ u ∈ (List.range m).map f, u.oneCell' = true := fun u hu => by obtain ⟨j, _, rfl⟩ := List.mem_map.1 hu; exact ho j
    have key := fun ty => run_append_own_at (P := Try.prog) (w.alloc (.cells #[] e)) w.heap.size t ty e i z 1 bytes ht hi hz hsize hby hzs (by omega) _ 0 [] hown ad m c ((List.range m).map f) (by simp) hnews h1 (by unfold maxLen; omega) (by subst hb1; omega) (by simp)
    obtain ⟨v', w', hr, own', hg, _, _⟩ := key 0
    obtain ⟨a, cap, rfl⟩ := ownsRow_slice own'
    rw [Nat.zero_add] at own' hr
    refine ⟨a, cap, w', fun ty => ?_, by simpa using own', oA.grown hg (fun k e hk => by simp [Value.ownBlock] at e; omega)⟩
    rw [← hr]
    rfl
theorem rowAt_own {w : World} {B e m cap : Nat} {a : Option Addr} {f : Nat → Value} (h : w.ownsRow B e 1 (.slice a m cap) m ((List.range m).map f)) : RowAt w (.slice a m cap) m 1 f := by
  rcases h.2 with ⟨h1, h2⟩ | ⟨g, c2, cur, hv, _, _, hmc, _⟩
  · exact .inl ⟨h1, h2⟩
  · simp only [Value.slice.injEq] at hv
    obtain ⟨rfl, _, rfl⟩ := hv
    refine .inr ⟨⟨g, 0, none⟩, cap, rfl, hmc, fun j hj => ?_⟩
    rw [Addr.add_mid, Nat.zero_add, h.cellAt j (by omega)]
    have hj' : j < m := by omega
    simp [hj']


/-- Bytes that were made since B. -/
def Fresh (w : World) (B : Nat) (v : Value) (zs : List Nat) : Prop := w.ownsRow B 5 1 v zs.length (BL zs) ∧ zs.length ≤ 140737488355328 ∧ ∀ z ∈ zs, z < 256
theorem Fresh.bytes {w : World} {B : Nat} {v : Value} {zs : List Nat} (h : Fresh w B v zs) : BytesAt w v zs := by
  obtain ⟨a, c, rfl⟩ := ownsRow_slice h.1
  exact ⟨rowAt_own (by rw [← BL_getD]; exact h.1), h.2⟩
theorem Fresh.frame {w w' : World} {B : Nat} {v : Value} {zs : List Nat} (h : Fresh w B v zs) (ho : Only (fun _ => False) w w') : Fresh w' B v zs := ⟨ho.owns h.1 (fun _ _ e => e), h.2⟩
theorem Fresh.more {w : World} {B : Nat} {v : Value} {zs l : List Nat} (h : w.ownsRow B 5 1 v (zs.length + l.length) (BL zs ++ BL l)) (hm : zs.length + l.length ≤ 140737488355328) (hz : ∀ z ∈ zs, z < 256) (hl : ∀ z ∈ l, z < 256) : Fresh w B v (zs ++ l) :=
  ⟨by rw [BL_append, List.length_append]; exact h, by rw [List.length_append]; exact hm, fun z h => (List.mem_append.1 h).elim (hz z) (hl z)⟩
theorem Fresh.form {w : World} {B : Nat} {v : Value} {zs : List Nat} (h : Fresh w B v zs) : ∃ a c, v = .slice a zs.length c := ownsRow_slice h.1
end Go.Proofs.Ytpoakkdkibameaa
namespace Go.Proofs.Ytpoakkdkibameaa
open Go.RowKit
set_option linter.unusedSimpArgs false
set_option linter.unusedVariables false

set_option maxHeartbeats 400000 in
theorem own_any (v : Value) (zs : List Nat) (w : World) (h : BytesAt w v zs) :
    Calls Try.prog 17 #[v] w fun e w' => ∃ u, e = .returned u ∧ Fresh w' w.heap.size u zs ∧ Only (fun _ => False) w w' := by
  obtain ⟨i0, hi0, hz0, hz1, hz2⟩ := info_parts info5
  obtain ⟨a, cap, w', hr, own, ho⟩ := app_copy 28 5 i0 _ 1 Try.underlying28 hi0 hz0 hz1 hz2 rfl rfl w v zs.length _ h.1 (fun j => rfl) h.2.1
  rw [← BL_getD] at own
  have HR : Hid _ := hr
  have HF : Hid (Fresh w' w.heap.size (.slice a zs.length cap) zs) := ⟨own, h.2⟩
  have HO : Hid (Only (fun _ => False) w w') := ho
  have hem := empty23
  clear hr own ho h
  go_enter Try.func17, Try.ntmps17
  go_wp2_with (at_builtin; refine wpList_append_run rfl _ _ 28 rfl _ _ (.slice a zs.length cap) rfl rfl HR.out ?_)
  go_ret
  exact ⟨_, rfl, HF.out, HO.out⟩

theorem fold_take (zs : List Nat) (k : Nat) (h : k < zs.length) : (zs.take (k + 1)).foldl eat 4294967295 = eat ((zs.take k).foldl eat 4294967295) (zs.getD k 0) := by
  rw [List.take_succ_eq_append_getElem h, List.foldl_append]
  simp [List.getD, h]
theorem getD_lt {zs : List Nat} (h : ∀ z ∈ zs, z < 256) (k : Nat) : zs.getD k 0 < 256 := by
  simp only [List.getD]
  rcases Nat.lt_or_ge k zs.length with hk | hk
  · rw [List.getElem?_eq_getElem hk]; exact h _ (List.getElem_mem hk)
  · rw [List.getElem?_eq_none hk]; decide

set_option maxHeartbeats 400000 in
theorem sum_any (v : Value) (zs : List Nat) (w : World) (h : BytesAt w v zs) :
    Calls Try.prog 82 #[v] w fun e w' => e = .returned (.int .u32 (sumN zs : Nat)) ∧ w' = w := by
  obtain ⟨a, c, rfl, hcap, hc⟩ := h.form
  have hlt := h.2.2
  have HL : Hid (∀ z ∈ zs, z < 256) := hlt
  have HC : Hid _ := hc
  obtain ⟨m, hm⟩ : ∃ m, m = zs.length := ⟨_, rfl⟩
  have HM : Hid (m = zs.length) := hm
  have hm2 : m ≤ 140737488355328 := hm ▸ h.2.1
  rw [← hm]
  clear h hc hlt hm hcap
  go_enter Try.func82, Try.ntmps82
  go_wp2
  go_loopw [3, 8] (fun r t wr => ∃ k : Nat, k ≤ m ∧ t = .int .i64 k ∧ r = .int .u32 ((zs.take k).foldl eat 4294967295 : Nat) ∧ w = wr) (fun _ t _ => m - (intOf t).toNat)
  case atStart => exact ⟨0, Nat.zero_le _, rfl, rfl, rfl⟩
  case round =>
    obtain ⟨k, hk, rfl, rfl, rfl⟩ := hrel
    by_cases hlt : k < m
    · have k0 : (0 : Int) ≤ (k : Int) := Int.natCast_nonneg _
      have k1 : (k : Int) < (m : Int) := by omega
      obtain ⟨g, o, rfl, hcell⟩ := HC.out k (by have := HM.out; omega)
      have HF : Hid _ := fold_take zs k (by have := HM.out; omega)
      have hz := getD_lt HL.out k
      have hx : (zs.take k).foldl eat 4294967295 < 4294967296 := fold_lt _ _ (by omega) (fun z hz => HL.out z (List.mem_of_mem_take hz))
      obtain ⟨x, hxx⟩ : ∃ x, x = (zs.take k).foldl eat 4294967295 := ⟨_, rfl⟩
      obtain ⟨z, hzz⟩ : ∃ z, z = zs.getD k 0 := ⟨_, rfl⟩
      rw [← hxx] at hx HF
      rw [← hzz] at hz hcell HF
      rw [← hxx]
      clear hxx hzz
      have hb := bx32 x z hx (by omega)
      have hs : x ^^^ z < 4294967296 := Nat.xor_lt_two_pow (n := 32) hx (by omega)
      go_wp2_with (go_at_call 90; refine (shift_any _ _ hs).mono ?_; rintro e w' ⟨rfl, rfl⟩)
      go_roundw
      case rel => exact ⟨k + 1, by omega, by go_num, by rw [HF.out]; rfl, trivial⟩
      case measure => simp [intOf]; omega
    · obtain rfl : k = m := by omega
      have hx : reg zs < 4294967296 := reg_lt zs HL.out
      have hb : bits .xor .u32 ((zs.take k).foldl eat 4294967295 : Nat) 4294967295 = (sumN zs : Nat) := by
        rw [HM.out, List.take_length]
        exact bx32 (reg zs) 4294967295 hx (by omega)
      go_wp2
      go_ret
      exact ⟨rfl, rfl⟩

/-- The register behind k bits of a byte c. -/
theorem it_bit (r c : Nat) (k : Nat) : (it k (r ^^^ c)) = it k r ^^^ it k c := it_xor r c k
end Go.Proofs.Ytpoakkdkibameaa
namespace Go.Proofs.Ytpoakkdkibameaa
open Go.RowKit
set_option linter.unusedSimpArgs false
set_option linter.unusedVariables false

/-- The register that takes the bits of c one by one. -/
def rr (k r c : Nat) : Nat := it k (r ^^^ c) ^^^ c / 2 ^ k
theorem rr_zero (r c : Nat) : rr 0 r c = r := by simp [rr, it, Nat.xor_assoc]
theorem rr_bit (k r c : Nat) : (rr k r c ^^^ c / 2 ^ k) = it k (r ^^^ c) := by simp [rr, Nat.xor_assoc]
theorem rr_succ (k r c : Nat) : rr (k + 1) r c = if (rr k r c ^^^ c / 2 ^ k) % 2 = 1 then rr k r c / 2 ^^^ 3988292384 else rr k r c / 2 := by
  rw [rr_bit]
  have e1 : rr k r c / 2 = it k (r ^^^ c) / 2 ^^^ c / 2 ^ (k + 1) := by
    unfold rr
    rw [xor_half, Nat.div_div_eq_div_mul, ← Nat.pow_succ]
  rw [e1]
  show st (it k (r ^^^ c)) ^^^ c / 2 ^ (k + 1) = _
  unfold st
  split
  · rw [Nat.xor_assoc, Nat.xor_assoc, Nat.xor_comm 3988292384]
  · rfl
theorem rr_eight (r c : Nat) (h : c < 256) : rr 8 r c = eat r c := by
  have : c / 2 ^ 8 = 0 := by omega
  simp [rr, this, eat]
theorem half_le (c k : Nat) : c / 2 ^ k ≤ c := Nat.div_le_self _ _
theorem rr_lt (k r c : Nat) (hr : r < 4294967296) (hc : c < 256) : rr k r c < 4294967296 :=
  Nat.xor_lt_two_pow (n := 32) (it_lt (Nat.xor_lt_two_pow (n := 32) hr (by omega)) k) (by have := half_le c k; omega)

end Go.Proofs.Ytpoakkdkibameaa
