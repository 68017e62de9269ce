/- Laws for single operations within a fence, and a region without calls within a round; what slices.Backward's closure hands to a loop's body. -/
import Derived.Test.YtpoakkdkibameaaD6
import Derived.RangeFuncNested
import Derived.RangeFuncBound
import Derived.RangeFuncCalls
import Derived.RangeFuncLeaves
import Derived.Shelf.Abstract
import Derived.Shelf.RegionOpen
import Derived.OwnWalkIn
import Derived.TacticsInMore
import Derived.LoopNIn
import Derived.LoopIn
namespace Go.Proofs.Ytpoakkdkibameaa
open Go.RowKit Go.Shelf
set_option linter.unusedSimpArgs false
set_option linter.unusedVariables false

section
variable {P : Program} {F : Fence} {n : Nat} {ops : Array Oper} {op : Oper} {a : Act} {w w' : World} {K : Act → World → Prop} {Q : Exit → Act → World → Prop}
/-- An operation that makes no call and defers nothing. -/
def calmOp : Op → Bool
  | .move _ | .assign _ | .alloc _ | .load _ _ | .store _ _ _ | .nilCheck _ | .fieldAddr _ _ _ | .indexAddr _ _ _ | .slice _ _ _ _ _ => true
  | _ => false
theorem calm_about (h : calmOp op.op = true) (ρ : Operand → Value) : op.about P w ρ = none := by
  unfold Oper.about
  cases ho : op.op <;> simp [ho, calmOp] at h ⊢
theorem calm_sem (h : calmOp op.op = true) (ro : Option Nat) (ρ : Operand → Value) : Oper.semAt ro ρ op = execOp ρ op :=
  Oper.semAt_eq ro ρ op (fun c hc => by rw [hc] at h; cases h)
theorem wpIn_value {s : Sem Value} {v : Value} (hc : calmOp op.op = true) (ho : execOp a.eval op = (do pure (.value (← s)))) (h : s.run P w = .ok v w') (hk : K (a.put op.dst v) w') : op.wpIn F n P a w K Q := by
  refine ⟨fun f hf => (by rw [calm_about hc] at hf; cases hf), ?_⟩
  rw [calm_sem hc]
  simp only [ho, Sem.run_bind, h, Result.andThen_ok, Sem.run_pure, Oper.uponIn]
  exact hk
theorem wpIn_unit {s : Sem Unit} (hc : calmOp op.op = true) (ho : execOp a.eval op = (do s; pure .skip)) (h : s.run P w = .ok () w') (hk : K (a.put op.dst undef) w') : op.wpIn F n P a w K Q := by
  refine ⟨fun f hf => (by rw [calm_about hc] at hf; cases hf), ?_⟩
  rw [calm_sem hc]
  simp only [ho, Sem.run_bind, h, Result.andThen_ok, Sem.run_pure, Oper.uponIn]
  exact hk
theorem wpListIn_value {rest : List Oper} {s : Sem Value} {v : Value} (hgd : op.guard = none) (hc : calmOp op.op = true) (ho : execOp a.eval op = (do pure (.value (← s)))) (h : s.run P w = .ok v w') (hk : wpListIn F n P ops Q rest (a.put op.dst v) w') : wpListIn F n P ops Q (op :: rest) a w :=
  wpListIn_plain hgd fun _ hK => wpIn_value hc ho h (hK _ _ hk)
theorem wpListIn_unit {rest : List Oper} {s : Sem Unit} (hgd : op.guard = none) (hc : calmOp op.op = true) (ho : execOp a.eval op = (do s; pure .skip)) (h : s.run P w = .ok () w') (hk : wpListIn F n P ops Q rest (a.put op.dst undef) w') : wpListIn F n P ops Q (op :: rest) a w :=
  wpListIn_plain hgd fun _ hK => wpIn_unit hc ho h (hK _ _ hk)
theorem wpListIn_load_mid {rest : List Oper} (hgd : op.guard = none) (ty : TypeId) (x : Operand) (ho : op.op = .load ty x)
    (b o : Nat) (hx : a.eval x = .pointer (some ⟨b, o, none⟩)) (cs : List Value) (d : TypeDesc) (hc : w.rangeAt b o cs)
    (hu : P.underlying ty = some d) (hd : d.isRow = true) (hi : (P.info? ty).map (·.size) = some cs.length)
    (h : wpListIn F n P ops Q rest (a.put op.dst (.agg cs.toArray)) w) : wpListIn F n P ops Q (op :: rest) a w :=
  wpListIn_value hgd (by rw [ho]; rfl) (s := Instr.loadAt ty (.pointer (some ⟨b, o, none⟩))) (by unfold execOp; simp only [ho, hx]) (run_loadAt_mid w b o ty cs d hc hu hd hi) h
theorem wpListIn_storeNew {rest : List Oper} (hgd : op.guard = none) (ty : TypeId) (x y : Operand) (ho : op.op = .store ty x y)
    (w0 : World) (c cells : Array Value) (hx : a.eval x = .pointer (some ⟨w0.heap.size, 0, none⟩)) (hy : a.eval y = .agg cells)
    (hi : (P.info? ty).map (·.size) = some cells.size) (hs : c.size = cells.size) (h1 : cells.all (·.oneCell') = true)
    (h : wpListIn F n P ops Q rest (a.put op.dst undef) (w0.alloc (.cells cells ty))) : wpListIn F n P ops Q (op :: rest) a (w0.alloc (.cells c ty)) :=
  wpListIn_unit hgd (by rw [ho]; rfl) (s := Instr.storeAt ty (.pointer (some ⟨w0.heap.size, 0, none⟩)) (.agg cells)) (by unfold execOp; simp only [ho, hx, hy]) (run_storeAt_new w0 ty c cells hi hs h1) h
theorem wpListIn_alloc {rest : List Oper} (hgd : op.guard = none) (ty : TypeId) (ho : op.op = .alloc ty) (c : Array Value) (hr : (Instr.alloc ty true (.tuple #[])).run P w = .ok (.pointer (some ⟨w.heap.size, 0, none⟩)) (w.alloc (.cells c ty)))
    (h : wpListIn F n P ops Q rest (a.put op.dst (.pointer (some ⟨w.heap.size, 0, none⟩))) (w.alloc (.cells c ty))) : wpListIn F n P ops Q (op :: rest) a w :=
  wpListIn_value hgd (by rw [ho]; rfl) (s := Instr.alloc ty true (.tuple #[])) (by unfold execOp; simp only [ho]) hr h
/-- What a calm operation comes to. -/
theorem calm_ok (h : calmOp op.op = true) (ρ : Operand → Value) {x : Next} (hr : (execOp ρ op).run P w = .ok x w') : (∃ v, x = .value v) ∨ x = .skip := by
  have hv : ∀ (s : Sem Value), ((do pure (Next.value (← s)) : Sem Next).run P w = .ok x w') → ∃ v, x = .value v := by
    intro s hs
    rw [Sem.run_bind] at hs
    cases hq : s.run P w with
    | ok v w1 => rw [hq] at hs; simp [Result.andThen, Sem.run_pure] at hs; exact ⟨v, hs.1.symm⟩
    | halt e w1 => rw [hq] at hs; simp [Result.andThen] at hs
  have hu : ∀ (s : Sem Unit), ((do s; pure Next.skip : Sem Next).run P w = .ok x w') → x = .skip := by
    intro s hs
    rw [Sem.run_bind] at hs
    cases hq : s.run P w with
    | ok v w1 => rw [hq] at hs; simp [Result.andThen, Sem.run_pure] at hs; exact hs.1.symm
    | halt e w1 => rw [hq] at hs; simp [Result.andThen] at hs
  unfold execOp at hr
  cases ho : op.op <;> simp only [ho, calmOp, Bool.false_eq_true] at h <;> simp only [ho] at hr
  case move x => left; simp [Sem.run_pure] at hr; exact ⟨_, hr.1.symm⟩
  case assign x => left; simp [Sem.run_pure] at hr; exact ⟨_, hr.1.symm⟩
  case alloc => exact .inl (hv _ hr)
  case load => exact .inl (hv _ hr)
  case store => exact .inr (hu _ hr)
  case fieldAddr => exact .inl (hv _ hr)
  case indexAddr => exact .inl (hv _ hr)
  case slice => exact .inl (hv _ hr)
  case nilCheck xo =>
    left
    have hp : ∀ (β : Type) (f : β → Value) (t : Sem β), ((do let b ← t; pure (Next.value (f b))) : Sem Next).run P w = .ok x w' → ∃ v, x = .value v := by
      intro β f t hs
      rw [Sem.run_bind] at hs
      cases hq : t.run P w with
      | ok v w1 => rw [hq] at hs; simp [Result.andThen, Sem.run_pure] at hs; exact ⟨_, hs.1.symm⟩
      | halt e w1 => rw [hq] at hs; simp [Result.andThen] at hs
    split at hr
    · simp [runtimePanic, goPanic, go_sem] at hr
    · simp [runtimePanic, goPanic, go_sem] at hr
    · simp [runtimePanic, goPanic, go_sem] at hr
    · split at hr
      · simp [runtimePanic, goPanic, go_sem] at hr
      · rw [Sem.run_bind] at hr
        cases h1 : (program).run P w with
        | halt e w1 => rw [h1] at hr; simp [Result.andThen] at hr
        | ok p w1 =>
          rw [h1] at hr
          simp only [Result.andThen_ok] at hr
          rw [Sem.run_bind] at hr
          generalize Sem.run P (nilAhead _ _ _ _) w1 = r at hr
          cases r with
          | halt e w2 => simp [Result.andThen] at hr
          | ok b w2 =>
            simp only [Result.andThen_ok] at hr
            split at hr
            · simp [unsupported, go_sem] at hr
            · simp [Sem.run_pure] at hr; exact ⟨_, hr.1.symm⟩
      · simp [Sem.run_pure] at hr; exact ⟨_, hr.1.symm⟩
    · simp [Sem.run_pure] at hr; exact ⟨_, hr.1.symm⟩

theorem wpOp_in {i : Nat} (hc : ∀ o, ops[i]? = some o → calmOp o.op = true) (hQ : ¬ LetsOut Q) (h : wpOp P ops Q i K a w) : wpOpIn F n P ops Q i K a w := by
  unfold wpOp at h
  unfold wpOpIn
  cases ho : ops[i]? with
  | none => rw [ho] at h; exact h
  | some o =>
    rw [ho] at h
    have hco := hc o ho
    simp only at h ⊢
    split
    · rename_i hw
      rw [if_pos hw] at h
      rcases h with h | ⟨_, hl⟩
      · refine ⟨fun f hf => (by rw [calm_about hco] at hf; cases hf), ?_⟩
        rw [calm_sem hco]
        unfold Oper.wp at h
        cases hr : (execOp a.eval o).run P w with
        | ok x w1 =>
          rw [hr] at h
          rcases calm_ok hco a.eval hr with ⟨v, rfl⟩ | rfl
          · exact h
          · exact h
        | halt e w1 =>
          rw [hr] at h
          cases e <;> first | exact h | exact (h : False).elim
      · exact absurd hl hQ
    · rename_i hw
      rw [if_neg hw] at h
      exact ⟨fun f hf => (by rw [calm_about hco] at hf; cases hf), h⟩
theorem wpAny_in {md : Region.Mode} (hc : ∀ (i : Nat) (o : Oper), ops[i]? = some o → calmOp o.op = true) (hQ : ¬ LetsOut Q) : ∀ (fuel : Nat) (listed : Array Bool) (a : Act) (w : World), wpAny P md ops Q fuel listed a w → wpAnyIn F n P md ops Q fuel listed a w
  | 0, _, _, _, h => h
  | fuel + 1, _, _, _, h => ⟨h.1, fun i hi => wpOp_in (hc i) hQ (wpOp_mono (fun a' w' h' => wpAny_in hc hQ fuel _ a' w' h') (h.2 i hi))⟩
/-- A region that draws its order and makes no call, within whatever fence. -/
theorem wpIn_region_held {id : Nat} {S : World → Prop} (hm : P.follows .mixedOrders = true) (hc : ops.all (fun o => calmOp o.op) = true) (hQ : ¬ LetsOut Q) (hS : S w.drew)
    (h : S w.drew → wpAnyH P .any ops Q S ops.size (Array.replicate ops.size false) a w.drew) : (Code.region id ops true).wpIn F n P Q a w :=
  wpIn_region_any hm (wpAny_in (fun i o ho => by
    rw [Array.all_eq_true_iff_forall_mem] at hc
    exact hc o (Array.mem_of_getElem? ho)) hQ _ _ _ _ (wpAny_of_held _ _ _ _ (h hS)))
end

/-- A pending write at its number, of a disk of n sectors. -/
abbrev At (n : Nat) := { x : Nat × Wr // x.2.at_ < n }
/-- What a loop's body is handed of it. -/
def atEnc (n : Nat) (x : At n) : Array Value := #[.int .i64 x.1.1, .agg x.1.2.cells.toArray]
/-- What the iterator reads: its box, and the block of the writes. -/
def KpB (Bs Pb : Nat) (W W' : World) : Prop := W'.heap[Bs]? = W.heap[Bs]? ∧ W'.heap[Pb]? = W.heap[Pb]?
/-- The writes from the last one on, k of them left out. -/
def fromLast (n : Nat) (l : List (At n)) (k : Nat) : List (At n) := (l.drop k).reverse
theorem fromLast_succ (n : Nat) (l : List (At n)) (k : Nat) (h : k < l.length) : fromLast n l k = fromLast n l (k + 1) ++ [l[k]] := by
  simp only [fromLast]
  rw [List.drop_eq_getElem_cons h, List.reverse_cons]
theorem fromLast_length (n : Nat) (l : List (At n)) (k : Nat) : (fromLast n l k).length = l.length - k := by simp [fromLast]

attribute [local go_sem] Oper.semAt_some

end Go.Proofs.Ytpoakkdkibameaa
