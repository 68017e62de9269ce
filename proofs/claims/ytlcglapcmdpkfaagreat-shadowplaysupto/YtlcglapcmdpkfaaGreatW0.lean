import Derived.Test.YtlcglapcmdpkfaaGreatD7
namespace Go.Proofs.YtlcglapcmdpkfaaGreat
open Go.RowKit Go.Shelf
set_option linter.unusedSimpArgs false
set_option linter.unusedVariables false
section
variable {P : Program} {n l : Nat} {ops : Array Oper} {op : Oper} {a : Act} {w w' : World} {K : Act → World → Prop} {Q : Exit → Act → World → Prop}
def plainOp : Op → Bool
 | .defer _ => false
 | _ => true
theorem wpOp_round {i : Nat} (hc : ∀ o, ops[i]? = some o → plainOp o.op = true) (hQ : ¬ LetsOut Q) (h : wpOp P ops Q i K a w) : wpOpIn (Fence.wide.inRound l) n P ops Q i K a w := by
 unfold wpOp at h
 unfold wpOpIn
 cases ho : ops[i]? with
 | none => rw [ho] at h; exact h
 | some o =>
   rw [ho] at h
   have hco := hc o ho
   simp only at h ⊢
   split
   ·rename_i hw
    rw [if_pos hw] at h
    rcases h with h | ⟨_, hl⟩
    ·refine ⟨fun f hf => trivial, ?_⟩
     rw [Oper.semAt_eq _ _ _ (fun c hc' => by rw [hc'] at hco; cases hco)]
     unfold Oper.wp at h
     cases hr : (execOp a.eval o).run P w with
     | ok x w1 =>
       rw [hr] at h
       cases x with
       | value v => exact h
       | skip => exact h
       | defer d => exact h
       | enter f args =>
         refine ⟨fun e => (by cases e), ?_⟩
         exact (callsIn_wide (n := n - 1)).2 h
       | row r args =>
         refine ⟨fun e => (by cases e), fun c cs _ => ?_⟩
         obtain ⟨v, w', hr', hs'⟩ := (h : Rows P r args w1 _) c cs
         exact ⟨v, w', hr', stepsIn_wide.2 hs'⟩
       | _ => exact (h : False).elim
     | halt e w1 =>
       rw [hr] at h
       cases e <;> first | exact h | exact (h : False).elim
    ·exact absurd hl hQ
   ·rename_i hw
    rw [if_neg hw] at h
    exact ⟨fun f hf => trivial, h⟩
theorem wpAny_round {md : Region.Mode} (hc : ∀ (i : Nat) (o : Oper), ops[i]? = some o → plainOp o.op = true) (hQ : ¬ LetsOut Q) : ∀ (fuel : Nat) (listed : Array Bool) (a : Act) (w : World), wpAny P md ops Q fuel listed a w → wpAnyIn (Fence.wide.inRound l) n P md ops Q fuel listed a w
 | 0, _, _, _, h => h
 | fuel + 1, _, _, _, h => ⟨h.1, fun i hi => wpOp_round (hc i) hQ (wpOp_mono (fun a' w' h' => wpAny_round hc hQ fuel _ a' w' h') (h.2 i hi))⟩
theorem wpIn_region_round {id : Nat} {S : World → Prop} (hm : P.follows .mixedOrders = true) (hc : ops.all (fun o => plainOp o.op) = true) (hQ : ¬ LetsOut Q) (hS : S w.drew)
  (h : S w.drew → wpAnyH P .any ops Q S ops.size (Array.replicate ops.size false) a w.drew) : (Code.region id ops true).wpIn (Fence.wide.inRound l) n P Q a w :=
 wpIn_region_any hm (wpAny_round (fun i o ho => by
  rw [Array.all_eq_true_iff_forall_mem] at hc
  exact hc o (Array.mem_of_getElem? ho)) hQ _ _ _ _ (wpAny_of_held _ _ _ _ (h hS)))
theorem wp_call_func {f : Nat} (args : Array Operand) (tys : Array TypeId) (ho : op.op = .call { callee := .value (.func f), args := args, argTypes := tys }) (vs : Array Value) (hvs : args.map a.eval = vs) (he : ∀ args w, (callFunc f args).run P w = .ok (.enter f args) w)
  {R : Ending → World → Prop} (hc : Calls P f vs w R) (hR : ∀ e w', R e w' → ∃ v, e = .returned v ∧ K (a.put op.dst v) w') : op.wp P a w K Q := by
 have hr : (execOp a.eval op).run P w = .ok (.enter f vs) w := by
  simp [execOp, ho, resolve, invoke, go_sem, he, hvs, Result.andThen]
 unfold Oper.wp
 rw [hr, Oper.upon_enter]
 refine hc.mono fun e w' h => ?_
 obtain ⟨v, rfl, hk⟩ := hR e w' h
 exact hk
end
end Go.Proofs.YtlcglapcmdpkfaaGreat
