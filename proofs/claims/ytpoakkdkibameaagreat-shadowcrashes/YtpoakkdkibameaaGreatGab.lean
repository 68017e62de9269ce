/- What sector answers; New. Laws for single operations within a fence, and a region without calls within a round; what slices.Backward's closure hands to a loop's body. A region that draws its order and holds calls, within a round of a loop over a function. A map keyed by int: its entries as a list that rises; what a look, a store and a delete do of it. The sum of bytes as numbers: one step of the register, that it is linear and that nothing but 0 comes to 0. What shift answers. -/
import Derived.Test.YtpoakkdkibameaaGreatGaa
import Derived.RangeFuncNested
import Derived.RangeFuncBound
import Derived.RangeFuncCalls
import Derived.RangeFuncLeaves
import Derived.Shelf.Abstract
import Derived.Shelf.RegionOpen
import Derived.OwnWalkIn
import Derived.TacticsInMore
import Derived.LoopNIn
import Derived.LoopIn
import Derived.Test.YtpoakkdkibameaaGreatRows
import Derived.Maps.OwnSet
import Derived.Maps.Ext
import Derived.MapKept
import Derived.WalkKit
import Derived.Laws.BitsLemmas
import Derived.WalkSpells
import Derived.WalkLawsBesides
import Derived.Deep.RegionHeld3
import Derived.Deep.MidRow
import Derived.Deep.AppendLies
import Derived.Deep.DrawnRows
namespace Go.Proofs.YtpoakkdkibameaaGreat
open Go.RowKit
set_option linter.unusedSimpArgs false
set_option linter.unusedVariables false

/-- The bytes of a sector whose first bytes are z's, up to k, the others 0. -/
def fullF (z : Nat → Int) (k : Nat) : Nat → Int := fun j => if j < k then z j else 0
theorem fullF_set (z : Nat → Int) (k : Nat) : (secL (fullF z k)).toArray.setIfInBounds k (.int .u8 (z k)) = (secL (fullF z (k + 1))).toArray := by
  apply Array.ext
  · simp [secL_length]
  · intro i h1 h2
    simp [secL_length] at h1 h2
    simp [secL, Array.getElem_setIfInBounds, fullF]
    by_cases e : k = i
    · subst e; simp
    · simp [e]
      by_cases l : i < k
      · simp [l]; intro; omega
      · simp [l]; intro; omega
theorem secL_congr (f g : Nat → Int) (h : ∀ j, j < 32 → f j = g j) : secL f = secL g := by
  simp only [secL]
  apply List.map_congr_left
  intro j hj
  rw [h j (by simpa using hj)]
theorem fullF_big (z : Nat → Int) (n : Nat) (h : 32 ≤ n) : secL (fullF z 32) = secL (fullF z n) :=
  secL_congr _ _ fun j hj => by simp only [fullF]; rw [if_pos hj, if_pos (by omega)]
theorem mk32 (z : Nat → Int) (w : World) : (Instr.makeSlice 37 (.int .i64 32) (.int .i64 32)).run Tryz.prog w = .ok (.slice (some ⟨w.heap.size, 0, none⟩) 32 32) (w.alloc (.cells (secL (fullF z 0)).toArray 5)) := by kernel_rfl

set_option maxHeartbeats 400000 in
theorem full_nil (w : World) :
    Calls Tryz.prog 59 #[.slice none 0 0] w fun e w' => e = .returned (.slice (some ⟨w.heap.size, 0, none⟩) 32 32) ∧ w' = w.alloc (.cells (secL (fun _ => 0)).toArray 5) := by
  have hmk := mk32 (fun _ => 0)
  have e0 : fullF (fun _ => 0) 0 = fun _ => 0 := by funext j; simp [fullF]
  rw [e0] at hmk
  clear e0
  go_enter Tryz.func59, Tryz.ntmps59
  go_wp2
  refine wp_loop_rounds 1 ?_; rw [rounds_succ]
  go_wp2
  go_ret
  exact ⟨rfl, rfl⟩

set_option maxHeartbeats 400000 in
theorem full_core (A : Nat → Array Value) (g o len cap : Nat) (z : Nat → Int) (w : World) (hl : len ≤ maxLen) (hb : ∀ j, j < len → w.cell? ⟨g, o + j, none⟩ = some (.int .u8 (z j))) (hg : g < w.heap.size)
    (hmk : ∀ w, (Instr.makeSlice 37 (.int .i64 32) (.int .i64 32)).run Tryz.prog w = .ok (.slice (some ⟨w.heap.size, 0, none⟩) 32 32) (w.alloc (.cells (A 0) 5))) (hs : ∀ k, (A k).size = 32) (hset : ∀ k, (A k).setIfInBounds k (.int .u8 (z k)) = A (k + 1)) (hbig : 32 ≤ len → A 32 = A len) :
    Calls Tryz.prog 59 #[.slice (some ⟨g, o, none⟩) len cap] w fun e w' => e = .returned (.slice (some ⟨w.heap.size, 0, none⟩) 32 32) ∧ w' = w.alloc (.cells (A len) 5) := by
  unfold maxLen at hl
  have HS : Hid (∀ k, (A k).setIfInBounds k (.int .u8 (z k)) = A (k + 1)) := hset
  have HB : Hid (32 ≤ len → A 32 = A len) := hbig
  clear hset hbig
  go_enter Tryz.func59, Tryz.ntmps59
  go_wp2
  clear hmk
  go_loopw [4] (fun i wr => ∃ k : Nat, k ≤ len ∧ k ≤ 32 ∧ i = .int .i64 k ∧ wr = w.alloc (.cells (A k) 5)) (fun i _ => 32 - (intOf i).toNat)
  case atStart => exact ⟨0, by omega, by omega, rfl, rfl⟩
  case round =>
    obtain ⟨k, hk, hk2, rfl, rfl⟩ := hrel
    by_cases h1 : k < len
    · by_cases h2 : k < 32
      · have hc := hb k h1
        clear hb
        have hsz := hs k
        clear hs
        go_wp2
        go_roundw
        case rel => exact ⟨k + 1, by omega, by omega, by go_num, by rw [HS.out]⟩
        case measure => simp [intOf]; omega
      · have e : k = 32 := by omega
        subst e
        clear hb hs
        go_wp2
        go_ret
        exact ⟨rfl, by rw [HB.out (by omega)]⟩
    · have e : k = len := by omega
      subst e
      clear hb hs
      go_wp2
      go_ret
      exact ⟨rfl, rfl⟩
theorem full_any (g o len cap : Nat) (z : Nat → Int) (w : World) (hl : len ≤ maxLen) (hb : ∀ j, j < len → w.cell? ⟨g, o + j, none⟩ = some (.int .u8 (z j))) (hg : g < w.heap.size) :
    Calls Tryz.prog 59 #[.slice (some ⟨g, o, none⟩) len cap] w fun e w' => e = .returned (.slice (some ⟨w.heap.size, 0, none⟩) 32 32) ∧ w' = w.alloc (.cells (secL (fullF z len)).toArray 5) :=
  full_core (fun k => (secL (fullF z k)).toArray) g o len cap z w hl hb hg (mk32 z) (fun k => by simp [secL_length]) (fullF_set z) (fun h => by rw [fullF_big z len h])
theorem new_any (n : Nat) (w : World) (h1 : 1 ≤ n) (h2 : n ≤ 8192) :
    Calls Tryz.prog 7 #[.int .i64 n] w fun e w' => ∃ p S, e = .returned (.tuple #[.pointer (some ⟨p, 0, none⟩), .int .i64 0]) ∧
      DiskAt w' w.heap.size p S (.slice none 0 0) ⟨n, fun _ _ => 0, [], -1⟩ ∧ Only (fun _ => False) w w' :=
  (new_ok n w h1 h2).mono fun _ _ h => ⟨_, _, h.1, h.2.1, h.2.2.1⟩
end Go.Proofs.YtpoakkdkibameaaGreat
namespace Go.Proofs.YtpoakkdkibameaaGreat
open Go.RowKit Go.Shelf
set_option linter.unusedSimpArgs false
set_option linter.unusedVariables false

section
variable {P : Program} {F : Fence} {n : Nat} {ops : Array Oper} {op : Oper} {a : Act} {w w' : World} {K : Act → World → Prop} {Q : Exit → Act → World → Prop}
/-- An operation that makes no call and defers nothing. -/
def calmOp : Op → Bool
  | .move _ | .assign _ | .alloc _ | .load _ _ | .store _ _ _ | .nilCheck _ | .fieldAddr _ _ _ | .indexAddr _ _ _ | .slice _ _ _ _ _ => true
  | _ => false
theorem calm_about (h : calmOp op.op = true) (ρ : Operand → Value) : op.about P w ρ = none := by
  unfold Oper.about
  cases ho : op.op <;> simp [ho, calmOp] at h ⊢
theorem calm_sem (h : calmOp op.op = true) (ro : Option Nat) (ρ : Operand → Value) : Oper.semAt ro ρ op = execOp ρ op :=
  Oper.semAt_eq ro ρ op (fun c hc => by rw [hc] at h; cases h)
theorem wpIn_value {s : Sem Value} {v : Value} (hc : calmOp op.op = true) (ho : execOp a.eval op = (do pure (.value (← s)))) (h : s.run P w = .ok v w') (hk : K (a.put op.dst v) w') : op.wpIn F n P a w K Q := by
  refine ⟨fun f hf => (by rw [calm_about hc] at hf; cases hf), ?_⟩
  rw [calm_sem hc]
  simp only [ho, Sem.run_bind, h, Result.andThen_ok, Sem.run_pure, Oper.uponIn]
  exact hk
theorem wpIn_unit {s : Sem Unit} (hc : calmOp op.op = true) (ho : execOp a.eval op = (do s; pure .skip)) (h : s.run P w = .ok () w') (hk : K (a.put op.dst undef) w') : op.wpIn F n P a w K Q := by
  refine ⟨fun f hf => (by rw [calm_about hc] at hf; cases hf), ?_⟩
  rw [calm_sem hc]
  simp only [ho, Sem.run_bind, h, Result.andThen_ok, Sem.run_pure, Oper.uponIn]
  exact hk
theorem wpListIn_value {rest : List Oper} {s : Sem Value} {v : Value} (hgd : op.guard = none) (hc : calmOp op.op = true) (ho : execOp a.eval op = (do pure (.value (← s)))) (h : s.run P w = .ok v w') (hk : wpListIn F n P ops Q rest (a.put op.dst v) w') : wpListIn F n P ops Q (op :: rest) a w :=
  wpListIn_plain hgd fun _ hK => wpIn_value hc ho h (hK _ _ hk)
theorem wpListIn_unit {rest : List Oper} {s : Sem Unit} (hgd : op.guard = none) (hc : calmOp op.op = true) (ho : execOp a.eval op = (do s; pure .skip)) (h : s.run P w = .ok () w') (hk : wpListIn F n P ops Q rest (a.put op.dst undef) w') : wpListIn F n P ops Q (op :: rest) a w :=
  wpListIn_plain hgd fun _ hK => wpIn_unit hc ho h (hK _ _ hk)
theorem wpListIn_load_mid {rest : List Oper} (hgd : op.guard = none) (ty : TypeId) (x : Operand) (ho : op.op = .load ty x)
    (b o : Nat) (hx : a.eval x = .pointer (some ⟨b, o, none⟩)) (cs : List Value) (d : TypeDesc) (hc : w.rangeAt b o cs)
    (hu : P.underlying ty = some d) (hd : d.isRow = true) (hi : (P.info? ty).map (·.size) = some cs.length)
    (h : wpListIn F n P ops Q rest (a.put op.dst (.agg cs.toArray)) w) : wpListIn F n P ops Q (op :: rest) a w :=
  wpListIn_value hgd (by rw [ho]; rfl) (s := Instr.loadAt ty (.pointer (some ⟨b, o, none⟩))) (by unfold execOp; simp only [ho, hx]) (run_loadAt_mid w b o ty cs d hc hu hd hi) h
theorem wpListIn_storeNew {rest : List Oper} (hgd : op.guard = none) (ty : TypeId) (x y : Operand) (ho : op.op = .store ty x y)
    (w0 : World) (c cells : Array Value) (hx : a.eval x = .pointer (some ⟨w0.heap.size, 0, none⟩)) (hy : a.eval y = .agg cells)
    (hi : (P.info? ty).map (·.size) = some cells.size) (hs : c.size = cells.size) (h1 : cells.all (·.oneCell') = true)
    (h : wpListIn F n P ops Q rest (a.put op.dst undef) (w0.alloc (.cells cells ty))) : wpListIn F n P ops Q (op :: rest) a (w0.alloc (.cells c ty)) :=
  wpListIn_unit hgd (by rw [ho]; rfl) (s := Instr.storeAt ty (.pointer (some ⟨w0.heap.size, 0, none⟩)) (.agg cells)) (by unfold execOp; simp only [ho, hx, hy]) (run_storeAt_new w0 ty c cells hi hs h1) h
theorem wpListIn_alloc {rest : List Oper} (hgd : op.guard = none) (ty : TypeId) (ho : op.op = .alloc ty) (c : Array Value) (hr : (Instr.alloc ty true (.tuple #[])).run P w = .ok (.pointer (some ⟨w.heap.size, 0, none⟩)) (w.alloc (.cells c ty)))
    (h : wpListIn F n P ops Q rest (a.put op.dst (.pointer (some ⟨w.heap.size, 0, none⟩))) (w.alloc (.cells c ty))) : wpListIn F n P ops Q (op :: rest) a w :=
  wpListIn_value hgd (by rw [ho]; rfl) (s := Instr.alloc ty true (.tuple #[])) (by unfold execOp; simp only [ho]) hr h
/-- What a calm operation comes to. -/
theorem calm_ok (h : calmOp op.op = true) (ρ : Operand → Value) {x : Next} (hr : (execOp ρ op).run P w = .ok x w') : (∃ v, x = .value v) ∨ x = .skip := by
  have hv : ∀ (s : Sem Value), ((do pure (Next.value (← s)) : Sem Next).run P w = .ok x w') → ∃ v, x = .value v := by
    intro s hs
    rw [Sem.run_bind] at hs
    cases hq : s.run P w with
    | ok v w1 => rw [hq] at hs; simp [Result.andThen, Sem.run_pure] at hs; exact ⟨v, hs.1.symm⟩
    | halt e w1 => rw [hq] at hs; simp [Result.andThen] at hs
  have hu : ∀ (s : Sem Unit), ((do s; pure Next.skip : Sem Next).run P w = .ok x w') → x = .skip := by
    intro s hs
    rw [Sem.run_bind] at hs
    cases hq : s.run P w with
    | ok v w1 => rw [hq] at hs; simp [Result.andThen, Sem.run_pure] at hs; exact hs.1.symm
    | halt e w1 => rw [hq] at hs; simp [Result.andThen] at hs
  unfold execOp at hr
  cases ho : op.op <;> simp only [ho, calmOp, Bool.false_eq_true] at h <;> simp only [ho] at hr
  case move x => left; simp [Sem.run_pure] at hr; exact ⟨_, hr.1.symm⟩
  case assign x => left; simp [Sem.run_pure] at hr; exact ⟨_, hr.1.symm⟩
  case alloc => exact .inl (hv _ hr)
  case load => exact .inl (hv _ hr)
  case store => exact .inr (hu _ hr)
  case fieldAddr => exact .inl (hv _ hr)
  case indexAddr => exact .inl (hv _ hr)
  case slice => exact .inl (hv _ hr)
  case nilCheck xo =>
    left
    have hp : ∀ (β : Type) (f : β → Value) (t : Sem β), ((do let b ← t; pure (Next.value (f b))) : Sem Next).run P w = .ok x w' → ∃ v, x = .value v := by
      intro β f t hs
      rw [Sem.run_bind] at hs
      cases hq : t.run P w with
      | ok v w1 => rw [hq] at hs; simp [Result.andThen, Sem.run_pure] at hs; exact ⟨_, hs.1.symm⟩
      | halt e w1 => rw [hq] at hs; simp [Result.andThen] at hs
    split at hr
    · simp [runtimePanic, goPanic, go_sem] at hr
    · simp [runtimePanic, goPanic, go_sem] at hr
    · simp [runtimePanic, goPanic, go_sem] at hr
    · split at hr
      · simp [runtimePanic, goPanic, go_sem] at hr
      · rw [Sem.run_bind] at hr
        cases h1 : (program).run P w with
        | halt e w1 => rw [h1] at hr; simp [Result.andThen] at hr
        | ok p w1 =>
          rw [h1] at hr
          simp only [Result.andThen_ok] at hr
          rw [Sem.run_bind] at hr
          generalize Sem.run P (nilAhead _ _ _ _) w1 = r at hr
          cases r with
          | halt e w2 => simp [Result.andThen] at hr
          | ok b w2 =>
            simp only [Result.andThen_ok] at hr
            split at hr
            · simp [unsupported, go_sem] at hr
            · simp [Sem.run_pure] at hr; exact ⟨_, hr.1.symm⟩
      · simp [Sem.run_pure] at hr; exact ⟨_, hr.1.symm⟩
    · simp [Sem.run_pure] at hr; exact ⟨_, hr.1.symm⟩

theorem wpOp_in {i : Nat} (hc : ∀ o, ops[i]? = some o → calmOp o.op = true) (hQ : ¬ LetsOut Q) (h : wpOp P ops Q i K a w) : wpOpIn F n P ops Q i K a w := by
  unfold wpOp at h
  unfold wpOpIn
  cases ho : ops[i]? with
  | none => rw [ho] at h; exact h
  | some o =>
    rw [ho] at h
    have hco := hc o ho
    simp only at h ⊢
    split
    · rename_i hw
      rw [if_pos hw] at h
      rcases h with h | ⟨_, hl⟩
      · refine ⟨fun f hf => (by rw [calm_about hco] at hf; cases hf), ?_⟩
        rw [calm_sem hco]
        unfold Oper.wp at h
        cases hr : (execOp a.eval o).run P w with
        | ok x w1 =>
          rw [hr] at h
          rcases calm_ok hco a.eval hr with ⟨v, rfl⟩ | rfl
          · exact h
          · exact h
        | halt e w1 =>
          rw [hr] at h
          cases e <;> first | exact h | exact (h : False).elim
      · exact absurd hl hQ
    · rename_i hw
      rw [if_neg hw] at h
      exact ⟨fun f hf => (by rw [calm_about hco] at hf; cases hf), h⟩
theorem wpAny_in {md : Region.Mode} (hc : ∀ (i : Nat) (o : Oper), ops[i]? = some o → calmOp o.op = true) (hQ : ¬ LetsOut Q) : ∀ (fuel : Nat) (listed : Array Bool) (a : Act) (w : World), wpAny P md ops Q fuel listed a w → wpAnyIn F n P md ops Q fuel listed a w
  | 0, _, _, _, h => h
  | fuel + 1, _, _, _, h => ⟨h.1, fun i hi => wpOp_in (hc i) hQ (wpOp_mono (fun a' w' h' => wpAny_in hc hQ fuel _ a' w' h') (h.2 i hi))⟩
/-- A region that draws its order and makes no call, within whatever fence. -/
theorem wpIn_region_held {id : Nat} {S : World → Prop} (hm : P.follows .mixedOrders = true) (hc : ops.all (fun o => calmOp o.op) = true) (hQ : ¬ LetsOut Q) (hS : S w.drew)
    (h : S w.drew → wpAnyH P .any ops Q S ops.size (Array.replicate ops.size false) a w.drew) : (Code.region id ops true).wpIn F n P Q a w :=
  wpIn_region_any hm (wpAny_in (fun i o ho => by
    rw [Array.all_eq_true_iff_forall_mem] at hc
    exact hc o (Array.mem_of_getElem? ho)) hQ _ _ _ _ (wpAny_of_held _ _ _ _ (h hS)))
end

/-- A pending write at its number, of a disk of n sectors. -/
abbrev At (n : Nat) := { x : Nat × Wr // x.2.at_ < n }
/-- What a loop's body is handed of it. -/
def atEnc (n : Nat) (x : At n) : Array Value := #[.int .i64 x.1.1, .agg x.1.2.cells.toArray]
/-- What the iterator reads: its box, and the block of the writes. -/
def KpB (Bs Pb : Nat) (W W' : World) : Prop := W'.heap[Bs]? = W.heap[Bs]? ∧ W'.heap[Pb]? = W.heap[Pb]?
/-- The writes from the last one on, k of them left out. -/
def fromLast (n : Nat) (l : List (At n)) (k : Nat) : List (At n) := (l.drop k).reverse
theorem fromLast_succ (n : Nat) (l : List (At n)) (k : Nat) (h : k < l.length) : fromLast n l k = fromLast n l (k + 1) ++ [l[k]] := by
  simp only [fromLast]
  rw [List.drop_eq_getElem_cons h, List.reverse_cons]
theorem fromLast_length (n : Nat) (l : List (At n)) (k : Nat) : (fromLast n l k).length = l.length - k := by simp [fromLast]

attribute [local go_sem] Oper.semAt_some

set_option maxRecDepth 100000 in
set_option maxHeartbeats 2000000 in
/-- slices.Backward's closure: the writes from the last to the first, for every loop body that keeps the box and the block that it reads. -/
theorem back_core (m : Nat) (l Bs Pb n len cap : Nat) (cs : Nat → List Value) (y : Nat → Array Value) (hlen : len ≤ maxLen) (J : Nat → World → Prop) (Jx : World → Prop) (K : World → World → Prop)
    (hcs : ∀ j, j < len → (cs j).length = 65) (hK : ∀ W W', K W W' → KpB Bs Pb W W') (hy : ∀ j, j < len → y j = #[.int .i64 j, .agg (cs j).toArray])
    (hY : ∀ k W, k < len → J (k + 1) W → YieldAt Fence.wide (m - 1) Tryz.prog l (y k) W fun e W' =>
      (e = .returned (.bool true) ∧ J k W' ∧ K W W') ∨ (e = .returned (.bool false) ∧ Jx W'))
    (W : World) (hBs : W.cell? ⟨Bs, 0, none⟩ = some (.slice (some ⟨Pb, 0, none⟩) len cap)) (hc : ∀ j, j < len → W.rangeAt Pb (j * 65) (cs j)) (h0 : J len W) :
    CallsIn Fence.wide m Tryz.prog 113 #[.func (.yield l) #[] #[], .pointer (some ⟨Bs, 0, none⟩)] W fun e W' => (∃ v, e = .returned v) ∧ (J 0 W' ∨ Jx W') := by
  unfold maxLen at hlen
  have hu71 := Tryz.underlying99
  refine callsIn_of_wp Tryz.func113 rfl trivial ?_ rfl
  simp only [Tryz.ntmps113, List.size_toArray, List.length_cons, List.length_nil, Nat.reduceAdd, Nat.reduceSub, Array.replicate_succ, Array.replicate_zero, List.push_toArray, List.append_toArray, List.nil_append, List.cons_append]
  gi_wp2
  gi_loopw [3] (fun i wr => ∃ k : Nat, k ≤ len ∧ i = .int .i64 ((k : Int) - 1) ∧ J k wr ∧ KpB Bs Pb W wr) (fun i _ => (intOf i + 1).toNat)
  case atStart => exact ⟨len, Nat.le_refl _, rfl, h0, rfl, rfl⟩
  case round =>
    obtain ⟨k, hk, rfl, hJ, hkp⟩ := hrel
    cases k with
    | zero =>
      clear hY hc hcs hK hy h0 hBs hkp
      gi_wp2
      go_end0
      exact ⟨⟨_, rfl⟩, .inl hJ⟩
    | succ j =>
      have e1 : (((j + 1 : Nat) : Int) - 1) = (j : Int) := by omega
      rw [e1]
      obtain ⟨fn, tmps, assign, body, hyr, hR⟩ := hY j wr (by omega) hJ
      rw [hy j (by omega)] at hyr
      have hb1 : wr.cell? ⟨Bs, 0, none⟩ = some (.slice (some ⟨Pb, 0, none⟩) len cap) := (World.cell?_of_block (w := W) hkp.1).trans hBs
      have hr1 : wr.rangeAt Pb (j * 65) (cs j) := fun q v hv => (World.cell?_of_block (w := W) hkp.2).trans (hc j (by omega) q v hv)
      have hi : (Tryz.prog.info? 99).map (·.size) = some (cs j).length := by rw [size71, hcs j (by omega)]
      have hj0 : (0 : Int) ≤ (j : Int) := Int.natCast_nonneg _
      have hj1 : (j : Int) < (len : Int) := by omega
      have HKP : Hid (KpB Bs Pb W wr) := hkp
      have HK : Hid (∀ W W', K W W' → KpB Bs Pb W W') := hK
      clear hY hc hcs hy h0 hBs e1 hkp hK
      gi_wp2_with (refine wpListIn_load_mid rfl 99 _ rfl Pb (j * 65) rfl (cs j) _ hr1 hu71 rfl hi ?_)
      refine ⟨fun h => (by simp [Fence.wide] at h), hR.mono ?_⟩
      rintro e W3 (⟨rfl, hJ3, hk3⟩ | ⟨rfl, hJx3⟩)
      · have hk4 : KpB Bs Pb W W3 := ⟨(HK.out _ _ hk3).1.trans HKP.out.1, (HK.out _ _ hk3).2.trans HKP.out.2⟩
        have HK4 : Hid (KpB Bs Pb W W3) := hk4
        clear hk4 hk3
        gi_wp2
        go_roundw
        case rel => exact ⟨j, by omega, rfl, hJ3, HK4.out⟩
        case measure => simp [intOf]
      · gi_wp2
        refine bodyPost_ret (results_none rfl _ _ _) rfl ?_
        exact ⟨⟨_, rfl⟩, .inr hJx3⟩
set_option maxRecDepth 100000 in
set_option maxHeartbeats 1000000 in
/-- .. of no writes. -/
theorem back_nil (m l Bs : Nat) (J : World → Prop) (W : World) (hBs : W.cell? ⟨Bs, 0, none⟩ = some (.slice none 0 0)) (h0 : J W) :
    CallsIn Fence.wide m Tryz.prog 113 #[.func (.yield l) #[] #[], .pointer (some ⟨Bs, 0, none⟩)] W fun e W' => (∃ v, e = .returned v) ∧ J W' := by
  refine callsIn_of_wp Tryz.func113 rfl trivial ?_ rfl
  simp only [Tryz.ntmps113, List.size_toArray, List.length_cons, List.length_nil, Nat.reduceAdd, Nat.reduceSub, Array.replicate_succ, Array.replicate_zero, List.push_toArray, List.append_toArray, List.nil_append, List.cons_append]
  gi_wp2
  gi_loopw [3] (fun i wr => i = .int .i64 (-1) ∧ J wr) (fun _ _ => 0)
  case atStart => exact ⟨rfl, h0⟩
  case round =>
    obtain ⟨rfl, hJ⟩ := hrel
    gi_wp2
    go_end0
    exact ⟨⟨_, rfl⟩, hJ⟩

set_option maxHeartbeats 1000000 in
/-- slices.Backward boxes the slice; the function that it answers has the box. -/
theorem backward_in (m : Nat) (pv : Value) (w : World) (h1 : pv.oneCell' = true) (h2 : pv.cells = #[pv]) :
    CallsIn Fence.wide m Tryz.prog 84 #[pv] w fun e w' => e = .returned (.func (.func 113) #[] #[.pointer (some ⟨w.heap.size, 0, none⟩)]) ∧ w' = w.alloc (.cells #[pv] 66) := by
  refine callsIn_of_wp Tryz.func84 rfl trivial ?_ rfl
  simp only [Tryz.ntmps84, List.size_toArray, List.length_cons, List.length_nil, Nat.reduceAdd, Nat.reduceSub, Array.replicate_succ, Array.replicate_zero, List.push_toArray, List.append_toArray, List.nil_append, List.cons_append]
  gi_wp2
  go_ret
  exact ⟨rfl, rfl⟩

/-- slices.Backward's function gives the writes from the last to the first, to every loop body that keeps what it reads. -/
theorem back_stops (m Bs Pb n : Nat) (pv : Value) (l : List (At n)) (w : World) (hl : l.length ≤ maxLen) (hx : ∀ j (h : j < l.length), l[j].1.1 = j) (hBs : w.cell? ⟨Bs, 0, none⟩ = some pv)
    (hpv : (pv = .slice none 0 0 ∧ l = []) ∨ ∃ cap, pv = .slice (some ⟨Pb, 0, none⟩) l.length cap) (hc : ∀ j (h : j < l.length), w.rangeAt Pb (j * 65) l[j].1.2.cells) :
    SeqStopsK Fence.wide m Tryz.prog 113 #[.pointer (some ⟨Bs, 0, none⟩)] (atEnc n) (KpB Bs Pb) (fun ys => ys = fromLast n l 0) (fun _ => True) l.length w := fun lo J Jx W hW _ _ hY h0 => by
  have hBl := World.block_lt_of_cell? w _ hBs
  have hBs' : W.cell? ⟨Bs, 0, none⟩ = some pv := (hW.cell (p := ⟨Bs, 0, none⟩) hBl).trans hBs
  rcases hpv with ⟨rfl, rfl⟩ | ⟨cap, rfl⟩
  · exact (back_nil m lo Bs (J []) W hBs' h0).mono fun e W' ⟨he, hj⟩ => ⟨he, .inl ⟨_, rfl, by simpa [fromLast] using hj⟩⟩
  · refine (back_core m lo Bs Pb n l.length cap (fun j => if h : j < l.length then l[j].1.2.cells else []) (fun j => if h : j < l.length then atEnc n l[j] else #[]) hl (fun k W => J (fromLast n l k) W) (fun W => ∃ pre, Jx pre W) (KpB Bs Pb)
      (fun j hj => by simp only [dif_pos hj]; simp [Wr.cells, wrL_length]) (fun _ _ h => h) (fun j hj => by simp only [dif_pos hj, atEnc, hx j hj]) ?_ W hBs' (fun j hj => ?_) ?_).mono ?_
    · intro k W1 hk hJ
      have := hY (fromLast n l (k + 1)) l[k] W1 hJ (by rw [fromLast_length]; omega)
      rw [← fromLast_succ n l k hk] at this
      simp only [dif_pos hk]
      obtain ⟨fn, tmps, assign, body, e1, e2⟩ := this
      refine ⟨fn, tmps, assign, body, e1, e2.mono ?_⟩
      rintro e W' (⟨he, h1, h2⟩ | ⟨he, h1⟩)
      · exact .inl ⟨he, h1, h2⟩
      · exact .inr ⟨he, _, h1⟩
    · simp only [dif_pos hj]
      intro q v hv
      have h1 := hc j hj q v hv
      exact (hW.cell (p := ⟨Pb, j * 65 + q, none⟩) (World.block_lt_of_cell? w _ h1)).trans h1
    · simpa [fromLast] using h0
    · rintro e W' ⟨he, hj | ⟨pre, hj⟩⟩
      · exact ⟨he, .inl ⟨_, rfl, hj⟩⟩
      · exact ⟨he, .inr ⟨pre, trivial, hj⟩⟩
end Go.Proofs.YtpoakkdkibameaaGreat
namespace Go.Proofs.YtpoakkdkibameaaGreat
open Go.RowKit Go.Shelf
set_option linter.unusedSimpArgs false
set_option linter.unusedVariables false

section
variable {P : Program} {n l : Nat} {ops : Array Oper} {op : Oper} {a : Act} {w w' : World} {K : Act → World → Prop} {Q : Exit → Act → World → Prop}
/-- An operation that defers nothing. -/
def plainOp : Op → Bool
  | .defer _ => false
  | _ => true
theorem wpOp_round {i : Nat} (hc : ∀ o, ops[i]? = some o → plainOp o.op = true) (hQ : ¬ LetsOut Q) (h : wpOp P ops Q i K a w) : wpOpIn (Fence.wide.inRound l) n P ops Q i K a w := by
  unfold wpOp at h
  unfold wpOpIn
  cases ho : ops[i]? with
  | none => rw [ho] at h; exact h
  | some o =>
    rw [ho] at h
    have hco := hc o ho
    simp only at h ⊢
    split
    · rename_i hw
      rw [if_pos hw] at h
      rcases h with h | ⟨_, hl⟩
      · refine ⟨fun f hf => trivial, ?_⟩
        rw [Oper.semAt_eq _ _ _ (fun c hc' => by rw [hc'] at hco; cases hco)]
        unfold Oper.wp at h
        cases hr : (execOp a.eval o).run P w with
        | ok x w1 =>
          rw [hr] at h
          cases x with
          | value v => exact h
          | skip => exact h
          | defer d => exact h
          | enter f args =>
            refine ⟨fun e => (by cases e), ?_⟩
            exact (callsIn_wide (n := n - 1)).2 h
          | row r args =>
            refine ⟨fun e => (by cases e), fun c cs _ => ?_⟩
            obtain ⟨v, w', hr', hs'⟩ := (h : Rows P r args w1 _) c cs
            exact ⟨v, w', hr', stepsIn_wide.2 hs'⟩
          | _ => exact (h : False).elim
        | halt e w1 =>
          rw [hr] at h
          cases e <;> first | exact h | exact (h : False).elim
      · exact absurd hl hQ
    · rename_i hw
      rw [if_neg hw] at h
      exact ⟨fun f hf => trivial, h⟩
theorem wpAny_round {md : Region.Mode} (hc : ∀ (i : Nat) (o : Oper), ops[i]? = some o → plainOp o.op = true) (hQ : ¬ LetsOut Q) : ∀ (fuel : Nat) (listed : Array Bool) (a : Act) (w : World), wpAny P md ops Q fuel listed a w → wpAnyIn (Fence.wide.inRound l) n P md ops Q fuel listed a w
  | 0, _, _, _, h => h
  | fuel + 1, _, _, _, h => ⟨h.1, fun i hi => wpOp_round (hc i) hQ (wpOp_mono (fun a' w' h' => wpAny_round hc hQ fuel _ a' w' h') (h.2 i hi))⟩
/-- A region that draws its order, within a round. -/
theorem wpIn_region_round {id : Nat} {S : World → Prop} (hm : P.follows .mixedOrders = true) (hc : ops.all (fun o => plainOp o.op) = true) (hQ : ¬ LetsOut Q) (hS : S w.drew)
    (h : S w.drew → wpAnyH P .any ops Q S ops.size (Array.replicate ops.size false) a w.drew) : (Code.region id ops true).wpIn (Fence.wide.inRound l) n P Q a w :=
  wpIn_region_any hm (wpAny_round (fun i o ho => by
    rw [Array.all_eq_true_iff_forall_mem] at hc
    exact hc o (Array.mem_of_getElem? ho)) hQ _ _ _ _ (wpAny_of_held _ _ _ _ (h hS)))
/-- A call of a function, by its contract. -/
theorem wp_call_func {f : Nat} (args : Array Operand) (tys : Array TypeId) (ho : op.op = .call { callee := .value (.func f), args := args, argTypes := tys }) (vs : Array Value) (hvs : args.map a.eval = vs) (he : ∀ args w, (callFunc f args).run P w = .ok (.enter f args) w)
    {R : Ending → World → Prop} (hc : Calls P f vs w R) (hR : ∀ e w', R e w' → ∃ v, e = .returned v ∧ K (a.put op.dst v) w') : op.wp P a w K Q := by
  have hr : (execOp a.eval op).run P w = .ok (.enter f vs) w := by
    simp [execOp, ho, resolve, invoke, go_sem, he, hvs, Result.andThen]
  unfold Oper.wp
  rw [hr, Oper.upon_enter]
  refine hc.mono fun e w' h => ?_
  obtain ⟨v, rfl, hk⟩ := hR e w' h
  exact hk
end
end Go.Proofs.YtpoakkdkibameaaGreat
namespace Go.Proofs.YtpoakkdkibameaaGreat
open Go.RowKit Go.Maps
set_option linter.unusedSimpArgs false
set_option linter.unusedVariables false

/-- An element is told as the value itself. -/
def hv : Value → Option (DataW Value × List MemPlace) := fun v => some (.held v, [])
def entL (l : List (Int × Value)) : List (Lit × DataW Value) := l.map fun p => (.int .i64 p.1, .held p.2)
section
variable {α : Type}
def Rise (l : List (Int × α)) : Prop := l.Pairwise fun p q => p.1 < q.1
def getL (l : List (Int × α)) (k : Int) : Option α := (l.find? fun p => p.1 == k).map (·.2)
def delL (l : List (Int × α)) (k : Int) : List (Int × α) := l.filter fun p => !(p.1 == k)
def insL (x : Int × α) : List (Int × α) → List (Int × α)
  | [] => [x]
  | y :: r => if x.1 < y.1 then x :: y :: r else y :: insL x r
def putL (l : List (Int × α)) (k : Int) (v : α) : List (Int × α) := insL (k, v) (delL l k)

end
theorem entL_length (l : List (Int × Value)) : (entL l).length = l.length := by simp [entL]
theorem sameKey_int (a b : Int) : (Lit.int .i64 a).sameKey (.int .i64 b) = (a == b) := by
  by_cases h : a = b <;> simp [Lit.sameKey, h]
theorem entL_find (l : List (Int × Value)) (k : Int) : (entL l).find? (fun p => p.1.sameKey (.int .i64 k)) = (l.find? fun p => p.1 == k).map fun p => (.int .i64 p.1, .held p.2) := by
  induction l with
  | nil => rfl
  | cons x r ih =>
    simp only [entL, List.map_cons, List.find?_cons, sameKey_int]
    cases x.1 == k with
    | true => rfl
    | false => exact ih
theorem entL_at (l : List (Int × Value)) (k : Int) (z : Value) : (DataW.map (entL l)).atKey (.int .i64 k) (.held z) = .held ((getL l k).getD z) := by
  simp only [DataW.atKey, entL_find, getL]
  cases l.find? fun p => p.1 == k <;> rfl
theorem entL_has (l : List (Int × Value)) (k : Int) : Maps.has (DataW.map (entL l)) (.int .i64 k) = (getL l k).isSome := by
  rw [Maps.has_eq]
  induction l with
  | nil => rfl
  | cons x r ih =>
    simp only [entL, List.map_cons, List.any_cons, sameKey_int, getL, List.find?_cons]
    cases x.1 == k with
    | true => rfl
    | false =>
      simp only [getL] at ih
      rw [Bool.false_or]
      exact ih
theorem entL_filter (l : List (Int × Value)) (k : Int) : (entL l).filter (fun p => !p.1.sameKey (.int .i64 k)) = entL (delL l k) := by
  induction l with
  | nil => rfl
  | cons x r ih =>
    simp only [entL, delL, List.map_cons, List.filter_cons, sameKey_int]
    cases x.1 == k with
    | true => simpa [entL, delL] using ih
    | false => simpa [entL, delL] using ih
theorem entL_insert (x : Int × Value) (l : List (Int × Value)) : DataW.insert (.int .i64 x.1, .held x.2) (entL l) = entL (insL x l) := by
  induction l with
  | nil => rfl
  | cons y r ih =>
    simp only [entL, List.map_cons, DataW.insert, insL, Lit.before]
    by_cases h : x.1 < y.1
    · simp [h]
    · have := ih
      simp only [entL] at this
      simp [h, this]
theorem entL_put (l : List (Int × Value)) (k : Int) (v : Value) : (DataW.map (entL l)).put (.int .i64 k) (.held v) = .map (entL (putL l k v)) := by
  simp only [DataW.put, entL_filter, putL]
  rw [← entL_insert (k, v)]
theorem entL_del (l : List (Int × Value)) (k : Int) : (DataW.map (entL l)).del (.int .i64 k) = .map (entL (delL l k)) := by
  simp only [DataW.del, entL_filter]

section
variable {α : Type}
theorem insL_mem (x : Int × α) (l : List (Int × α)) (p : Int × α) : p ∈ insL x l ↔ p = x ∨ p ∈ l := by
  induction l with
  | nil => simp [insL]
  | cons y r ih =>
    simp only [insL]
    split
    · simp
    · simp only [List.mem_cons, ih]
      constructor
      · rintro (h | h | h)
        · exact .inr (.inl h)
        · exact .inl h
        · exact .inr (.inr h)
      · rintro (h | h | h)
        · exact .inr (.inl h)
        · exact .inl h
        · exact .inr (.inr h)
theorem Rise.del {l : List (Int × α)} (h : Rise l) (k : Int) : Rise (delL l k) := List.Pairwise.filter _ h
theorem delL_mem (l : List (Int × α)) (k : Int) (p : Int × α) : p ∈ delL l k ↔ p ∈ l ∧ p.1 ≠ k := by simp [delL]
theorem Rise.ins {x : Int × α} : ∀ {l : List (Int × α)}, Rise l → (∀ p ∈ l, p.1 ≠ x.1) → Rise (insL x l)
  | [], _, _ => List.pairwise_singleton _ _
  | y :: r, h, hn => by
    have hy := List.pairwise_cons.1 h
    simp only [insL]
    split
    · rename_i hlt
      refine List.pairwise_cons.2 ⟨fun p hp => ?_, h⟩
      rcases List.mem_cons.1 hp with rfl | hp
      · exact hlt
      · exact Int.lt_trans hlt (hy.1 p hp)
    · rename_i hlt
      refine List.pairwise_cons.2 ⟨fun p hp => ?_, Rise.ins hy.2 (fun p hp => hn p (List.mem_cons_of_mem _ hp))⟩
      rcases (insL_mem x r p).1 hp with rfl | hp
      · have := hn y (List.mem_cons_self ..)
        omega
      · exact hy.1 p hp
theorem Rise.put {l : List (Int × α)} (h : Rise l) (k : Int) (v : α) : Rise (putL l k v) :=
  (h.del k).ins (fun p hp => ((delL_mem l k p).1 hp).2)
theorem putL_mem (l : List (Int × α)) (k : Int) (v : α) (p : Int × α) : p ∈ putL l k v ↔ p = (k, v) ∨ (p ∈ l ∧ p.1 ≠ k) := by
  simp [putL, insL_mem, delL_mem]
/-- What is told of a key, by the entries. -/
theorem getL_mem {l : List (Int × α)} (h : Rise l) (k : Int) (v : α) : getL l k = some v ↔ (k, v) ∈ l := by
  induction l with
  | nil => simp [getL]
  | cons x r ih =>
    have hx := List.pairwise_cons.1 h
    have ih := ih hx.2
    simp only [getL, List.find?_cons] at ih ⊢
    by_cases e : x.1 = k
    · subst e
      simp only [beq_self_eq_true, Option.map_some, Option.some.injEq, List.mem_cons]
      constructor
      · rintro rfl; exact .inl rfl
      · rintro (e | e)
        · rw [← e]
        · exact absurd (hx.1 _ e) (by simp)
    · have : (x.1 == k) = false := by simpa using e
      simp only [this, List.mem_cons]
      rw [ih]
      constructor
      · exact .inr
      · rintro (e' | e')
        · exact absurd (by rw [← e']) e
        · exact e'
theorem getL_none {l : List (Int × α)} (k : Int) : getL l k = none ↔ ∀ p ∈ l, p.1 ≠ k := by
  simp [getL, List.find?_eq_none]
theorem getL_put_same {l : List (Int × α)} (h : Rise l) (k : Int) (v : α) : getL (putL l k v) k = some v :=
  (getL_mem (h.put k v) k v).2 ((putL_mem _ _ _ _).2 (.inl rfl))
theorem getL_put_other {l : List (Int × α)} (h : Rise l) {k k' : Int} (hk : k' ≠ k) (v : α) : getL (putL l k v) k' = getL l k' := by
  cases e : getL l k' with
  | none =>
    rw [getL_none] at e ⊢
    intro p hp
    rcases (putL_mem _ _ _ _).1 hp with rfl | hp
    · exact fun e' => hk e'.symm
    · exact e p hp.1
  | some u => rw [getL_mem (h.put k v), putL_mem]; exact .inr ⟨(getL_mem h _ _).1 e, hk⟩
theorem getL_del_same (l : List (Int × α)) (k : Int) : getL (delL l k) k = none := by
  rw [getL_none]
  exact fun p hp => ((delL_mem _ _ _).1 hp).2
theorem getL_del_other {l : List (Int × α)} (h : Rise l) {k k' : Int} (hk : k' ≠ k) : getL (delL l k) k' = getL l k' := by
  cases e : getL l k' with
  | none =>
    rw [getL_none] at e ⊢
    exact fun p hp => e p ((delL_mem _ _ _).1 hp).1
  | some u => rw [getL_mem (h.del k), delL_mem]; exact ⟨(getL_mem h _ _).1 e, hk⟩

/-- Two lists that rise and tell the same are one. -/
theorem Rise.ext : ∀ {l m : List (Int × α)}, Rise l → Rise m → (∀ k, getL l k = getL m k) → l = m := by
  intro l m hl hm h
  have hmem : ∀ p, p ∈ l ↔ p ∈ m := fun p => by rw [← getL_mem hl p.1 p.2, h, getL_mem hm p.1 p.2]
  induction l generalizing m with
  | nil =>
    cases m with
    | nil => rfl
    | cons y r => exact absurd ((hmem y).2 (List.mem_cons_self ..)) (by simp)
  | cons x r ih =>
    cases m with
    | nil => exact absurd ((hmem x).1 (List.mem_cons_self ..)) (by simp)
    | cons y s =>
      have hx := List.pairwise_cons.1 hl
      have hy := List.pairwise_cons.1 hm
      have e : x = y := by
        rcases List.mem_cons.1 ((hmem x).1 (List.mem_cons_self ..)) with e | e
        · exact e
        rcases List.mem_cons.1 ((hmem y).2 (List.mem_cons_self ..)) with e' | e'
        · exact e'.symm
        have h1 := hx.1 y e'
        have h2 := hy.1 x e
        omega
      subst e
      have hm' : ∀ p, p ∈ r ↔ p ∈ s := fun p => by
        constructor
        · intro hp
          rcases List.mem_cons.1 ((hmem p).1 (List.mem_cons_of_mem _ hp)) with rfl | h'
          · exact absurd (hx.1 p hp) (by omega)
          · exact h'
        · intro hp
          rcases List.mem_cons.1 ((hmem p).2 (List.mem_cons_of_mem _ hp)) with rfl | h'
          · exact absurd (hy.1 p hp) (by omega)
          · exact h'
      rw [ih hx.2 hy.2 (fun k => by
        cases e : getL s k with
        | none =>
          rw [getL_none] at e ⊢
          exact fun p hp => e p ((hm' p).1 hp)
        | some u => rw [getL_mem hx.2, hm', ← getL_mem hy.2]; exact e) hm']

theorem delL_id {l : List (Int × α)} {k : Int} (h : getL l k = none) : delL l k = l := by
  rw [getL_none] at h
  exact List.filter_eq_self.2 fun p hp => by simpa using h p hp

theorem insL_map {β : Type} (g : Int × α → β) (x : Int × α) (l : List (Int × α)) : insL (x.1, g x) (l.map fun p => (p.1, g p)) = (insL x l).map fun p => (p.1, g p) := by
  induction l with
  | nil => rfl
  | cons y r ih =>
    simp only [List.map_cons, insL]
    split
    · simp
    · rw [ih]; simp
theorem delL_map {β : Type} (g : Int × α → β) (k : Int) (l : List (Int × α)) : delL (l.map fun p => (p.1, g p)) k = (delL l k).map fun p => (p.1, g p) := by
  simp only [delL, List.filter_map]
  rfl
theorem getL_map {β : Type} (g : Int × α → β) (k : Int) (l : List (Int × α)) : getL (l.map fun p => (p.1, g p)) k = (l.find? fun p => p.1 == k).map g := by
  induction l with
  | nil => rfl
  | cons y r ih =>
    simp only [getL, List.map_cons, List.find?_cons] at ih ⊢
    cases y.1 == k with
    | true => rfl
    | false => exact ih
theorem find_key {l : List (Int × α)} {k : Int} {p : Int × α} (h : (l.find? fun p => p.1 == k) = some p) : p ∈ l ∧ p.1 = k :=
  ⟨List.mem_of_find?_eq_some h, by simpa using List.find?_some h⟩
theorem putL_map {β : Type} (g g' : Int × α → β) (x : Int × α) (l : List (Int × α)) (h : ∀ p, p.1 ≠ x.1 → g' p = g p) : putL (l.map fun p => (p.1, g p)) x.1 (g' x) = (putL l x.1 x.2).map fun p => (p.1, g' p) := by
  unfold putL
  rw [delL_map]
  have e : (delL l x.1).map (fun p => (p.1, g p)) = (delL l x.1).map fun p => (p.1, g' p) := by
    apply List.map_congr_left
    intro p hp
    rw [h p ((delL_mem _ _ _).1 hp).2]
  rw [e, insL_map g' x]
theorem Rise.map {β : Type} (g : Int × α → β) {l : List (Int × α)} : Rise (l.map fun p => (p.1, g p)) ↔ Rise l := by
  unfold Rise
  rw [List.pairwise_map]
/-- As many entries as there are keys, at most. -/
theorem Rise.len : ∀ {l : List (Int × α)} {a b : Int}, Rise l → (∀ p ∈ l, a ≤ p.1 ∧ p.1 < b) → (l.length : Int) ≤ if a ≤ b then b - a else 0
  | [], a, b, _, _ => by split <;> simp <;> omega
  | x :: r, a, b, h, hb => by
    have hx := List.pairwise_cons.1 h
    have h1 := hb x (List.mem_cons_self ..)
    have := Rise.len (a := x.1 + 1) (b := b) hx.2 (fun p hp => ⟨by have := hx.1 p hp; omega, (hb p (List.mem_cons_of_mem _ hp)).2⟩)
    simp only [List.length_cons]
    split at this <;> split <;> omega
end
/-- Block b is a map whose entries are l. -/
structure MapAt (w : World) (b : Nat) (l : List (Int × Value)) : Prop where
  own : w.ownsMap Tryz.prog 3 hv b l.length (.map (entL l))
  rise : Rise l

theorem MapAt.lt {w : World} {b : Nat} {l : List (Int × Value)} (h : MapAt w b l) : b < w.heap.size := h.own.lt
theorem MapAt.frame {w w' : World} {b : Nat} {l : List (Int × Value)} {bs : Nat → Prop} (h : MapAt w b l) (ho : Only bs w w') (hn : ¬ bs b) : MapAt w' b l := by
  refine ⟨?_, h.rise⟩
  have hlt := h.lt
  obtain ⟨es, clock, hb, F, hs, hD⟩ := h.own
  exact ⟨es, clock, (ho.block b hlt hn).trans hb, F, hs, hD⟩
theorem MapAt.shrink {w : World} {b n : Nat} {l : List (Int × Value)} (h : w.ownsMap Tryz.prog 3 hv b n (.map (entL l))) (hr : Rise l) : MapAt w b l := by
  refine ⟨?_, hr⟩
  obtain ⟨es, clock, hb, F, hs, hD⟩ := h
  refine ⟨es, clock, hb, F, ?_, hD⟩
  have := congrArg (fun D : DataW Value => match D with | .map es => es.length | _ => 0) hD
  simp only [entL_length, length_sorted, List.length_map, Array.length_toList] at this
  omega
theorem MapAt.made (w : World) : MapAt (w.alloc (.map #[] 0)) w.heap.size [] := ⟨World.ownsMap_made w _ _ _, List.Pairwise.nil⟩
theorem map_keyed : Keyed Tryz.prog 3 := int_keyed Tryz.underlying3
def pg0 : Value := .agg #[.int .i64 0, .slice none 0 0]
theorem zero_pg (w : World) : (zeroValue 108).run Tryz.prog w = .ok pg0 w := by kernel_rfl
theorem wf64 {k : Int} (h : -9223372036854775808 ≤ k ∧ k ≤ 9223372036854775807) : (Lit.int .i64 k).wf = true := WalkArith.wf_i64 h
/-- v, ok := m[k] -/
theorem MapAt.look {w : World} {b : Nat} {l : List (Int × Value)} (h : MapAt w b l) (k : Int) (hk : -9223372036854775808 ≤ k ∧ k ≤ 9223372036854775807) :
    (Instr.lookup 87 (.map (some b)) (.int .i64 k) true).run Tryz.prog w = .ok (.tuple #[(getL l k).getD pg0, .bool (getL l k).isSome]) w := by
  obtain ⟨v, ps, hr, hR⟩ := h.own.look_ok map_keyed Tryz.underlying87 (zero_pg w) (zd := .held pg0) (zp := []) rfl (keyOf_int_mk Tryz.underlying3 (wf64 hk))
  rw [entL_at] at hR
  rw [entL_has] at hr
  simp only [hv, Option.some.injEq, Prod.mk.injEq, DataW.held.injEq] at hR
  rw [hr, hR.1]
/-- v := m[k] -/
theorem MapAt.look1 {w : World} {b : Nat} {l : List (Int × Value)} (h : MapAt w b l) (k : Int) (hk : -9223372036854775808 ≤ k ∧ k ≤ 9223372036854775807) :
    (Instr.lookup 87 (.map (some b)) (.int .i64 k) false).run Tryz.prog w = .ok ((getL l k).getD pg0) w := by
  obtain ⟨v, ps, hr, hR⟩ := h.own.lookup map_keyed Tryz.underlying87 (zero_pg w) (zd := .held pg0) (zp := []) rfl (keyOf_int_mk Tryz.underlying3 (wf64 hk))
  rw [entL_at] at hR
  simp only [hv, Option.some.injEq, Prod.mk.injEq, DataW.held.injEq] at hR
  rw [hr, hR.1]
theorem turned_only {w w' : World} {b : Nat} (h : w.mapTurned w' b) : Only (fun i => i = b) w w' ∧ w'.heap.size = w.heap.size := by
  have hg := h.grown
  refine ⟨⟨hg.os, hg.tape, hg.output, hg.size, fun k hk hn => hg.block k hk (fun e => hn (by injection e))⟩, ?_⟩
  obtain ⟨es, clock, es', clock', hb, rfl⟩ := h
  simp [ChangeMaps.setBlock]
/-- m[k] = v -/
theorem MapAt.store {w : World} {b : Nat} {l : List (Int × Value)} (h : MapAt w b l) (k : Int) (hk : -9223372036854775808 ≤ k ∧ k ≤ 9223372036854775807) (hl : l.length < maxLen) (v : Value) :
    ∃ w', (Instr.mapUpdate 87 (.map (some b)) (.int .i64 k) v).run Tryz.prog w = .ok () w' ∧ MapAt w' b (putL l k v) ∧ Only (fun i => i = b) w w' ∧ w'.heap.size = w.heap.size := by
  obtain ⟨w', hr, ho, ht⟩ := h.own.store map_keyed Tryz.underlying87 hl (keyOf_int_mk Tryz.underlying3 (wf64 hk)) (val := v) (d := .held v) (ps := []) rfl
  rw [entL_put] at ho
  exact ⟨w', hr, MapAt.shrink ho (h.rise.put k v), turned_only ht⟩
/-- delete(m, k) -/
theorem MapAt.drop {w : World} {b : Nat} {l : List (Int × Value)} (h : MapAt w b l) (k : Int) (hk : -9223372036854775808 ≤ k ∧ k ≤ 9223372036854775807) (ty : TypeId) :
    ∃ w', (Builtin.delete_ #[87, 3] ty #[.map (some b), .int .i64 k]).run Tryz.prog w = .ok (.tuple #[]) w' ∧ MapAt w' b (delL l k) ∧ Only (fun i => i = b) w w' ∧ w'.heap.size = w.heap.size := by
  obtain ⟨w', hr, ho, ht⟩ := h.own.drop map_keyed Tryz.underlying87 (keyOf_int_mk Tryz.underlying3 (wf64 hk)) ty
  rw [entL_del] at ho
  exact ⟨w', hr, MapAt.shrink ho (h.rise.del k), turned_only ht⟩
end Go.Proofs.YtpoakkdkibameaaGreat
namespace Go.Proofs.YtpoakkdkibameaaGreat

/-- One step of the register. -/
def st (r : Nat) : Nat := if r % 2 = 1 then (r / 2) ^^^ 3988292384 else r / 2
/-- k steps. -/
def it : Nat → Nat → Nat
  | 0, r => r
  | k + 1, r => st (it k r)
/-- One byte. -/
def eat (r c : Nat) : Nat := it 8 (r ^^^ c)
/-- The register behind the bytes. -/
def reg (l : List Nat) : Nat := l.foldl eat 4294967295
def sumN (l : List Nat) : Nat := reg l ^^^ 4294967295

theorem st_lt {r : Nat} (h : r < 4294967296) : st r < 4294967296 := by
  unfold st
  split
  · exact Nat.xor_lt_two_pow (n := 32) (by omega) (by omega)
  · omega
theorem it_lt {r : Nat} (h : r < 4294967296) : ∀ k, it k r < 4294967296
  | 0 => h
  | k + 1 => st_lt (it_lt h k)
theorem eat_lt {r c : Nat} (h : r < 4294967296) (hc : c < 256) : eat r c < 4294967296 := it_lt (Nat.xor_lt_two_pow (n := 32) (by omega) (by omega)) 8
theorem fold_lt : ∀ (l : List Nat) (r : Nat), r < 4294967296 → (∀ z ∈ l, z < 256) → l.foldl eat r < 4294967296
  | [], _, h, _ => h
  | c :: l, _, h, hl => fold_lt l _ (eat_lt h (hl c List.mem_cons_self)) (fun z hz => hl z (List.mem_cons_of_mem _ hz))
theorem reg_lt (l : List Nat) (hl : ∀ z ∈ l, z < 256) : reg l < 4294967296 := fold_lt l _ (by omega) hl
theorem sumN_lt (l : List Nat) (hl : ∀ z ∈ l, z < 256) : sumN l < 4294967296 := Nat.xor_lt_two_pow (n := 32) (reg_lt l hl) (by omega)

theorem xor_half (a b : Nat) : (a ^^^ b) / 2 = a / 2 ^^^ b / 2 := by
  have := Nat.shiftRight_xor_distrib (a := a) (b := b) (i := 1)
  simpa [Nat.shiftRight_eq_div_pow] using this
theorem xor_par (a b : Nat) : (a ^^^ b) % 2 = (a + b) % 2 := by
  have h := Nat.xor_mod_two_pow (a := a) (b := b) (n := 1)
  rw [Nat.pow_one] at h
  have k : ∀ x, x < 2 → ∀ y, y < 2 → x ^^^ y = (x + y) % 2 := by decide
  rw [h, k _ (by omega) _ (by omega)]
  omega
theorem xor_eq {a b : Nat} (h : a ^^^ b = 0) : a = b := by
  have : a ^^^ b ^^^ b = a := by rw [Nat.xor_assoc, Nat.xor_self, Nat.xor_zero]
  rw [← this, h, Nat.zero_xor]
theorem st_xor (a b : Nat) : st (a ^^^ b) = st a ^^^ st b := by
  have hp := xor_par a b
  have hx : ∀ x y z : Nat, x ^^^ y ^^^ (z ^^^ y) = x ^^^ z := fun x y z => by
    rw [Nat.xor_comm z y, ← Nat.xor_assoc, Nat.xor_assoc x y y, Nat.xor_self, Nat.xor_zero]
  unfold st
  rw [xor_half]
  by_cases h1 : a % 2 = 1 <;> by_cases h2 : b % 2 = 1
  · rw [if_neg (by omega), if_pos h1, if_pos h2, hx]
  · rw [if_pos (by omega), if_pos h1, if_neg h2, Nat.xor_assoc, Nat.xor_assoc, Nat.xor_comm (b / 2)]
  · rw [if_pos (by omega), if_neg h1, if_pos h2, Nat.xor_assoc]
  · rw [if_neg (by omega), if_neg h1, if_neg h2]
theorem it_xor (a b : Nat) : ∀ k, it k (a ^^^ b) = it k a ^^^ it k b
  | 0 => rfl
  | k + 1 => by simp only [it]; rw [it_xor a b k, st_xor]
theorem st_zero : st 0 = 0 := by decide
theorem it_zero : ∀ k, it k 0 = 0
  | 0 => rfl
  | k + 1 => by simp only [it]; rw [it_zero k, st_zero]
theorem st_ker {r : Nat} (h : r < 4294967296) (h0 : st r = 0) : r = 0 := by
  unfold st at h0
  split at h0
  · have := xor_eq h0
    omega
  · omega
theorem it_ker {r : Nat} (h : r < 4294967296) : ∀ k, it k r = 0 → r = 0
  | 0, h0 => h0
  | k + 1, h0 => it_ker h k (st_ker (it_lt h k) h0)
theorem it_add (j r : Nat) : ∀ k, it (j + k) r = it k (it j r)
  | 0 => rfl
  | k + 1 => by show st (it (j + k) r) = st (it k (it j r)); rw [it_add j r k]
theorem it_pow (d : Nat) : ∀ k, it k (d * 2 ^ k) = d
  | 0 => by simp [it]
  | k + 1 => by
    rw [show k + 1 = 1 + k by omega, it_add]
    have : it 1 (d * 2 ^ (1 + k)) = d * 2 ^ k := by
      have e : d * 2 ^ (1 + k) = 2 * (d * 2 ^ k) := by rw [Nat.pow_add]; simp [Nat.mul_left_comm]
      show st (d * 2 ^ (1 + k)) = _
      rw [e]
      unfold st
      rw [if_neg (by omega)]
      omega
    rw [this, it_pow d k]

/-- Four registers whose xor is 0 stay so. -/
theorem eat4 {a b c d w x y z : Nat} (hr : a ^^^ b ^^^ c ^^^ d = 0) (hc : w ^^^ x ^^^ y ^^^ z = 0) : eat a w ^^^ eat b x ^^^ eat c y ^^^ eat d z = 0 := by
  unfold eat
  rw [← it_xor, ← it_xor, ← it_xor]
  have : a ^^^ w ^^^ (b ^^^ x) ^^^ (c ^^^ y) ^^^ (d ^^^ z) = (a ^^^ b ^^^ c ^^^ d) ^^^ (w ^^^ x ^^^ y ^^^ z) := by ac_rfl
  rw [this, hr, hc]
  exact it_zero 8
theorem sum_xor4 (f g h : Nat → Nat) : ∀ n, reg ((List.range n).map f) ^^^ reg ((List.range n).map g) ^^^ reg ((List.range n).map h) ^^^ reg ((List.range n).map fun i => f i ^^^ g i ^^^ h i) = 0
  | 0 => by simp [reg]
  | n + 1 => by
    unfold reg
    simp only [List.range_succ, List.map_append, List.map_cons, List.map_nil, List.foldl_append, List.foldl_cons, List.foldl_nil]
    exact eat4 (sum_xor4 f g h n) (by rw [Nat.xor_self])
theorem sumN_xor4 (f g h : Nat → Nat) (n : Nat) : sumN ((List.range n).map f) ^^^ sumN ((List.range n).map g) ^^^ sumN ((List.range n).map h) ^^^ sumN ((List.range n).map fun i => f i ^^^ g i ^^^ h i) = 0 := by
  have := sum_xor4 f g h n
  unfold sumN
  have e : ∀ a b c d o : Nat, a ^^^ o ^^^ (b ^^^ o) ^^^ (c ^^^ o) ^^^ (d ^^^ o) = (a ^^^ b ^^^ c ^^^ d) ^^^ ((o ^^^ o) ^^^ (o ^^^ o)) := fun a b c d o => by ac_rfl
  rw [e, this]
  simp
end Go.Proofs.YtpoakkdkibameaaGreat
namespace Go.Proofs.YtpoakkdkibameaaGreat
open Go.RowKit
set_option linter.unusedSimpArgs false
set_option linter.unusedVariables false

theorem bx32 (a b : Nat) (ha : a < 4294967296) (hb : b < 4294967296) : bits .xor .u32 (a : Int) (b : Int) = ((a ^^^ b : Nat) : Int) := by
  have hx : a ^^^ b < 4294967296 := Nat.xor_lt_two_pow (n := 32) ha hb
  have e1 : a % 2 ^ IntKind.u32.bits = a := Nat.mod_eq_of_lt ha
  have e2 : b % 2 ^ IntKind.u32.bits = b := Nat.mod_eq_of_lt hb
  simp only [bits, BitVec.ofInt_natCast, BitVec.toNat_xor, BitVec.toNat_ofNat, e1, e2]
  rw [IntKind.wrap_u32]
  omega
theorem bx8 (a b : Nat) (ha : a < 256) (hb : b < 256) : bits .xor .u8 (a : Int) (b : Int) = ((a ^^^ b : Nat) : Int) := by
  have hx : a ^^^ b < 256 := Nat.xor_lt_two_pow (n := 8) ha hb
  have e1 : a % 2 ^ IntKind.u8.bits = a := Nat.mod_eq_of_lt ha
  have e2 : b % 2 ^ IntKind.u8.bits = b := Nat.mod_eq_of_lt hb
  simp only [bits, BitVec.ofInt_natCast, BitVec.toNat_xor, BitVec.toNat_ofNat, e1, e2]
  rw [IntKind.wrap_u8]
  omega
theorem ba32 (a : Nat) (ha : a < 4294967296) : bits .and .u32 (a : Int) 1 = ((a % 2 : Nat) : Int) := by
  have e1 : a % 2 ^ IntKind.u32.bits = a := Nat.mod_eq_of_lt ha
  have e2 : (1 : Int) = ((1 : Nat) : Int) := rfl
  have e3 : 1 % 2 ^ IntKind.u32.bits = 1 := rfl
  rw [e2]
  simp only [bits, BitVec.ofInt_natCast, BitVec.toNat_and, BitVec.toNat_ofNat, e1, e3]
  rw [IntKind.wrap_u32, Nat.and_one_is_mod]
  omega

set_option maxHeartbeats 400000 in
theorem shift_any (r : Nat) (w : World) (h : r < 4294967296) :
    Calls Tryz.prog 141 #[.int .u32 r] w fun e w' => e = .returned (.int .u32 (it 8 r : Nat)) ∧ w' = w := by
  go_enter Tryz.func141, Tryz.ntmps141
  go_wp2
  go_loopw [0, 4] (fun a t wr => ∃ k : Nat, k ≤ 8 ∧ t = .int .i64 k ∧ a = .int .u32 (it k r : Nat) ∧ w = wr) (fun _ t _ => 8 - (intOf t).toNat)
  case atStart => exact ⟨0, by omega, rfl, rfl, rfl⟩
  case round =>
    obtain ⟨k, hk, rfl, rfl, rfl⟩ := hrel
    by_cases hlt : k < 8
    · have k0 : (k : Int) < 8 := by omega
      have HX : Hid (it (k + 1) r = st (it k r)) := rfl
      have hx := it_lt h k
      obtain ⟨x, hxx⟩ : ∃ x, x = it k r := ⟨_, rfl⟩
      rw [← hxx] at hx
      have HXX : Hid (x = it k r) := hxx
      rw [← hxx]
      clear hxx
      have hb := ba32 x hx
      by_cases h1 : x % 2 = 1
      · rw [h1] at hb
        have hs : bits .xor .u32 ((x : Int) / 2) 3988292384 = ((st x : Nat) : Int) := by
          have := bx32 (x / 2) 3988292384 (by omega) (by omega)
          simp only [st, h1, if_true]
          rw [← this]; rfl
        have H1 : Hid (x % 2 = 1) := h1
        clear h1
        go_wp2
        go_roundw
        case rel => exact ⟨k + 1, by omega, by go_num, by rw [HX.out, ← HXX.out], trivial⟩
        case measure => simp [intOf]; omega
      · have h2 : x % 2 = 0 := by omega
        rw [h2] at hb
        have hs : (x : Int) / 2 = ((st x : Nat) : Int) := by
          simp only [st, h2]; rfl
        have H1 : Hid (x % 2 = 0) := h2
        clear h1 h2
        go_wp2
        go_roundw
        case rel => exact ⟨k + 1, by omega, by go_num, by rw [HX.out, ← HXX.out], trivial⟩
        case measure => simp [intOf]; omega
    · obtain rfl : k = 8 := by omega
      go_wp2
      go_ret
      exact ⟨rfl, rfl⟩
end Go.Proofs.YtpoakkdkibameaaGreat
