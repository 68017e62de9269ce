/- What Live and Barrier leave of a disk; slices that are copied; the bytes that a call of a script writes. -/
import Derived.Test.YtaeghpfncfkgfaaT10
import Derived.Test.YtaeghpfncfkgfaaT11
import Derived.Test.YtaeghpfncfkgfaaRead
namespace Go.Proofs.Ytaeghpfncfkgfaa
open Go.RowKit
set_option linter.unusedSimpArgs false
set_option linter.unusedVariables false

/-- Live. -/
theorem live_any (p S B : Nat) (pv : Value) (d : DS) (n : Int) (w : World) (h : DiskAt w B p S pv d) (h1 : -1 ≤ n) (h2 : n ≤ 9223372036854775807) :
    Calls Try.prog 23 #[.pointer (some ⟨p, 0, none⟩), .int .i64 n] w fun e w' => e = .returned (.int .i64 0) ∧ DiskAt w' B p S pv { d with life := n } ∧ Only (fun i => i = p) w w' := by
  refine (live_ok p _ n w h1 h.c2 h.f2).mono ?_
  rintro e w' ⟨rfl, rfl⟩
  have oP : Only (fun i => i = p) w (w.setCell ⟨p, 2, none⟩ (.int .i64 n)) := (Only.refl (fun i => i = p) w).setCell _ _ (fun _ => rfl)
  have hSp : S ≠ p := Ne.symm h.pS
  obtain ⟨c, hc⟩ := h.c0
  refine ⟨rfl, ?_, oP⟩
  exact { pB := h.pB, SB := h.SB, pS := h.pS
          c0 := ⟨c, by rw [World.cell?_setCell_other _ _ _ _ (by simp)]; exact hc⟩
          c1 := by rw [World.cell?_setCell_other _ _ _ _ (by simp)]; exact h.c1
          c2 := World.cell?_setCell_same _ _ _ h.c2
          f1 := by simpa using h.f1
          f2 := by simpa using h.f2
          secs := fun i hi => ⟨oP.range (h.secs i hi).1 hSp, oP.there (h.secs i hi).2 hSp⟩
          own := oP.owns h.own (fun k hk e => h.hp (by rw [hk, e]))
          hp := h.hp, hS := h.hS, n1 := h.n1, n2 := h.n2, at_ := h.at_, l1 := h1, l2 := h2 }

theorem barred {W W' : World} {B p S : Nat} {pv : Value} {d : DS} (h : DiskAt W B p S pv d) (l : Int) (hl1 : -1 ≤ l) (hl2 : l ≤ 9223372036854775807) (oP : Only (fun i => i = p) W W') (e0 : ∀ v, W.cell? ⟨p, 0, none⟩ = some v → W'.cell? ⟨p, 0, none⟩ = some v)
    (e1 : W'.cell? ⟨p, 1, none⟩ = some (.slice none 0 0)) (e2 : W'.cell? ⟨p, 2, none⟩ = some (.int .i64 l)) (f : ∀ a, W'.frozen? a = W.frozen? a) : DiskAt W' B p S (.slice none 0 0) { d with pend := [], life := l } := by
  have hSp : S ≠ p := Ne.symm h.pS
  obtain ⟨c, hc⟩ := h.c0
  exact { pB := h.pB, SB := h.SB, pS := h.pS
          c0 := ⟨c, e0 _ hc⟩
          c1 := e1
          c2 := e2
          f1 := (f _).trans h.f1
          f2 := (f _).trans h.f2
          secs := fun i hi => ⟨oP.range (h.secs i hi).1 hSp, oP.there (h.secs i hi).2 hSp⟩
          own := World.ownsRow_nil _ _ _ _
          hp := by simp [Value.ownBlock]
          hS := by simp [Value.ownBlock]
          n1 := h.n1, n2 := h.n2
          at_ := fun x hx => by cases hx
          l1 := hl1, l2 := hl2 }
/-- Barrier on a disk that lives. -/
theorem barrier_any (p S B : Nat) (pv : Value) (d : DS) (w : World) (h : DiskAt w B p S pv d) (hl : d.life ≠ 0) :
    Calls Try.prog 17 #[.pointer (some ⟨p, 0, none⟩)] w fun e w' => e = .returned (.int .i64 0) ∧ DiskAt w' B p S (.slice none 0 0) { d with pend := [], life := aged d.life } ∧ Only (fun i => i = p) w w' := by
  have h1 := h.l1
  have h2 := h.l2
  by_cases e : d.life = -1
  · refine (barrier_end p _ w h.c1 h.f1 (by rw [← e]; exact h.c2)).mono ?_
    rintro e' w' ⟨rfl, rfl⟩
    have oP : Only (fun i => i = p) w (w.setCell ⟨p, 1, none⟩ (.slice none 0 0)) := (Only.refl (fun i => i = p) w).setCell _ _ (fun _ => rfl)
    refine ⟨rfl, barred h _ (by simp [aged, e]) (by simp [aged, e]) oP (fun v hv => by rw [World.cell?_setCell_other _ _ _ _ (by simp)]; exact hv) (World.cell?_setCell_same _ _ _ h.c1) ?_ (fun a => by simp), oP⟩
    rw [World.cell?_setCell_other _ _ _ _ (by simp), h.c2, e]; rfl
  · refine (barrier_less p _ d.life w h.c1 h.f1 h.c2 h.f2 (by omega) h2).mono ?_
    rintro e' w' ⟨rfl, rfl⟩
    have oP : Only (fun i => i = p) w ((w.setCell ⟨p, 1, none⟩ (.slice none 0 0)).setCell ⟨p, 2, none⟩ (.int .i64 (d.life - 1))) := ((Only.refl (fun i => i = p) w).setCell _ _ (fun _ => rfl)).setCell _ _ (fun _ => rfl)
    refine ⟨rfl, barred h _ (by simp only [aged]; split <;> omega) (by simp only [aged]; split <;> omega) oP (fun v hv => by rw [World.cell?_setCell_other _ _ _ _ (by simp), World.cell?_setCell_other _ _ _ _ (by simp)]; exact hv) ?_ ?_ (fun a => by simp), oP⟩
    · rw [World.cell?_setCell_other _ _ _ _ (by simp), World.cell?_setCell_same _ _ _ h.c1]
    · rw [World.cell?_setCell_same _ _ _ ((World.cell?_setCell_other _ _ _ _ (by simp)).trans h.c2)]
      simp [aged, e]

section
variable {P : Program} {op : Oper} {a : Act} {w w' : World} {K : Act → World → Prop} {Q : Exit → Act → World → Prop}
theorem wp_append_run (s x : Operand) (t : TypeId) (ho : op.op = .call { callee := .builtin .append, args := #[s, x], argTypes := #[t, t] }) (v1 v2 v' : Value) (hs : a.eval s = v1) (hx : a.eval x = v2)
    (hr : (Builtin.append_ #[t, t] op.type #[v1, v2]).run P w = .ok v' w') (h : K (a.put op.dst v') w') : op.wp P a w K Q := by
  unfold Oper.wp
  simp [execOp, ho, resolve, invoke, builtin, hs, hx, hr, Result.andThen]
  exact h
theorem step_append_run {ops : Array Oper} {E : Prop} (hgd : op.guard = none) (s x : Operand) (t : TypeId) (ho : op.op = .call { callee := .builtin .append, args := #[s, x], argTypes := #[t, t] }) (v1 v2 v' : Value) (hs : a.eval s = v1) (hx : a.eval x = v2)
    (hr : ∀ ty, (Builtin.append_ #[t, t] ty #[v1, v2]).run P w = .ok v' w') (h : K (a.put op.dst v') w') : if Region.wanted op (yielded ops a.tmps) = true then Oper.wp P op a w K Q else E := by
  have hw : Region.wanted op (yielded ops a.tmps) = true := by simp [Region.wanted, hgd]
  rw [if_pos hw]
  exact wp_append_run s x t ho v1 v2 v' hs hx (hr _) h
theorem wpList_append_run {ops : Array Oper} {rest : List Oper} (hgd : op.guard = none) (s x : Operand) (t : TypeId) (ho : op.op = .call { callee := .builtin .append, args := #[s, x], argTypes := #[t, t] }) (v1 v2 v' : Value) (hs : a.eval s = v1) (hx : a.eval x = v2)
    (hr : ∀ ty, (Builtin.append_ #[t, t] ty #[v1, v2]).run P w = .ok v' w') (h : wpList P ops Q rest (a.put op.dst v') w') : wpList P ops Q (op :: rest) a w :=
  wpList_plain hgd fun _ hK => wp_append_run s x t ho v1 v2 v' hs hx (hr _) (hK _ _ h)
end

/-- append(T{}, v...): a copy in new memory, of one-cell elements. -/
theorem app_copy (t e : TypeId) (i : TypeInfo) (z : Value) (bytes : Nat) (ht : Try.prog.underlying t = some (.slice e)) (hi : Try.prog.info? e = some i) (hz : i.zero = some z) (hsize : i.size = 1) (hby : i.bytes = bytes) (hzs : z.cells.size = 1) (hb1 : bytes = 1)
    (w : World) (v : Value) (m : Nat) (f : Nat → Value) (hv : RowAt w v m 1 f) (ho : ∀ j, (f j).oneCell' = true) (hm : m ≤ 140737488351232) :
    ∃ a cap w', (∀ ty, (Builtin.append_ #[t, t] ty #[.slice (some ⟨w.heap.size, 0, none⟩) 0 0, v]).run Try.prog (w.alloc (.cells #[] e)) = .ok (.slice a m cap) w') ∧ w'.ownsRow w.heap.size e 1 (.slice a m cap) m ((List.range m).map f) ∧ Only (fun _ => False) w w' := by
  have hown : (w.alloc (.cells #[] e)).ownsRow w.heap.size e 1 (.slice (some ⟨w.heap.size, 0, none⟩) 0 0) 0 [] := World.ownsRow_made w #[] 0 (Nat.le_refl _) (Nat.zero_le _) rfl
  have oA : Only (fun _ => False) w (w.alloc (.cells #[] e)) := (Only.refl _ w).alloc _
  rcases hv with ⟨rfl, rfl⟩ | ⟨ad, c, rfl, hc⟩
  · exact ⟨some ⟨w.heap.size, 0, none⟩, 0, _, fun ty => run_append_owned_none _ w.heap.size t ty e i 1 ht hi _ 0 [] hown, by simpa using hown, oA⟩
  · have hnews : ∀ j u, ((List.range m).map f)[j]? = some u → (w.alloc (.cells #[] e)).cell? (ad.add j) = some u := fun j u hu => by
      have hj : j < m := by have := (List.getElem?_eq_some_iff.1 hu).1; simpa using this
      simp [hj] at hu
      rw [← hu]
      exact oA.cell (hc j (by omega)) (fun e => e)
    have h1 : ∀ u ∈ (List.range m).map f, u.oneCell' = true := fun u hu => by obtain ⟨j, _, rfl⟩ := List.mem_map.1 hu; exact ho j
    have key := fun ty => run_append_own_at (P := Try.prog) (w.alloc (.cells #[] e)) w.heap.size t ty e i z 1 bytes ht hi hz hsize hby hzs (by omega) _ 0 [] hown ad m c ((List.range m).map f) (by simp) hnews h1 (by unfold maxLen; omega) (by subst hb1; omega) (by simp)
    obtain ⟨v', w', hr, own', hg, _, _⟩ := key 0
    obtain ⟨a, cap, rfl⟩ := ownsRow_slice own'
    rw [Nat.zero_add] at own' hr
    refine ⟨a, cap, w', fun ty => ?_, by simpa using own', oA.grown hg (fun k e hk => by simp [Value.ownBlock] at e; omega)⟩
    rw [← hr]
    rfl
end Go.Proofs.Ytaeghpfncfkgfaa
