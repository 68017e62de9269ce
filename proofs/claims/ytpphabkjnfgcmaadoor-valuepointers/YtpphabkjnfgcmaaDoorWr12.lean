/- ValuePointers. -/
import Derived.Test.YtpphabkjnfgcmaaDoorWr11
namespace Go.Proofs.YtpphabkjnfgcmaaDoor
open Go.RowKit Go.Lib
set_option linter.unusedSimpArgs false
set_option linter.unusedVariables false
/-- the world of a round: a list of 1 and v, a quotation of Push v -/
def vpW (w : World) (v : Value) : World := (((w.alloc (.cells #[i1v, v] 43)).alloc (.cells #[.slice (some ⟨w.heap.size, 0, none⟩) 2 2] 34)).alloc (.cells #[.iface 45 (.agg #[v])] 71)).alloc (.cells #[.slice (some ⟨w.heap.size + 1 + 1, 0, none⟩) 1 1] 38)
theorem al_size (w : World) (o : Obj) : (w.alloc o).heap.size = w.heap.size + 1 := Array.size_push ..
theorem al_old (w : World) (o : Obj) (k : Nat) (x : Obj) (h : w.heap[k]? = some x) : (w.alloc o).heap[k]? = some x :=
  (((Only.refl (fun _ => False) w).alloc o).block k (Array.getElem?_eq_some_iff.mp h).1 (fun h => h)).trans h
theorem vpW_only (w : World) (v : Value) : Only (fun _ => False) w (vpW w v) := ((((Only.refl (fun _ => False) w).alloc _).alloc _).alloc _).alloc _
theorem vpW_cells (w : World) (v : Value) : (vpW w v).cell? ⟨w.heap.size, 0, none⟩ = some i1v ∧ (vpW w v).cell? ⟨w.heap.size, 1, none⟩ = some v ∧ (vpW w v).cell? ⟨w.heap.size + 1, 0, none⟩ = some (.slice (some ⟨w.heap.size, 0, none⟩) 2 2) ∧ (vpW w v).cell? ⟨w.heap.size + 1 + 1, 0, none⟩ = some (.iface 45 (.agg #[v])) ∧ (vpW w v).cell? ⟨w.heap.size + 1 + 1 + 1, 0, none⟩ = some (.slice (some ⟨w.heap.size + 1 + 1, 0, none⟩) 1 1) := by
  have h0 : (vpW w v).heap[w.heap.size]? = _ := al_old _ _ _ _ (al_old _ _ _ _ (al_old _ _ _ _ (va_at w (.cells #[i1v, v] 43) _ rfl)))
  have h1 : (vpW w v).heap[w.heap.size + 1]? = _ := al_old _ _ _ _ (al_old _ _ _ _ (va_at (w.alloc (.cells #[i1v, v] 43)) (.cells #[.slice (some ⟨w.heap.size, 0, none⟩) 2 2] 34) _ (by rw [al_size])))
  have h2 : (vpW w v).heap[w.heap.size + 1 + 1]? = _ := al_old _ _ _ _ (va_at ((w.alloc (.cells #[i1v, v] 43)).alloc (.cells #[.slice (some ⟨w.heap.size, 0, none⟩) 2 2] 34)) (.cells #[.iface 45 (.agg #[v])] 71) _ (by rw [al_size, al_size]))
  have h3 : (vpW w v).heap[w.heap.size + 1 + 1 + 1]? = _ := va_at (((w.alloc (.cells #[i1v, v] 43)).alloc (.cells #[.slice (some ⟨w.heap.size, 0, none⟩) 2 2] 34)).alloc (.cells #[.iface 45 (.agg #[v])] 71)) (.cells #[.slice (some ⟨w.heap.size + 1 + 1, 0, none⟩) 1 1] 38) _ (by rw [al_size, al_size, al_size])
  exact ⟨(wr_cell h0 0).trans rfl, (wr_cell h0 1).trans rfl, (wr_cell h1 0).trans rfl, (wr_cell h2 0).trans rfl, (wr_cell h3 0).trans rfl⟩
/-- the row of seven -/
def Row7 (w : World) (G : Nat) : Prop := ∀ i : Nat, i < 7 → ∃ v, w.cell? ⟨G, i, none⟩ = some v ∧ BadV v
theorem Row7.keep {w w' : World} {G : Nat} (h : Row7 w G) (o : Only (fun _ => False) w w') : Row7 w' G := fun i hi => by
  obtain ⟨v, h1, h2⟩ := h i hi
  exact ⟨v, o.cell h1 (fun h => h), h2⟩
theorem row7_new (w : World) (a b c d e f : Value) : Row7 (w.alloc (.cells #[.nilIface, .iface 22 a, .iface 25 b, .iface 28 c, .iface 31 d, .iface 35 e, .iface 39 f] 43)) w.heap.size := by
  intro i hi
  have h := wr_cell (va_at w (.cells #[.nilIface, .iface 22 a, .iface 25 b, .iface 28 c, .iface 31 d, .iface 35 e, .iface 39 f] 43) _ rfl) i
  rcases i with _ | _ | _ | _ | _ | _ | _ | i
  · exact ⟨_, h.trans rfl, bad_nil⟩
  · exact ⟨_, h.trans rfl, bad_ptr _ _ (by decide) (by decide) (by decide) (by decide) (by decide) (by decide)⟩
  · exact ⟨_, h.trans rfl, bad_ptr _ _ (by decide) (by decide) (by decide) (by decide) (by decide) (by decide)⟩
  · exact ⟨_, h.trans rfl, bad_ptr _ _ (by decide) (by decide) (by decide) (by decide) (by decide) (by decide)⟩
  · exact ⟨_, h.trans rfl, bad_ptr _ _ (by decide) (by decide) (by decide) (by decide) (by decide) (by decide)⟩
  · exact ⟨_, h.trans rfl, bad_ptr _ _ (by decide) (by decide) (by decide) (by decide) (by decide) (by decide)⟩
  · exact ⟨_, h.trans rfl, bad_ptr _ _ (by decide) (by decide) (by decide) (by decide) (by decide) (by decide)⟩
  · omega
set_option maxRecDepth 100000 in
theorem badi_ptr (x : Value) : BadI (.iface 50 x) :=
  .inr ⟨va_miss 50 45 71 _ Tryd.underlying45 (by intro m h; cases h) (by decide) _ (fun _ => rfl) x, va_miss 50 52 71 _ Tryd.underlying52 (by intro m h; cases h) (by decide) _ (fun _ => rfl) x⟩
set_option maxRecDepth 100000 in
theorem badi_nil : BadI .nilIface := .inr ⟨fun _ => rfl, fun _ => rfl⟩
theorem one_new (w : World) (v : Value) (t : TypeId) (n : Nat) (h : n = w.heap.size) : (w.alloc (.cells #[v] t)).cell? ⟨n, 0, none⟩ = some v := (wr_cell (va_at w (.cells #[v] t) _ h) 0).trans rfl
end Go.Proofs.YtpphabkjnfgcmaaDoor
