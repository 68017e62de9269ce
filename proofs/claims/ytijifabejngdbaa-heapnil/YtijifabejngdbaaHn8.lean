/- A new heap: Minor changes nothing of it. -/
import Derived.Test.YtijifabejngdbaaHn7
import Derived.Deep.RegionLaw
namespace Go.Proofs.Ytijifabejngdbaa
open Go.RowKit
set_option linter.unusedSimpArgs false
set_option linter.unusedVariables false
def nS : Value := .slice none 0 0
theorem set_nS (x : Nat) (W : World) (ty : TypeId) : (Instr.slice 50 (.slice none 0 0) (some (.int .i64 0)) none none).run Try.prog W = .ok (.slice none 0 0) W := by kernel_rfl
theorem set_blk {w : World} {b : Nat} {c : Array Value} {t : TypeId} (h : w.heap[b]? = some (.cells c t)) (j : Nat) (v : Value) : (w.setCell ⟨b, j, none⟩ v).heap[b]? = some (.cells (c.setIfInBounds j v) t) := by
  simp only [World.setCell, Array.getElem?_modify, h]
  simp
theorem clear0 (m c : Nat) (W : World) (h : W.heap[m]? = some (.map #[] c)) : ∃ c' w', (∀ ty, (Builtin.clear_ #[66] ty #[.map (some m)]).run Try.prog W = .ok (.tuple #[]) w') ∧ w'.heap[m]? = some (.map #[] c') ∧ Only (fun b => b = m) W w' := by
  have hl := (Array.getElem?_eq_some_iff.1 h).1
  refine ⟨c, { W with heap := W.heap.setIfInBounds m (.map #[] c) }, fun ty => ?_, ?_, ?_⟩
  · simp [Builtin.clear_, run_underlying Try.underlying66, MapKept.run_getObj_map h, MapKept.run_setObj_map _ h, Result.andThen]
  · simp [hl]
  · exact ⟨rfl, rfl, rfl, by simp, fun k hk hn => by simp [Array.getElem?_setIfInBounds, hn, Ne.symm hn]⟩
set_option maxRecDepth 100000 in
set_option maxHeartbeats 8000000 in
theorem minor0 (h m : Nat) (w : World) (hE : HpE w h m (.slice none 0 0) (.slice none 0 0) (.slice none 0 0)) :
    Calls Try.prog 18 #[.pointer (some ⟨h, 0, none⟩)] w fun e w' => e = .returned (.tuple #[]) ∧ Hid (HpE w' h m (.slice none 0 0) (.slice none 0 0) (.slice none 0 0) ∧ Only (fun b => b = h ∨ b = m) w w') := by
  have hm2 := mkm2
  obtain ⟨c0, c1, c2, c3, c4⟩ := hE.cells
  have HE : Hid (HpE w h m (.slice none 0 0) (.slice none 0 0) (.slice none 0 0)) := hE
  clear hE
  go_enter Try.func18, Try.ntmps18
  go_wp2_with fail
  refine (show Calls Try.prog 51 _ _ _ from yreach0 h m _ (HE.out.only ((Only.refl _ w).alloc _))).mono ?_
  rintro e w1 ⟨rfl, o1⟩
  have o1 : Only (fun _ => False) w w1 := ((Only.refl _ w).alloc _).trans o1 (fun _ _ g => g)
  have E1 := HE.out.only o1
  have O1 : Hid (Only (fun _ => False) w w1) := o1
  have HE1 : Hid (HpE w1 h m (.slice none 0 0) (.slice none 0 0) (.slice none 0 0)) := E1
  clear c0 c1 c2 c3 c4 o1 HE hm2
  obtain ⟨c0, c1, c2, c3, c4⟩ := E1.cells
  have f0 : w1.frozen? ⟨h, 0, none⟩ = false := hb_froz E1.hb 0
  have f1 : w1.frozen? ⟨h, 1, none⟩ = false := hb_froz E1.hb 1
  clear E1
  go_wp2
  go_loopw [19, 2] (fun r s wr => r = .int .i64 0 ∧ s = .slice none 0 0 ∧ wr = w1) (fun _ _ _ => 0)
  case atStart => exact ⟨rfl, rfl, rfl⟩
  case round =>
    obtain ⟨rfl, rfl, rfl⟩ := hrel
    go_wp2
    go_region
    refine then_at fun X hX => ?_
    have EX : HpE X h m (.slice none 0 0) (.slice none 0 0) (.slice none 0 0) := by
      obtain ⟨c, hc⟩ := HE1.out.mb
      refine ⟨?_, ⟨c, ?_⟩, HE1.out.ne⟩
      · rw [hX]
        exact set_blk (set_blk HE1.out.hb 0 _) 1 _
      · rw [hX]
        exact (Below.heap_setCell _ _ _ _ (fun e => HE1.out.ne e.symm)).trans ((Below.heap_setCell _ _ _ _ (fun e => HE1.out.ne e.symm)).trans hc)
    have OX : Hid (Only (fun b => b = h ∨ b = m) w X) := by
      rw [hX]
      exact (((O1.out.mono (fun _ _ g => g.elim)).setCell _ _ (fun _ => .inl rfl)).setCell _ _ (fun _ => .inl rfl)).drew
    have HX : Hid (HpE X h m (.slice none 0 0) (.slice none 0 0) (.slice none 0 0)) := EX
    clear hX c0 c1 c2 c3 c4 f0 f1 HE1 O1
    obtain ⟨c0, c1, c2, c3, c4⟩ := EX.cells
    obtain ⟨c, hc⟩ := EX.mb
    have hr := run_range_map (P := Try.prog) X 66 _ _ m #[] c Try.underlying66 hc
    have hn : ∀ ty, (Instr.next (.pointer (some ⟨X.heap.size, 0, none⟩)) false ty).run Try.prog (X.alloc (.mapIter (some m) c #[] c)) = .ok (.tuple #[.bool false]) (X.alloc (.mapIter (some m) c #[] c)) := fun ty => by
      rcases run_next_map (P := Try.prog) X ty m c c #[] #[] c hc (fun x hx => by simp at hx) (Nat.le_refl _) with h | ⟨e, he, _⟩
      · exact h.2
      · simp [leftOf] at he
    have oA := (Only.refl (fun _ => False) X).alloc (.mapIter (some m) c #[] c)
    obtain ⟨cz, wz, hz, hzm, oz⟩ := clear0 m c (X.alloc (.mapIter (some m) c #[] c)) (oA.at hc)
    have a2 : (X.alloc (.mapIter (some m) c #[] c)).cell? ⟨h, 2, none⟩ = some (.map (some m)) := oA.cell c2 (fun g => g)
    have HF : Hid (HpE wz h m (.slice none 0 0) (.slice none 0 0) (.slice none 0 0) ∧ Only (fun b => b = h ∨ b = m) w wz) := by
      refine ⟨⟨(oz.block h ?_ EX.ne).trans (oA.at EX.hb), ⟨cz, hzm⟩, EX.ne⟩, ?_⟩
      · exact (Array.getElem?_eq_some_iff.1 (oA.at EX.hb)).1
      · exact OX.out.trans ((oA.mono (bs' := fun b => b = m) (fun _ _ g => g.elim)).trans oz (fun _ _ g => g)) (fun _ _ g => .inr g)
    clear EX hc oA hzm oz OX HX
    have HR := rename0
    go_wp2_with (go_at_call 49; refine (HR _ _ _ _).mono ?_; rintro e w' ⟨rfl, hq⟩; rw [hq]; clear hq)
    go_loopw [74] (fun _ wr => wr = X.alloc (.mapIter (some m) c #[] c)) (fun _ _ => 0)
    case atStart => rfl
    case round =>
      subst hrel
      go_wp2
      go_end0
      exact ⟨rfl, HF⟩
end Go.Proofs.Ytijifabejngdbaa
