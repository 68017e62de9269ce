/- What a list with the one word that names the object at 0 names. -/
import Derived.Test.YtijifabejngdbaaHn4
namespace Go.Proofs.Ytijifabejngdbaa
open Go.RowKit
set_option linter.unusedSimpArgs false
set_option linter.unusedVariables false
/-- the object at 0 is the one that was named -/
def Nm1 (w : World) (G O : Nat) (w' : World) : Prop := Only (fun b => b = G ∨ b = O) w w' ∧ ∃ a c, w'.cell? ⟨O, 0, none⟩ = some (.slice a 1 c) ∧ w'.ownsRow w.heap.size 31 1 (.slice a 1 c) 1 [.int .u64 0]
set_option maxRecDepth 100000 in
set_option maxHeartbeats 8000000 in
theorem name1 (g k c L M G O : Nat) (w : World) (c0 : w.cell? ⟨g, k, none⟩ = some (.bool true)) (c1 : w.cell? ⟨g, k + 1, none⟩ = some (.int .u64 0)) (hL : w.cell? ⟨L, 0, none⟩ = some (.int .u64 0)) (hM : w.cell? ⟨M, 0, none⟩ = some (.slice (some ⟨G, 0, none⟩) 3 3)) (hG : w.cell? ⟨G, 0, none⟩ = some (.bool false)) (fG : w.frozen? ⟨G, 0, none⟩ = false) (hO : w.cell? ⟨O, 0, none⟩ = some (.slice none 0 0)) (fO : w.frozen? ⟨O, 0, none⟩ = false) (hGO : G ≠ O) (hLO : L ≠ O) (hLG : L ≠ G) (hMO : M ≠ O) (hMG : M ≠ G) :
    Calls Try.prog 71 #[.slice (some ⟨g, k, none⟩) 1 c, .pointer (some ⟨L, 0, none⟩), .pointer (some ⟨M, 0, none⟩), .pointer (some ⟨O, 0, none⟩)] w fun e w' => e = .returned (.tuple #[]) ∧ Nm1 w G O w' := by
  obtain ⟨w0, hw0⟩ : ∃ w0, w0 = w.alloc (.cells #[.bool true, .int .u64 0] 62) := ⟨_, rfl⟩
  have o0 : Only (fun _ => False) w w0 := by rw [hw0]; exact (Only.refl _ w).alloc _
  have hb0 : w0.heap[w.heap.size]? = some (.cells #[.bool true, .int .u64 0] 62) := by rw [hw0]; exact alloc_at _ _ _ rfl
  obtain ⟨w1, hw1⟩ : ∃ w1, w1 = w0.setCell ⟨G, 0, none⟩ (.bool true) := ⟨_, rfl⟩
  have lG := World.block_lt_of_cell? w _ hG
  have lO := World.block_lt_of_cell? w _ hO
  simp only at lG lO
  have o1 : Only (fun b => b = G) w0 w1 := by rw [hw1]; exact (Only.refl _ w0).setCell _ _ (fun _ => rfl)
  have s1 := o1.size
  have s0 := o0.size
  obtain ⟨a, c', w2, hap, hown, oo⟩ := app_u (w := w1) (B := w.heap.size) (n := 0) (v := .slice none 0 0) (us := []) (World.ownsRow_nil _ _ _ _) (by omega) 0 (by omega)
  have oo : Only (fun _ => False) w1 w2 := oo.mono (fun k _ e => by cases e)
  have q0 : w0.cell? ⟨w.heap.size, 0, none⟩ = some (.bool true) := hb_cell hb0 0
  have q1 : w0.cell? ⟨w.heap.size, 1, none⟩ = some (.int .u64 0) := hb_cell hb0 1
  have qL := o0.cell hL (fun g => g)
  have qM := o0.cell hM (fun g => g)
  have qG := o0.cell hG (fun g => g)
  have qF : w0.frozen? ⟨G, 0, none⟩ = false := by rw [o0.frozen lG (fun g => g)]; exact fG
  have r1 : w1.cell? ⟨w.heap.size, 1, none⟩ = some (.int .u64 0) := o1.cell q1 (by simp only; omega)
  have rO : w1.cell? ⟨O, 0, none⟩ = some (.slice none 0 0) := o1.cell (o0.cell hO (fun g => g)) (by simp only; omega)
  have fO2 : w2.frozen? ⟨O, 0, none⟩ = false := by
    have l1 : O < w1.heap.size := by omega
    rw [oo.frozen l1 (fun g => g), o1.frozen (a := ⟨O, 0, none⟩) (by simp only; omega) (by simp only; omega), o0.frozen lO (fun g => g)]
    exact fO
  have hO2 : w2.cell? ⟨O, 0, none⟩ = some (.slice none 0 0) := oo.cell rO (fun g => g)
  have HF : Hid (Nm1 w G O (w2.setCell ⟨O, 0, none⟩ (.slice a 1 c'))) := by
    refine ⟨?_, a, c', World.cell?_setCell_same' _ _ _ (by rw [hO2]; rfl), ?_⟩
    · refine Only.setCell ?_ _ _ (fun _ => .inr rfl)
      exact ((o0.mono (fun _ _ e => e.elim)).trans (o1.mono (fun _ _ e => .inl e)) (fun _ _ e => e)).trans (oo.mono (fun _ _ e => e.elim)) (fun _ _ e => e)
    · refine ((Only.refl (fun b => b = O) w2).setCell ⟨O, 0, none⟩ _ (fun _ => rfl)).owns hown (fun k hk e => ?_)
      have := (hown.lt k hk).1
      omega
  have hsz : w1.heap.size = w.heap.size + 1 := by rw [hw1, hw0]; simp [World.setCell]
  rw [hsz] at hap
  rw [hw1, hw0] at hap
  rw [hw1, hw0] at r1 rO
  rw [hw0] at q0 q1 qL qM qG qF
  have HA : Hid (∀ ty, (Builtin.append_ #[85, 85] ty #[.slice none 0 0, .slice (some ⟨w.heap.size + 1, 0, none⟩) 1 1]).run Try.prog (((w.alloc (.cells #[.bool true, .int .u64 0] 62)).setCell ⟨G, 0, none⟩ (.bool true)).alloc (.cells #[.int .u64 0] 31)) = .ok (.slice a 1 c') w2) := hap
  clear hG fG hO fO hGO hLO hLG hMO hMG lG lO s1 s0 o0 o1 hb0 hown oo hL hM hap hsz hw1 hw0
  go_enter Try.func71, Try.ntmps71
  go_wp2
  go_loopw [9] (fun r wr => ∃ i : Int, r = .int .i64 i ∧ ((i = 0 ∧ wr = w) ∨ (i = 1 ∧ Hid (Nm1 w G O wr)))) (fun r _ => 1 - uOf r)
  case atStart => exact ⟨0, rfl, .inl ⟨rfl, rfl⟩⟩
  case round =>
    obtain ⟨i, rfl, ⟨rfl, hwr⟩ | ⟨rfl, H1⟩⟩ := hrel
    · obtain rfl := hwr.symm
      go_wp2_with (at_builtin; refine wpList_append_run rfl _ _ 85 rfl _ _ _ rfl rfl HA.out ?_)
      go_roundw
      case rel => exact ⟨1, rfl, .inr ⟨rfl, HF⟩⟩
      case measure => decide
    · clear HA HF
      go_wp2
      go_end0
      exact ⟨rfl, H1.out⟩
end Go.Proofs.Ytijifabejngdbaa
