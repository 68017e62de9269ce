import Derived.Test.YtlcglapcmdpkfaaGreatU2
namespace Go.Proofs.YtlcglapcmdpkfaaGreat
open Go.RowKit
set_option linter.unusedSimpArgs false
set_option linter.unusedVariables false
theorem Fresh.nil (w : World) (B : Nat) : Fresh w B (.slice none 0 0) [] := ⟨World.ownsRow_nil _ _ _ _, by simp, fun z h => by cases h⟩
theorem own_lt {w : World} {B : Nat} {v : Value} {zs : List Nat} (h : Fresh w B v zs) (b : Nat) (hb : v.ownBlock = some b) : B ≤ b ∧ b < w.heap.size := h.1.lt b hb
theorem app_fresh {w : World} {B : Nat} {v u : Value} {zs ys : List Nat} (h : Fresh w B v zs) (hu : BytesAt w u ys) (hB : B ≤ w.heap.size) (hl : zs.length + ys.length ≤ 140737488355328) :
  ∃ a cap w', (∀ ty, (Builtin.append_ #[37, 37] ty #[v, u]).run Tryz.prog w = .ok (.slice a (zs.length + ys.length) cap) w') ∧ Fresh w' B (.slice a (zs.length + ys.length) cap) (zs ++ ys) ∧ Only (fun i => B ≤ i) w w' := by
 obtain ⟨i0, hi0, hz0, hz1, hz2⟩ := info_parts info5
 rcases hu.1 with ⟨rfl, h0⟩ | ⟨ad, c, rfl, hkc, hc⟩
 ·obtain rfl : ys = [] := List.eq_nil_of_length_eq_zero h0
  obtain ⟨a, cap, rfl⟩ := h.form
  refine ⟨a, cap, w, fun ty => run_append_owned_none _ B 37 ty 5 i0 1 Tryz.underlying37 hi0 _ zs.length (BL zs) h.1, by simpa using h, Only.refl _ _⟩
 ·have hnews : ∀ j x, (BL ys)[j]? = some x → w.cell? (ad.add j) = some x := fun j x hx => by
   have hj : j < ys.length := by have := (List.getElem?_eq_some_iff.1 hx).1; rwa [BL_length] at this
   rw [hc j (by omega)]
   rw [BL_get _ _ hj] at hx
   rw [← hx]
   simp [List.getD, hj]
  have key := fun ty => run_append_own_at (P := Tryz.prog) w B 37 ty 5 i0 _ 1 1 Tryz.underlying37 hi0 hz0 hz1 hz2 rfl (by omega) v zs.length (BL zs) h.1 ad ys.length c (BL ys) (by rw [BL_length]; omega) hnews (BL_one ys) (by unfold maxLen; omega) (by omega) hB
  obtain ⟨v', w', hr, own', hg, _, _⟩ := key 0
  obtain ⟨a, cap, rfl⟩ := ownsRow_slice own'
  exact ⟨a, cap, w', fun ty => by rw [← hr]; rfl, Fresh.more own' hl h.2.2 hu.2.2, (Only.refl _ w).grown hg (fun k e hk => (own_lt h k e).1)⟩
def IntsAt (w : World) (v : Value) (l : List Nat) : Prop := RowAt w v l.length 1 (fun j => .int .i64 (l.getD j 0 : Nat))
set_option maxRecDepth 100000 in
set_option maxHeartbeats 1000000 in
theorem head_any (v : Value) (l : List Nat) (w : World) (h : IntsAt w v l) (hl : ∀ t ∈ l, t < 2048) :
  Calls Tryz.prog 85 #[v] w fun e w' => e = .returned (.int .u32 (l.getD 0 0 : Nat)) ∧ w' = w := by
 obtain ⟨a, c, rfl, hc⟩ := RowAt.shape h
 cases l with
 | nil =>
   clear h hc hl
   go_enter Tryz.func85, Tryz.ntmps85
   go_wp2
   go_ret
   exact ⟨rfl, rfl⟩
 | cons t r =>
   obtain ⟨g, o, rfl, hc0⟩ := hc 0 (by simp)
   have ht := hl t (List.mem_cons_self ..)
   have hc0' : w.cell? ⟨g, o, none⟩ = some (.int .i64 (t : Nat)) := hc0
   have e1 : IntKind.u32.wrap (t : Int) = (t : Int) := by rw [IntKind.wrap_u32]; omega
   obtain ⟨k, hk⟩ : ∃ k, k = (t :: r).length := ⟨_, rfl⟩
   have k1 : (0 : Int) < (k : Int) := by rw [hk]; simp
   have k2 : ((k : Int) == 0) = false := by simp; rw [hk]; simp
   rw [← hk]
   clear h hc hl hc0 ht hk
   go_enter Tryz.func85, Tryz.ntmps85
   go_wp2
   go_ret
   exact ⟨rfl, rfl⟩
set_option maxRecDepth 100000 in
set_option maxHeartbeats 1000000 in
theorem dataid_any (i : Nat) (hi : i < 728) (w : World) : Calls Tryz.prog 83 #[.int .i64 i] w fun e w' => e = .returned (.int .u32 ((3 + 256 * i : Nat) : Int)) ∧ w' = w := by
 have e1 : IntKind.u32.wrap (i : Int) = (i : Int) := by rw [IntKind.wrap_u32]; omega
 have e2 : IntKind.u32.wrap (256 * (i : Int)) = 256 * (i : Int) := by rw [IntKind.wrap_u32]; omega
 have e3 : IntKind.u32.wrap (3 + 256 * (i : Int)) = ((3 + 256 * i : Nat) : Int) := by rw [IntKind.wrap_u32]; omega
 go_enter Tryz.func83, Tryz.ntmps83
 go_wp2
 go_ret
 exact ⟨rfl, rfl⟩
theorem slice_rest (g o k c : Nat) (hk : 1 ≤ k) (hc : k ≤ c) : ∃ a2 c2, (∀ w, (Instr.slice 76 (.slice (some ⟨g, o, none⟩) k c) (some (.int .i64 1)) none none).run Tryz.prog w = .ok (.slice a2 (k - 1) c2) w) ∧ (a2 = some ⟨g, o + 1, none⟩ ∨ k = 1 ∧ a2 = some ⟨g, o, none⟩) ∧ k - 1 ≤ c2 := by
 have k0 : (1 : Int) ≤ (k : Int) := by omega
 have kc : (k : Int) ≤ (c : Int) := by omega
 have e1 : ((k : Int) - 1).toNat = k - 1 := by omega
 have e2 : ((c : Int) - 1).toNat = c - 1 := by omega
 by_cases e : c = 1
 ·have ek : k = 1 := by omega
  subst e ek
  exact ⟨some ⟨g, o, none⟩, 0, fun w => by go_simp, .inr ⟨rfl, rfl⟩, by omega⟩
 ·have ec : ¬ c - 1 = 0 := by omega
  refine ⟨some ⟨g, o + 1, none⟩, c - 1, fun w => ?_, .inl rfl, by omega⟩
  go_simp
theorem make_tab (w : World) : (Instr.makeSlice 37 (.int .i64 4) (.int .i64 116)).run Tryz.prog w = .ok (.slice (some ⟨w.heap.size, 0, none⟩) 4 116) (w.alloc (.cells (BL (List.replicate 116 0)).toArray 5)) := by
 obtain ⟨i0, hi0, hz0, hz1, hz2⟩ := info_parts info5
 have h := run_make (P := Tryz.prog) w 37 5 i0 _ Tryz.underlying37 hi0 hz0 .i64 .i64 4 116 (by omega) (by omega) (by rw [hz2]; omega) (by omega)
 rw [hz1] at h
 rw [← zeros_made]
 exact h
end Go.Proofs.YtlcglapcmdpkfaaGreat
