import Derived.Test.YtlcglapcmdpkfaaGreatQ3
import Derived.Test.YtlcglapcmdpkfaaGreatW1
import Derived.Test.YtlcglapcmdpkfaaGreatF1
namespace Go.Proofs.YtlcglapcmdpkfaaGreat
open Go.RowKit
set_option linter.unusedSimpArgs false
set_option linter.unusedVariables false
def cnt (f : Nat → Bool) : Nat → Nat
 | 0 => 0
 | n + 1 => cnt f n + if f n then 0 else 1
theorem cnt_le (f : Nat → Bool) : ∀ n, cnt f n ≤ n
 | 0 => Nat.le_refl _
 | n + 1 => by have := cnt_le f n; simp only [cnt]; split <;> omega
theorem cnt_out (f : Nat → Bool) (q : Nat) : ∀ n, n ≤ q → cnt (fun j => f j || j == q) n = cnt f n
 | 0, _ => rfl
 | n + 1, h => by
   have := cnt_out f q n (by omega)
   have e : (n == q) = false := by simp; omega
   simp only [cnt, this, e, Bool.or_false]
theorem cnt_set (f : Nat → Bool) (q : Nat) (hf : f q = false) : ∀ n, q < n → cnt (fun j => f j || j == q) n + 1 = cnt f n
 | 0, h => by omega
 | n + 1, h => by
   by_cases e : n = q
   ·subst e
    simp only [cnt, cnt_out f n n (Nat.le_refl _), hf]
    simp
   ·have := cnt_set f q hf n (by omega)
    have e' : (n == q) = false := by simpa using e
    simp only [cnt, e', Bool.or_false]
    omega
theorem unp_len {b : List Nat} {i : Nat} {D : List Nat} (h : unp b = some (i, D)) : D.length ≤ 116 := by
 unfold unp at h
 split at h
 ·split at h
  ·cases h
  ·split at h
   ·simp only [Option.some.injEq, Prod.mk.injEq] at h
    rw [← h.2, List.length_take]
    omega
   ·cases h
 ·cases h
theorem ldR_some {d : DS} {f : Nat → Bool} {q id : Nat} {D : List Nat} (h : (ldR d f q id).2 = some D) : q < d.n / 4 ∧ f q = false ∧ (ldR d f q id).1 = (fun j => f j || j == q) ∧ D.length ≤ 116 := by
 unfold ldR at h ⊢
 by_cases c : d.n / 4 ≤ q ∨ f q = true
 ·rw [if_pos c] at h; cases h
 ·rw [if_neg c] at h ⊢
  have hf : f q = false := by
   cases hf : f q with
   | true => exact (c (.inr hf)).elim
   | false => rfl
  refine ⟨by omega, hf, rfl, ?_⟩
  have h2 : ldD d q id = some D := h
  unfold ldD at h2
  cases hu : unp (pgN d q 4) with
  | none => rw [hu] at h2; cases h2
  | some y =>
    obtain ⟨i, D'⟩ := y
    rw [hu] at h2
    simp only at h2
    split at h2
    ·cases h2; exact unp_len hu
    ·cases h2
def tbR (d : DS) : Nat → (Nat → Bool) → Nat → List Nat → List Nat → (Nat → Bool) × Option (List Nat × List Nat)
 | 0, f, _, _, _ => (f, none)
 | k + 1, f, nx, at_, tab => if nx = 0 then (f, some (at_, tab)) else
   match (ldR d f nx 2).2 with
   | none => ((ldR d f nx 2).1, none)
   | some D => if D.length < 4 then ((ldR d f nx 2).1, none) else tbR d k (ldR d f nx 2).1 (part D 0 4) (at_ ++ [nx]) (tab ++ D.drop 4)
theorem tbR_end (d : DS) (k : Nat) (f : Nat → Bool) (at_ tab : List Nat) : tbR d (k + 1) f 0 at_ tab = (f, some (at_, tab)) := by unfold tbR; rw [if_pos rfl]
theorem tbR_none {d : DS} {f : Nat → Bool} {nx : Nat} (h0 : nx ≠ 0) (h : (ldR d f nx 2).2 = none) (k : Nat) (at_ tab : List Nat) : tbR d (k + 1) f nx at_ tab = ((ldR d f nx 2).1, none) := by
 rw [tbR, if_neg h0, h]
theorem tbR_short {d : DS} {f : Nat → Bool} {nx : Nat} {D : List Nat} (h0 : nx ≠ 0) (h : (ldR d f nx 2).2 = some D) (hD : D.length < 4) (k : Nat) (at_ tab : List Nat) : tbR d (k + 1) f nx at_ tab = ((ldR d f nx 2).1, none) := by
 rw [tbR, if_neg h0, h]
 exact if_pos hD
theorem tbR_go {d : DS} {f : Nat → Bool} {nx : Nat} {D : List Nat} (h0 : nx ≠ 0) (h : (ldR d f nx 2).2 = some D) (hD : ¬ D.length < 4) (k : Nat) (at_ tab : List Nat) : tbR d (k + 1) f nx at_ tab = tbR d k (ldR d f nx 2).1 (part D 0 4) (at_ ++ [nx]) (tab ++ D.drop 4) := by
 rw [tbR, if_neg h0, h]
 exact if_neg hD
def TbIs (w : World) (L p G n : Nat) (r : (Nat → Bool) × Option (List Nat × List Nat)) (e : Ending) (w' : World) : Prop :=
 LdAt w' L p G n r.1 ∧ Only (fun i => i = G) w w' ∧ match r.2 with
 | none => e = .returned (.tuple #[.slice none 0 0, .slice none 0 0, .bool false])
 | some x => ∃ va vt, e = .returned (.tuple #[va, vt, .bool true]) ∧ FreshI w' w.heap.size va x.1 ∧ Fresh w' w.heap.size vt x.2 ∧ ∀ b, va.ownBlock = some b → vt.ownBlock ≠ some b
theorem app_int2 {w : World} {B : Nat} {v : Value} {zs : List Nat} (h : FreshI w B v zs) (hB : B ≤ w.heap.size) (q : Nat) (hl : zs.length + 1 ≤ 1048576) :
  ∃ a cap w', (∀ ty, (Builtin.append_ #[76, 76] ty #[v, .slice (some ⟨w.heap.size, 0, none⟩) 1 1]).run Tryz.prog (w.alloc (.cells #[.int .i64 (q : Int)] 3)) = .ok (.slice a (zs.length + 1) cap) w') ∧ FreshI w' B (.slice a (zs.length + 1) cap) (zs ++ [q]) ∧ Only (fun i => v.ownBlock = some i) w w' ∧ ∀ b, (Value.slice a (zs.length + 1) cap).ownBlock = some b → v.ownBlock = some b ∨ w.heap.size ≤ b := by
 obtain ⟨i0, hi0, hz0, hz1, hz2⟩ := info_parts info3
 have o1 : Only (fun _ => False) w (w.alloc (.cells #[.int .i64 (q : Int)] 3)) := (Only.refl _ w).alloc _
 have h2 := h.frame o1
 have key := fun ty => run_append_own_at (P := Tryz.prog) (w.alloc (.cells #[.int .i64 (q : Int)] 3)) B 76 ty 3 i0 _ 1 8 Tryz.underlying76 hi0 hz0 hz1 hz2 rfl (by omega) v zs.length (IL zs) h2.1 ⟨w.heap.size, 0, none⟩ 1 1 [.int .i64 (q : Int)] rfl (World.news_of_block (heap_alloc_new w _)) (by simp [Value.oneCell']) (by unfold maxLen; omega) (by omega) (by have := o1.size; omega)
 obtain ⟨v', w', hr, own', hg, _, hb⟩ := key 0
 obtain ⟨a, cap, rfl⟩ := ownsRow_slice own'
 refine ⟨a, cap, w', fun ty => by rw [← hr]; rfl, ⟨?_, by simpa using hl⟩, (o1.mono (fun _ _ e => e.elim)).trans ((Only.refl (fun i => v.ownBlock = some i) _).grown hg (fun k e hk => e)) (fun _ _ e => e), fun b e => ?_⟩
 ·have e : IL (zs ++ [q]) = IL zs ++ [.int .i64 (q : Int)] := by simp [IL]
  rw [e, List.length_append]
  exact own'
 ·rcases hb with hb | hb
  ·exact .inl (hb ▸ e)
  ·rw [hb] at e
   cases e
   exact .inr (by have := o1.size; omega)
theorem app_fresh2 {w : World} {B : Nat} {v u : Value} {zs ys : List Nat} (h : Fresh w B v zs) (hu : BytesAt w u ys) (hB : B ≤ w.heap.size) (hl : zs.length + ys.length ≤ 140737488355328) :
  ∃ a cap w', (∀ ty, (Builtin.append_ #[37, 37] ty #[v, u]).run Tryz.prog w = .ok (.slice a (zs.length + ys.length) cap) w') ∧ Fresh w' B (.slice a (zs.length + ys.length) cap) (zs ++ ys) ∧ Only (fun i => v.ownBlock = some i) w w' ∧ ∀ b, (Value.slice a (zs.length + ys.length) cap).ownBlock = some b → v.ownBlock = some b ∨ w.heap.size ≤ b := by
 obtain ⟨i0, hi0, hz0, hz1, hz2⟩ := info_parts info5
 rcases hu.1 with ⟨rfl, h0⟩ | ⟨ad, c, rfl, hkc, hc⟩
 ·obtain rfl : ys = [] := List.eq_nil_of_length_eq_zero h0
  obtain ⟨a, cap, rfl⟩ := h.form
  refine ⟨a, cap, w, fun ty => run_append_owned_none _ B 37 ty 5 i0 1 Tryz.underlying37 hi0 _ zs.length (BL zs) h.1, by simpa using h, Only.refl _ _, fun b e => .inl e⟩
 ·have hnews : ∀ j x, (BL ys)[j]? = some x → w.cell? (ad.add j) = some x := fun j x hx => by
   have hj : j < ys.length := by have := (List.getElem?_eq_some_iff.1 hx).1; rwa [BL_length] at this
   rw [hc j (by omega)]
   rw [BL_get _ _ hj] at hx
   rw [← hx]
   simp [List.getD, hj]
  have key := fun ty => run_append_own_at (P := Tryz.prog) w B 37 ty 5 i0 _ 1 1 Tryz.underlying37 hi0 hz0 hz1 hz2 rfl (by omega) v zs.length (BL zs) h.1 ad ys.length c (BL ys) (by rw [BL_length]; omega) hnews (BL_one ys) (by unfold maxLen; omega) (by omega) hB
  obtain ⟨v', w', hr, own', hg, _, hb⟩ := key 0
  obtain ⟨a, cap, rfl⟩ := ownsRow_slice own'
  refine ⟨a, cap, w', fun ty => by rw [← hr]; rfl, Fresh.more own' hl h.2.2 hu.2.2, (Only.refl (fun i => v.ownBlock = some i) w).grown hg (fun k e hk => e), fun b e => ?_⟩
  rcases hb with hb | hb
  ·exact .inl (hb ▸ e)
  ·rw [hb] at e
   cases e
   exact .inr (Nat.le_refl _)
theorem slice_four {w : World} (g o k c : Nat) {zs : List Nat} (h : BytesAt w (.slice (some ⟨g, o, none⟩) k c) zs) (hz : zs.length = k) (hk : 4 ≤ k) (hc : k ≤ c) : ∃ a2 c2, (∀ w, (Instr.slice 37 (.slice (some ⟨g, o, none⟩) k c) (some (.int .i64 4)) none none).run Tryz.prog w = .ok (.slice a2 (k - 4) c2) w) ∧ BytesAt w (.slice a2 (k - 4) c2) (zs.drop 4) ∧ ∀ b, (Value.slice a2 (k - 4) c2).ownBlock = some b → b = g := by
 have k0 : (4 : Int) ≤ (k : Int) := by omega
 have kc : (k : Int) ≤ (c : Int) := by omega
 have e1 : ((k : Int) - 4).toNat = k - 4 := by omega
 have e2 : ((c : Int) - 4).toNat = c - 4 := by omega
 by_cases e : c = 4
 ·have ek : k = 4 := by omega
  subst e ek
  refine ⟨some ⟨g, o, none⟩, 0, fun w => by go_simp, ?_, fun b hb => by simp [Value.ownBlock] at hb; omega⟩
  rw [List.drop_of_length_le (by omega)]
  exact BytesAt.none _ _ (fun e => by cases e)
 ·have ec : ¬ c - 4 = 0 := by omega
  refine ⟨some ⟨g, o + 4, none⟩, c - 4, fun w => by go_simp, ?_, fun b hb => by simp [Value.ownBlock] at hb; omega⟩
  have := h.cut 4 (k - 4) (c - 4) (by omega) (by omega)
  rwa [List.take_of_length_le (by rw [List.length_drop]; omega)] at this
def lenOf : Value → Nat
 | .slice _ n _ => n
 | _ => 0
end Go.Proofs.YtlcglapcmdpkfaaGreat
