/- Rows of structures of one's own, whatever they hold. -/
import Derived.Test.YtfecmpebnianpaaGreatDoorGal
namespace Go.Proofs.YtfecmpebnianpaaGreatDoor
open Go.RowKit
set_option linter.unusedSimpArgs false
set_option linter.unusedVariables false
/-- what is said of a block that an element leads to, and stays true -/
structure Bk (K : World → Nat → Prop) : Prop where
  lt : ∀ {w b}, K w b → b < w.heap.size
  only : ∀ {w w' : World} {bs : Nat → Prop} {b : Nat}, K w b → Only bs w w' → ¬ bs b → K w' b
  of : ∀ {w : World} {b : Nat} {c : Array Value} {t : TypeId}, w.heap[b]? = some (.cells c t) → K w b
theorem bk_liv : Bk Liv := ⟨fun h => h.1, fun h o hb => h.only o hb, fun h => Liv.of h⟩
def Ltb (w : World) (b : Nat) : Prop := b < w.heap.size
theorem bk_lt : Bk Ltb := ⟨fun h => h, fun h o _ => Nat.lt_of_lt_of_le h o.size, fun h => (Array.getElem?_eq_some_iff.1 h).1⟩
/-- what is said of an element's cells, whatever else turns -/
structure El {α : Type} (z : Nat) (P : World → (Nat → Prop) → α → List Value → Prop) : Prop where
  step : ∀ {w w' S S' x cs}, (∀ b, S b → S' b) → (∀ (a : Addr) u, S a.block → w.cell? a = some u → w'.cell? a = some u) → P w S x cs → P w' S' x cs
  len : ∀ {w S x cs}, P w S x cs → cs.length = z
  one : ∀ {w S x cs}, P w S x cs → ∀ u ∈ cs, u.oneCell' = true
section
variable {α : Type} {K : World → Nat → Prop} {z : Nat} {P : World → (Nat → Prop) → α → List Value → Prop}
/-- a row under way, made since block B -/
def GrAt (K : World → Nat → Prop) (T : TypeId) (z : Nat) (P : World → (Nat → Prop) → α → List Value → Prop) (w : World) (B : Nat) (v : Value) (l : List α) : Prop :=
  ∃ us S, w.ownsRow B T z v l.length us ∧ (∀ (j : Nat) (x : α), l[j]? = some x → ∃ cs, (∀ i u, cs[i]? = some u → us[j * z + i]? = some u) ∧ P w S x cs) ∧ ∀ b, S b → B ≤ b ∧ K w b ∧ v.ownBlock ≠ some b
/-- an element that was made since block B -/
def GnAt (K : World → Nat → Prop) (P : World → (Nat → Prop) → α → List Value → Prop) (w : World) (B : Nat) (x : α) (cs : List Value) : Prop := ∃ S, P w S x cs ∧ ∀ b, S b → B ≤ b ∧ K w b
/-- a row that can be read, within the blocks S -/
def GvAt (z : Nat) (P : World → (Nat → Prop) → α → List Value → Prop) (w : World) (S : Nat → Prop) (v : Value) (l : List α) : Prop :=
  ∃ ao cap, v = .slice ao l.length cap ∧ l.length ≤ cap ∧ ∀ (j : Nat) (x : α), l[j]? = some x → ∃ g cs, ao = some ⟨g, 0, none⟩ ∧ S g ∧ (∀ i u, cs[i]? = some u → w.cell? ⟨g, j * z + i, none⟩ = some u) ∧ P w S x cs
theorem gr_nil (K : World → Nat → Prop) (T : TypeId) (z : Nat) (P : World → (Nat → Prop) → α → List Value → Prop) (w : World) (B : Nat) : GrAt K T z P w B (.slice none 0 0) [] :=
  ⟨[], fun _ => False, ⟨by simp, .inl ⟨rfl, rfl⟩⟩, fun j x h => by simp at h, fun b h => h.elim⟩
theorem GrAt.form {T : TypeId} {w : World} {B : Nat} {v : Value} {l : List α} (h : GrAt K T z P w B v l) : ∃ ao cap, v = .slice ao l.length cap := by
  obtain ⟨us, S, ho, _⟩ := h
  rcases ho.2 with ⟨h1, h2⟩ | ⟨g, cap, cur, h1, _⟩
  · exact ⟨_, _, by rw [h1, h2]⟩
  · exact ⟨_, _, h1⟩
theorem GrAt.lt {T : TypeId} {w : World} {B : Nat} {v : Value} {l : List α} (h : GrAt K T z P w B v l) : ∀ k, v.ownBlock = some k → B ≤ k ∧ k < w.heap.size := by
  obtain ⟨us, S, ho, _⟩ := h
  exact fun k hk => ho.lt k hk
theorem GrAt.only (hK : Bk K) (hP : El z P) {T : TypeId} {w w' : World} {B : Nat} {v : Value} {l : List α} {bs : Nat → Prop} (h : GrAt K T z P w B v l) (o : Only bs w w') (hb : ∀ b, B ≤ b → b < w.heap.size → ¬ bs b) : GrAt K T z P w' B v l := by
  obtain ⟨us, S, ho, ht, hS⟩ := h
  refine ⟨us, S, o.owns ho (fun k hk => hb k (ho.lt k hk).1 (ho.lt k hk).2), fun j x hx => ?_, fun b hbS => ?_⟩
  · obtain ⟨cs, hu, h2⟩ := ht j x hx
    exact ⟨cs, hu, hP.step (fun _ g => g) (fun a u hs hc => o.cell hc (hb _ (hS _ hs).1 (hK.lt (hS _ hs).2.1))) h2⟩
  · obtain ⟨h1, h2, h3⟩ := hS b hbS
    exact ⟨h1, hK.only h2 o (hb b h1 (hK.lt h2)), h3⟩
theorem GnAt.only (hK : Bk K) (hP : El z P) {w w' : World} {B : Nat} {x : α} {cs : List Value} {bs : Nat → Prop} (h : GnAt K P w B x cs) (o : Only bs w w') (hb : ∀ b, B ≤ b → b < w.heap.size → ¬ bs b) : GnAt K P w' B x cs := by
  obtain ⟨S, h1, hS⟩ := h
  exact ⟨S, hP.step (fun _ g => g) (fun a u hs hc => o.cell hc (hb _ (hS _ hs).1 (hK.lt (hS _ hs).2))) h1, fun b hbS => ⟨(hS b hbS).1, hK.only (hS b hbS).2 o (hb b (hS b hbS).1 (hK.lt (hS b hbS).2))⟩⟩
theorem GrAt.lower {T : TypeId} {w : World} {B C : Nat} {v : Value} {l : List α} (h : GrAt K T z P w B v l) (hC : C ≤ B) : GrAt K T z P w C v l := by
  obtain ⟨us, S, ho, ht, hS⟩ := h
  refine ⟨us, S, ⟨ho.1, ?_⟩, ht, fun b hb => ⟨Nat.le_trans hC (hS b hb).1, (hS b hb).2⟩⟩
  rcases ho.2 with g | ⟨g, cap, cur, h1, h2, h3⟩
  · exact .inl g
  · exact .inr ⟨g, cap, cur, h1, by omega, h3⟩
theorem GrAt.read (hK : Bk K) (hP : El z P) {T : TypeId} {w : World} {B : Nat} {v : Value} {l : List α} (h : GrAt K T z P w B v l) : ∃ S, GvAt z P w S v l ∧ ∀ b, S b → B ≤ b ∧ K w b := by
  obtain ⟨us, S, ho, ht, hS⟩ := h
  refine ⟨fun b => S b ∨ v.ownBlock = some b, ?_, fun b hb => ?_⟩
  · rcases ho.2 with ⟨rfl, h2⟩ | ⟨g, cap, cur, hv, hB, hg, hn, hcm, hcs, htk⟩
    · have hl : l = [] := List.eq_nil_of_length_eq_zero h2
      subst hl
      exact ⟨none, 0, rfl, Nat.zero_le _, fun i x hx => by simp at hx⟩
    · refine ⟨some ⟨g, 0, none⟩, cap, hv, hn, fun j x hx => ?_⟩
      obtain ⟨cs, h1, h2⟩ := ht j x hx
      refine ⟨g, cs, rfl, .inr (by rw [hv]; rfl), fun i u hu => ?_, hP.step (fun _ g => .inl g) (fun _ _ _ g => g) h2⟩
      have hc := ho.cells (g := g) (by rw [hv]; rfl) _ u (h1 i u hu)
      rwa [addr_ad] at hc
  · rcases hb with h | h
    · exact ⟨(hS b h).1, (hS b h).2.1⟩
    · refine ⟨(ho.lt b h).1, ?_⟩
      rcases ho.2 with ⟨rfl, h2⟩ | ⟨g, cap, cur, hv, hB, hg, hn, hcm, hcs, htk⟩
      · cases h
      · rw [hv] at h
        injection h with h
        rw [← h]
        exact hK.of hg
theorem GvAt.step (hP : El z P) {w w' : World} {S S' : Nat → Prop} {v : Value} {l : List α} (hS : ∀ b, S b → S' b) (hk : ∀ (a : Addr) u, S a.block → w.cell? a = some u → w'.cell? a = some u) (h : GvAt z P w S v l) : GvAt z P w' S' v l := by
  obtain ⟨ao, cap, hv, hc, hl⟩ := h
  refine ⟨ao, cap, hv, hc, fun j x hx => ?_⟩
  obtain ⟨g, cs, h1, h2, h3, h4⟩ := hl j x hx
  exact ⟨g, cs, h1, hS g h2, fun i u hu => hk _ _ h2 (h3 i u hu), hP.step hS hk h4⟩
theorem GvAt.only (hP : El z P) {w w' : World} {S bs : Nat → Prop} {v : Value} {l : List α} (h : GvAt z P w S v l) (o : Only bs w w') (hb : ∀ b, S b → ¬ bs b) : GvAt z P w' S v l := GvAt.step hP (fun _ g => g) (fun a u hs hc => o.cell hc (hb _ hs)) h
theorem GvAt.form {w : World} {S : Nat → Prop} {v : Value} {l : List α} (h : GvAt z P w S v l) : ∃ ao cap, v = .slice ao l.length cap := by
  obtain ⟨ao, cap, hv, _⟩ := h
  exact ⟨ao, cap, hv⟩
/-- an element is put behind a row -/
theorem GrAt.snoc (hK : Bk K) (hP : El z P) {T : TypeId} {w w' : World} {B C : Nat} {v v' : Value} {l : List α} {x : α} {cs us : List Value} {S : Nat → Prop} (hg : w.grownBy w' v.ownBlock) (ho : w.ownsRow B T z v l.length us) (ht : ∀ (j : Nat) (x : α), l[j]? = some x → ∃ cs, (∀ i u, cs[i]? = some u → us[j * z + i]? = some u) ∧ P w S x cs) (hS : ∀ b, S b → B ≤ b ∧ K w b ∧ v.ownBlock ≠ some b)
    (hn : GnAt K P w C x cs) (hC : B ≤ C) (hv : ∀ k, v.ownBlock = some k → k < C) (ho' : w'.ownsRow B T z v' (l.length + 1) (us ++ cs)) (hat : v'.ownBlock = v.ownBlock ∨ v'.ownBlock = some w.heap.size) : GrAt K T z P w' B v' (l ++ [x]) := by
  obtain ⟨S1, t1, s1⟩ := hn
  have oo : Only (fun k => v.ownBlock = some k) w w' := (Only.refl _ w).grown hg (fun k e _ => e)
  have a1 : ∀ b, S b → ¬ v.ownBlock = some b := fun b h => (hS b h).2.2
  have a2 : ∀ b, S1 b → ¬ v.ownBlock = some b := fun b h e => by have := hv b e; have := (s1 b h).1; omega
  have hl : us.length = l.length * z := ho.1
  refine ⟨us ++ cs, fun b => S b ∨ S1 b, by simpa using ho', fun j y hy => ?_, fun b hb => ?_⟩
  · by_cases hj : j < l.length
    · rw [List.getElem?_append_left hj] at hy
      obtain ⟨ds, h1, h2⟩ := ht j y hy
      refine ⟨ds, fun i u hu => ?_, hP.step (fun _ g => .inl g) (fun a y hs hc => oo.cell hc (a1 _ hs)) h2⟩
      have h3 := h1 i u hu
      rw [List.getElem?_append_left (List.getElem?_eq_some_iff.1 h3).1]
      exact h3
    · have hj2 : j < (l ++ [x]).length := (List.getElem?_eq_some_iff.1 hy).1
      have hj3 : j = l.length := by simp at hj2; omega
      subst hj3
      simp at hy
      subst hy
      refine ⟨cs, fun i u hu => ?_, hP.step (fun _ g => .inr g) (fun a y hs hc => oo.cell hc (a2 _ hs)) t1⟩
      rw [List.getElem?_append_right (by omega), show l.length * z + i - us.length = i by omega]
      exact hu
  · have h1 : B ≤ b ∧ K w b ∧ v.ownBlock ≠ some b := by
      rcases hb with h | h
      · exact hS b h
      · exact ⟨Nat.le_trans hC (s1 b h).1, (s1 b h).2, a2 b h⟩
    refine ⟨h1.1, hK.only h1.2.1 oo h1.2.2, ?_⟩
    rcases hat with e | e <;> rw [e]
    · exact h1.2.2
    · intro e2
      injection e2 with e2
      have := hK.lt h1.2.1
      omega
theorem gr_app (hK : Bk K) (hP : El z P) {T sT : TypeId} {by' : Nat} (hI : ∃ i zz, Tryz.prog.info? T = some i ∧ i.zero = some zz ∧ i.size = z ∧ i.bytes = by' ∧ zz.cells.size = z) (hT : Tryz.prog.underlying sT = some (.slice T)) (hz : 0 < z) (hby : by' ≤ 1000) {w : World} {B C : Nat} {v : Value} {acc : List α} {x : α} {cs : List Value}
    (hf : GrAt K T z P w B v acc) (hn : GnAt K P w C x cs) (hC : B ≤ C) (hv : ∀ k, v.ownBlock = some k → k < C) (hB : B ≤ w.heap.size) (hl : acc.length ≤ 1000000) :
    ∃ v' w', (∀ ty, (Builtin.append_ #[sT, sT] ty #[v, .slice (some ⟨w.heap.size, 0, none⟩) 1 1]).run Tryz.prog (w.alloc (.cells cs.toArray T)) = .ok v' w') ∧ GrAt K T z P w' B v' (acc ++ [x]) ∧ Only (fun k => v.ownBlock = some k) w w' ∧ ∀ k, v'.ownBlock = some k → k < w'.heap.size := by
  obtain ⟨i0, z0, hi, hz0, hz1, hz2, hz3⟩ := hI
  obtain ⟨W, hW⟩ : ∃ W, W = w.alloc (.cells cs.toArray T) := ⟨_, rfl⟩
  have oo : Only (fun _ => False) w W := by rw [hW]; exact (Only.refl _ w).alloc _
  have hf2 := hf.only hK hP oo (fun _ _ _ h => h)
  have hn2 := hn.only hK hP oo (fun _ _ _ h => h)
  have hblk : W.heap[w.heap.size]? = some (.cells cs.toArray T) := by rw [hW]; exact alloc_at _ _ _ rfl
  obtain ⟨us, S, ho, ht, hS⟩ := hf2
  obtain ⟨S1, h1, hs1⟩ := id hn2
  have key := fun ty => run_append_own_at (P := Tryz.prog) W B sT ty T i0 z0 z by' hT hi hz0 hz1 hz2 hz3 hz v acc.length us ho ⟨w.heap.size, 0, none⟩ 1 1 cs (by rw [hP.len h1]; omega) (by
      intro j u hj
      rw [addr_ad, blk_cells hblk]
      simpa using hj) (hP.one h1) (by unfold maxLen; omega) (by
      have : (acc.length + 1) * by' ≤ 1000001 * 1000 := Nat.mul_le_mul (by omega) hby
      omega) (by have := oo.size; omega)
  obtain ⟨v', w', hr, own', hg, _, hat⟩ := key 0
  refine ⟨v', w', fun ty => ?_, GrAt.snoc hK hP hg ho ht hS hn2 hC hv own' hat, (oo.mono (bs' := fun k => v.ownBlock = some k) (fun _ _ h => h.elim)).trans ((Only.refl (fun k => v.ownBlock = some k) W).grown hg (fun k e _ => e)) (fun k hk e => e), fun k hk => (own'.lt k hk).2⟩
  rw [← hW, ← hr]
  rfl
end
/-- texts within the blocks S -/
def UsV (w : World) (S : Nat → Prop) (v : Value) (us : List ByteArray) : Prop := (us = [] ∧ v = .slice none 0 0) ∨ ∃ g o cap, v = .slice (some ⟨g, o, none⟩) us.length cap ∧ us.length ≤ cap ∧ S g ∧ ∀ (j : Nat) (x : ByteArray), us[j]? = some x → w.cell? ⟨g, o + j, none⟩ = some (.string x)
theorem UsV.step {w w' : World} {S S' : Nat → Prop} {v : Value} {us : List ByteArray} (hS : ∀ b, S b → S' b) (hk : ∀ (a : Addr) u, S a.block → w.cell? a = some u → w'.cell? a = some u) (h : UsV w S v us) : UsV w' S' v us := by
  rcases h with h | ⟨g, o, cap, hv, hc, hs, hl⟩
  · exact .inl h
  · exact .inr ⟨g, o, cap, hv, hc, hS g hs, fun j x hx => hk _ _ hs (hl j x hx)⟩
theorem UsV.form {w : World} {S : Nat → Prop} {v : Value} {us : List ByteArray} (h : UsV w S v us) : ∃ a c, v = .slice a us.length c := by
  rcases h with ⟨rfl, rfl⟩ | ⟨g, o, cap, rfl, _⟩
  · exact ⟨none, 0, rfl⟩
  · exact ⟨_, _, rfl⟩
/-- a definition's cells -/
def DcP (w : World) (S : Nat → Prop) (fm : Fm) (cs : List Value) : Prop := ∃ bo bc, cs = [.string fm.nm, .int .i64 (fm.i : Int), .int .i64 (fm.j : Int), .slice bo fm.b.length bc] ∧ SqAt w S 12400 true (.slice bo fm.b.length bc) fm.b
theorem el_dc : El 4 DcP where
  step := fun hS hk h => by
    obtain ⟨bo, bc, h1, h2⟩ := h
    exact ⟨bo, bc, h1, h2.step hS hk (Nat.le_refl _)⟩
  len := fun h => by
    obtain ⟨bo, bc, h1, h2⟩ := h
    rw [h1]; rfl
  one := fun h u hu => by
    obtain ⟨bo, bc, h1, h2⟩ := h
    rw [h1] at hu
    simp only [List.mem_cons, List.not_mem_nil, or_false] at hu
    rcases hu with rfl | rfl | rfl | rfl <;> rfl
/-- a vocabulary's cells -/
def McP (w : World) (S : Nat → Prop) (m : Mf) (cs : List Value) : Prop := ∃ uv dv, cs = [.string m.nm, uv, dv] ∧ UsV w S uv m.us ∧ GvAt 4 DcP w S dv m.ds
theorem el_mc : El 3 McP where
  step := fun hS hk h => by
    obtain ⟨uv, dv, h1, h2, h3⟩ := h
    exact ⟨uv, dv, h1, h2.step hS hk, h3.step el_dc hS hk⟩
  len := fun h => by
    obtain ⟨uv, dv, h1, h2⟩ := h
    rw [h1]; rfl
  one := fun h u hu => by
    obtain ⟨uv, dv, h1, h2, ⟨a2, c2, rfl, _⟩⟩ := h
    obtain ⟨a1, c1, rfl⟩ := h2.form
    rw [h1] at hu
    simp only [List.mem_cons, List.not_mem_nil, or_false] at hu
    rcases hu with rfl | rfl | rfl <;> rfl
set_option maxRecDepth 100000 in
theorem dc_info : ∃ i z, Tryz.prog.info? 49 = some i ∧ i.zero = some z ∧ i.size = 4 ∧ i.bytes = 56 ∧ z.cells.size = 4 := ⟨_, _, rfl, rfl, rfl, rfl, rfl⟩
set_option maxRecDepth 100000 in
theorem mc_info : ∃ i z, Tryz.prog.info? 44 = some i ∧ i.zero = some z ∧ i.size = 3 ∧ i.bytes = 64 ∧ z.cells.size = 3 := ⟨_, _, rfl, rfl, rfl, rfl, rfl⟩
end Go.Proofs.YtfecmpebnianpaaGreatDoor
