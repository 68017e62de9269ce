/- Lists that lie apart from each other, put into a book one after the other. -/
import Derived.Test.YtcgcgaafmedkmaaApK
import Derived.Test.YtcgcgaafmedkmaaL6
namespace Go.Proofs.Ytcgcgaafmedkmaa
open Go.RowKit
set_option linter.unusedSimpArgs false
set_option linter.unusedVariables false

/-- Bytes zss behind the slices vs, each in a block of its own, all of which are P. -/
structure Fss (w : World) (P : Nat → Prop) (vs : List Value) (zss : List (List Nat)) : Prop where
  len : vs.length = zss.length
  at_ : ∀ j, j < vs.length → ∃ B, Fresh w B (vs.getD j undef) (zss.getD j [])
  blk : ∀ j b, j < vs.length → (vs.getD j undef).ownBlock = some b → P b
  sep : ∀ i j b, i < j → j < vs.length → (vs.getD i undef).ownBlock = some b → (vs.getD j undef).ownBlock ≠ some b
theorem Fss.frame {w w' : World} {P : Nat → Prop} {vs : List Value} {zss : List (List Nat)} (h : Fss w P vs zss) (ho : Only (fun _ => False) w w') : Fss w' P vs zss :=
  ⟨h.len, fun j hj => by obtain ⟨B, hB⟩ := h.at_ j hj; exact ⟨B, hB.frame ho⟩, h.blk, h.sep⟩
theorem Fss.one {w : World} {B : Nat} {v : Value} {zs : List Nat} {P : Nat → Prop} (h : Fresh w B v zs) (hP : ∀ b, v.ownBlock = some b → P b) : Fss w P [v] [zs] := by
  refine ⟨rfl, fun j hj => ?_, fun j b hj hb => ?_, fun i j b hij hj => ?_⟩
  · obtain rfl : j = 0 := by simp at hj; omega
    exact ⟨B, h⟩
  · obtain rfl : j = 0 := by simp at hj; omega
    exact hP b hb
  · simp at hj; omega
theorem getD_append {α : Type} (a b : List α) (d : α) (j : Nat) : (a ++ b).getD j d = if j < a.length then a.getD j d else b.getD (j - a.length) d := by
  simp only [List.getD]
  split
  · rename_i h; rw [List.getElem?_append_left h]
  · rename_i h; rw [List.getElem?_append_right (by omega)]
theorem Fss.append {w : World} {P Q : Nat → Prop} {vs us : List Value} {zss yss : List (List Nat)} (h : Fss w P vs zss) (k : Fss w Q us yss) (hd : ∀ b, P b → Q b → False) : Fss w (fun b => P b ∨ Q b) (vs ++ us) (zss ++ yss) := by
  have hl := h.len
  have kl := k.len
  refine ⟨by simp [hl, kl], fun j hj => ?_, fun j b hj hb => ?_, fun i j b hij hj h1 h2 => ?_⟩
  · rw [getD_append, getD_append, ← hl]
    rw [List.length_append] at hj
    split
    · rename_i e; exact h.at_ j e
    · exact k.at_ _ (by omega)
  · rw [getD_append] at hb
    rw [List.length_append] at hj
    split at hb
    · rename_i e; exact .inl (h.blk j b e hb)
    · exact .inr (k.blk _ b (by omega) hb)
  · rw [getD_append] at h1 h2
    rw [List.length_append] at hj
    split at h1
    · rename_i e1
      split at h2
      · rename_i e2; exact h.sep i j b hij e2 h1 h2
      · exact hd b (h.blk i b e1 h1) (k.blk _ b (by omega) h2)
    · split at h2
      · omega
      · exact k.sep (i - vs.length) (j - vs.length) b (by omega) (by omega) h1 h2
theorem FL.fs {w : World} {B : Nat} {v : Value} {us : List Value} {L : List (List Nat)} (h : FL w B v us L) : Fss w (fun b => B ≤ b ∧ b < w.heap.size) us L := by
  have hl := h.len
  exact ⟨hl, fun j hj => ⟨B, h.at_ j (by omega)⟩, fun j b hj hb => (h.at_ j (by omega)).1.lt b hb, fun i j b hij hj => h.sep i j b hij (by omega)⟩
theorem Fss.mono {w : World} {P Q : Nat → Prop} {vs : List Value} {zss : List (List Nat)} (h : Fss w P vs zss) (hm : ∀ b, P b → Q b) : Fss w Q vs zss := ⟨h.len, h.at_, fun j b hj hb => hm b (h.blk j b hj hb), h.sep⟩
theorem Fss.nil (w : World) (P : Nat → Prop) : Fss w P [] [] := ⟨rfl, fun j hj => absurd hj (Nat.not_lt_zero _), fun j b hj => absurd hj (Nat.not_lt_zero _), fun i j b _ hj => absurd hj (Nat.not_lt_zero _)⟩
theorem BL_cell (zs : List Nat) (j : Nat) (h : j < zs.length) : (BL zs)[j]? = some (.int .u8 ((zs.getD j 0 : Nat) : Int)) := by
  rw [BL_get _ _ h]
  simp [List.getD, h]
theorem Fss.lists {w : World} {P : Nat → Prop} {vs : List Value} {zss : List (List Nat)} (h : Fss w P vs zss) (hm : ∀ z ∈ zss, z.length ≤ 140737488351232) : Lists w vs.length (fun j => vs.getD j undef) (fun j => (zss.getD j []).length) := by
  refine ⟨fun i hi => ?_, fun i b hi e => ?_, fun i j b hi hj e e' => ?_, fun i hi => ?_⟩
  · obtain ⟨B, hB⟩ := h.at_ i hi
    exact Whole.room (f := fun j => .int .u8 (((zss.getD i []).getD j 0 : Nat) : Int)) (Whole.ofOwn hB.1 (fun j hj => BL_cell _ j hj))
  · obtain ⟨B, hB⟩ := h.at_ i hi
    exact (hB.1.lt b e).2
  · rcases Nat.lt_trichotomy i j with hlt | rfl | hlt
    · exact absurd e' (h.sep i j b hlt hj e)
    · rfl
    · exact absurd e (h.sep j i b hlt hi e')
  · have hi' : i < zss.length := by rw [← h.len]; exact hi
    refine hm _ ?_
    simp only [List.getD, List.getElem?_eq_getElem hi', Option.getD_some]
    exact List.getElem_mem hi'

/-- append(v, u...) of slices. -/
theorem app_row {w : World} {B n : Nat} {v u : Value} {xs us : List Value} (h : w.ownsRow B 22 1 v n xs) (hu : RowAt w u us.length 1 (fun j => us.getD j undef)) (h1 : ∀ x ∈ us, x.oneCell' = true) (hB : B ≤ w.heap.size) (hl : (n + us.length) * 24 ≤ 140737488355328) :
    ∃ a cap w', (∀ ty, (Builtin.append_ #[34, 34] ty #[v, u]).run Try.prog w = .ok (.slice a (n + us.length) cap) w') ∧ w'.ownsRow B 22 1 (.slice a (n + us.length) cap) (n + us.length) (xs ++ us) ∧ w.grownBy w' v.ownBlock := by
  obtain ⟨i0, hi0, hz0, hz1, hz2⟩ := info_parts info22
  rcases hu with ⟨rfl, h0⟩ | ⟨ad, c, rfl, hkc, hc⟩
  · obtain rfl : us = [] := List.eq_nil_of_length_eq_zero h0
    obtain ⟨a, cap, rfl⟩ := ownsRow_slice h
    refine ⟨a, cap, w, fun ty => run_append_owned_none _ B 34 ty 22 i0 1 Try.underlying34 hi0 _ n xs h, by simpa using h, ⟨rfl, rfl, rfl, Nat.le_refl _, fun _ _ _ => rfl⟩⟩
  · have hnews : ∀ j x, us[j]? = some x → w.cell? (ad.add j) = some x := fun j x hx => by
      have hj : j < us.length := (List.getElem?_eq_some_iff.1 hx).1
      rw [hc j (by omega)]
      simp only [List.getD, hx, Option.getD_some]
    have key := fun ty => run_append_own_at (P := Try.prog) w B 34 ty 22 i0 _ 1 24 Try.underlying34 hi0 hz0 hz1 hz2 rfl (by omega) v n xs h ad us.length c us (by omega) hnews h1 (by unfold maxLen; omega) (by omega) hB
    obtain ⟨v', w', hr, own', hg, _, _⟩ := key 0
    obtain ⟨a, cap, rfl⟩ := ownsRow_slice own'
    exact ⟨a, cap, w', fun ty => by rw [← hr]; rfl, own', hg⟩

/-- A book at block p whose lists of bytes are vs, behind v. -/
structure BookAt (W w : World) (p : Nat) (v : Value) (vs : List Value) : Prop where
  c0 : w.cell? ⟨p, 0, none⟩ = some (.slice none 0 0)
  c1 : w.cell? ⟨p, 1, none⟩ = some (.slice none 0 0)
  c2 : w.cell? ⟨p, 2, none⟩ = some v
  c3 : w.cell? ⟨p, 3, none⟩ = some (.slice none 0 0)
  ty : ∃ cs, w.heap[p]? = some (.cells cs 50 (0, 0))
  own : w.ownsRow W.heap.size 22 1 v vs.length vs
  pW : W.heap.size ≤ p
  only : Only (fun _ => False) W w
theorem BookAt.start {W : World} {x y z : Value} :
    BookAt W ((W.alloc (.cells #[x, y, z] 22)).alloc (.cells #[.slice none 0 0, .slice none 0 0, .slice (some ⟨W.heap.size, 0, none⟩) 3 3, .slice none 0 0] 50)) (W.heap.size + 1) (.slice (some ⟨W.heap.size, 0, none⟩) 3 3) [x, y, z] := by
  have hp := heap_alloc2_new W (.cells #[x, y, z] 22) (.cells #[.slice none 0 0, .slice none 0 0, .slice (some ⟨W.heap.size, 0, none⟩) 3 3, .slice none 0 0] 50)
  refine ⟨?_, ?_, ?_, ?_, ⟨_, hp⟩, ?_, by omega, ((Only.refl _ W).alloc _).alloc _⟩
  · rw [cell_of_row _ _ 0 _ _ _ hp]; rfl
  · rw [cell_of_row _ _ 1 _ _ _ hp]; rfl
  · rw [cell_of_row _ _ 2 _ _ _ hp]; rfl
  · rw [cell_of_row _ _ 3 _ _ _ hp]; rfl
  · exact (World.ownsRow_lit (base := W.heap.size) (e := 22) (size := 1) W #[x, y, z] 3 (Nat.le_refl _) (by unfold maxLen; omega) rfl).alloc _
theorem BookAt.noOwn {W w : World} {p : Nat} {v : Value} {vs : List Value} (h : BookAt W w p v vs) : v.ownBlock ≠ some p := by
  intro e
  obtain ⟨cs, hcs⟩ := h.ty
  rcases h.own.2 with ⟨rfl, _⟩ | ⟨g, cap, cur, rfl, _, hg, _⟩
  · cases e
  · simp [Value.ownBlock] at e
    subst e
    rw [hg] at hcs
    simp at hcs
theorem BookAt.more {W w : World} {p : Nat} {v u : Value} {vs us : List Value} (h : BookAt W w p v vs) (hu : RowAt w u us.length 1 (fun j => us.getD j undef)) (h1 : ∀ x ∈ us, x.oneCell' = true) (hl : (vs.length + us.length) * 24 ≤ 140737488355328) :
    ∃ a cap w', (∀ ty, (Builtin.append_ #[34, 34] ty #[v, u]).run Try.prog w = .ok (.slice a (vs.length + us.length) cap) w') ∧ w'.cell? ⟨p, 2, none⟩ = some v ∧ w'.frozen? ⟨p, 2, none⟩ = false ∧
      BookAt W (w'.setCell ⟨p, 2, none⟩ (.slice a (vs.length + us.length) cap)) p (.slice a (vs.length + us.length) cap) (vs ++ us) := by
  obtain ⟨a, cap, w', hr, own', hg⟩ := app_row h.own hu h1 h.only.size hl
  have hno := h.noOwn
  have ho : Only (fun k => v.ownBlock = some k) w w' := (Only.refl _ w).grown hg (fun k e _ => e)
  obtain ⟨cs, hcs⟩ := h.ty
  have hlt : p < w.heap.size := by
    rcases Nat.lt_or_ge p w.heap.size with h1 | h1
    · exact h1
    · simp [Array.getElem?_eq_none h1] at hcs
  have hcs' : w'.heap[p]? = some (.cells cs 50 (0, 0)) := by rw [ho.block p hlt hno]; exact hcs
  have ho2 : Only (fun _ => False) W w' := h.only.trans ho (fun i hi e => by have := (h.own.lt i e).1; omega)
  have hfz : w'.frozen? ⟨p, 2, none⟩ = false := frozen_of_row _ _ _ _ _ hcs'
  have y2 := ho.cell h.c2 hno
  refine ⟨a, cap, w', hr, y2, hfz, ?_⟩
  have hv : (Value.slice a (vs.length + us.length) cap).ownBlock ≠ some p := by
    intro e
    rcases own'.2 with ⟨h1, _⟩ | ⟨g, cap', cur, h1, _, hg', _⟩
    · rw [h1] at e; cases e
    · rw [h1] at e
      simp [Value.ownBlock] at e
      subst e
      rw [hg'] at hcs'
      simp at hcs'
  have oS : Only (fun k => k = p) w' (w'.setCell ⟨p, 2, none⟩ (.slice a (vs.length + us.length) cap)) := (Only.refl _ w').setCell _ _ (fun _ => rfl)
  refine ⟨?_, ?_, World.cell?_setCell_same _ _ _ y2, ?_, ?_, ?_, h.pW, ?_⟩
  · rw [World.cell?_setCell_other _ _ _ _ (by simp)]; exact ho.cell h.c0 hno
  · rw [World.cell?_setCell_other _ _ _ _ (by simp)]; exact ho.cell h.c1 hno
  · rw [World.cell?_setCell_other _ _ _ _ (by simp)]; exact ho.cell h.c3 hno
  · exact ⟨_, heap_setCell_same w' p 2 cs 50 _ hcs'⟩
  · rw [List.length_append]
    exact oS.owns own' (fun k hk e => hv (by rw [hk, e]))
  · exact ho2.trans oS (fun i hi e => by have := h.pW; omega)

/-- A book's lists lie apart. -/
theorem BookAt.apart {W w : World} {p lo : Nat} {v : Value} {vs : List Value} {zss : List (List Nat)} {P : Nat → Prop} (h : BookAt W w p v vs) (hf : Fss W P vs zss) (hm : ∀ z ∈ zss, z.length ≤ 140737488351232) (hP : ∀ b, P b → lo ≤ b ∧ b < W.heap.size) (hk : vs.length * 24 ≤ 140737488355328) :
    Calls Try.prog 24 #[.pointer (some ⟨p, 0, none⟩)] w fun e w' => e = .returned (.bool true) ∧ Only (fun b => lo ≤ b) W w' := by
  have hfw := hf.frame h.only
  have hL := hfw.lists hm
  have hls : ∀ b, lsB vs.length (fun j => vs.getD j undef) b → P b := fun b ⟨i, hi, e⟩ => hf.blk i b hi e
  have hW : Whole w v vs.length (fun j => vs.getD j undef) := Whole.ofOwn h.own (fun j hj => by simp [List.getD, hj])
  refine (apart_book p vs.length _ _ v w h.c0 h.c1 h.c2 h.c3 (fun e => ?_) hW (fun b hb hb2 => ?_) hL hk).mono ?_
  · have := (hP p (hls p e)).2
    have := h.pW
    omega
  · obtain ⟨i, hi, e⟩ := hb2
    obtain ⟨B, hB⟩ := hfw.at_ i hi
    exact rows_apart hB.1 h.own b e hb
  · rintro e w' ⟨rfl, ho, _⟩
    exact ⟨rfl, (h.only.mono (fun k hk e => e.elim)).trans ho (fun i hi e => (hP i (hls i e)).1)⟩
/-- What Split answers, in one form. -/
def errOf (r : Option (List (List Nat))) : Int := if r.isSome then 0 else 9
theorem split_form {r : Option (List (List Nat))} {B : Nat} {e : Ending} {w : World} (h : SplitIs r B e w) : ∃ u us, e = .returned (.tuple #[u, .int .i64 (errOf r)]) ∧ FL w B u us (r.getD []) := by
  rcases h with ⟨M, u, us, h1, h2, h3⟩ | ⟨h1, h2⟩
  · subst h1
    exact ⟨u, us, h2, h3⟩
  · subst h1
    exact ⟨_, [], h2, FL.nil _ _⟩
theorem two_bytes (w : World) : BytesAt (w.alloc (.cells #[.int .u8 71, .int .u8 72] 5)) (.slice (some ⟨w.heap.size, 0, none⟩) 2 2) [71, 72] := by
  refine ⟨.inr ⟨_, _, rfl, by simp, fun j hj => ?_⟩, by simp, by simp⟩
  rw [Addr.add_mid, cell_of_row _ _ _ _ _ _ (heap_alloc_new w _)]
  have : j = 0 ∨ j = 1 := by simp at hj; omega
  rcases this with rfl | rfl <;> rfl
theorem FL.row {w : World} {B : Nat} {v : Value} {us : List Value} {L : List (List Nat)} (h : FL w B v us L) : RowAt w v us.length 1 (fun j => us.getD j undef) := by
  obtain ⟨a, c, rfl⟩ := ownsRow_slice h.own
  rw [h.len]
  refine rowAt_own (B := B) (e := 22) ?_
  have : (List.range L.length).map (fun j => us.getD j undef) = us := by
    apply List.ext_getElem
    · simp [h.len]
    · intro i h1 h2
      simp at h1
      have : i < us.length := by rw [h.len]; exact h1
      simp [List.getD, this]
  rw [this]
  exact h.own
theorem FL.ones {w : World} {B : Nat} {v : Value} {us : List Value} {L : List (List Nat)} (h : FL w B v us L) : ∀ x ∈ us, x.oneCell' = true := by
  intro x hx
  obtain ⟨j, hj, rfl⟩ := List.getElem_of_mem hx
  have := h.at_ j (by rw [← h.len]; exact hj)
  simp only [List.getD, List.getElem?_eq_getElem hj, Option.getD_some] at this
  obtain ⟨a, c, hv⟩ := this.form
  rw [hv]; rfl
end Go.Proofs.Ytcgcgaafmedkmaa
