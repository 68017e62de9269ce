/- Lists that lie apart from each other, put into a book. -/
import Derived.Test.YtdcflnfdaijpdabApK
import Derived.Test.YtdcflnfdaijpdabSm
import Derived.Test.YtdcflnfdaijpdabAw
namespace Go.Proofs.Ytdcflnfdaijpdab
open Go.RowKit
set_option linter.unusedSimpArgs false
set_option linter.unusedVariables false

/-- Bytes zss behind the slices vs, each in a block of its own, all of which are P. -/
structure Fss (w : World) (P : Nat → Prop) (vs : List Value) (zss : List (List Nat)) : Prop where
  len : vs.length = zss.length
  at_ : ∀ j, j < vs.length → ∃ B, Fresh w B (vs.getD j undef) (zss.getD j [])
  blk : ∀ j b, j < vs.length → (vs.getD j undef).ownBlock = some b → P b
  sep : ∀ i j b, i < j → j < vs.length → (vs.getD i undef).ownBlock = some b → (vs.getD j undef).ownBlock ≠ some b
theorem Fss.frame {w w' : World} {P : Nat → Prop} {vs : List Value} {zss : List (List Nat)} (h : Fss w P vs zss) (ho : Only (fun _ => False) w w') : Fss w' P vs zss :=
  ⟨h.len, fun j hj => by obtain ⟨B, hB⟩ := h.at_ j hj; exact ⟨B, hB.frame ho⟩, h.blk, h.sep⟩
theorem Fss.one {w : World} {B : Nat} {v : Value} {zs : List Nat} {P : Nat → Prop} (h : Fresh w B v zs) (hP : ∀ b, v.ownBlock = some b → P b) : Fss w P [v] [zs] := by
  refine ⟨rfl, fun j hj => ?_, fun j b hj hb => ?_, fun i j b hij hj => ?_⟩
  · obtain rfl : j = 0 := by simp at hj; omega
    exact ⟨B, h⟩
  · obtain rfl : j = 0 := by simp at hj; omega
    exact hP b hb
  · simp at hj; omega
theorem getD_append {α : Type} (a b : List α) (d : α) (j : Nat) : (a ++ b).getD j d = if j < a.length then a.getD j d else b.getD (j - a.length) d := by
  simp only [List.getD]
  split
  · rename_i h; rw [List.getElem?_append_left h]
  · rename_i h; rw [List.getElem?_append_right (by omega)]
theorem Fss.append {w : World} {P Q : Nat → Prop} {vs us : List Value} {zss yss : List (List Nat)} (h : Fss w P vs zss) (k : Fss w Q us yss) (hd : ∀ b, P b → Q b → False) : Fss w (fun b => P b ∨ Q b) (vs ++ us) (zss ++ yss) := by
  have hl := h.len
  have kl := k.len
  refine ⟨by simp [hl, kl], fun j hj => ?_, fun j b hj hb => ?_, fun i j b hij hj h1 h2 => ?_⟩
  · rw [getD_append, getD_append, ← hl]
    rw [List.length_append] at hj
    split
    · rename_i e; exact h.at_ j e
    · exact k.at_ _ (by omega)
  · rw [getD_append] at hb
    rw [List.length_append] at hj
    split at hb
    · rename_i e; exact .inl (h.blk j b e hb)
    · exact .inr (k.blk _ b (by omega) hb)
  · rw [getD_append] at h1 h2
    rw [List.length_append] at hj
    split at h1
    · rename_i e1
      split at h2
      · rename_i e2; exact h.sep i j b hij e2 h1 h2
      · exact hd b (h.blk i b e1 h1) (k.blk _ b (by omega) h2)
    · split at h2
      · omega
      · exact k.sep (i - vs.length) (j - vs.length) b (by omega) (by omega) h1 h2
theorem Fss.mono {w : World} {P Q : Nat → Prop} {vs : List Value} {zss : List (List Nat)} (h : Fss w P vs zss) (hm : ∀ b, P b → Q b) : Fss w Q vs zss := ⟨h.len, h.at_, fun j b hj hb => hm b (h.blk j b hj hb), h.sep⟩
theorem BL_cell (zs : List Nat) (j : Nat) (h : j < zs.length) : (BL zs)[j]? = some (.int .u8 ((zs.getD j 0 : Nat) : Int)) := by
  rw [BL_get _ _ h]
  simp [List.getD, h]
theorem Fss.lists {w : World} {P : Nat → Prop} {vs : List Value} {zss : List (List Nat)} (h : Fss w P vs zss) (hm : ∀ z ∈ zss, z.length ≤ 140737488351232) : Lists w vs.length (fun j => vs.getD j undef) (fun j => (zss.getD j []).length) := by
  refine ⟨fun i hi => ?_, fun i b hi e => ?_, fun i j b hi hj e e' => ?_, fun i hi => ?_⟩
  · obtain ⟨B, hB⟩ := h.at_ i hi
    exact Whole.room (f := fun j => .int .u8 (((zss.getD i []).getD j 0 : Nat) : Int)) (Whole.ofOwn hB.1 (fun j hj => BL_cell _ j hj))
  · obtain ⟨B, hB⟩ := h.at_ i hi
    exact (hB.1.lt b e).2
  · rcases Nat.lt_trichotomy i j with hlt | rfl | hlt
    · exact absurd e' (h.sep i j b hlt hj e)
    · rfl
    · exact absurd e (h.sep j i b hlt hi e')
  · have hi' : i < zss.length := by rw [← h.len]; exact hi
    refine hm _ ?_
    simp only [List.getD, List.getElem?_eq_getElem hi', Option.getD_some]
    exact List.getElem_mem hi'
theorem rows_apart {w : World} {B B' n m e e' : Nat} {u v : Value} {xs ys : List Value} (hee : e ≠ e') (hu : w.ownsRow B e 1 u n xs) (hv : w.ownsRow B' e' 1 v m ys) (k : Nat) (h1 : u.ownBlock = some k) (h2 : v.ownBlock = some k) : False := by
  rcases hu.2 with ⟨rfl, _⟩ | ⟨g, cap, cur, rfl, _, hg, _⟩
  · cases h1
  · rcases hv.2 with ⟨rfl, _⟩ | ⟨g', cap', cur', rfl, _, hg', _⟩
    · cases h2
    · simp [Value.ownBlock] at h1 h2
      subst h1 h2
      rw [hg] at hg'
      simp at hg'
      exact hee (by simp_all)
theorem row_not {w : World} {B n e e' p : Nat} {u : Value} {xs : List Value} {cs : Array Value} (hee : e ≠ e') (hu : w.ownsRow B e 1 u n xs) (hp : w.heap[p]? = some (.cells cs e' (0, 0))) : u.ownBlock ≠ some p := by
  intro h1
  rcases hu.2 with ⟨rfl, _⟩ | ⟨g, cap, cur, rfl, _, hg, _⟩
  · cases h1
  · simp [Value.ownBlock] at h1
    subst h1
    rw [hg] at hp
    simp at hp
    exact hee (by simp_all)

/-- append(v, u...) of slices. -/
theorem app_row {w : World} {B n : Nat} {v u : Value} {xs us : List Value} (h : w.ownsRow B 23 1 v n xs) (hu : RowAt w u us.length 1 (fun j => us.getD j undef)) (h1 : ∀ x ∈ us, x.oneCell' = true) (hB : B ≤ w.heap.size) (hl : (n + us.length) * 24 ≤ 140737488355328) :
    ∃ a cap w', (∀ ty, (Builtin.append_ #[35, 35] ty #[v, u]).run Try.prog w = .ok (.slice a (n + us.length) cap) w') ∧ w'.ownsRow B 23 1 (.slice a (n + us.length) cap) (n + us.length) (xs ++ us) ∧ w.grownBy w' v.ownBlock := by
  obtain ⟨i0, hi0, hz0, hz1, hz2⟩ := info_parts info23
  rcases hu with ⟨rfl, h0⟩ | ⟨ad, c, rfl, hkc, hc⟩
  · obtain rfl : us = [] := List.eq_nil_of_length_eq_zero h0
    obtain ⟨a, cap, rfl⟩ := ownsRow_slice h
    refine ⟨a, cap, w, fun ty => run_append_owned_none _ B 35 ty 23 i0 1 Try.underlying35 hi0 _ n xs h, by simpa using h, ⟨rfl, rfl, rfl, Nat.le_refl _, fun _ _ _ => rfl⟩⟩
  · have hnews : ∀ j x, us[j]? = some x → w.cell? (ad.add j) = some x := fun j x hx => by
      have hj : j < us.length := (List.getElem?_eq_some_iff.1 hx).1
      rw [hc j (by omega)]
      simp only [List.getD, hx, Option.getD_some]
    have key := fun ty => run_append_own_at (P := Try.prog) w B 35 ty 23 i0 _ 1 24 Try.underlying35 hi0 hz0 hz1 hz2 rfl (by omega) v n xs h ad us.length c us (by omega) hnews h1 (by unfold maxLen; omega) (by omega) hB
    obtain ⟨v', w', hr, own', hg, _, _⟩ := key 0
    obtain ⟨a, cap, rfl⟩ := ownsRow_slice own'
    exact ⟨a, cap, w', fun ty => by rw [← hr]; rfl, own', hg⟩

/-- A book at block p: the lists of numbers are l and m, the lists of bytes are vs, behind v. -/
structure BookAt (W w : World) (p : Nat) (l m : Value) (v : Value) (vs : List Value) : Prop where
  c0 : w.cell? ⟨p, 0, none⟩ = some (.slice (some ⟨W.heap.size, 0, none⟩) 2 2)
  c1 : w.cell? ⟨p, 1, none⟩ = some (.slice none 0 0)
  c2 : w.cell? ⟨p, 2, none⟩ = some v
  c3 : w.cell? ⟨p, 3, none⟩ = some (.slice none 0 0)
  ty : ∃ cs, w.heap[p]? = some (.cells cs 39 (0, 0))
  iown : w.ownsRow W.heap.size 30 1 (.slice (some ⟨W.heap.size, 0, none⟩) 2 2) 2 [l, m]
  own : w.ownsRow W.heap.size 23 1 v vs.length vs
  pW : W.heap.size ≤ p
  only : Only (fun _ => False) W w
theorem BookAt.start {W : World} {l m x : Value} :
    BookAt W (((W.alloc (.cells #[l, m] 30)).alloc (.cells #[x] 23)).alloc (.cells #[.slice (some ⟨W.heap.size, 0, none⟩) 2 2, .slice none 0 0, .slice (some ⟨W.heap.size + 1, 0, none⟩) 1 1, .slice none 0 0] 39)) (W.heap.size + 2) l m (.slice (some ⟨W.heap.size + 1, 0, none⟩) 1 1) [x] := by
  have hs : (W.alloc (.cells #[l, m] 30)).heap.size = W.heap.size + 1 := by simp
  have hp := heap_alloc2_new (W.alloc (.cells #[l, m] 30)) (.cells #[x] 23) (.cells #[.slice (some ⟨W.heap.size, 0, none⟩) 2 2, .slice none 0 0, .slice (some ⟨W.heap.size + 1, 0, none⟩) 1 1, .slice none 0 0] 39)
  rw [hs] at hp
  refine ⟨?_, ?_, ?_, ?_, ⟨_, hp⟩, ?_, ?_, by omega, (((Only.refl _ W).alloc _).alloc _).alloc _⟩
  · rw [cell_of_row _ _ 0 _ _ _ hp]; rfl
  · rw [cell_of_row _ _ 1 _ _ _ hp]; rfl
  · rw [cell_of_row _ _ 2 _ _ _ hp]; rfl
  · rw [cell_of_row _ _ 3 _ _ _ hp]; rfl
  · exact ((World.ownsRow_lit (base := W.heap.size) (e := 30) (size := 1) W #[l, m] 2 (Nat.le_refl _) (by unfold maxLen; omega) rfl).alloc _).alloc _
  · have := (World.ownsRow_lit (base := W.heap.size) (e := 23) (size := 1) (W.alloc (.cells #[l, m] 30)) #[x] 1 (by omega) (by unfold maxLen; omega) rfl).alloc (.cells #[.slice (some ⟨W.heap.size, 0, none⟩) 2 2, .slice none 0 0, .slice (some ⟨W.heap.size + 1, 0, none⟩) 1 1, .slice none 0 0] 39)
    rw [hs] at this
    exact this
theorem BookAt.frame {W w w' : World} {p : Nat} {l m v : Value} {vs : List Value} (h : BookAt W w p l m v vs) (ho : Only (fun _ => False) w w') : BookAt W w' p l m v vs := by
  obtain ⟨cs, hcs⟩ := h.ty
  have hlt : p < w.heap.size := by
    rcases Nat.lt_or_ge p w.heap.size with h1 | h1
    · exact h1
    · simp [Array.getElem?_eq_none h1] at hcs
  exact ⟨ho.cell h.c0 (fun e => e), ho.cell h.c1 (fun e => e), ho.cell h.c2 (fun e => e), ho.cell h.c3 (fun e => e), ⟨cs, by rw [ho.block p hlt (fun e => e)]; exact hcs⟩, ho.owns h.iown (fun _ _ e => e), ho.owns h.own (fun _ _ e => e), h.pW, h.only.trans ho (fun _ _ e => e)⟩
theorem BookAt.more {W w : World} {p : Nat} {l m v u : Value} {vs us : List Value} (h : BookAt W w p l m v vs) (hu : RowAt w u us.length 1 (fun j => us.getD j undef)) (h1 : ∀ x ∈ us, x.oneCell' = true) (hl : (vs.length + us.length) * 24 ≤ 140737488355328) :
    ∃ a cap w', (∀ ty, (Builtin.append_ #[35, 35] ty #[v, u]).run Try.prog w = .ok (.slice a (vs.length + us.length) cap) w') ∧ w'.cell? ⟨p, 2, none⟩ = some v ∧ w'.frozen? ⟨p, 2, none⟩ = false ∧
      BookAt W (w'.setCell ⟨p, 2, none⟩ (.slice a (vs.length + us.length) cap)) p l m (.slice a (vs.length + us.length) cap) (vs ++ us) ∧
      (∀ B e n z xs, e ≠ 23 → e ≠ 39 → w.ownsRow B e 1 z n xs → (w'.setCell ⟨p, 2, none⟩ (.slice a (vs.length + us.length) cap)).ownsRow B e 1 z n xs) := by
  obtain ⟨a, cap, w', hr, own', hg⟩ := app_row h.own hu h1 h.only.size hl
  obtain ⟨cs, hcs⟩ := h.ty
  have hno : v.ownBlock ≠ some p := row_not (by decide) h.own hcs
  have ho : Only (fun k => v.ownBlock = some k) w w' := (Only.refl _ w).grown hg (fun k e _ => e)
  have hlt : p < w.heap.size := by
    rcases Nat.lt_or_ge p w.heap.size with h1 | h1
    · exact h1
    · simp [Array.getElem?_eq_none h1] at hcs
  have hcs' : w'.heap[p]? = some (.cells cs 39 (0, 0)) := by rw [ho.block p hlt hno]; exact hcs
  have ho2 : Only (fun _ => False) W w' := h.only.trans ho (fun i hi e => by have := (h.own.lt i e).1; omega)
  have hfz : w'.frozen? ⟨p, 2, none⟩ = false := frozen_of_row _ _ _ _ _ hcs'
  have y2 := ho.cell h.c2 hno
  have hv : (Value.slice a (vs.length + us.length) cap).ownBlock ≠ some p := row_not (by decide) own' hcs'
  have oS : Only (fun k => k = p) w' (w'.setCell ⟨p, 2, none⟩ (.slice a (vs.length + us.length) cap)) := (Only.refl _ w').setCell _ _ (fun _ => rfl)
  have keep : ∀ B e n z xs, e ≠ 23 → e ≠ 39 → w.ownsRow B e 1 z n xs → (w'.setCell ⟨p, 2, none⟩ (.slice a (vs.length + us.length) cap)).ownsRow B e 1 z n xs := fun B e n z xs h23 h39 hz =>
    oS.owns (ho.owns hz (fun k hk hk2 => rows_apart h23 hz h.own k hk hk2)) (fun k hk e => row_not h39 hz hcs (by rw [hk, e]))
  refine ⟨a, cap, w', hr, y2, hfz, ?_, keep⟩
  refine ⟨?_, ?_, World.cell?_setCell_same _ _ _ y2, ?_, ?_, ?_, ?_, h.pW, ?_⟩
  · rw [World.cell?_setCell_other _ _ _ _ (by simp)]; exact ho.cell h.c0 hno
  · rw [World.cell?_setCell_other _ _ _ _ (by simp)]; exact ho.cell h.c1 hno
  · rw [World.cell?_setCell_other _ _ _ _ (by simp)]; exact ho.cell h.c3 hno
  · exact ⟨_, heap_setCell_same w' p 2 cs 39 _ hcs'⟩
  · exact keep _ _ _ _ _ (by decide) (by decide) h.iown
  · rw [List.length_append]
    exact oS.owns own' (fun k hk e => hv (by rw [hk, e]))
  · exact ho2.trans oS (fun i hi e => by have := h.pW; omega)

/-- A book's lists lie apart. -/
theorem BookAt.apart {W w : World} {p lo B B' : Nat} {l m v : Value} {vs : List Value} {zss : List (List Nat)} {P : Nat → Prop} {I J : List Nat} (h : BookAt W w p l m v vs) (hf : Fss w P vs zss) (hm : ∀ z ∈ zss, z.length ≤ 140737488351232) (hP : ∀ b, P b → lo ≤ b) (hk : vs.length * 24 ≤ 140737488355328)
    (hl : FreshI w B l I) (hmm : FreshI w B' m J) (hsep : ∀ b, l.ownBlock = some b → m.ownBlock ≠ some b) (hB : lo ≤ B) (hB' : lo ≤ B') (hlo : lo ≤ W.heap.size) :
    Calls Try.prog 10 #[.pointer (some ⟨p, 0, none⟩)] w fun e w' => e = .returned (.bool true) ∧ Only (fun b => lo ≤ b) W w' := by
  obtain ⟨cs, hcs⟩ := h.ty
  have hL := hf.lists hm
  have hls : ∀ b, lsB vs.length (fun j => vs.getD j undef) b → P b := fun b ⟨i, hi, e⟩ => hf.blk i b hi e
  have hW : Whole w v vs.length (fun j => vs.getD j undef) := Whole.ofOwn h.own (fun j hj => by simp [List.getD, hj])
  have two : ∀ i, i < 2 → i = 0 ∨ i = 1 := fun i hi => by omega
  have hW1 : Whole w (.slice (some ⟨W.heap.size, 0, none⟩) 2 2) 2 (fun j => [l, m].getD j undef) := Whole.ofOwn h.iown (fun j hj => by rcases two j hj with rfl | rfl <;> rfl)
  have hl1 : ∀ b, lsB 2 (fun j => [l, m].getD j undef) b → l.ownBlock = some b ∨ m.ownBlock = some b := fun b ⟨i, hi, e⟩ => by
    rcases two i hi with rfl | rfl
    · exact .inl e
    · exact .inr e
  have hL1 : Lists w 2 (fun j => [l, m].getD j undef) (fun j => [I.length, J.length].getD j 0) := by
    refine ⟨fun i hi => ?_, fun i b hi e => ?_, fun i j b hi hj e e' => ?_, fun i hi => ?_⟩
    · rcases two i hi with rfl | rfl
      · exact Whole.room (f := fun j => .int .i64 ((I.getD j 0 : Nat) : Int)) (Whole.ofOwn hl.1 (fun j hj => IL_get _ j hj))
      · exact Whole.room (f := fun j => .int .i64 ((J.getD j 0 : Nat) : Int)) (Whole.ofOwn hmm.1 (fun j hj => IL_get _ j hj))
    · rcases two i hi with rfl | rfl
      · exact (hl.1.lt b e).2
      · exact (hmm.1.lt b e).2
    · rcases two i hi with rfl | rfl
      · rcases two j hj with rfl | rfl
        · rfl
        · exact absurd e' (hsep b e)
      · rcases two j hj with rfl | rfl
        · exact absurd e (hsep b e')
        · rfl
    · have := hl.2
      have := hmm.2
      rcases two i hi with rfl | rfl
      · show I.length ≤ _; omega
      · show J.length ≤ _; omega
  have hoff : ∀ q, q ≤ 2 → offN (fun j => [I.length, J.length].getD j 0) q ≤ 4611686018427387904 := fun q hq => by
    have := hl.2
    have := hmm.2
    have : q = 0 ∨ q = 1 ∨ q = 2 := by omega
    rcases this with rfl | rfl | rfl
    · show 1000000 ≤ _; omega
    · show 1000000 + (I.length + 9) ≤ _; omega
    · show 1000000 + (I.length + 9) + (J.length + 9) ≤ _; omega
  refine (apart_book p 2 _ _ _ vs.length _ _ v w h.c0 h.c1 h.c2 h.c3 (fun e => ?_) (fun e => ?_) hW1 (fun b hb hb2 => ?_) hL1 (by omega) hoff (fun i hi => ?_) hW (fun b hb hb2 => ?_) (fun b hb hb2 => ?_) hL hk).mono ?_
  · rcases hl1 p e with e | e
    · exact row_not (by decide) hl.1 hcs e
    · exact row_not (by decide) hmm.1 hcs e
  · obtain ⟨i, hi, e⟩ := e
    obtain ⟨B, hB⟩ := hf.at_ i hi
    exact row_not (by decide) hB.1 hcs e
  · rcases hl1 b hb2 with e | e
    · exact rows_apart (by decide) hl.1 h.iown b e hb
    · exact rows_apart (by decide) hmm.1 h.iown b e hb
  · have := hl.2
    have := hmm.2
    rcases two i hi with rfl | rfl
    · show I.length ≤ _; omega
    · show J.length ≤ _; omega
  · obtain ⟨i, hi, e⟩ := hb2
    obtain ⟨B, hB⟩ := hf.at_ i hi
    exact rows_apart (by decide) hB.1 h.own b e hb
  · rcases hl1 b hb2 with e | e
    · exact rows_apart (by decide) hl.1 h.own b e hb
    · exact rows_apart (by decide) hmm.1 h.own b e hb
  · rintro e w' ⟨rfl, ho⟩
    refine ⟨rfl, (h.only.mono (fun k hk e => e.elim)).trans ho (fun i hi e => ?_)⟩
    rcases e with e | e
    · rcases hl1 i e with e | e
      · have := (hl.1.lt i e).1; omega
      · have := (hmm.1.lt i e).1; omega
    · exact hP i (hls i e)
theorem two_bytes (w : World) : BytesAt (w.alloc (.cells #[.int .u8 71, .int .u8 72] 5)) (.slice (some ⟨w.heap.size, 0, none⟩) 2 2) [71, 72] := by
  refine ⟨.inr ⟨_, _, rfl, by simp, fun j hj => ?_⟩, by simp, by simp⟩
  rw [Addr.add_mid, cell_of_row _ _ _ _ _ _ (heap_alloc_new w _)]
  have : j = 0 ∨ j = 1 := by simp at hj; omega
  rcases this with rfl | rfl <;> rfl
theorem row4 (w : World) (x y z t : Value) : RowAt (w.alloc (.cells #[x, y, z, t] 23)) (.slice (some ⟨w.heap.size, 0, none⟩) 4 4) [x, y, z, t].length 1 (fun j => [x, y, z, t].getD j undef) := by
  refine .inr ⟨_, _, rfl, by simp, fun j hj => ?_⟩
  rw [Addr.add_mid, cell_of_row _ _ _ _ _ _ (heap_alloc_new w _)]
  have : j = 0 ∨ j = 1 ∨ j = 2 ∨ j = 3 := by simp at hj; omega
  rcases this with rfl | rfl | rfl | rfl <;> rfl

/-- append(append([]bool{}, v...), true, false). -/
theorem flags_two {w : World} {v : Value} {F : List Bool} (h : FlagsAt w v F) (hF : F.length ≤ 1048576) :
    ∃ a1 cap1 w1 g2 cap2 w2, (∀ ty, (Builtin.append_ #[24, 24] ty #[.slice (some ⟨w.heap.size, 0, none⟩) 0 0, v]).run Try.prog (w.alloc (.cells #[] 4)) = .ok (.slice a1 F.length cap1) w1) ∧
      (∀ ty, (Builtin.append_ #[24, 24] ty #[.slice a1 F.length cap1, .slice (some ⟨w1.heap.size, 0, none⟩) 2 2]).run Try.prog (w1.alloc (.cells #[.bool true, .bool false] 4)) = .ok (.slice (some ⟨g2, 0, none⟩) (F.length + 2) cap2) w2) ∧
      FlagsAt w2 (.slice (some ⟨g2, 0, none⟩) (F.length + 2) cap2) (F ++ [true, false]) ∧ Only (fun _ => False) w w2 ∧ F.length + 2 ≤ cap2 := by
  obtain ⟨i0, hi0, hz0, hz1, hz2⟩ := info_parts info4
  obtain ⟨a, cap, w1, hr, own, ho⟩ := app_copy 24 4 i0 _ 1 Try.underlying24 hi0 hz0 hz1 hz2 rfl rfl w v F.length _ h.1 (fun j => rfl) (by have := h.2; omega)
  have oA : Only (fun _ => False) w1 (w1.alloc (.cells #[.bool true, .bool false] 4)) := (Only.refl _ w1).alloc _
  have own1 := oA.owns own (fun _ _ e => e)
  have hcell : ∀ j x, ([.bool true, .bool false] : List Value)[j]? = some x → (w1.alloc (.cells #[.bool true, .bool false] 4)).cell? (Addr.add ⟨w1.heap.size, 0, none⟩ j) = some x := fun j x hx => by
    rw [Addr.add_mid, cell_of_row _ _ _ _ _ _ (heap_alloc_new w1 _)]
    have hj : j < 2 := (List.getElem?_eq_some_iff.1 hx).1
    have : j = 0 ∨ j = 1 := by omega
    rcases this with rfl | rfl <;> exact hx
  have key := fun ty => run_append_own_at (P := Try.prog) (w1.alloc (.cells #[.bool true, .bool false] 4)) w.heap.size 24 ty 4 i0 _ 1 1 Try.underlying24 hi0 hz0 hz1 hz2 rfl (by omega) _ F.length _ own1 ⟨w1.heap.size, 0, none⟩ 2 2 [.bool true, .bool false] rfl hcell (by simp [Value.oneCell']) (by unfold maxLen; omega) (by omega) (by have := ho.size; have := oA.size; omega)
  obtain ⟨v', w2, hr2, own', hg, _, _⟩ := key 0
  have o2 : Only (fun _ => False) w w2 := (ho.trans oA (fun _ _ e => e)).grown hg (fun k e hk => by have := (own1.lt k e).1; omega)
  obtain ⟨g2, cap2, hv, _, _⟩ := own'.form (by simp)
  subst hv
  have e : (List.range F.length).map (fun j => Value.bool (F.getD j false)) ++ [.bool true, .bool false] = (List.range (F.length + 2)).map (fun j => Value.bool ((F ++ [true, false]).getD j false)) := by
    apply List.ext_getElem
    · simp
    · intro j h1 h2
      simp at h2
      simp only [List.getElem_map, List.getElem_range]
      by_cases hj : j < F.length
      · rw [List.getElem_append_left (by simpa using hj)]
        simp [List.getD, List.getElem?_append_left hj]
      · have : j = F.length ∨ j = F.length + 1 := by omega
        rcases this with rfl | rfl <;> simp [List.getD, List.getElem_append_right]
  rw [e] at own'
  have hfl : FlagsAt w2 (.slice (some ⟨g2, 0, none⟩) (F.length + 2) cap2) (F ++ [true, false]) := by
    refine ⟨?_, by simp; omega⟩
    rw [List.length_append]
    exact rowAt_own own'
  refine ⟨a, cap, w1, g2, cap2, w2, hr, fun ty => by rw [← hr2]; rfl, hfl, o2, ?_⟩
  obtain ⟨_, c, hv, hc, _⟩ := hfl.form
  simp only [Value.slice.injEq] at hv
  rw [List.length_append] at hc
  simp at hc
  omega
theorem FlagsAt.take {w : World} {a : Option Addr} {m c n : Nat} {F : List Bool} (h : FlagsAt w (.slice a m c) F) (hn : n ≤ m) : FlagsAt w (.slice a n c) (F.take n) := by
  obtain ⟨a', c', hv, hc, hcell⟩ := h.form
  simp only [Value.slice.injEq] at hv
  obtain ⟨rfl, rfl, rfl⟩ := hv
  have hl : (F.take n).length = n := by rw [List.length_take]; omega
  refine ⟨?_, by have := h.2; omega⟩
  rw [hl]
  rcases h.1 with ⟨h1, h0⟩ | ⟨ad, c, h1, hkc, hc⟩
  · simp only [Value.slice.injEq] at h1
    obtain ⟨rfl, _, rfl⟩ := h1
    obtain rfl : n = 0 := by omega
    exact .inl ⟨rfl, rfl⟩
  · simp only [Value.slice.injEq] at h1
    obtain ⟨rfl, _, rfl⟩ := h1
    refine .inr ⟨ad, _, rfl, by omega, fun j hj => ?_⟩
    rw [hc j (by omega)]
    simp only [List.getD]
    rw [List.getElem?_take_of_lt (by omega)]
end Go.Proofs.Ytdcflnfdaijpdab
