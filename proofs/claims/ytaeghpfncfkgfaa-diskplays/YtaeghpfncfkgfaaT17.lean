/- Snapshots of a disk in memory; what a crash leaves is seen in one of them. -/
import Derived.Test.YtaeghpfncfkgfaaT16
namespace Go.Proofs.Ytaeghpfncfkgfaa
open Go.RowKit
set_option linter.unusedSimpArgs false
set_option linter.unusedVariables false

theorem info31 : (Try.prog.info? 31).map (fun i => (i.zero, i.size, i.bytes)) = some (some (.slice none 0 0), 1, 24) := by kernel_rfl

/-- A snapshot: its block, its room, what it shows. -/
structure Snap where
  g : Nat
  c : Nat
  s : Nat → Nat → Int
def Snap.cell (n : Nat) (x : Snap) : Value := .slice (some ⟨x.g, 0, none⟩) (n * 32) x.c
def mayL (n : Nat) (l : List Snap) : List Value := l.map (Snap.cell n)
theorem mayL_length (n : Nat) (l : List Snap) : (mayL n l).length = l.length := by simp [mayL]
theorem mayL_get (n : Nat) (l : List Snap) (i : Nat) (h : i < l.length) : (mayL n l)[i]? = some (.slice (some ⟨l[i].g, 0, none⟩) (n * 32) l[i].c) := by simp [mayL, h, Snap.cell]

/-- A list of snapshots lies behind mv. -/
structure MayAt (w : World) (B n : Nat) (mv : Value) (l : List Snap) : Prop where
  own : w.ownsRow B 31 1 mv l.length (mayL n l)
  pos : 0 < l.length
  n1 : 1 ≤ n
  at_ : ∀ x ∈ l, B ≤ x.g ∧ w.rangeAt x.g 0 (allL n x.s)
  sep : ∀ x ∈ l, mv.ownBlock ≠ some x.g
def mayB (mv : Value) (l : List Snap) : Nat → Prop := fun k => mv.ownBlock = some k ∨ ∃ x ∈ l, k = x.g
theorem range_lt {w : World} {g n : Nat} {s : Nat → Nat → Int} (hn : 1 ≤ n) (h : w.rangeAt g 0 (allL n s)) : g < w.heap.size :=
  World.block_lt_of_cell? w ⟨g, 0 + 0, none⟩ (h 0 (.int .u8 (s 0 0)) (by simpa using allL_get n s 0 0 (by omega) (by omega)))
theorem MayAt.lt {w : World} {B n : Nat} {mv : Value} {l : List Snap} (h : MayAt w B n mv l) : ∀ k, mayB mv l k → B ≤ k ∧ k < w.heap.size := by
  rintro k (hk | ⟨x, hx, rfl⟩)
  · exact h.own.lt k hk
  · exact ⟨(h.at_ x hx).1, range_lt h.n1 (h.at_ x hx).2⟩
theorem MayAt.frame {w w' : World} {B n : Nat} {mv : Value} {l : List Snap} {bs : Nat → Prop} (h : MayAt w B n mv l) (ho : Only bs w w') (hn : ∀ k, mayB mv l k → ¬ bs k) : MayAt w' B n mv l :=
  ⟨ho.owns h.own (fun k hk => hn k (.inl hk)), h.pos, h.n1, fun x hx => ⟨(h.at_ x hx).1, ho.range (h.at_ x hx).2 (hn _ (.inr ⟨x, hx, rfl⟩))⟩, h.sep⟩
theorem MayAt.form {w : World} {B n : Nat} {mv : Value} {l : List Snap} (h : MayAt w B n mv l) : ∃ g c, mv = .slice (some ⟨g, 0, none⟩) l.length c := by
  obtain ⟨g, c, hv, _⟩ := h.own.form h.pos
  exact ⟨g, c, hv⟩
/-- The first snapshot. -/
theorem may_one {w : World} {B n : Nat} (x : Snap) (hB : B ≤ x.g) (hn : 1 ≤ n) (hw : B ≤ w.heap.size) (h : w.rangeAt x.g 0 (allL n x.s)) :
    MayAt (w.alloc (.cells #[.slice (some ⟨x.g, 0, none⟩) (n * 32) x.c] 31)) B n (.slice (some ⟨w.heap.size, 0, none⟩) 1 1) [x] := by
  have hl := range_lt hn h
  refine ⟨?_, by simp, hn, ?_, ?_⟩
  · exact World.ownsRow_lit w #[Snap.cell n x] 1 hw (by unfold maxLen; omega) rfl
  · intro y hy
    obtain rfl : y = x := by simpa using hy
    exact ⟨hB, ((Only.refl (fun _ => False) w).alloc _).range h (fun e => e)⟩
  · intro y hy e
    obtain rfl : y = x := by simpa using hy
    simp [Value.ownBlock] at e
    omega
/-- One snapshot more. -/
theorem may_more {w w' : World} {B n : Nat} {mv v' : Value} {l : List Snap} {o : Obj} (x : Snap) (h : MayAt w B n mv l) (hB : B ≤ x.g) (hx : w.rangeAt x.g 0 (allL n x.s)) (hnew : ¬ mayB mv l x.g)
    (own : w'.ownsRow B 31 1 v' (l.length + 1) (mayL n l ++ [Snap.cell n x])) (hg : (w.alloc o).grownBy w' mv.ownBlock) (hb : v'.ownBlock = mv.ownBlock ∨ v'.ownBlock = some (w.alloc o).heap.size) :
    MayAt w' B n v' (l ++ [x]) ∧ (∀ k, mayB v' (l ++ [x]) k → mayB mv l k ∨ k = x.g ∨ w.heap.size ≤ k) ∧ Only (fun k => mv.ownBlock = some k) w w' := by
  have ho : Only (fun k => mv.ownBlock = some k) w w' := ((Only.refl _ w).alloc o).grown hg (fun k hk _ => hk)
  have hs : w.heap.size ≤ (w.alloc o).heap.size := by simp
  have hxl := range_lt h.n1 hx
  have hxm : ¬ mv.ownBlock = some x.g := fun e => hnew (.inl e)
  have hal : ∀ y, (y ∈ l ∨ y = x) → B ≤ y.g ∧ y.g < w.heap.size ∧ w.rangeAt y.g 0 (allL n y.s) ∧ ¬ mv.ownBlock = some y.g := by
    rintro y (hy | rfl)
    · exact ⟨(h.at_ y hy).1, range_lt h.n1 (h.at_ y hy).2, (h.at_ y hy).2, h.sep y hy⟩
    · exact ⟨hB, hxl, hx, hxm⟩
  refine ⟨⟨?_, by simp, h.n1, ?_, ?_⟩, ?_, ho⟩
  · simpa [mayL] using own
  · intro y hy
    obtain ⟨h1, h2, h3, h4⟩ := hal y (by simpa using hy)
    exact ⟨h1, ho.range h3 h4⟩
  · intro y hy e
    obtain ⟨h1, h2, h3, h4⟩ := hal y (by simpa using hy)
    rcases hb with hb | hb
    · exact h4 (hb ▸ e)
    · rw [hb] at e
      simp at e
      omega
  · rintro k (hk | ⟨y, hy, rfl⟩)
    · rcases hb with hb | hb
      · exact .inl (.inl (hb ▸ hk))
      · rw [hb] at hk
        simp at hk
        exact .inr (.inr (by omega))
    · rcases (by simpa using hy : y ∈ l ∨ y = x) with hy | rfl
      · exact .inl (.inr ⟨y, hy, rfl⟩)
      · exact .inr (.inl rfl)

/-- What stood at the barrier is among the snapshots, and so is what each pending write made. -/
def Tear (s0 : Nat → Nat → Int) (d : DS) (l : List Snap) : Prop := undoW d.pend d.sec = s0 ∧ (∃ x ∈ l, x.s = s0) ∧ ∀ y ∈ d.pend, ∃ x ∈ l, x.s y.at_ = y.aft
theorem tear_nil (n : Nat) (s0 : Nat → Nat → Int) (life : Int) (x : Snap) (hx : x.s = s0) : Tear s0 ⟨n, s0, [], life⟩ [x] := ⟨rfl, ⟨x, by simp, hx⟩, by simp⟩
theorem Tear.mono {s0 : Nat → Nat → Int} {d : DS} {l : List Snap} (h : Tear s0 d l) (x : Snap) : Tear s0 d (l ++ [x]) :=
  ⟨h.1, by obtain ⟨y, hy, e⟩ := h.2.1; exact ⟨y, by simp [hy], e⟩, fun z hz => by obtain ⟨y, hy, e⟩ := h.2.2 z hz; exact ⟨y, by simp [hy], e⟩⟩
theorem tear_write (s0 : Nat → Nat → Int) (d : DS) (l : List Snap) (k : Int) (f : Nat → Int) (m : Nat) (h : Tear s0 d l) (x : Snap) (hx : x.s = (d.write k f m).2.sec) : Tear s0 (d.write k f m).2 (l ++ [x]) := by
  revert hx
  simp only [DS.write]
  split
  · intro hx; exact h.mono x
  · split
    · intro hx; exact h.mono x
    · split
      · intro hx; exact h.mono x
      · intro hx
        simp only at hx
        refine ⟨by simp only; rw [undoW_write]; exact h.1, by obtain ⟨y, hy, e⟩ := h.2.1; exact ⟨y, by simp [hy], e⟩, ?_⟩
        intro z hz
        rcases (by simpa using hz : z ∈ d.pend ∨ z = ⟨k.toNat, d.sec k.toNat, f⟩) with hz | rfl
        · obtain ⟨y, hy, e⟩ := h.2.2 z hz; exact ⟨y, by simp [hy], e⟩
        · exact ⟨x, by simp, by rw [hx]; simp [upd]⟩
theorem tear_crash {s0 : Nat → Nat → Int} {d : DS} {l : List Snap} (h : Tear s0 d l) (kp : Nat → Bool) (torn : Int) (cut : Nat) (i j : Nat) : ∀ m, ∃ x ∈ l, x.s i j = crashTo kp torn cut d.pend (undoW d.pend d.sec) m i j
  | 0 => by
    obtain ⟨x, hx, e⟩ := h.2.1
    exact ⟨x, hx, by rw [e, ← h.1]; rfl⟩
  | m + 1 => by
    obtain ih := tear_crash h kp torn cut i j m
    simp only [crashTo]
    cases hp : d.pend[m]? with
    | none => exact ih
    | some y =>
      simp only []
      split
      · by_cases e : i = y.at_
        · subst e
          simp only [upd, if_true, mix]
          by_cases hj : j < (if (m : Int) = torn then cut else 32)
          · rw [if_pos hj]
            obtain ⟨x, hx, e⟩ := h.2.2 y (List.mem_of_getElem? hp)
            exact ⟨x, hx, by rw [e]⟩
          · rw [if_neg hj]; exact ih
        · simp only [upd, e, if_false]; exact ih
      · exact ih
end Go.Proofs.Ytaeghpfncfkgfaa
