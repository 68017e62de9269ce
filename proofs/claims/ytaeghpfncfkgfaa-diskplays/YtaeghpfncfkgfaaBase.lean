/- What a disk is in memory, and which blocks a call may have turned: definitions and small facts, with no program in them. -/
import Derived.WalkKit
import Derived.WalkSpells
import Derived.WalkLawsBesides
import Derived.OneCell
import Derived.Deep.MidRow
import Derived.Deep.AppendLies
import Derived.Deep.Upon
import Derived.Deep.WholeRow
namespace Go.Proofs.Ytaeghpfncfkgfaa
open Go.RowKit

/-- Only blocks of bs may have turned; the streams stand; no block has gone. -/
structure Only (bs : Nat → Prop) (w w' : World) : Prop where
  os : w'.os = w.os
  tape : w'.tape = w.tape
  output : w'.output = w.output
  size : w.heap.size ≤ w'.heap.size
  block : ∀ k, k < w.heap.size → ¬ bs k → w'.heap[k]? = w.heap[k]?

theorem Only.refl (bs : Nat → Prop) (w : World) : Only bs w w := ⟨rfl, rfl, rfl, Nat.le_refl _, fun _ _ _ => rfl⟩
theorem Only.mono {bs bs' : Nat → Prop} {w w' : World} (h : Only bs w w') (hb : ∀ k, k < w.heap.size → bs k → bs' k) : Only bs' w w' :=
  ⟨h.os, h.tape, h.output, h.size, fun k hk hn => h.block k hk (fun e => hn (hb k hk e))⟩
theorem Only.trans {bs bs' : Nat → Prop} {a b c : World} (h : Only bs a b) (k : Only bs' b c) (hb : ∀ i, i < a.heap.size → bs' i → bs i) : Only bs a c :=
  ⟨k.os.trans h.os, k.tape.trans h.tape, k.output.trans h.output, Nat.le_trans h.size k.size,
    fun i hi hn => (k.block i (Nat.lt_of_lt_of_le hi h.size) (fun e => hn (hb i hi e))).trans (h.block i hi hn)⟩
theorem Only.drew {bs : Nat → Prop} {a w : World} (h : Only bs a w) : Only bs a w.drew := ⟨h.os, h.tape, h.output, h.size, h.block⟩
theorem Only.alloc {bs : Nat → Prop} {a w : World} (h : Only bs a w) (o : Obj) : Only bs a (w.alloc o) :=
  ⟨h.os, h.tape, h.output, by have := h.size; simp; omega, fun k hk hn => (Below.heap_alloc _ _ _ (Nat.lt_of_lt_of_le hk h.size)).trans (h.block k hk hn)⟩
theorem Only.setCell {bs : Nat → Prop} {a w : World} (h : Only bs a w) (p : Addr) (u : Value) (hp : p.block < a.heap.size → bs p.block) : Only bs a (w.setCell p u) :=
  ⟨h.os, h.tape, h.output, by have := h.size; simpa [World.setCell] using this, fun k hk hn => (Below.heap_setCell w p u k (fun e => hn (by rw [e]; exact hp (by rw [← e]; exact hk)))).trans (h.block k hk hn)⟩
theorem setCells_same (b : Nat) : ∀ (vs : List Value) (o : Nat) (w : World), (w.setCells b o vs).os = w.os ∧ (w.setCells b o vs).tape = w.tape ∧ (w.setCells b o vs).output = w.output ∧ (w.setCells b o vs).heap.size = w.heap.size
  | [], _, _ => ⟨rfl, rfl, rfl, rfl⟩
  | v :: r, o, w => by
    obtain ⟨h1, h2, h3, h4⟩ := setCells_same b r (o + 1) (w.setCell ⟨b, o, none⟩ v)
    exact ⟨h1, h2, h3, h4.trans (by simp [World.setCell])⟩
theorem Only.setCells {bs : Nat → Prop} {a w : World} (h : Only bs a w) (b o : Nat) (vs : List Value) (hp : b < a.heap.size → bs b) : Only bs a (w.setCells b o vs) := by
  obtain ⟨h1, h2, h3, h4⟩ := setCells_same b vs o w
  exact ⟨h1.trans h.os, h2.trans h.tape, h3.trans h.output, h4 ▸ h.size, fun k hk hn =>
    (World.heap_setCells_other w b o vs (Nat.lt_of_lt_of_le hk h.size) (fun e => hn (e ▸ hp (e ▸ hk)))).trans (h.block k hk hn)⟩
theorem Only.grown {bs : Nat → Prop} {a w w' : World} {row : Option Nat} (h : Only bs a w) (hg : w.grownBy w' row) (hr : ∀ k, row = some k → k < a.heap.size → bs k) : Only bs a w' :=
  ⟨hg.os.trans h.os, hg.tape.trans h.tape, hg.output.trans h.output, Nat.le_trans h.size hg.size,
    fun k hk hn => (hg.block k (Nat.lt_of_lt_of_le hk h.size) (fun e => hn (hr k e.symm hk))).trans (h.block k hk hn)⟩
theorem Only.below {bs : Nat → Prop} {w w' : World} {B : Nat} (h : Only bs w w') (hb : ∀ k, bs k → B ≤ k) (hB : B ≤ w.heap.size) : Below B w w' :=
  ⟨h.os, h.tape, h.output, h.size, fun k hk => h.block k (by omega) (fun e => by have := hb k e; omega)⟩
theorem Only.cell {bs : Nat → Prop} {w w' : World} (h : Only bs w w') {a : Addr} {v : Value} (hc : w.cell? a = some v) (hn : ¬ bs a.block) : w'.cell? a = some v :=
  (World.cell?_of_block (w := w) (h.block a.block (World.block_lt_of_cell? w a hc) hn)).trans hc
theorem Only.frozen {bs : Nat → Prop} {w w' : World} (h : Only bs w w') {a : Addr} (hl : a.block < w.heap.size) (hn : ¬ bs a.block) : w'.frozen? a = w.frozen? a :=
  World.frozen?_of_block (w := w) (h.block a.block hl hn)
theorem Only.range {bs : Nat → Prop} {w w' : World} (h : Only bs w w') {b o : Nat} {cs : List Value} (hc : w.rangeAt b o cs) (hn : ¬ bs b) : w'.rangeAt b o cs :=
  fun j v hv => h.cell (a := ⟨b, o + j, none⟩) (hc j v hv) hn
theorem Only.there {bs : Nat → Prop} {w w' : World} (h : Only bs w w') {b o n : Nat} (hc : w.there b o n) (hn : ¬ bs b) : w'.there b o n := fun j hj => by
  obtain ⟨h1, h2⟩ := hc j hj
  obtain ⟨u, hu⟩ := Option.isSome_iff_exists.1 h1
  exact ⟨by rw [h.cell hu hn]; rfl, by rw [h.frozen (World.block_lt_of_cell? w _ hu) hn]; exact h2⟩
theorem Only.owns {bs : Nat → Prop} {w w' : World} (h : Only bs w w') {B e size n : Nat} {v : Value} {xs : List Value} (ho : w.ownsRow B e size v n xs) (hn : ∀ k, v.ownBlock = some k → ¬ bs k) : w'.ownsRow B e size v n xs := by
  refine ⟨ho.1, ?_⟩
  rcases ho.2 with hz | ⟨g, cap, cur, hv, hb, hg, rest⟩
  · exact .inl hz
  · refine .inr ⟨g, cap, cur, hv, hb, ?_, rest⟩
    have hl : g < w.heap.size := by
      rcases Nat.lt_or_ge g w.heap.size with hlt | hge
      · exact hlt
      · simp [Array.getElem?_eq_none hge] at hg
    rw [h.block g hl (hn g (by rw [hv]; rfl))]; exact hg

/-- The 32 cells of a sector. -/
def secL (f : Nat → Int) : List Value := (List.range 32).map fun j => .int .u8 (f j)
/-- The 65 cells of a write. -/
def wrL (s : Int) (f g : Nat → Int) : List Value := .int .i64 s :: (secL f ++ secL g)
theorem secL_length (f : Nat → Int) : (secL f).length = 32 := by simp [secL]
theorem wrL_length (s : Int) (f g : Nat → Int) : (wrL s f g).length = 65 := by simp [wrL, secL_length]
theorem secL_one (f : Nat → Int) : ∀ v ∈ secL f, v.oneCell' = true := by
  intro v hv
  simp only [secL, List.mem_map] at hv
  obtain ⟨j, _, rfl⟩ := hv
  rfl
theorem wrL_one (s : Int) (f g : Nat → Int) : ∀ v ∈ wrL s f g, v.oneCell' = true := by
  intro v hv
  simp only [wrL, List.mem_cons, List.mem_append] at hv
  rcases hv with rfl | hv | hv
  · rfl
  · exact secL_one f v hv
  · exact secL_one g v hv
theorem secL_get (f : Nat → Int) (j : Nat) (h : j < 32) : (secL f)[j]? = some (.int .u8 (f j)) := by simp [secL, h]

/-- A write that is pending. -/
structure Wr where
  at_ : Nat
  bef : Nat → Int
  aft : Nat → Int
/-- A disk: how many sectors, what each byte of each is, the writes that are pending, the life. -/
structure DS where
  n : Nat
  sec : Nat → Nat → Int
  pend : List Wr
  life : Int
def Wr.cells (x : Wr) : List Value := wrL x.at_ x.bef x.aft
def wrsL (l : List Wr) : List Value := l.flatMap Wr.cells
theorem wrsL_length (l : List Wr) : (wrsL l).length = l.length * 65 := by
  induction l with
  | nil => rfl
  | cons x r ih => simp only [wrsL, List.flatMap_cons, List.length_append, List.length_cons] at *; rw [ih]; simp [Wr.cells, wrL_length]; omega
theorem wrsL_snoc (l : List Wr) (x : Wr) : wrsL (l ++ [x]) = wrsL l ++ x.cells := by simp [wrsL]
/-- One sector is another. -/
def upd (sec : Nat → Nat → Int) (k : Nat) (f : Nat → Int) : Nat → Nat → Int := fun i => if i = k then f else sec i

/-- The disk d lies at block p, its sectors in block S, its pending writes behind pv; all its blocks are from B on. -/
structure DiskAt (w : World) (B p S : Nat) (pv : Value) (d : DS) : Prop where
  pB : B ≤ p
  SB : B ≤ S
  pS : p ≠ S
  c0 : ∃ c, w.cell? ⟨p, 0, none⟩ = some (.slice (some ⟨S, 0, none⟩) d.n c)
  c1 : w.cell? ⟨p, 1, none⟩ = some pv
  c2 : w.cell? ⟨p, 2, none⟩ = some (.int .i64 d.life)
  f1 : w.frozen? ⟨p, 1, none⟩ = false
  f2 : w.frozen? ⟨p, 2, none⟩ = false
  secs : ∀ i, i < d.n → w.rangeAt S (i * 32) (secL (d.sec i)) ∧ w.there S (i * 32) 32
  own : w.ownsRow B 71 65 pv d.pend.length (wrsL d.pend)
  hp : pv.ownBlock ≠ some p
  hS : pv.ownBlock ≠ some S
  n1 : 1 ≤ d.n
  n2 : d.n ≤ 8192
  at_ : ∀ x ∈ d.pend, x.at_ < d.n
  l1 : -1 ≤ d.life
  l2 : d.life ≤ 9223372036854775807

/-- A disk's blocks. -/
def diskB (p S : Nat) (pv : Value) : Nat → Prop := fun k => k = p ∨ k = S ∨ pv.ownBlock = some k

theorem DiskAt.frame {w w' : World} {B p S : Nat} {pv : Value} {d : DS} {bs : Nat → Prop} (h : DiskAt w B p S pv d) (ho : Only bs w w') (hn : ∀ k, diskB p S pv k → ¬ bs k) : DiskAt w' B p S pv d := by
  obtain ⟨c, hc⟩ := h.c0
  have np := hn p (.inl rfl)
  have nS := hn S (.inr (.inl rfl))
  exact { pB := h.pB, SB := h.SB, pS := h.pS, c0 := ⟨c, ho.cell hc np⟩, c1 := ho.cell h.c1 np, c2 := ho.cell h.c2 np,
          f1 := (ho.frozen (World.block_lt_of_cell? w _ h.c1) np).trans h.f1, f2 := (ho.frozen (World.block_lt_of_cell? w _ h.c2) np).trans h.f2,
          secs := fun i hi => ⟨ho.range (h.secs i hi).1 nS, ho.there (h.secs i hi).2 nS⟩,
          own := ho.owns h.own (fun k hk => hn k (.inr (.inr hk))), hp := h.hp, hS := h.hS, n1 := h.n1, n2 := h.n2, at_ := h.at_, l1 := h.l1, l2 := h.l2 }
theorem DiskAt.lt {w : World} {B p S : Nat} {pv : Value} {d : DS} (h : DiskAt w B p S pv d) : ∀ k, diskB p S pv k → B ≤ k ∧ k < w.heap.size := by
  intro k hk
  rcases hk with rfl | rfl | hk
  · exact ⟨h.pB, World.block_lt_of_cell? w _ h.c1⟩
  · refine ⟨h.SB, ?_⟩
    have h0 := (h.secs 0 h.n1).1 0 _ (secL_get _ 0 (by omega))
    exact World.block_lt_of_cell? w _ h0
  · exact h.own.lt k hk
end Go.Proofs.Ytaeghpfncfkgfaa
