import Derived.Test.YtlcglapcmdpkfaaGreatGd
import Derived.Test.YtlcglapcmdpkfaaGreatP4
namespace Go.Proofs.YtlcglapcmdpkfaaGreat
open Go.RowKit
set_option linter.unusedSimpArgs false
set_option linter.unusedVariables false
def Byt (f : Nat → Int) : Prop := ∀ j, 0 ≤ f j ∧ f j < 256
structure ByteD (d : DS) : Prop where
 sec : ∀ i, Byt (d.sec i)
 bef : ∀ x ∈ d.pend, Byt x.bef
 aft : ∀ x ∈ d.pend, Byt x.aft
theorem byt_upd {s : Nat → Nat → Int} (h : ∀ i, Byt (s i)) (k : Nat) (f : Nat → Int) (hf : Byt f) : ∀ i, Byt (upd s k f i) := by
 intro i
 unfold upd
 split
 ·exact hf
 ·exact h i
theorem ByteD.new (n : Nat) : ByteD ⟨n, fun _ _ => 0, [], -1⟩ := ⟨fun _ _ => ⟨by simp, by simp⟩, by simp, by simp⟩
theorem ByteD.life {d : DS} (h : ByteD d) (l : Int) : ByteD { d with life := l } := ⟨h.sec, h.bef, h.aft⟩
theorem ByteD.barrier {d : DS} (h : ByteD d) (l : Int) : ByteD { d with pend := [], life := l } := ⟨h.sec, by simp, by simp⟩
theorem ByteD.put {d : DS} (h : ByteD d) (k : Nat) (f : Nat → Int) (l : Int) (hf : Byt f) : ByteD { d with sec := upd d.sec k f, pend := d.pend ++ [⟨k, d.sec k, f⟩], life := l } := by
 refine ⟨byt_upd h.sec k f hf, fun x hx => ?_, fun x hx => ?_⟩
 ·rcases List.mem_append.1 hx with hx | hx
  ·exact h.bef x hx
  ·simp at hx; subst hx; exact h.sec k
 ·rcases List.mem_append.1 hx with hx | hx
  ·exact h.aft x hx
  ·simp at hx; subst hx; exact hf
theorem ByteD.write {d : DS} (h : ByteD d) (k : Int) (f : Nat → Int) (m : Nat) (hf : Byt f) : ByteD (d.write k f m).2 := by
 simp only [DS.write]
 split
 ·exact h
 ·split
  ·exact h
  ·split
   ·exact h
   ·exact h.put _ f _ hf
theorem byt_mix (n : Nat) {f g : Nat → Int} (hf : Byt f) (hg : Byt g) : Byt (mix n f g) := by
 intro j
 unfold mix
 split
 ·exact hf j
 ·exact hg j
theorem byt_fold : ∀ (l : List Wr) (s : Nat → Nat → Int), (∀ i, Byt (s i)) → (∀ x ∈ l, Byt x.bef) → ∀ i, Byt (l.foldl (fun s x => upd s x.at_ x.bef) s i)
 | [], _, h, _ => h
 | x :: r, s, h, hb => byt_fold r _ (byt_upd h _ _ (hb x List.mem_cons_self)) (fun y hy => hb y (List.mem_cons_of_mem _ hy))
theorem byt_undo (ws : List Wr) (s : Nat → Nat → Int) (h : ∀ i, Byt (s i)) (hb : ∀ x ∈ ws, Byt x.bef) : ∀ i, Byt (undoW ws s i) :=
 byt_fold ws.reverse s h (fun x hx => hb x (List.mem_reverse.1 hx))
theorem byt_crash (kp : Nat → Bool) (torn : Int) (cut : Nat) (ws : List Wr) (s : Nat → Nat → Int) (h : ∀ i, Byt (s i)) (ha : ∀ x ∈ ws, Byt x.aft) : ∀ m i, Byt (crashTo kp torn cut ws s m i)
 | 0, i => h i
 | m + 1, i => by
   have ih := byt_crash kp torn cut ws s h ha m
   cases hk : kp m with
   | false => rw [crashTo_no _ _ _ _ _ _ hk]; exact ih i
   | true =>
     cases hx : ws[m]? with
     | none => simp only [crashTo, hx]; exact ih i
     | some x =>
       rw [crashTo_yes _ _ _ _ _ _ x hx hk]
       exact byt_upd ih _ _ (byt_mix _ (ha x (List.mem_of_getElem? hx)) (ih _)) i
theorem ByteD.crash {d : DS} (h : ByteD d) (kp : Nat → Bool) (torn : Int) (cut : Nat) (m : Nat) : ByteD ⟨d.n, crashTo kp torn cut d.pend (undoW d.pend d.sec) m, [], -1⟩ :=
 ⟨byt_crash kp torn cut _ _ (byt_undo _ _ h.sec h.bef) h.aft m, by simp, by simp⟩
def secN (f : Nat → Int) : List Nat := (List.range 32).map fun j => (f j).toNat
theorem secN_length (f : Nat → Int) : (secN f).length = 32 := by simp [secN]
theorem secN_lt {f : Nat → Int} (h : Byt f) : ∀ z ∈ secN f, z < 256 := by
 intro z hz
 simp only [secN, List.mem_map] at hz
 obtain ⟨j, _, rfl⟩ := hz
 have := h j
 omega
theorem secN_getD (f : Nat → Int) (j : Nat) (hj : j < 32) : (secN f).getD j 0 = (f j).toNat := by simp [secN, List.getD, hj]
def pgN (d : DS) (P : Nat) : Nat → List Nat
 | 0 => []
 | k + 1 => pgN d P k ++ secN (d.sec (4 * P + k))
theorem pgN_length (d : DS) (P : Nat) : ∀ k, (pgN d P k).length = 32 * k
 | 0 => rfl
 | k + 1 => by simp only [pgN, List.length_append, pgN_length d P k, secN_length]; omega
def secF (Z : List Nat) (k : Nat) : Nat → Int := fun j => (((Z.drop (32 * k)).take 32).getD j 0 : Nat)
theorem secF_byt {Z : List Nat} (h : ∀ z ∈ Z, z < 256) (k : Nat) : Byt (secF Z k) := by
 intro j
 have := getD_byte (zs := (Z.drop (32 * k)).take 32) (fun z hz => h z (List.mem_of_mem_drop (List.mem_of_mem_take hz))) j
 unfold secF
 omega
def DS.wr4 (d : DS) (P : Nat) (Z : List Nat) : Nat → Int × DS
 | 0 => (0, d)
 | k + 1 => if (d.wr4 P Z k).1 = 0 then (d.wr4 P Z k).2.write ((4 * P + k : Nat) : Int) (secF Z k) 32 else d.wr4 P Z k
def DS.wpage (d : DS) (P : Int) (id : Nat) (D : List Nat) : Int × DS :=
 if P < 0 ∨ ((d.n / 4 : Nat) : Int) ≤ P then (4, d) else if 116 < D.length then (11, d) else d.wr4 P.toNat (page id D) 4
theorem wr4_facts (d : DS) (P : Nat) (Z : List Nat) (hz : ∀ z ∈ Z, z < 256) (hb : ByteD d) (hg : Good d) : ∀ k, ByteD (d.wr4 P Z k).2 ∧ Good (d.wr4 P Z k).2 ∧ (d.wr4 P Z k).2.n = d.n ∧ (d.wr4 P Z k).2.pend.length ≤ d.pend.length + k
 | 0 => ⟨hb, hg, rfl, Nat.le_refl _⟩
 | k + 1 => by
   obtain ⟨h1, h2, h3, h4⟩ := wr4_facts d P Z hz hb hg k
   simp only [DS.wr4]
   split
   ·refine ⟨h1.write _ _ _ (secF_byt hz k), h2.write _ _ _, (write_n _ _ _ _).trans h3, ?_⟩
    have := write_len2 (d.wr4 P Z k).2 ((4 * P + k : Nat) : Int) (secF Z k) 32
    omega
   ·exact ⟨h1, h2, h3, by omega⟩
theorem wpage_facts {d : DS} (P : Int) (id : Nat) (D : List Nat) (hz : ∀ z ∈ D, z < 256) (hb : ByteD d) (hg : Good d) : ByteD (d.wpage P id D).2 ∧ Good (d.wpage P id D).2 ∧ (d.wpage P id D).2.n = d.n ∧ (d.wpage P id D).2.pend.length ≤ d.pend.length + 4 := by
 simp only [DS.wpage]
 split
 ·exact ⟨hb, hg, rfl, Nat.le_add_right _ _⟩
 ·split
  ·exact ⟨hb, hg, rfl, Nat.le_add_right _ _⟩
  ·exact wr4_facts d P.toNat (page id D) (page_lt id D hz) hb hg 4
end Go.Proofs.YtlcglapcmdpkfaaGreat
