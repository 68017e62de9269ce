/- Trees in memory. A literal. A literal: brackets, and what is none. A literal as a whole; an item. -/
import Derived.Test.YtfecmpebnianpaaGreatDoorGae
import Derived.Maps.AppendAt
namespace Go.Proofs.YtfecmpebnianpaaGreatDoor
open Go.RowKit
set_option linter.unusedSimpArgs false
set_option linter.unusedVariables false
/-- the value v is the tree t (i: as an item), within the blocks S; d: how deep it is at most -/
def TrAt (w : World) (S : Nat → Prop) : Nat → Bool → Tre → Value → Prop
  | 0, _, _, _ => False
  | d + 1, true, t, v => (t.k = 7 ∧ t.l = [] ∧ v = .iface 51 (.agg #[.string t.s])) ∨ (t.k ≠ 7 ∧ ∃ u, v = .iface 159 (.agg #[u]) ∧ TrAt w S d false t u)
  | d + 1, false, t, v => (t.k = 1 ∧ t.l = [] ∧ v = .iface 184 (.agg #[.int .i64 t.n])) ∨ (t.k = 2 ∧ t.l = [] ∧ v = .iface 186 (.agg #[.string t.s])) ∨ (t.k = 3 ∧ t.l = [] ∧ v = .iface 188 (.agg #[.bool (t.n != 0)])) ∨
    ((t.k = 4 ∨ t.k = 5) ∧ ∃ ao cap, v = .iface (if t.k = 4 then 191 else 194) (.agg #[.slice ao t.l.length cap]) ∧ t.l.length ≤ cap ∧ ∀ i x, t.l[i]? = some x → ∃ g k u, ao = some ⟨g, k, none⟩ ∧ S g ∧ w.cell? ⟨g, k + i, none⟩ = some u ∧ TrAt w S d (t.k == 5) x u)
theorem TrAt.step {w w' : World} {S S' : Nat → Prop} (hS : ∀ b, S b → S' b) (hk : ∀ (a : Addr) u, S a.block → w.cell? a = some u → w'.cell? a = some u) : ∀ {d d' : Nat} {i : Bool} {t : Tre} {v : Value}, d ≤ d' → TrAt w S d i t v → TrAt w' S' d' i t v := by
  intro d
  induction d with
  | zero => intro d' i t v _ h; exact h.elim
  | succ d ih =>
    intro d' i t v hd h
    obtain ⟨e, rfl⟩ : ∃ e, d' = e + 1 := ⟨d' - 1, by omega⟩
    cases i with
    | true =>
      rcases h with h | ⟨h, u, hv, hu⟩
      · exact .inl h
      · exact .inr ⟨h, u, hv, ih (by omega) hu⟩
    | false =>
      rcases h with h | h | h | ⟨h, ao, cap, hv, hc, hl⟩
      · exact .inl h
      · exact .inr (.inl h)
      · exact .inr (.inr (.inl h))
      · refine .inr (.inr (.inr ⟨h, ao, cap, hv, hc, fun i x hx => ?_⟩))
        obtain ⟨g, k, u, ha, hg, hu, ht⟩ := hl i x hx
        exact ⟨g, k, u, ha, hS g hg, hk _ _ hg hu, ih (by omega) ht⟩
theorem TrAt.only {w w' : World} {S bs : Nat → Prop} {d : Nat} {i : Bool} {t : Tre} {v : Value} (h : TrAt w S d i t v) (o : Only bs w w') (hb : ∀ b, S b → ¬ bs b) : TrAt w' S d i t v :=
  TrAt.step (fun _ g => g) (fun a u hs hc => o.cell hc (hb _ hs)) (Nat.le_refl _) h
/-- a block whose cells may be written -/
def Liv (w : World) (b : Nat) : Prop := b < w.heap.size ∧ ∃ c t, w.heap[b]? = some (.cells c t)
theorem Liv.only {w w' : World} {bs : Nat → Prop} {b : Nat} (h : Liv w b) (o : Only bs w w') (hb : ¬ bs b) : Liv w' b := by
  obtain ⟨h1, c, t, hc⟩ := h
  exact ⟨Nat.lt_of_lt_of_le h1 o.size, c, t, (o.block b h1 hb).trans hc⟩
theorem Liv.of {w : World} {b : Nat} {c : Array Value} {t : TypeId} (h : w.heap[b]? = some (.cells c t)) : Liv w b :=
  ⟨(Array.getElem?_eq_some_iff.1 h).1, c, t, h⟩
theorem Liv.froz {w : World} {b : Nat} (h : Liv w b) (j : Nat) : w.frozen? ⟨b, j, none⟩ = false := by
  obtain ⟨_, c, t, hc⟩ := h
  simp [World.frozen?, hc]
theorem Liv.row {w : World} {B n s : Nat} {T : TypeId} {v : Value} {us : List Value} (ho : w.ownsRow B T s v n us) {b : Nat} (h : v.ownBlock = some b) : Liv w b := by
  rcases ho.2 with ⟨rfl, h2⟩ | ⟨g, cap, cur, hv, hB, hg, hn, hcm, hcs, htk⟩
  · cases h
  · rw [hv] at h
    injection h with h
    rw [← h]
    exact Liv.of hg
/-- a row of trees that was made since block B, in a block of its own beside those of its trees -/
def RwAt (w : World) (B : Nat) (T : TypeId) (d : Nat) (i : Bool) (v : Value) (l : List Tre) : Prop :=
  ∃ us S, w.ownsRow B T 1 v l.length us ∧ (∀ (j : Nat) (x : Tre), l[j]? = some x → ∃ u, us[j]? = some u ∧ TrAt w S d i x u) ∧ ∀ b, S b → B ≤ b ∧ Liv w b ∧ v.ownBlock ≠ some b
theorem rw_nil (w : World) (B : Nat) (T : TypeId) (d : Nat) (i : Bool) : RwAt w B T d i (.slice none 0 0) [] :=
  ⟨[], fun _ => False, ⟨rfl, .inl ⟨rfl, rfl⟩⟩, fun j x h => by simp at h, fun b h => h.elim⟩
theorem RwAt.form {w : World} {B : Nat} {T : TypeId} {d : Nat} {i : Bool} {v : Value} {l : List Tre} (h : RwAt w B T d i v l) : ∃ ao cap, v = .slice ao l.length cap := by
  obtain ⟨us, S, ho, _⟩ := h
  rcases ho.2 with ⟨h1, h2⟩ | ⟨g, cap, cur, h1, _⟩
  · exact ⟨_, _, by rw [h1, h2]⟩
  · exact ⟨_, _, h1⟩
theorem RwAt.only {w w' : World} {B : Nat} {T : TypeId} {d : Nat} {i : Bool} {v : Value} {l : List Tre} {bs : Nat → Prop} (h : RwAt w B T d i v l) (o : Only bs w w') (hb : ∀ b, B ≤ b → ¬ bs b) : RwAt w' B T d i v l := by
  obtain ⟨us, S, ho, ht, hS⟩ := h
  refine ⟨us, S, o.owns ho (fun k hk => hb k (ho.lt k hk).1), fun j x hx => ?_, fun b hbS => ?_⟩
  · obtain ⟨u, hu, h2⟩ := ht j x hx
    exact ⟨u, hu, h2.only o (fun b hbS => hb b (hS b hbS).1)⟩
  · obtain ⟨h1, h2, h3⟩ := hS b hbS
    exact ⟨h1, h2.only o (hb b h1), h3⟩
theorem RwAt.deep {w : World} {B : Nat} {T : TypeId} {d d' : Nat} {i : Bool} {v : Value} {l : List Tre} (h : RwAt w B T d i v l) (hd : d ≤ d') : RwAt w B T d' i v l := by
  obtain ⟨us, S, ho, ht, hS⟩ := h
  refine ⟨us, S, ho, fun j x hx => ?_, hS⟩
  obtain ⟨u, hu, h2⟩ := ht j x hx
  exact ⟨u, hu, h2.step (fun _ g => g) (fun _ _ _ g => g) hd⟩
/-- what a value is that was made since block B -/
def NwAt (w : World) (B : Nat) (d : Nat) (i : Bool) (t : Tre) (v : Value) : Prop := ∃ S, TrAt w S d i t v ∧ ∀ b, S b → B ≤ b ∧ Liv w b
theorem NwAt.only {w w' : World} {B : Nat} {d : Nat} {i : Bool} {v : Value} {t : Tre} {bs : Nat → Prop} (h : NwAt w B d i t v) (o : Only bs w w') (hb : ∀ b, B ≤ b → ¬ bs b) : NwAt w' B d i t v := by
  obtain ⟨S, ht, hS⟩ := h
  exact ⟨S, ht.only o (fun b hbS => hb b (hS b hbS).1), fun b hbS => ⟨(hS b hbS).1, (hS b hbS).2.only o (hb b (hS b hbS).1)⟩⟩
theorem NwAt.lower {w : World} {B C : Nat} {d : Nat} {i : Bool} {v : Value} {t : Tre} (h : NwAt w B d i t v) (hC : C ≤ B) : NwAt w C d i t v := by
  obtain ⟨S, ht, hS⟩ := h
  exact ⟨S, ht, fun b hbS => ⟨Nat.le_trans hC (hS b hbS).1, (hS b hbS).2⟩⟩
theorem NwAt.deep {w : World} {B : Nat} {d d' : Nat} {i : Bool} {v : Value} {t : Tre} (h : NwAt w B d i t v) (hd : d ≤ d') : NwAt w B d' i t v := by
  obtain ⟨S, ht, hS⟩ := h
  exact ⟨S, ht.step (fun _ g => g) (fun _ _ _ g => g) hd, hS⟩
/-- a tree is put behind a row: what the append leaves -/
theorem RwAt.snoc {w w' : World} {B C : Nat} {T : TypeId} {d : Nat} {i : Bool} {v v' : Value} {l : List Tre} {t : Tre} {u : Value} {us : List Value} {S : Nat → Prop} (hg : w.grownBy w' v.ownBlock) (ho : w.ownsRow B T 1 v l.length us) (ht : ∀ (j : Nat) (x : Tre), l[j]? = some x → ∃ u, us[j]? = some u ∧ TrAt w S d i x u) (hS : ∀ b, S b → B ≤ b ∧ Liv w b ∧ v.ownBlock ≠ some b)
    (hn : NwAt w C d i t u) (hC : B ≤ C) (hv : ∀ k, v.ownBlock = some k → k < C) (ho' : w'.ownsRow B T 1 v' (l.length + 1) (us ++ [u])) (hat : v'.ownBlock = v.ownBlock ∨ v'.ownBlock = some w.heap.size) : RwAt w' B T d i v' (l ++ [t]) := by
  obtain ⟨S1, t1, s1⟩ := hn
  have oo : Only (fun k => v.ownBlock = some k) w w' := (Only.refl _ w).grown hg (fun k e _ => e)
  have a1 : ∀ b, S b → ¬ v.ownBlock = some b := fun b h => (hS b h).2.2
  have a2 : ∀ b, S1 b → ¬ v.ownBlock = some b := fun b h e => by have := hv b e; have := (s1 b h).1; omega
  have hl : us.length = l.length := by have := ho.1; omega
  refine ⟨us ++ [u], fun b => S b ∨ S1 b, by simpa using ho', fun j x hx => ?_, fun b hb => ?_⟩
  · by_cases hj : j < l.length
    · rw [List.getElem?_append_left hj] at hx
      obtain ⟨u', h1, h2⟩ := ht j x hx
      refine ⟨u', by rw [List.getElem?_append_left (by omega)]; exact h1, h2.step (fun _ g => .inl g) (fun a y hs hc => oo.cell hc (a1 _ hs)) (Nat.le_refl _)⟩
    · have hj2 : j < (l ++ [t]).length := (List.getElem?_eq_some_iff.1 hx).1
      have hj3 : j = l.length := by simp at hj2; omega
      subst hj3
      simp at hx
      subst hx
      exact ⟨u, by rw [← hl]; simp, t1.step (fun _ g => .inr g) (fun a y hs hc => oo.cell hc (a2 _ hs)) (Nat.le_refl _)⟩
  · have h1 : B ≤ b ∧ Liv w b ∧ v.ownBlock ≠ some b := by
      rcases hb with h | h
      · exact hS b h
      · exact ⟨Nat.le_trans hC (s1 b h).1, (s1 b h).2, a2 b h⟩
    refine ⟨h1.1, h1.2.1.only oo h1.2.2, ?_⟩
    rcases hat with e | e <;> rw [e]
    · exact h1.2.2
    · intro e2
      injection e2 with e2
      have := h1.2.1.1
      omega
theorem addr_ad (g k : Nat) : (⟨g, 0, none⟩ : Addr).add k = ⟨g, k, none⟩ := by
  show (if k = 0 then _ else _) = _
  split
  · rename_i h; rw [h]
  · simp
/-- a row as a list or a quotation -/
theorem RwAt.tree {w : World} {B : Nat} {T : TypeId} {d : Nat} {v : Value} {l : List Tre} {k : Nat} (hk : k = 4 ∨ k = 5) (h : RwAt w B T d (k == 5) v l) : NwAt w B (d + 1) false ⟨k, 0, ⟨#[]⟩, l⟩ (.iface (if k = 4 then 191 else 194) (.agg #[v])) := by
  obtain ⟨us, S, ho, ht, hS⟩ := h
  refine ⟨fun b => S b ∨ v.ownBlock = some b, .inr (.inr (.inr ⟨hk, ?_⟩)), fun b hb => ?_⟩
  · rcases ho.2 with ⟨rfl, h2⟩ | ⟨g, cap, cur, hv, hB, hg, hn, hcm, hcs, htk⟩
    · have hl : l = [] := List.eq_nil_of_length_eq_zero h2
      subst hl
      exact ⟨none, 0, rfl, Nat.zero_le _, fun i x hx => by simp at hx⟩
    · refine ⟨some ⟨g, 0, none⟩, cap, by rw [hv], hn, fun i x hx => ?_⟩
      obtain ⟨u, h1, h2⟩ := ht i x hx
      have hc := ho.cells (g := g) (by rw [hv]; rfl) i u h1
      rw [addr_ad] at hc
      exact ⟨g, 0, u, rfl, .inr (by rw [hv]; rfl), by simpa using hc, h2.step (fun _ g => .inl g) (fun _ _ _ g => g) (Nat.le_refl _)⟩
  · rcases hb with h | h
    · exact ⟨(hS b h).1, (hS b h).2.1⟩
    · exact ⟨(ho.lt b h).1, Liv.row ho h⟩
end Go.Proofs.YtfecmpebnianpaaGreatDoor
namespace Go.Proofs.YtfecmpebnianpaaGreatDoor
open Go.RowKit
set_option linter.unusedSimpArgs false
set_option linter.unusedVariables false
/-- what reading one part answers -/
def ptP (R d : Nat) (i : Bool) (n o : Int) (w : World) (r : Except (Int × Int) (List Tre × List Tok × Int)) (x : Ending) (w' : World) : Prop :=
  match r with
  | .error (a, e) => x = gup a e ∧ Only (fun b => b = R) w w'
  | .ok (l, q, z) => ∃ t v, l = [t] ∧ x = .returned v ∧ Hid (NwAt w' w.heap.size d i t v ∧ RdAt w' R q n o z ∧ Only (fun b => b = R) w w')
/-- what reading parts up to a word answers -/
def upP (R d : Nat) (T : TypeId) (i : Bool) (n o : Int) (w : World) (r : Except (Int × Int) (List Tre × List Tok × Int)) (x : Ending) (w' : World) : Prop :=
  match r with
  | .error (a, e) => x = gup a e ∧ Only (fun b => b = R) w w'
  | .ok (l, q, z) => ∃ ao cap, x = .returned (.slice ao l.length cap) ∧ Hid (RwAt w' w.heap.size T d i (.slice ao l.length cap) l ∧ RdAt w' R q n (o - 1) z ∧ Only (fun b => b = R) w w')
def UpC (R : Nat) (n : Int) (f m F : Nat) (T : TypeId) (i : Bool) (G : Nat) : Prop := ∀ (q : List Tok) (o z : Int) (w : World), 3 * q.length + 3 ≤ f → q.length ≤ 4096 → 1 ≤ o → o ≤ 32 → 0 ≤ z → z ≤ 1024 → RdAt w R q n o z → Calls Tryz.prog F #[.pointer (some ⟨R, 0, none⟩), .string (shB (m - 2)), .func (.func G) #[] #[]] w (upP R f T i n o w (prs n f m q o z))
def PtC (R : Nat) (n : Int) (f m F : Nat) (i : Bool) : Prop := ∀ (q : List Tok) (o z : Int) (w : World), 3 * q.length + 1 + m ≤ f → q.length ≤ 4096 → 0 ≤ o → o ≤ 32 → 0 ≤ z → z ≤ 1024 → RdAt w R q n o z → Calls Tryz.prog F #[.pointer (some ⟨R, 0, none⟩)] w (ptP R f i n o w (prs n f m q o z))
theorem count_full (R : Nat) (t : Tok) (q : List Tok) (n o : Int) (w : World) (h : RdAt w R (t :: q) n o 1024) :
    Calls Tryz.prog 132 #[.pointer (some ⟨R, 0, none⟩)] w fun x w' => x = gup t.a 11 ∧ Only (fun b => b = R) w w' :=
  (count_any R (t :: q) n o 1024 w (by omega) h).mono fun e w' g => by simpa [flt] using g
theorem count_cons (R : Nat) (t : Tok) (q : List Tok) (n o z : Int) (w : World) (hz : 0 ≤ z) (h1 : z ≤ 1024) (h2 : ¬ z = 1024) (h : RdAt w R (t :: q) n o z) :
    Calls Tryz.prog 132 #[.pointer (some ⟨R, 0, none⟩)] w fun x w' => x = .returned t.v ∧ Hid (RdAt w' R q n o (z + 1) ∧ Only (fun b => b = R) w w') :=
  (count_any R (t :: q) n o z w (by omega) h).mono fun e w' g => by rw [if_neg h2] at g; exact g
theorem tok_f0 (a b c d : Value) (w : World) : (Instr.field 152 (.agg #[a, b, c, d]) 0).run Tryz.prog w = .ok a w := by simp [Instr.field, part, sizeOf, typeInfo, go_sem, Tryz.underlying152, isAgg, asAgg]
theorem tok_f1 (a b c d : Value) (w : World) : (Instr.field 152 (.agg #[a, b, c, d]) 1).run Tryz.prog w = .ok b w := by simp [Instr.field, part, sizeOf, typeInfo, go_sem, Tryz.underlying152, isAgg, asAgg]
theorem tok_f2 (a b c d : Value) (w : World) : (Instr.field 152 (.agg #[a, b, c, d]) 2).run Tryz.prog w = .ok c w := by simp [Instr.field, part, sizeOf, typeInfo, go_sem, Tryz.underlying152, isAgg, asAgg]
theorem str_of {t : ByteArray} {c : UInt8} (h : t.toList = [c]) : t = ⟨#[c]⟩ := by
  have h1 : t.data.toList = [c] := by rw [← h]; exact (ByteArray.toList_eq t).symm
  have h2 : t.data = #[c] := by
    apply Array.toList_inj.1
    simpa using h1
  cases t
  simp_all
set_option maxRecDepth 100000 in
theorem lit_num_full (R : Nat) (r : List Tok) (n o : Int) (tt : ByteArray) (tn ta : Int) (w : World)  (h : RdAt w R (⟨2, tt, tn, ta⟩ :: r) n o 1024) :
    Calls Tryz.prog 133 #[.pointer (some ⟨R, 0, none⟩)] w fun x w' => x = gup ta 11 ∧ Only (fun b => b = R) w w' := by
  obtain ⟨z, hz⟩ : ∃ z : Int, z = 1024 := ⟨_, rfl⟩
  rw [← hz] at h
  have HZ : Hid (z = 1024) := hz
  have H0 : Hid (RdAt w R (⟨2, tt, tn, ta⟩ :: r) n o z) := h
  have O0 : Hid (Only (fun b => b = R) w w) := Only.refl _ _
  clear h hz
  have f0 := tok_f0
  have f1 := tok_f1
  have f2 := tok_f2
  go_enter Tryz.func133, Tryz.ntmps133
  go_wp2_with fail
  refine (show Calls Tryz.prog 125 _ _ _ from next_cons R _ r n o z _ H0.out).mono ?_
  rintro e w1 ⟨rfl, o1⟩
  have O1 : Hid (Only (fun b => b = R) w w1) := O0.out.trans (o1.mono (bs' := fun b => b = R) (fun _ _ h => h.elim)) (fun _ _ g => g)
  have H1 : Hid (RdAt w1 R (⟨2, tt, tn, ta⟩ :: r) n o z) := H0.out.only o1
  clear o1 H0 O0
  simp only [Tok.v]
  go_wp2_with fail
  refine (show Calls Tryz.prog 132 _ _ _ from count_full R ⟨2, tt, tn, ta⟩ r n o _ (by have := H1.out; rw [show z = 1024 from HZ.out] at this; exact this)).mono ?_
  rintro e w2 ⟨rfl, o2⟩
  have O2 : Hid (Only (fun b => b = R) w w2) := O1.out.trans o2 (fun _ _ g => g)
  clear o2 H1 O1
  unfold gup
  go_wp2
  exact ⟨rfl, rfl, O2.out⟩
set_option maxRecDepth 100000 in
theorem lit_num_ok (R : Nat) (r : List Tok) (n o z : Int) (tt : ByteArray) (tn ta : Int) (w : World)  (hz : 0 ≤ z) (hz1 : z ≤ 1024) (hz2 : ¬ z = 1024) (h : RdAt w R (⟨2, tt, tn, ta⟩ :: r) n o z) :
    Calls Tryz.prog 133 #[.pointer (some ⟨R, 0, none⟩)] w fun x w' => x = .returned (.iface 184 (.agg #[.int .i64 tn])) ∧ Hid (RdAt w' R r n o (z + 1) ∧ Only (fun b => b = R) w w') := by
  have HC : Hid (∀ w1, RdAt w1 R (⟨2, tt, tn, ta⟩ :: r) n o z → Calls Tryz.prog 132 #[.pointer (some ⟨R, 0, none⟩)] w1 fun x w' => x = .returned (Tok.v ⟨2, tt, tn, ta⟩) ∧ Hid (RdAt w' R r n o (z + 1) ∧ Only (fun b => b = R) w1 w')) := fun w1 h1 => count_cons R _ r n o z w1 hz hz1 hz2 h1
  have H0 : Hid (RdAt w R (⟨2, tt, tn, ta⟩ :: r) n o z) := h
  have O0 : Hid (Only (fun b => b = R) w w) := Only.refl _ _
  clear h hz hz1 hz2
  have f0 := tok_f0
  have f1 := tok_f1
  have f2 := tok_f2
  go_enter Tryz.func133, Tryz.ntmps133
  go_wp2_with fail
  refine (show Calls Tryz.prog 125 _ _ _ from next_cons R _ r n o z _ H0.out).mono ?_
  rintro e w1 ⟨rfl, o1⟩
  have O1 : Hid (Only (fun b => b = R) w w1) := O0.out.trans (o1.mono (bs' := fun b => b = R) (fun _ _ h => h.elim)) (fun _ _ g => g)
  have H1 : Hid (RdAt w1 R (⟨2, tt, tn, ta⟩ :: r) n o z) := H0.out.only o1
  clear o1 H0 O0
  simp only [Tok.v]
  go_wp2_with fail
  refine (show Calls Tryz.prog 132 _ _ _ from HC.out _ H1.out).mono ?_
  rintro e w2 ⟨rfl, g2⟩
  have G2 : Hid (RdAt w2 R r n o (z + 1) ∧ Only (fun b => b = R) w w2) := ⟨g2.out.1, O1.out.trans g2.out.2 (fun _ _ g => g)⟩
  clear g2 H1 O1 HC
  simp only [Tok.v]
  go_wp2
  go_ret
  exact ⟨rfl, G2⟩
set_option maxRecDepth 100000 in
theorem lit_str_full (R : Nat) (r : List Tok) (n o : Int) (tt : ByteArray) (tn ta : Int) (w : World)  (h : RdAt w R (⟨3, tt, tn, ta⟩ :: r) n o 1024) :
    Calls Tryz.prog 133 #[.pointer (some ⟨R, 0, none⟩)] w fun x w' => x = gup ta 11 ∧ Only (fun b => b = R) w w' := by
  obtain ⟨z, hz⟩ : ∃ z : Int, z = 1024 := ⟨_, rfl⟩
  rw [← hz] at h
  have HZ : Hid (z = 1024) := hz
  have H0 : Hid (RdAt w R (⟨3, tt, tn, ta⟩ :: r) n o z) := h
  have O0 : Hid (Only (fun b => b = R) w w) := Only.refl _ _
  clear h hz
  have f0 := tok_f0
  have f1 := tok_f1
  have f2 := tok_f2
  go_enter Tryz.func133, Tryz.ntmps133
  go_wp2_with fail
  refine (show Calls Tryz.prog 125 _ _ _ from next_cons R _ r n o z _ H0.out).mono ?_
  rintro e w1 ⟨rfl, o1⟩
  have O1 : Hid (Only (fun b => b = R) w w1) := O0.out.trans (o1.mono (bs' := fun b => b = R) (fun _ _ h => h.elim)) (fun _ _ g => g)
  have H1 : Hid (RdAt w1 R (⟨3, tt, tn, ta⟩ :: r) n o z) := H0.out.only o1
  clear o1 H0 O0
  simp only [Tok.v]
  go_wp2_with fail
  refine (show Calls Tryz.prog 132 _ _ _ from count_full R ⟨3, tt, tn, ta⟩ r n o _ (by have := H1.out; rw [show z = 1024 from HZ.out] at this; exact this)).mono ?_
  rintro e w2 ⟨rfl, o2⟩
  have O2 : Hid (Only (fun b => b = R) w w2) := O1.out.trans o2 (fun _ _ g => g)
  clear o2 H1 O1
  unfold gup
  go_wp2
  exact ⟨rfl, rfl, O2.out⟩
set_option maxRecDepth 100000 in
theorem lit_str_ok (R : Nat) (r : List Tok) (n o z : Int) (tt : ByteArray) (tn ta : Int) (w : World)  (hz : 0 ≤ z) (hz1 : z ≤ 1024) (hz2 : ¬ z = 1024) (h : RdAt w R (⟨3, tt, tn, ta⟩ :: r) n o z) :
    Calls Tryz.prog 133 #[.pointer (some ⟨R, 0, none⟩)] w fun x w' => x = .returned (.iface 186 (.agg #[.string tt])) ∧ Hid (RdAt w' R r n o (z + 1) ∧ Only (fun b => b = R) w w') := by
  have HC : Hid (∀ w1, RdAt w1 R (⟨3, tt, tn, ta⟩ :: r) n o z → Calls Tryz.prog 132 #[.pointer (some ⟨R, 0, none⟩)] w1 fun x w' => x = .returned (Tok.v ⟨3, tt, tn, ta⟩) ∧ Hid (RdAt w' R r n o (z + 1) ∧ Only (fun b => b = R) w1 w')) := fun w1 h1 => count_cons R _ r n o z w1 hz hz1 hz2 h1
  have H0 : Hid (RdAt w R (⟨3, tt, tn, ta⟩ :: r) n o z) := h
  have O0 : Hid (Only (fun b => b = R) w w) := Only.refl _ _
  clear h hz hz1 hz2
  have f0 := tok_f0
  have f1 := tok_f1
  have f2 := tok_f2
  go_enter Tryz.func133, Tryz.ntmps133
  go_wp2_with fail
  refine (show Calls Tryz.prog 125 _ _ _ from next_cons R _ r n o z _ H0.out).mono ?_
  rintro e w1 ⟨rfl, o1⟩
  have O1 : Hid (Only (fun b => b = R) w w1) := O0.out.trans (o1.mono (bs' := fun b => b = R) (fun _ _ h => h.elim)) (fun _ _ g => g)
  have H1 : Hid (RdAt w1 R (⟨3, tt, tn, ta⟩ :: r) n o z) := H0.out.only o1
  clear o1 H0 O0
  simp only [Tok.v]
  go_wp2_with fail
  refine (show Calls Tryz.prog 132 _ _ _ from HC.out _ H1.out).mono ?_
  rintro e w2 ⟨rfl, g2⟩
  have G2 : Hid (RdAt w2 R r n o (z + 1) ∧ Only (fun b => b = R) w w2) := ⟨g2.out.1, O1.out.trans g2.out.2 (fun _ _ g => g)⟩
  clear g2 H1 O1 HC
  simp only [Tok.v]
  go_wp2
  go_ret
  exact ⟨rfl, G2⟩
set_option maxRecDepth 100000 in
theorem lit_yes_full (R : Nat) (r : List Tok) (n o : Int) (tk tn ta : Int) (w : World) (i2 : (tk == 2) = false) (i3 : (tk == 3) = false) (h : RdAt w R (⟨tk, ⟨#[116]⟩, tn, ta⟩ :: r) n o 1024) :
    Calls Tryz.prog 133 #[.pointer (some ⟨R, 0, none⟩)] w fun x w' => x = gup ta 11 ∧ Only (fun b => b = R) w w' := by
  obtain ⟨z, hz⟩ : ∃ z : Int, z = 1024 := ⟨_, rfl⟩
  rw [← hz] at h
  have HZ : Hid (z = 1024) := hz
  have H0 : Hid (RdAt w R (⟨tk, ⟨#[116]⟩, tn, ta⟩ :: r) n o z) := h
  have O0 : Hid (Only (fun b => b = R) w w) := Only.refl _ _
  clear h hz
  have f0 := tok_f0
  have f1 := tok_f1
  have f2 := tok_f2
  go_enter Tryz.func133, Tryz.ntmps133
  go_wp2_with fail
  refine (show Calls Tryz.prog 125 _ _ _ from next_cons R _ r n o z _ H0.out).mono ?_
  rintro e w1 ⟨rfl, o1⟩
  have O1 : Hid (Only (fun b => b = R) w w1) := O0.out.trans (o1.mono (bs' := fun b => b = R) (fun _ _ h => h.elim)) (fun _ _ g => g)
  have H1 : Hid (RdAt w1 R (⟨tk, ⟨#[116]⟩, tn, ta⟩ :: r) n o z) := H0.out.only o1
  clear o1 H0 O0
  simp only [Tok.v]
  go_wp2_with fail
  refine (show Calls Tryz.prog 125 _ _ _ from next_cons R _ r n o z _ H1.out).mono ?_
  rintro e w2 ⟨rfl, o2⟩
  have O2 : Hid (Only (fun b => b = R) w w2) := O1.out.trans (o2.mono (bs' := fun b => b = R) (fun _ _ h => h.elim)) (fun _ _ g => g)
  have H2 : Hid (RdAt w2 R (⟨tk, ⟨#[116]⟩, tn, ta⟩ :: r) n o z) := H1.out.only o2
  clear o2 H1 O1
  simp only [Tok.v]
  go_wp2_with fail
  refine (show Calls Tryz.prog 132 _ _ _ from count_full R ⟨tk, ⟨#[116]⟩, tn, ta⟩ r n o _ (by have := H2.out; rw [show z = 1024 from HZ.out] at this; exact this)).mono ?_
  rintro e w3 ⟨rfl, o3⟩
  have O3 : Hid (Only (fun b => b = R) w w3) := O2.out.trans o3 (fun _ _ g => g)
  clear o3 H2 O2
  unfold gup
  go_wp2
  exact ⟨rfl, rfl, O3.out⟩
set_option maxRecDepth 100000 in
theorem lit_yes_ok (R : Nat) (r : List Tok) (n o z : Int) (tk tn ta : Int) (w : World) (i2 : (tk == 2) = false) (i3 : (tk == 3) = false) (hz : 0 ≤ z) (hz1 : z ≤ 1024) (hz2 : ¬ z = 1024) (h : RdAt w R (⟨tk, ⟨#[116]⟩, tn, ta⟩ :: r) n o z) :
    Calls Tryz.prog 133 #[.pointer (some ⟨R, 0, none⟩)] w fun x w' => x = .returned (.iface 188 (.agg #[.bool true])) ∧ Hid (RdAt w' R r n o (z + 1) ∧ Only (fun b => b = R) w w') := by
  have HC : Hid (∀ w1, RdAt w1 R (⟨tk, ⟨#[116]⟩, tn, ta⟩ :: r) n o z → Calls Tryz.prog 132 #[.pointer (some ⟨R, 0, none⟩)] w1 fun x w' => x = .returned (Tok.v ⟨tk, ⟨#[116]⟩, tn, ta⟩) ∧ Hid (RdAt w' R r n o (z + 1) ∧ Only (fun b => b = R) w1 w')) := fun w1 h1 => count_cons R _ r n o z w1 hz hz1 hz2 h1
  have H0 : Hid (RdAt w R (⟨tk, ⟨#[116]⟩, tn, ta⟩ :: r) n o z) := h
  have O0 : Hid (Only (fun b => b = R) w w) := Only.refl _ _
  clear h hz hz1 hz2
  have f0 := tok_f0
  have f1 := tok_f1
  have f2 := tok_f2
  go_enter Tryz.func133, Tryz.ntmps133
  go_wp2_with fail
  refine (show Calls Tryz.prog 125 _ _ _ from next_cons R _ r n o z _ H0.out).mono ?_
  rintro e w1 ⟨rfl, o1⟩
  have O1 : Hid (Only (fun b => b = R) w w1) := O0.out.trans (o1.mono (bs' := fun b => b = R) (fun _ _ h => h.elim)) (fun _ _ g => g)
  have H1 : Hid (RdAt w1 R (⟨tk, ⟨#[116]⟩, tn, ta⟩ :: r) n o z) := H0.out.only o1
  clear o1 H0 O0
  simp only [Tok.v]
  go_wp2_with fail
  refine (show Calls Tryz.prog 125 _ _ _ from next_cons R _ r n o z _ H1.out).mono ?_
  rintro e w2 ⟨rfl, o2⟩
  have O2 : Hid (Only (fun b => b = R) w w2) := O1.out.trans (o2.mono (bs' := fun b => b = R) (fun _ _ h => h.elim)) (fun _ _ g => g)
  have H2 : Hid (RdAt w2 R (⟨tk, ⟨#[116]⟩, tn, ta⟩ :: r) n o z) := H1.out.only o2
  clear o2 H1 O1
  simp only [Tok.v]
  go_wp2_with fail
  refine (show Calls Tryz.prog 132 _ _ _ from HC.out _ H2.out).mono ?_
  rintro e w3 ⟨rfl, g3⟩
  have G3 : Hid (RdAt w3 R r n o (z + 1) ∧ Only (fun b => b = R) w w3) := ⟨g3.out.1, O2.out.trans g3.out.2 (fun _ _ g => g)⟩
  clear g3 H2 O2 HC
  simp only [Tok.v]
  go_wp2
  go_ret
  exact ⟨rfl, G3⟩
set_option maxRecDepth 100000 in
theorem lit_no_full (R : Nat) (r : List Tok) (n o : Int) (tk tn ta : Int) (w : World) (i2 : (tk == 2) = false) (i3 : (tk == 3) = false) (h : RdAt w R (⟨tk, ⟨#[102]⟩, tn, ta⟩ :: r) n o 1024) :
    Calls Tryz.prog 133 #[.pointer (some ⟨R, 0, none⟩)] w fun x w' => x = gup ta 11 ∧ Only (fun b => b = R) w w' := by
  obtain ⟨z, hz⟩ : ∃ z : Int, z = 1024 := ⟨_, rfl⟩
  rw [← hz] at h
  have HZ : Hid (z = 1024) := hz
  have H0 : Hid (RdAt w R (⟨tk, ⟨#[102]⟩, tn, ta⟩ :: r) n o z) := h
  have O0 : Hid (Only (fun b => b = R) w w) := Only.refl _ _
  clear h hz
  have f0 := tok_f0
  have f1 := tok_f1
  have f2 := tok_f2
  go_enter Tryz.func133, Tryz.ntmps133
  go_wp2_with fail
  refine (show Calls Tryz.prog 125 _ _ _ from next_cons R _ r n o z _ H0.out).mono ?_
  rintro e w1 ⟨rfl, o1⟩
  have O1 : Hid (Only (fun b => b = R) w w1) := O0.out.trans (o1.mono (bs' := fun b => b = R) (fun _ _ h => h.elim)) (fun _ _ g => g)
  have H1 : Hid (RdAt w1 R (⟨tk, ⟨#[102]⟩, tn, ta⟩ :: r) n o z) := H0.out.only o1
  clear o1 H0 O0
  simp only [Tok.v]
  go_wp2_with fail
  refine (show Calls Tryz.prog 125 _ _ _ from next_cons R _ r n o z _ H1.out).mono ?_
  rintro e w2 ⟨rfl, o2⟩
  have O2 : Hid (Only (fun b => b = R) w w2) := O1.out.trans (o2.mono (bs' := fun b => b = R) (fun _ _ h => h.elim)) (fun _ _ g => g)
  have H2 : Hid (RdAt w2 R (⟨tk, ⟨#[102]⟩, tn, ta⟩ :: r) n o z) := H1.out.only o2
  clear o2 H1 O1
  simp only [Tok.v]
  go_wp2_with fail
  refine (show Calls Tryz.prog 132 _ _ _ from count_full R ⟨tk, ⟨#[102]⟩, tn, ta⟩ r n o _ (by have := H2.out; rw [show z = 1024 from HZ.out] at this; exact this)).mono ?_
  rintro e w3 ⟨rfl, o3⟩
  have O3 : Hid (Only (fun b => b = R) w w3) := O2.out.trans o3 (fun _ _ g => g)
  clear o3 H2 O2
  unfold gup
  go_wp2
  exact ⟨rfl, rfl, O3.out⟩
set_option maxRecDepth 100000 in
theorem lit_no_ok (R : Nat) (r : List Tok) (n o z : Int) (tk tn ta : Int) (w : World) (i2 : (tk == 2) = false) (i3 : (tk == 3) = false) (hz : 0 ≤ z) (hz1 : z ≤ 1024) (hz2 : ¬ z = 1024) (h : RdAt w R (⟨tk, ⟨#[102]⟩, tn, ta⟩ :: r) n o z) :
    Calls Tryz.prog 133 #[.pointer (some ⟨R, 0, none⟩)] w fun x w' => x = .returned (.iface 188 (.agg #[.bool false])) ∧ Hid (RdAt w' R r n o (z + 1) ∧ Only (fun b => b = R) w w') := by
  have HC : Hid (∀ w1, RdAt w1 R (⟨tk, ⟨#[102]⟩, tn, ta⟩ :: r) n o z → Calls Tryz.prog 132 #[.pointer (some ⟨R, 0, none⟩)] w1 fun x w' => x = .returned (Tok.v ⟨tk, ⟨#[102]⟩, tn, ta⟩) ∧ Hid (RdAt w' R r n o (z + 1) ∧ Only (fun b => b = R) w1 w')) := fun w1 h1 => count_cons R _ r n o z w1 hz hz1 hz2 h1
  have H0 : Hid (RdAt w R (⟨tk, ⟨#[102]⟩, tn, ta⟩ :: r) n o z) := h
  have O0 : Hid (Only (fun b => b = R) w w) := Only.refl _ _
  clear h hz hz1 hz2
  have f0 := tok_f0
  have f1 := tok_f1
  have f2 := tok_f2
  go_enter Tryz.func133, Tryz.ntmps133
  go_wp2_with fail
  refine (show Calls Tryz.prog 125 _ _ _ from next_cons R _ r n o z _ H0.out).mono ?_
  rintro e w1 ⟨rfl, o1⟩
  have O1 : Hid (Only (fun b => b = R) w w1) := O0.out.trans (o1.mono (bs' := fun b => b = R) (fun _ _ h => h.elim)) (fun _ _ g => g)
  have H1 : Hid (RdAt w1 R (⟨tk, ⟨#[102]⟩, tn, ta⟩ :: r) n o z) := H0.out.only o1
  clear o1 H0 O0
  simp only [Tok.v]
  go_wp2_with fail
  refine (show Calls Tryz.prog 125 _ _ _ from next_cons R _ r n o z _ H1.out).mono ?_
  rintro e w2 ⟨rfl, o2⟩
  have O2 : Hid (Only (fun b => b = R) w w2) := O1.out.trans (o2.mono (bs' := fun b => b = R) (fun _ _ h => h.elim)) (fun _ _ g => g)
  have H2 : Hid (RdAt w2 R (⟨tk, ⟨#[102]⟩, tn, ta⟩ :: r) n o z) := H1.out.only o2
  clear o2 H1 O1
  simp only [Tok.v]
  go_wp2_with fail
  refine (show Calls Tryz.prog 132 _ _ _ from HC.out _ H2.out).mono ?_
  rintro e w3 ⟨rfl, g3⟩
  have G3 : Hid (RdAt w3 R r n o (z + 1) ∧ Only (fun b => b = R) w w3) := ⟨g3.out.1, O2.out.trans g3.out.2 (fun _ _ g => g)⟩
  clear g3 H2 O2 HC
  simp only [Tok.v]
  go_wp2
  go_ret
  exact ⟨rfl, G3⟩
end Go.Proofs.YtfecmpebnianpaaGreatDoor
namespace Go.Proofs.YtfecmpebnianpaaGreatDoor
open Go.RowKit
set_option linter.unusedSimpArgs false
set_option linter.unusedVariables false
set_option maxRecDepth 100000 in
theorem lit_none (R : Nat) (r : List Tok) (n o z : Int) (tk tn ta : Int) (tt : ByteArray) (w : World) (i2 : (tk == 2) = false) (i3 : (tk == 3) = false) (j1 : (tt.toList == [116]) = false) (j2 : (tt.toList == [102]) = false) (j3 : (tt.toList == [91]) = false) (j4 : (tt.toList == [123]) = false) (h : RdAt w R (⟨tk, tt, tn, ta⟩ :: r) n o z) :
    Calls Tryz.prog 133 #[.pointer (some ⟨R, 0, none⟩)] w fun x w' => x = gup ta 9 ∧ Only (fun b => b = R) w w' := by
  have HF : Hid (∀ w1, RdAt w1 R (⟨tk, tt, tn, ta⟩ :: r) n o z → Calls Tryz.prog 149 #[.pointer (some ⟨R, 0, none⟩), .int .i64 9] w1 fun x w' => x = .returned (.agg #[.int .i64 ta, .int .i64 9]) ∧ Only (fun _ => False) w1 w') := fun w1 h1 => fault_any R (⟨tk, tt, tn, ta⟩ :: r) n o z 9 w1 h1
  have H0 : Hid (RdAt w R (⟨tk, tt, tn, ta⟩ :: r) n o z) := h
  have O0 : Hid (Only (fun b => b = R) w w) := Only.refl _ _
  clear h
  have f0 := tok_f0
  have f1 := tok_f1
  go_enter Tryz.func133, Tryz.ntmps133
  go_wp2_with fail
  refine (show Calls Tryz.prog 125 _ _ _ from next_cons R _ r n o z _ H0.out).mono ?_
  rintro e w1 ⟨rfl, o1⟩
  have O1 : Hid (Only (fun b => b = R) w w1) := O0.out.trans (o1.mono (bs' := fun b => b = R) (fun _ _ h => h.elim)) (fun _ _ g => g)
  have H1 : Hid (RdAt w1 R (⟨tk, tt, tn, ta⟩ :: r) n o z) := H0.out.only o1
  clear o1 H0 O0
  simp only [Tok.v]
  go_wp2_with fail
  refine (show Calls Tryz.prog 125 _ _ _ from next_cons R _ r n o z _ H1.out).mono ?_
  rintro e w2 ⟨rfl, o2⟩
  have O2 : Hid (Only (fun b => b = R) w w2) := O1.out.trans (o2.mono (bs' := fun b => b = R) (fun _ _ h => h.elim)) (fun _ _ g => g)
  have H2 : Hid (RdAt w2 R (⟨tk, tt, tn, ta⟩ :: r) n o z) := H1.out.only o2
  clear o2 H1 O1
  simp only [Tok.v]
  go_wp2_with fail
  refine (show Calls Tryz.prog 149 _ _ _ from HF.out _ H2.out).mono ?_
  rintro e w3 ⟨rfl, o3⟩
  have O3 : Hid (Only (fun b => b = R) w w3) := O2.out.trans (o3.mono (bs' := fun b => b = R) (fun _ _ h => h.elim)) (fun _ _ g => g)
  clear o3 H2 O2 HF
  go_wp2
  exact ⟨rfl, rfl, O3.out⟩
theorem RwAt.lower {w : World} {B C : Nat} {T : TypeId} {d : Nat} {i : Bool} {v : Value} {l : List Tre} (h : RwAt w B T d i v l) (hC : C ≤ B) : RwAt w C T d i v l := by
  obtain ⟨us, S, ho, ht, hS⟩ := h
  refine ⟨us, S, ⟨ho.1, ?_⟩, ht, fun b hb => ⟨Nat.le_trans hC (hS b hb).1, (hS b hb).2⟩⟩
  rcases ho.2 with g | ⟨g, cap, cur, h1, h2, h3⟩
  · exact .inl g
  · exact .inr ⟨g, cap, cur, h1, by omega, h3⟩
/-- what a bracket is read as -/
def brP (R d : Nat) (T Y : TypeId) (i : Bool) (n o : Int) (w : World) (r : Except (Int × Int) (List Tre × List Tok × Int)) (x : Ending) (w' : World) : Prop :=
  match r with
  | .error (a, e) => x = gup a e ∧ Only (fun b => b = R) w w'
  | .ok (l, q, z) => ∃ ao cap, x = .returned (.iface Y (.agg #[.slice ao l.length cap])) ∧ Hid (RwAt w' w.heap.size T d i (.slice ao l.length cap) l ∧ RdAt w' R q n o z ∧ Only (fun b => b = R) w w')
set_option maxRecDepth 100000 in
theorem lit_quot_full (R : Nat) (r : List Tok) (n o z : Int) (tk tn ta : Int) (w : World) (i2 : (tk == 2) = false) (i3 : (tk == 3) = false) (ho : 0 ≤ o) (ho1 : o ≤ 32) (hz : 0 ≤ z) (hz1 : z ≤ 1024) (hf : o = 32 ∨ z = 1024) (h : RdAt w R (⟨tk, ⟨#[91]⟩, tn, ta⟩ :: r) n o z) :
    Calls Tryz.prog 133 #[.pointer (some ⟨R, 0, none⟩)] w fun x w' => x = gup ta 11 ∧ Only (fun b => b = R) w w' := by
  have HE : Hid (∀ w1, RdAt w1 R (⟨tk, ⟨#[91]⟩, tn, ta⟩ :: r) n o z → Calls Tryz.prog 126 #[.pointer (some ⟨R, 0, none⟩)] w1 fun x w' => x = gup ta 11 ∧ Only (fun b => b = R) w1 w') := fun w1 h1 => (enter_any R _ n o z w1 (by omega) (by omega) h1).mono fun e w' g => by unfold enP at g; rw [if_pos hf] at g; exact g
  have H0 : Hid (RdAt w R (⟨tk, ⟨#[91]⟩, tn, ta⟩ :: r) n o z) := h
  have O0 : Hid (Only (fun b => b = R) w w) := Only.refl _ _
  clear h hf ho ho1 hz hz1
  have f0 := tok_f0
  have f1 := tok_f1
  go_enter Tryz.func133, Tryz.ntmps133
  go_wp2_with fail
  refine (show Calls Tryz.prog 125 _ _ _ from next_cons R _ r n o z _ H0.out).mono ?_
  rintro e w1 ⟨rfl, o1⟩
  have O1 : Hid (Only (fun b => b = R) w w1) := O0.out.trans (o1.mono (bs' := fun b => b = R) (fun _ _ h => h.elim)) (fun _ _ g => g)
  have H1 : Hid (RdAt w1 R (⟨tk, ⟨#[91]⟩, tn, ta⟩ :: r) n o z) := H0.out.only o1
  clear o1 H0 O0
  simp only [Tok.v]
  go_wp2_with fail
  refine (show Calls Tryz.prog 125 _ _ _ from next_cons R _ r n o z _ H1.out).mono ?_
  rintro e w2 ⟨rfl, o2⟩
  have O2 : Hid (Only (fun b => b = R) w w2) := O1.out.trans (o2.mono (bs' := fun b => b = R) (fun _ _ h => h.elim)) (fun _ _ g => g)
  have H2 : Hid (RdAt w2 R (⟨tk, ⟨#[91]⟩, tn, ta⟩ :: r) n o z) := H1.out.only o2
  clear o2 H1 O1
  simp only [Tok.v]
  go_wp2_with fail
  refine (show Calls Tryz.prog 126 _ _ _ from HE.out _ H2.out).mono ?_
  rintro e w3 ⟨rfl, o3⟩
  have O3 : Hid (Only (fun b => b = R) w w3) := O2.out.trans o3 (fun _ _ g => g)
  clear o3 H2 O2 HE
  unfold gup
  go_wp2
  exact ⟨rfl, rfl, O3.out⟩
set_option maxRecDepth 100000 in
theorem lit_quot_ok (R f : Nat) (r : List Tok) (n o z : Int) (tk tn ta : Int) (w : World) (i2 : (tk == 2) = false) (i3 : (tk == 3) = false) (ho : 0 ≤ o) (ho1 : o ≤ 32) (hz : 0 ≤ z) (hz1 : z ≤ 1024) (hf : ¬ (o = 32 ∨ z = 1024)) (hl : 3 * r.length + 3 ≤ f) (hl2 : r.length ≤ 4096)
    (HU : UpC R n f 3 131 53 true 102) (h : RdAt w R (⟨tk, ⟨#[91]⟩, tn, ta⟩ :: r) n o z) :
    Calls Tryz.prog 133 #[.pointer (some ⟨R, 0, none⟩)] w (brP R f 53 194 true n o w (prs n f 3 r (o + 1) (z + 1))) := by
  have HE : Hid (∀ w1, RdAt w1 R (⟨tk, ⟨#[91]⟩, tn, ta⟩ :: r) n o z → Calls Tryz.prog 126 #[.pointer (some ⟨R, 0, none⟩)] w1 fun x w' => x = .returned (.tuple #[]) ∧ Hid (RdAt w' R r n (o + 1) (z + 1) ∧ Only (fun b => b = R) w1 w')) := fun w1 h1 => (enter_any R _ n o z w1 (by omega) (by omega) h1).mono fun e w' g => by unfold enP at g; rw [if_neg hf] at g; exact g
  have HUU : Hid (∀ w1, RdAt w1 R r n (o + 1) (z + 1) → Calls Tryz.prog 131 #[.pointer (some ⟨R, 0, none⟩), .string ⟨#[93]⟩, .func (.func 102) #[] #[]] w1 (upP R f 53 true n (o + 1) w1 (prs n f 3 r (o + 1) (z + 1)))) := fun w1 h1 => HU r (o + 1) (z + 1) w1 hl hl2 (by omega) (by omega) (by omega) (by omega) h1
  have H0 : Hid (RdAt w R (⟨tk, ⟨#[91]⟩, tn, ta⟩ :: r) n o z) := h
  have O0 : Hid (Only (fun b => b = R) w w) := Only.refl _ _
  clear h hf ho ho1 hz hz1 HU hl hl2
  obtain ⟨X, hX⟩ : ∃ X, X = prs n f 3 r (o + 1) (z + 1) := ⟨_, rfl⟩
  rw [← hX] at HUU ⊢
  clear hX
  have f0 := tok_f0
  have f1 := tok_f1
  go_enter Tryz.func133, Tryz.ntmps133
  go_wp2_with fail
  refine (show Calls Tryz.prog 125 _ _ _ from next_cons R _ r n o z _ H0.out).mono ?_
  rintro e w1 ⟨rfl, o1⟩
  have O1 : Hid (Only (fun b => b = R) w w1) := O0.out.trans (o1.mono (bs' := fun b => b = R) (fun _ _ h => h.elim)) (fun _ _ g => g)
  have H1 : Hid (RdAt w1 R (⟨tk, ⟨#[91]⟩, tn, ta⟩ :: r) n o z) := H0.out.only o1
  clear o1 H0 O0
  simp only [Tok.v]
  go_wp2_with fail
  refine (show Calls Tryz.prog 125 _ _ _ from next_cons R _ r n o z _ H1.out).mono ?_
  rintro e w2 ⟨rfl, o2⟩
  have O2 : Hid (Only (fun b => b = R) w w2) := O1.out.trans (o2.mono (bs' := fun b => b = R) (fun _ _ h => h.elim)) (fun _ _ g => g)
  have H2 : Hid (RdAt w2 R (⟨tk, ⟨#[91]⟩, tn, ta⟩ :: r) n o z) := H1.out.only o2
  clear o2 H1 O1
  simp only [Tok.v]
  go_wp2_with fail
  refine (show Calls Tryz.prog 126 _ _ _ from HE.out _ H2.out).mono ?_
  rintro e w3 ⟨rfl, g3⟩
  have H3 : Hid (RdAt w3 R r n (o + 1) (z + 1)) := g3.out.1
  have O3 : Hid (Only (fun b => b = R) w w3) := O2.out.trans g3.out.2 (fun _ _ g => g)
  clear g3 H2 O2 HE
  go_wp2_with fail
  refine (show Calls Tryz.prog 131 _ _ _ from HUU.out _ H3.out).mono ?_
  intro e w4 g4
  clear H3 HUU
  cases X with
  | error p =>
    obtain ⟨a, er⟩ := p
    obtain ⟨he, o4⟩ := g4
    subst he
    have O4 : Hid (Only (fun b => b = R) w w4) := O3.out.trans o4 (fun _ _ g => g)
    clear o4 O3
    unfold gup
    go_wp2
    exact ⟨rfl, show _ ∧ _ from ⟨rfl, O4.out⟩⟩
  | ok p =>
    obtain ⟨l, q, z'⟩ := p
    obtain ⟨ao, cap, he, g5⟩ := g4
    subst he
    have G5 : Hid (RwAt w4 w3.heap.size 53 f true (.slice ao l.length cap) l ∧ RdAt w4 R q n o z' ∧ Only (fun b => b = R) w w4) := ⟨g5.out.1, by have := g5.out.2.1; rwa [Int.add_sub_cancel] at this, O3.out.trans g5.out.2.2 (fun _ _ g => g)⟩
    have hs3 := O3.out.size
    clear g5 O3
    obtain ⟨L, hL⟩ : ∃ L, L = l.length := ⟨_, rfl⟩
    have HL : Hid (L = l.length) := hL
    rw [← hL] at G5
    rw [← hL]
    clear hL
    go_wp2
    go_ret
    have e1 : L = l.length := HL.out
    refine show ∃ ao' cap', _ ∧ Hid _ from ⟨ao, cap, by rw [e1]; rfl, ?_⟩
    rw [← e1]
    exact ⟨G5.out.1.lower hs3, G5.out.2.1, G5.out.2.2⟩
set_option maxRecDepth 100000 in
theorem lit_list_full (R : Nat) (r : List Tok) (n o z : Int) (tk tn ta : Int) (w : World) (i2 : (tk == 2) = false) (i3 : (tk == 3) = false) (ho : 0 ≤ o) (ho1 : o ≤ 32) (hz : 0 ≤ z) (hz1 : z ≤ 1024) (hf : o = 32 ∨ z = 1024) (h : RdAt w R (⟨tk, ⟨#[123]⟩, tn, ta⟩ :: r) n o z) :
    Calls Tryz.prog 133 #[.pointer (some ⟨R, 0, none⟩)] w fun x w' => x = gup ta 11 ∧ Only (fun b => b = R) w w' := by
  have HE : Hid (∀ w1, RdAt w1 R (⟨tk, ⟨#[123]⟩, tn, ta⟩ :: r) n o z → Calls Tryz.prog 126 #[.pointer (some ⟨R, 0, none⟩)] w1 fun x w' => x = gup ta 11 ∧ Only (fun b => b = R) w1 w') := fun w1 h1 => (enter_any R _ n o z w1 (by omega) (by omega) h1).mono fun e w' g => by unfold enP at g; rw [if_pos hf] at g; exact g
  have H0 : Hid (RdAt w R (⟨tk, ⟨#[123]⟩, tn, ta⟩ :: r) n o z) := h
  have O0 : Hid (Only (fun b => b = R) w w) := Only.refl _ _
  clear h hf ho ho1 hz hz1
  have f0 := tok_f0
  have f1 := tok_f1
  go_enter Tryz.func133, Tryz.ntmps133
  go_wp2_with fail
  refine (show Calls Tryz.prog 125 _ _ _ from next_cons R _ r n o z _ H0.out).mono ?_
  rintro e w1 ⟨rfl, o1⟩
  have O1 : Hid (Only (fun b => b = R) w w1) := O0.out.trans (o1.mono (bs' := fun b => b = R) (fun _ _ h => h.elim)) (fun _ _ g => g)
  have H1 : Hid (RdAt w1 R (⟨tk, ⟨#[123]⟩, tn, ta⟩ :: r) n o z) := H0.out.only o1
  clear o1 H0 O0
  simp only [Tok.v]
  go_wp2_with fail
  refine (show Calls Tryz.prog 125 _ _ _ from next_cons R _ r n o z _ H1.out).mono ?_
  rintro e w2 ⟨rfl, o2⟩
  have O2 : Hid (Only (fun b => b = R) w w2) := O1.out.trans (o2.mono (bs' := fun b => b = R) (fun _ _ h => h.elim)) (fun _ _ g => g)
  have H2 : Hid (RdAt w2 R (⟨tk, ⟨#[123]⟩, tn, ta⟩ :: r) n o z) := H1.out.only o2
  clear o2 H1 O1
  simp only [Tok.v]
  go_wp2_with fail
  refine (show Calls Tryz.prog 126 _ _ _ from HE.out _ H2.out).mono ?_
  rintro e w3 ⟨rfl, o3⟩
  have O3 : Hid (Only (fun b => b = R) w w3) := O2.out.trans o3 (fun _ _ g => g)
  clear o3 H2 O2 HE
  unfold gup
  go_wp2
  exact ⟨rfl, rfl, O3.out⟩
set_option maxRecDepth 100000 in
theorem lit_list_ok (R f : Nat) (r : List Tok) (n o z : Int) (tk tn ta : Int) (w : World) (i2 : (tk == 2) = false) (i3 : (tk == 3) = false) (ho : 0 ≤ o) (ho1 : o ≤ 32) (hz : 0 ≤ z) (hz1 : z ≤ 1024) (hf : ¬ (o = 32 ∨ z = 1024)) (hl : 3 * r.length + 3 ≤ f) (hl2 : r.length ≤ 4096)
    (HU : UpC R n f 2 151 157 false 133) (h : RdAt w R (⟨tk, ⟨#[123]⟩, tn, ta⟩ :: r) n o z) :
    Calls Tryz.prog 133 #[.pointer (some ⟨R, 0, none⟩)] w (brP R f 157 191 false n o w (prs n f 2 r (o + 1) (z + 1))) := by
  have HE : Hid (∀ w1, RdAt w1 R (⟨tk, ⟨#[123]⟩, tn, ta⟩ :: r) n o z → Calls Tryz.prog 126 #[.pointer (some ⟨R, 0, none⟩)] w1 fun x w' => x = .returned (.tuple #[]) ∧ Hid (RdAt w' R r n (o + 1) (z + 1) ∧ Only (fun b => b = R) w1 w')) := fun w1 h1 => (enter_any R _ n o z w1 (by omega) (by omega) h1).mono fun e w' g => by unfold enP at g; rw [if_neg hf] at g; exact g
  have HUU : Hid (∀ w1, RdAt w1 R r n (o + 1) (z + 1) → Calls Tryz.prog 151 #[.pointer (some ⟨R, 0, none⟩), .string ⟨#[125]⟩, .func (.func 133) #[] #[]] w1 (upP R f 157 false n (o + 1) w1 (prs n f 2 r (o + 1) (z + 1)))) := fun w1 h1 => HU r (o + 1) (z + 1) w1 hl hl2 (by omega) (by omega) (by omega) (by omega) h1
  have H0 : Hid (RdAt w R (⟨tk, ⟨#[123]⟩, tn, ta⟩ :: r) n o z) := h
  have O0 : Hid (Only (fun b => b = R) w w) := Only.refl _ _
  clear h hf ho ho1 hz hz1 HU hl hl2
  obtain ⟨X, hX⟩ : ∃ X, X = prs n f 2 r (o + 1) (z + 1) := ⟨_, rfl⟩
  rw [← hX] at HUU ⊢
  clear hX
  have f0 := tok_f0
  have f1 := tok_f1
  go_enter Tryz.func133, Tryz.ntmps133
  go_wp2_with fail
  refine (show Calls Tryz.prog 125 _ _ _ from next_cons R _ r n o z _ H0.out).mono ?_
  rintro e w1 ⟨rfl, o1⟩
  have O1 : Hid (Only (fun b => b = R) w w1) := O0.out.trans (o1.mono (bs' := fun b => b = R) (fun _ _ h => h.elim)) (fun _ _ g => g)
  have H1 : Hid (RdAt w1 R (⟨tk, ⟨#[123]⟩, tn, ta⟩ :: r) n o z) := H0.out.only o1
  clear o1 H0 O0
  simp only [Tok.v]
  go_wp2_with fail
  refine (show Calls Tryz.prog 125 _ _ _ from next_cons R _ r n o z _ H1.out).mono ?_
  rintro e w2 ⟨rfl, o2⟩
  have O2 : Hid (Only (fun b => b = R) w w2) := O1.out.trans (o2.mono (bs' := fun b => b = R) (fun _ _ h => h.elim)) (fun _ _ g => g)
  have H2 : Hid (RdAt w2 R (⟨tk, ⟨#[123]⟩, tn, ta⟩ :: r) n o z) := H1.out.only o2
  clear o2 H1 O1
  simp only [Tok.v]
  go_wp2_with fail
  refine (show Calls Tryz.prog 126 _ _ _ from HE.out _ H2.out).mono ?_
  rintro e w3 ⟨rfl, g3⟩
  have H3 : Hid (RdAt w3 R r n (o + 1) (z + 1)) := g3.out.1
  have O3 : Hid (Only (fun b => b = R) w w3) := O2.out.trans g3.out.2 (fun _ _ g => g)
  clear g3 H2 O2 HE
  go_wp2_with fail
  refine (show Calls Tryz.prog 151 _ _ _ from HUU.out _ H3.out).mono ?_
  intro e w4 g4
  clear H3 HUU
  cases X with
  | error p =>
    obtain ⟨a, er⟩ := p
    obtain ⟨he, o4⟩ := g4
    subst he
    have O4 : Hid (Only (fun b => b = R) w w4) := O3.out.trans o4 (fun _ _ g => g)
    clear o4 O3
    unfold gup
    go_wp2
    exact ⟨rfl, show _ ∧ _ from ⟨rfl, O4.out⟩⟩
  | ok p =>
    obtain ⟨l, q, z'⟩ := p
    obtain ⟨ao, cap, he, g5⟩ := g4
    subst he
    have G5 : Hid (RwAt w4 w3.heap.size 157 f false (.slice ao l.length cap) l ∧ RdAt w4 R q n o z' ∧ Only (fun b => b = R) w w4) := ⟨g5.out.1, by have := g5.out.2.1; rwa [Int.add_sub_cancel] at this, O3.out.trans g5.out.2.2 (fun _ _ g => g)⟩
    have hs3 := O3.out.size
    clear g5 O3
    obtain ⟨L, hL⟩ : ∃ L, L = l.length := ⟨_, rfl⟩
    have HL : Hid (L = l.length) := hL
    rw [← hL] at G5
    rw [← hL]
    clear hL
    go_wp2
    go_ret
    have e1 : L = l.length := HL.out
    refine show ∃ ao' cap', _ ∧ Hid _ from ⟨ao, cap, by rw [e1]; rfl, ?_⟩
    rw [← e1]
    exact ⟨G5.out.1.lower hs3, G5.out.2.1, G5.out.2.2⟩
end Go.Proofs.YtfecmpebnianpaaGreatDoor
namespace Go.Proofs.YtfecmpebnianpaaGreatDoor
open Go.RowKit
set_option linter.unusedSimpArgs false
set_option linter.unusedVariables false
set_option maxRecDepth 100000 in
theorem lit_nil (R : Nat) (n o z : Int) (w : World) (h : RdAt w R [] n o z) :
    Calls Tryz.prog 133 #[.pointer (some ⟨R, 0, none⟩)] w fun x w' => x = gup n 9 ∧ Only (fun b => b = R) w w' := by
  have HM : Hid (Calls Tryz.prog 125 #[.pointer (some ⟨R, 0, none⟩)] w fun x w' => x = gup n 9 ∧ Only (fun _ => False) w w') := next_nil R n o z w h
  clear h
  go_enter Tryz.func133, Tryz.ntmps133
  go_wp2_with fail
  refine (show Calls Tryz.prog 125 _ _ _ from HM.out).mono ?_
  rintro e w1 ⟨rfl, o1⟩
  have O1 : Hid (Only (fun b => b = R) w w1) := o1.mono (bs' := fun b => b = R) (fun _ _ h => h.elim)
  clear HM o1
  unfold gup
  go_wp2
  exact ⟨rfl, rfl, O1.out⟩
theorem nw_flat {w : World} {B d : Nat} {t : Tre} {v : Value} (h : (t.k = 1 ∧ t.l = [] ∧ v = .iface 184 (.agg #[.int .i64 t.n])) ∨ (t.k = 2 ∧ t.l = [] ∧ v = .iface 186 (.agg #[.string t.s])) ∨ (t.k = 3 ∧ t.l = [] ∧ v = .iface 188 (.agg #[.bool (t.n != 0)]))) : NwAt w B (d + 1) false t v := by
  refine ⟨fun _ => False, ?_, fun b h => h.elim⟩
  rcases h with h | h | h
  · exact .inl h
  · exact .inr (.inl h)
  · exact .inr (.inr (.inl h))
theorem lit_of (R : Nat) (n : Int) (f : Nat) (HI : UpC R n f 3 131 53 true 102) (HV : UpC R n f 2 151 157 false 133) :
    PtC R n (f + 1) 0 133 false := by
  intro q o z w hl hl2 ho ho1 hz hz1 h
  cases q with
  | nil => exact (lit_nil R n o z w h).mono fun x w' g => g
  | cons t r =>
    obtain ⟨tk, tt, tn, ta⟩ := t
    simp only [List.length_cons] at hl hl2
    unfold prs
    dsimp only
    by_cases k2 : tk = 2
    · subst k2
      rw [if_pos rfl]
      by_cases hf : z = 1024
      · subst hf
        rw [if_pos rfl]
        exact (lit_num_full R r n o tt tn ta w h).mono fun x w' g => g
      · rw [if_neg hf]
        exact (lit_num_ok R r n o z tt tn ta w hz hz1 hf h).mono fun x w' g => ⟨_, _, rfl, g.1, nw_flat (.inl ⟨rfl, rfl, rfl⟩), g.2.out.1, g.2.out.2⟩
    · rw [if_neg k2]
      by_cases k3 : tk = 3
      · subst k3
        rw [if_pos rfl]
        by_cases hf : z = 1024
        · subst hf
          rw [if_pos rfl]
          exact (lit_str_full R r n o tt tn ta w h).mono fun x w' g => g
        · rw [if_neg hf]
          exact (lit_str_ok R r n o z tt tn ta w hz hz1 hf h).mono fun x w' g => ⟨_, _, rfl, g.1, nw_flat (.inr (.inl ⟨rfl, rfl, rfl⟩)), g.2.out.1, g.2.out.2⟩
      · rw [if_neg k3]
        have i2 : (tk == 2) = false := by simp [k2]
        have i3 : (tk == 3) = false := by simp [k3]
        by_cases c1 : tt.toList = [116]
        · rw [if_pos c1]
          obtain rfl := str_of c1
          by_cases hf : z = 1024
          · subst hf
            rw [if_pos rfl]
            exact (lit_yes_full R r n o tk tn ta w i2 i3 h).mono fun x w' g => g
          · rw [if_neg hf]
            exact (lit_yes_ok R r n o z tk tn ta w i2 i3 hz hz1 hf h).mono fun x w' g => ⟨_, _, rfl, g.1, nw_flat (.inr (.inr ⟨rfl, rfl, rfl⟩)), g.2.out.1, g.2.out.2⟩
        · rw [if_neg c1]
          by_cases c2 : tt.toList = [102]
          · rw [if_pos c2]
            obtain rfl := str_of c2
            by_cases hf : z = 1024
            · subst hf
              rw [if_pos rfl]
              exact (lit_no_full R r n o tk tn ta w i2 i3 h).mono fun x w' g => g
            · rw [if_neg hf]
              exact (lit_no_ok R r n o z tk tn ta w i2 i3 hz hz1 hf h).mono fun x w' g => ⟨_, _, rfl, g.1, nw_flat (.inr (.inr ⟨rfl, rfl, rfl⟩)), g.2.out.1, g.2.out.2⟩
          · rw [if_neg c2]
            by_cases c3 : tt.toList = [91]
            · rw [if_pos c3]
              obtain rfl := str_of c3
              by_cases hf : o = 32 ∨ z = 1024
              · rw [if_pos hf]
                exact (lit_quot_full R r n o z tk tn ta w i2 i3 ho ho1 hz hz1 hf h).mono fun x w' g => g
              · rw [if_neg hf]
                refine (lit_quot_ok R f r n o z tk tn ta w i2 i3 ho ho1 hz hz1 hf (by omega) (by omega) HI h).mono fun x w' g => ?_
                cases hX : prs n f 3 r (o + 1) (z + 1) with
                | error p => rw [hX] at g; exact g
                | ok p =>
                  rw [hX] at g
                  obtain ⟨l, q, z'⟩ := p
                  obtain ⟨ao, cap, he, g⟩ := g
                  exact ⟨_, _, rfl, he, g.out.1.tree (k := 5) (.inr rfl), g.out.2.1, g.out.2.2⟩
            · rw [if_neg c3]
              by_cases c4 : tt.toList = [123]
              · rw [if_pos c4]
                obtain rfl := str_of c4
                by_cases hf : o = 32 ∨ z = 1024
                · rw [if_pos hf]
                  exact (lit_list_full R r n o z tk tn ta w i2 i3 ho ho1 hz hz1 hf h).mono fun x w' g => g
                · rw [if_neg hf]
                  refine (lit_list_ok R f r n o z tk tn ta w i2 i3 ho ho1 hz hz1 hf (by omega) (by omega) HV h).mono fun x w' g => ?_
                  cases hX : prs n f 2 r (o + 1) (z + 1) with
                  | error p => rw [hX] at g; exact g
                  | ok p =>
                    rw [hX] at g
                    obtain ⟨l, q, z'⟩ := p
                    obtain ⟨ao, cap, he, g⟩ := g
                    exact ⟨_, _, rfl, he, g.out.1.tree (k := 4) (.inl rfl), g.out.2.1, g.out.2.2⟩
              · rw [if_neg c4]
                exact (lit_none R r n o z tk tn ta tt w i2 i3 (by simpa using c1) (by simpa using c2) (by simpa using c3) (by simpa using c4) h).mono fun x w' g => g
theorem NwAt.form {w : World} {B d : Nat} {i : Bool} {t : Tre} {v : Value} (h : NwAt w B d i t v) : ∃ T x, v = .iface T x := by
  obtain ⟨S, ht, _⟩ := h
  cases d with
  | zero => exact ht.elim
  | succ d =>
    cases i with
    | true => rcases ht with h | ⟨_, u, h, _⟩
              · exact ⟨_, _, h.2.2⟩
              · exact ⟨_, _, h⟩
    | false => rcases ht with h | h | h | ⟨_, _, _, h, _⟩
               · exact ⟨_, _, h.2.2⟩
               · exact ⟨_, _, h.2.2⟩
               · exact ⟨_, _, h.2.2⟩
               · exact ⟨_, _, h⟩
set_option maxRecDepth 100000 in
theorem item_nil (R : Nat) (n o z : Int) (w : World) (h : RdAt w R [] n o z) :
    Calls Tryz.prog 102 #[.pointer (some ⟨R, 0, none⟩)] w fun x w' => x = gup n 9 ∧ Only (fun b => b = R) w w' := by
  have HM : Hid (Calls Tryz.prog 128 #[.pointer (some ⟨R, 0, none⟩)] w fun x w' => x = gup n 9 ∧ Only (fun _ => False) w w') := named_nil R n o z w h
  clear h
  go_enter Tryz.func102, Tryz.ntmps102
  go_wp2_with fail
  refine (show Calls Tryz.prog 128 _ _ _ from HM.out).mono ?_
  rintro e w1 ⟨rfl, o1⟩
  have O1 : Hid (Only (fun b => b = R) w w1) := o1.mono (bs' := fun b => b = R) (fun _ _ h => h.elim)
  clear HM o1
  unfold gup
  go_wp2
  exact ⟨rfl, rfl, O1.out⟩
set_option maxRecDepth 100000 in
theorem item_full (R : Nat) (t : Tok) (r : List Tok) (n o : Int) (w : World) (hb : nmB t = true) (h : RdAt w R (t :: r) n o 1024) :
    Calls Tryz.prog 102 #[.pointer (some ⟨R, 0, none⟩)] w fun x w' => x = gup t.a 11 ∧ Only (fun b => b = R) w w' := by
  have HM : Hid (Calls Tryz.prog 128 #[.pointer (some ⟨R, 0, none⟩)] w fun x w' => x = .returned (.bool true) ∧ Only (fun _ => False) w w') := by rw [← hb]; exact named_cons R t r n o 1024 w h
  have HC : Hid (∀ w1, Only (fun _ => False) w w1 → Calls Tryz.prog 132 #[.pointer (some ⟨R, 0, none⟩)] w1 fun x w' => x = gup t.a 11 ∧ Only (fun b => b = R) w1 w') := fun w1 o1 => count_full R t r n o w1 (h.only o1)
  clear h hb
  go_enter Tryz.func102, Tryz.ntmps102
  go_wp2_with fail
  refine (show Calls Tryz.prog 128 _ _ _ from HM.out).mono ?_
  rintro e w1 ⟨rfl, o1⟩
  have O1 : Hid (Only (fun _ => False) w w1) := o1
  clear HM o1
  go_wp2_with fail
  refine (show Calls Tryz.prog 132 _ _ _ from HC.out _ O1.out).mono ?_
  rintro e w2 ⟨rfl, o2⟩
  have O2 : Hid (Only (fun b => b = R) w w2) := (O1.out.mono (bs' := fun b => b = R) (fun _ _ h => h.elim)).trans o2 (fun _ _ g => g)
  clear HC o2 O1
  unfold gup
  go_wp2
  exact ⟨rfl, rfl, O2.out⟩
set_option maxRecDepth 100000 in
theorem item_ok (R : Nat) (t : Tok) (r : List Tok) (n o z : Int) (w : World) (hb : nmB t = true) (hz : 0 ≤ z) (hz1 : z ≤ 1024) (hz2 : ¬ z = 1024) (h : RdAt w R (t :: r) n o z) :
    Calls Tryz.prog 102 #[.pointer (some ⟨R, 0, none⟩)] w fun x w' => x = .returned (.iface 51 (.agg #[.string t.t])) ∧ Hid (RdAt w' R r n o (z + 1) ∧ Only (fun b => b = R) w w') := by
  have HM : Hid (Calls Tryz.prog 128 #[.pointer (some ⟨R, 0, none⟩)] w fun x w' => x = .returned (.bool true) ∧ Only (fun _ => False) w w') := by rw [← hb]; exact named_cons R t r n o z w h
  have HC : Hid (∀ w1, Only (fun _ => False) w w1 → Calls Tryz.prog 132 #[.pointer (some ⟨R, 0, none⟩)] w1 fun x w' => x = .returned t.v ∧ Hid (RdAt w' R r n o (z + 1) ∧ Only (fun b => b = R) w1 w')) := fun w1 o1 => count_cons R t r n o z w1 hz hz1 hz2 (h.only o1)
  clear h hb hz hz1 hz2
  obtain ⟨tk, tt, tn, ta⟩ := t
  have f1 := tok_f1
  go_enter Tryz.func102, Tryz.ntmps102
  go_wp2_with fail
  refine (show Calls Tryz.prog 128 _ _ _ from HM.out).mono ?_
  rintro e w1 ⟨rfl, o1⟩
  have O1 : Hid (Only (fun _ => False) w w1) := o1
  clear HM o1
  go_wp2_with fail
  refine (show Calls Tryz.prog 132 _ _ _ from HC.out _ O1.out).mono ?_
  rintro e w2 ⟨rfl, g2⟩
  have G2 : Hid (RdAt w2 R r n o (z + 1) ∧ Only (fun b => b = R) w w2) := ⟨g2.out.1, (O1.out.mono (bs' := fun b => b = R) (fun _ _ h => h.elim)).trans g2.out.2 (fun _ _ g => g)⟩
  clear HC g2 O1
  simp only [Tok.v]
  go_wp2
  go_ret
  exact ⟨rfl, G2⟩
/-- what an item that is a literal is read as -/
def puP (R d : Nat) (n o : Int) (w : World) (r : Except (Int × Int) (List Tre × List Tok × Int)) (x : Ending) (w' : World) : Prop :=
  match r with
  | .error (a, e) => x = gup a e ∧ Only (fun b => b = R) w w'
  | .ok (l, q, z) => ∃ t v, l = [t] ∧ x = .returned (.iface 159 (.agg #[v])) ∧ Hid (NwAt w' w.heap.size d false t v ∧ RdAt w' R q n o z ∧ Only (fun b => b = R) w w')
set_option maxRecDepth 100000 in
theorem item_push (R f : Nat) (t : Tok) (r : List Tok) (n o z : Int) (w : World) (hb : nmB t = false) (ho : 0 ≤ o) (ho1 : o ≤ 32) (hz : 0 ≤ z) (hz1 : z ≤ 1024) (hl : 3 * (t :: r).length + 1 + 0 ≤ f) (hl2 : (t :: r).length ≤ 4096) (HP : PtC R n f 0 133 false) (h : RdAt w R (t :: r) n o z) :
    Calls Tryz.prog 102 #[.pointer (some ⟨R, 0, none⟩)] w (puP R f n o w (prs n f 0 (t :: r) o z)) := by
  have HM : Hid (Calls Tryz.prog 128 #[.pointer (some ⟨R, 0, none⟩)] w fun x w' => x = .returned (.bool false) ∧ Only (fun _ => False) w w') := by rw [← hb]; exact named_cons R t r n o z w h
  have HC : Hid (∀ w1, Only (fun _ => False) w w1 → Calls Tryz.prog 133 #[.pointer (some ⟨R, 0, none⟩)] w1 (ptP R f false n o w1 (prs n f 0 (t :: r) o z))) := fun w1 o1 => HP (t :: r) o z w1 hl hl2 ho ho1 hz hz1 (h.only o1)
  clear h hb hz hz1 hl hl2 HP ho ho1
  obtain ⟨X, hX⟩ : ∃ X, X = prs n f 0 (t :: r) o z := ⟨_, rfl⟩
  rw [← hX] at HC ⊢
  clear hX
  go_enter Tryz.func102, Tryz.ntmps102
  go_wp2_with fail
  refine (show Calls Tryz.prog 128 _ _ _ from HM.out).mono ?_
  rintro e w1 ⟨rfl, o1⟩
  have O1 : Hid (Only (fun _ => False) w w1) := o1
  clear HM o1
  go_wp2_with fail
  refine (show Calls Tryz.prog 133 _ _ _ from HC.out _ O1.out).mono ?_
  intro e w2 g2
  clear HC
  cases X with
  | error p =>
    obtain ⟨a, er⟩ := p
    obtain ⟨he, o2⟩ := g2
    subst he
    have O2 : Hid (Only (fun b => b = R) w w2) := (O1.out.mono (bs' := fun b => b = R) (fun _ _ h => h.elim)).trans o2 (fun _ _ g => g)
    clear o2 O1
    unfold gup
    go_wp2
    exact ⟨rfl, show _ ∧ _ from ⟨rfl, O2.out⟩⟩
  | ok p =>
    obtain ⟨l, q, z'⟩ := p
    obtain ⟨t', v, hl, he, g⟩ := g2
    subst he
    have G2 : Hid (l = [t'] ∧ NwAt w2 w.heap.size f false t' v ∧ RdAt w2 R q n o z' ∧ Only (fun b => b = R) w w2) := ⟨hl, g.out.1.lower O1.out.size, g.out.2.1, (O1.out.mono (bs' := fun b => b = R) (fun _ _ h => h.elim)).trans g.out.2.2 (fun _ _ g => g)⟩
    obtain ⟨T, y, hv⟩ := g.out.1.form
    subst hv
    clear g O1 hl
    go_wp2
    go_ret
    exact show ∃ t v, _ ∧ _ ∧ Hid _ from ⟨t', _, G2.out.1, rfl, G2.out.2⟩
theorem prs_lit (n : Int) (f : Nat) (q : List Tok) (o z : Int) (l : List Tre) (r : List Tok) (z' : Int) (h : prs n f 0 q o z = .ok (l, r, z')) : ∃ t, l = [t] ∧ t.k ≠ 7 := by
  cases f with
  | zero => simp [prs] at h
  | succ f =>
    cases q with
    | nil => simp [prs] at h
    | cons t q =>
      simp only [prs] at h
      repeat' split at h
      all_goals first
        | (simp at h; done)
        | (simp only [Except.ok.injEq, Prod.mk.injEq] at h; obtain ⟨rfl, _, _⟩ := h; exact ⟨_, rfl, by simp⟩)
theorem item_of (R : Nat) (n : Int) (f : Nat) (HP : PtC R n f 0 133 false) : PtC R n (f + 1) 1 102 true := by
  intro q o z w hl hl2 ho ho1 hz hz1 h
  cases q with
  | nil => exact (item_nil R n o z w h).mono fun x w' g => g
  | cons t r =>
    unfold prs
    dsimp only
    cases hb : nmB t with
    | true =>
      rw [if_pos rfl]
      by_cases hf : z = 1024
      · subst hf
        rw [if_pos rfl]
        exact (item_full R t r n o w hb h).mono fun x w' g => g
      · rw [if_neg hf]
        exact (item_ok R t r n o z w hb hz hz1 hf h).mono fun x w' g => ⟨_, _, rfl, g.1, ⟨fun _ => False, .inl ⟨rfl, rfl, rfl⟩, fun b h => h.elim⟩, g.2.out.1, g.2.out.2⟩
    | false =>
      rw [if_neg (by simp)]
      refine (item_push R f t r n o z w hb ho ho1 hz hz1 (by omega) hl2 HP h).mono fun x w' g => ?_
      cases hX : prs n f 0 (t :: r) o z with
      | error p => rw [hX] at g; exact g
      | ok p =>
        rw [hX] at g
        obtain ⟨l, q, z'⟩ := p
        obtain ⟨t', v, h1, h2, h3⟩ := g
        obtain ⟨t2, e2, hk⟩ := prs_lit n f _ o z l q z' hX
        rw [h1] at e2
        injection e2 with e2
        subst e2
        obtain ⟨S, hS, hb⟩ := h3.out.1
        exact ⟨t', _, h1, h2, ⟨S, .inr ⟨hk, v, rfl, hS⟩, hb⟩, h3.out.2.1, h3.out.2.2⟩
end Go.Proofs.YtfecmpebnianpaaGreatDoor
