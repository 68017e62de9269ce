/- Two values in their normal form are equal just if they are the same tree. What trees that came in become as values. Trees of values, and depths. Primitives one after the other, and values held against trees. Words that leave a flag. value.Text of the number 7. The text of an item that pushes a value without parts; value.word. -/
import Derived.Test.YtioffjdjnlibgaaGreatDoorGal
import Derived.Test.YtioffjdjnlibgaaGreatDoorGah
import Derived.Test.YtioffjdjnlibgaaGreatDoorGaa
import Derived.Test.YtioffjdjnlibgaaGreatDoorGai
import Derived.Test.YtioffjdjnlibgaaGreatDoorGan
import Derived.Test.YtioffjdjnlibgaaGreatDoorGam
namespace Go.Proofs.YtioffjdjnlibgaaGreatDoor
open Go.RowKit Go.Lib
set_option linter.unusedSimpArgs false
set_option linter.unusedVariables false
theorem vt_ext {a b : Vt} (h1 : a.k = b.k) (h2 : a.n = b.n) (h3 : a.s = b.s) (h4 : a.l = b.l) : a = b := by
  cases a; cases b
  simp only at h1 h2 h3 h4
  subst h1 h2 h3 h4
  rfl
theorem bytes_same {a b : ByteArray} : (a.toList == b.toList) = true ↔ a = b := by
  constructor
  · intro h
    have h := beq_iff_eq.1 h
    rw [ByteArray.toList_eq, ByteArray.toList_eq] at h
    exact ByteArray.ext (Array.toList_inj.1 h)
  · intro h; rw [h]; simp
theorem smL_eq (f : Vt → Vt → Bool) : ∀ (a b : List Vt), (∀ x ∈ a, ∀ y ∈ b, (f x y = true ↔ x = y)) → (smL f a b = true ↔ a = b)
  | [], [], _ => by simp [smL]
  | [], y :: b, _ => by simp [smL]
  | x :: a, [], _ => by simp [smL]
  | x :: a, y :: b, h => by
    have h1 := h x (.head _) y (.head _)
    have h2 := smL_eq f a b (fun x' hx y' hy => h x' (.tail _ hx) y' (.tail _ hy))
    rw [show smL f (x :: a) (y :: b) = (f x y && smL f a b) from rfl, Bool.and_eq_true, h1, h2]
    simp
theorem ok_kind {d : Nat} {t : Vt} (h : okV (d + 1) false t = true) : t.k = 1 ∨ t.k = 2 ∨ t.k = 3 ∨ t.k = 4 ∨ t.k = 5 ∨ t.k = 6 := by
  by_cases hk : t.k = 4 ∨ t.k = 5
  · omega
  · rw [show okV (d + 1) false t = alB t from if_neg hk] at h
    unfold alB at h
    split at h
    · omega
    split at h
    · omega
    split at h
    · omega
    · have := of_decide_eq_true h
      omega
theorem sm_eq : ∀ (D : Nat) (i : Bool) (a b : Vt) (e : Nat), okV D i a = true → okV D i b = true → NfT e a → NfT e b → LfT e a → LfT e b → (smV D i a b = true ↔ a = b)
  | 0, _, _, _, _, h, _, _, _, _, _ => by cases h
  | D + 1, true, a, b, e, h1, h2, n1, n2, l1, l2 => by
    cases e with
    | zero => exact n1.elim
    | succ e =>
      by_cases h7 : a.k = 7 ∨ b.k = 7
      · rw [show smV (D + 1) true a b = (decide (a.k = 7) && decide (b.k = 7) && (a.s.toList == b.s.toList)) from if_pos h7]
        simp only [Bool.and_eq_true, decide_eq_true_eq, bytes_same]
        constructor
        · rintro ⟨⟨ka, kb⟩, hs⟩
          refine vt_ext (ka.trans kb.symm) ?_ hs ?_
          · have va : vnn a = 0 := (if_neg (by omega)).trans (if_neg (by omega))
            have vb : vnn b = 0 := (if_neg (by omega)).trans (if_neg (by omega))
            rw [n1.2.2.1, n2.2.2.1, va, vb]
          · rw [l1.1 (by omega), l2.1 (by omega)]
        · intro he
          subst he
          exact ⟨⟨by omega, by omega⟩, rfl⟩
      · have ka : a.k ≠ 7 := fun g => h7 (.inl g)
        have kb : b.k ≠ 7 := fun g => h7 (.inr g)
        have e1 : okV (D + 1) true a = if a.k = 8 then false else okV D false a := if_neg ka
        have e2 : okV (D + 1) true b = if b.k = 8 then false else okV D false b := if_neg kb
        rw [e1] at h1
        rw [e2] at h2
        split at h1
        · cases h1
        split at h2
        · cases h2
        rw [show smV (D + 1) true a b = smV D false a b from if_neg h7]
        exact sm_eq D false a b (e + 1) h1 h2 n1 n2 l1 l2
  | D + 1, false, a, b, e, h1, h2, n1, n2, l1, l2 => by
    cases e with
    | zero => exact n1.elim
    | succ e =>
      have ka := ok_kind h1
      have kb := ok_kind h2
      obtain ⟨_, _, na, sa, pa⟩ := n1
      obtain ⟨_, _, nb, sb, pb⟩ := n2
      have es : smV (D + 1) false a b = (decide (a.k = b.k) && (if a.k = 1 ∨ a.k = 6 then a.n == b.n else if a.k = 2 then a.s.toList == b.s.toList else if a.k = 3 then (a.n != 0) == (b.n != 0) else smL (smV D (decide (a.k = 5))) a.l b.l)) := rfl
      rw [es, Bool.and_eq_true, decide_eq_true_eq]
      by_cases hk : a.k = b.k
      · have hs2 : a.k ≠ 2 → a.s = b.s := fun g => by
          have va : vss a = ⟨#[]⟩ := if_neg (by omega)
          have vb : vss b = ⟨#[]⟩ := if_neg (by omega)
          rw [sa, sb, va, vb]
        have hl0 : ¬ (a.k = 4 ∨ a.k = 5) → a.l = b.l := fun g => by rw [l1.1 g, l2.1 (by omega)]
        have hn0 : ¬ (a.k = 1 ∨ a.k = 6) → a.k ≠ 3 → a.n = b.n := fun g g3 => by
          have va : vnn a = 0 := (if_neg g).trans (if_neg g3)
          have vb : vnn b = 0 := (if_neg (by omega)).trans (if_neg (by omega))
          rw [na, nb, va, vb]
        by_cases k1 : a.k = 1 ∨ a.k = 6
        · rw [if_pos k1, beq_iff_eq]
          exact ⟨fun g => vt_ext hk g.2 (hs2 (by omega)) (hl0 (by omega)), fun g => by subst g; exact ⟨rfl, rfl⟩⟩
        · rw [if_neg k1]
          by_cases k2 : a.k = 2
          · rw [if_pos k2, bytes_same]
            exact ⟨fun g => vt_ext hk (hn0 k1 (by omega)) g.2 (hl0 (by omega)), fun g => by subst g; exact ⟨rfl, rfl⟩⟩
          · rw [if_neg k2]
            by_cases k3 : a.k = 3
            · rw [if_pos k3, beq_iff_eq]
              refine ⟨fun g => vt_ext hk ?_ (hs2 k2) (hl0 (by omega)), fun g => by subst g; exact ⟨rfl, rfl⟩⟩
              have va : vnn a = if a.n != 0 then 1 else 0 := (if_neg k1).trans (if_pos k3)
              have vb : vnn b = if b.n != 0 then 1 else 0 := (if_neg (by omega)).trans (if_pos (by omega))
              rw [na, nb, va, vb, g.2]
            · rw [if_neg k3]
              have k45 : a.k = 4 ∨ a.k = 5 := by omega
              rw [show okV (D + 1) false a = a.l.all (okV D (decide (a.k = 5))) from if_pos k45] at h1
              rw [show okV (D + 1) false b = b.l.all (okV D (decide (b.k = 5))) from if_pos (by omega), ← hk] at h2
              rw [smL_eq (smV D (decide (a.k = 5))) a.l b.l (fun x hx y hy => sm_eq D _ x y e (List.all_eq_true.1 h1 x hx) (List.all_eq_true.1 h2 y hy) (pa x hx) (pb y hy) (l1.2 x hx) (l2.2 y hy))]
              exact ⟨fun g => vt_ext hk (hn0 k1 k3) (hs2 k2) g.2, fun g => by subst g; exact ⟨rfl, rfl⟩⟩
      · exact ⟨fun g => absurd g.1 hk, fun g => by subst g; exact absurd rfl hk⟩
/-- the same of what comes in as trees -/
theorem sm_nm {d D : Nat} {a b : Vt} (sa : SmT d a) (sb : SmT d b) (h1 : sdB D (nm d false a) = true) (h2 : sdB D (nm d false b) = true) : smV D false (nm d false a) (nm d false b) = true ↔ nm d false a = nm d false b := by
  unfold sdB msB at h1 h2
  simp only [Bool.and_eq_true] at h1 h2
  exact sm_eq D false _ _ d h1.1.1 h2.1.1 (nm_nf d false a sa) (nm_nf d false b sb) (nm_lf d false a sa) (nm_lf d false b sb)
end Go.Proofs.YtioffjdjnlibgaaGreatDoor
namespace Go.Proofs.YtioffjdjnlibgaaGreatDoor
open Go.RowKit Go.Lib
set_option linter.unusedSimpArgs false
set_option linter.unusedVariables false
theorem nm_sm : ∀ (d : Nat) (i : Bool) (t : Vt), SmT d t → SmT d (nm d i t)
  | 0, _, _, h => h.elim
  | d + 1, i, t, h => by
    obtain ⟨k, n, s, l⟩ := t
    obtain ⟨h1, h2, h3, h4, h5⟩ := h
    dsimp only at h1 h2 h3 h4 h5
    have z : ∀ m : Int, m ∈ [0, 1, 2, 3, 4, 5, 6, 7, 8] → (-9223372036854775808 : Int) ≤ m ∧ m ≤ 9223372036854775807 := fun m hm => by
      simp only [List.mem_cons, List.not_mem_nil, or_false] at hm
      omega
    have e0 : (⟨#[]⟩ : ByteArray).size ≤ 140737488355328 := Nat.zero_le _
    unfold nm
    dsimp only
    split
    · exact ⟨e0, Nat.zero_le _, z 1 (by simp), h4, fun x hx => by cases hx⟩
    split
    · exact ⟨h1, Nat.zero_le _, z 2 (by simp), z 0 (by simp), fun x hx => by cases hx⟩
    split
    · refine ⟨e0, Nat.zero_le _, z 3 (by simp), ?_, fun x hx => by cases hx⟩
      dsimp only
      split
      · exact z 1 (by simp)
      · exact z 0 (by simp)
    split
    · refine ⟨e0, by simpa using h2, z 4 (by simp), z 0 (by simp), fun x hx => ?_⟩
      obtain ⟨y, hy, rfl⟩ := List.mem_map.1 hx
      exact nm_sm d false y (h5 y hy)
    split
    · refine ⟨e0, by simpa using h2, z 5 (by simp), z 0 (by simp), fun x hx => ?_⟩
      obtain ⟨y, hy, rfl⟩ := List.mem_map.1 hx
      exact nm_sm d true y (h5 y hy)
    split
    · exact ⟨e0, Nat.zero_le _, z 6 (by simp), h4, fun x hx => by cases hx⟩
    split
    · exact ⟨h1, Nat.zero_le _, z 7 (by simp), z 0 (by simp), fun x hx => by cases hx⟩
    · exact ⟨e0, Nat.zero_le _, z 8 (by simp), z 0 (by simp), fun x hx => by cases hx⟩
/-- what a tree that came in has become as a value x, since block B: its own blocks, and what is known of its tree -/
def Vx (w : World) (B d : Nat) (t : Vt) (x : Value) : Prop := NiAt w B (2 * d + 1) false (nm d false t) x
theorem Vx.only {w w' : World} {B d : Nat} {t : Vt} {x : Value} {bs : Nat → Prop} (h : Vx w B d t x) (o : Only bs w w') (hb : ∀ b, B ≤ b → ¬ bs b) : Vx w' B d t x := NiAt.only h o hb
theorem value_calls {a : Vt} {va : Value} {d : Nat} {w : World} (ha : VsAt w (fun _ => True) d a.l va) (sa : SmT d a) : ∀ w1, Only (fun _ => False) w w1 → Calls Tryz.prog 10 #[.agg #[.int .i64 a.k, .int .i64 a.n, .string a.s, va]] w1 fun e w' => ∃ v, e = .returned v ∧ Hid (Vx w' w1.heap.size d a v ∧ Only (fun _ => False) w1 w') := fun w1 o1 => value_all d a va w1 _ (ha.only o1) sa
end Go.Proofs.YtioffjdjnlibgaaGreatDoor
namespace Go.Proofs.YtioffjdjnlibgaaGreatDoor
open Go.RowKit Go.Lib
set_option linter.unusedSimpArgs false
set_option linter.unusedVariables false
theorem LfT.mono : ∀ {d d' : Nat} {t : Vt}, d ≤ d' → LfT d t → LfT d' t
  | 0, _, _, _, h => h.elim
  | d + 1, 0, t, hd, h => by omega
  | d + 1, e + 1, t, hd, h => ⟨h.1, fun x hx => (h.2 x hx).mono (by omega)⟩
theorem tree_calls {a : Vt} {x : Value} {d B : Nat} {w : World} (h : Vx w B d a x) (sa : SmT d a) : ∀ w1, (∃ bs : Nat → Prop, Only bs w w1 ∧ ∀ b, B ≤ b → ¬ bs b) → Calls Tryz.prog 11 #[x] w1 fun e w' => ∃ lv, e = .returned (.agg #[.int .i64 (nm d false a).k, .int .i64 (nm d false a).n, .string (nm d false a).s, lv]) ∧ Hid ((∃ ao cap, lv = .slice ao (nm d false a).l.length cap) ∧ NuAt w' w1.heap.size (2 * d + 1) (nm d false a) lv ∧ Only (fun _ => False) w1 w') := fun w1 ⟨bs, o1, hb⟩ => by
  obtain ⟨S, h1, h2⟩ := h.only o1 hb
  refine ((utrees_any (2 * d + 2) (2 * d + 1) (by omega)).1 x (nm d false a) w1 S h1 ⟨d, nm_nf d false a sa⟩).mono fun e w' g => ?_
  obtain ⟨lv, he, g⟩ := g
  exact ⟨lv, he, g.out.1.form, g.out⟩
end Go.Proofs.YtioffjdjnlibgaaGreatDoor
namespace Go.Proofs.YtioffjdjnlibgaaGreatDoor
open Go.RowKit Go.Lib
set_option linter.unusedSimpArgs false
set_option linter.unusedVariables false
/-- a primitive: its name, its kinds, its work -/
structure Pr where
  name : ByteArray
  ks : List Int
  cy : Nat → List Vt → Except Int (List Vt)
structure PrC (p : Pr) : Prop where
  wt : WtC p.name p.ks
  cy : CyC p.name p.ks p.cy
  one : 1 ≤ p.ks.length
  few : p.ks.length ≤ 3
/-- primitives one after the other; d: how deep the values may be -/
def doL : Nat → List Pr → List Vt → Except Int (List Vt)
  | _, [], l => .ok l
  | d, p :: r, l =>
    match doR d p.ks p.cy l with
    | .error n => .error n
    | .ok l' => doL (d + 2) r l'
theorem doL_error {d : Nat} {p : Pr} {r : List Pr} {l : List Vt} {n : Int} (h : doR d p.ks p.cy l = .error n) : doL d (p :: r) l = .error n := by simp only [doL, h]
theorem doL_ok {d : Nat} {p : Pr} {r : List Pr} {l l' : List Vt} (h : doR d p.ks p.cy l = .ok l') : doL d (p :: r) l = doL (d + 2) r l' := by simp only [doL, h]
/-- what they leave -/
def DlP (r : Except Int (List Vt)) (D : Nat) (w : World) (e : Ending) (w' : World) : Prop :=
  match r with
  | .error n => e = .returned (.tuple #[.slice none 0 0, .int .i64 n]) ∧ (n == 0) = false ∧ Only (fun _ => False) w w'
  | .ok ls => ∃ ao cap, e = .returned (.tuple #[.slice ao ls.length cap, .int .i64 0]) ∧ Hid ((∃ S, QiAt w' S D false (.slice ao ls.length cap) ls ∧ ∀ b, S b → b < w'.heap.size) ∧ (∀ x ∈ ls, ∃ e, SmT e x) ∧ Only (fun _ => False) w w')
theorem QiAt.ps {w : World} {S : Nat → Prop} {d n : Nat} {i : Bool} {ao : Option Addr} {cap : Nat} {l : List Vt} (h : QiAt w S d i (.slice ao n cap) l) : PsAt w S d i l ao := by
  obtain ⟨a, c, he, _, h2⟩ := h
  cases he
  exact h2
theorem RiAt.qi {w : World} {B d : Nat} {T : TypeId} {i : Bool} {ao : Option Addr} {cap : Nat} {l : List Vt} (h : RiAt w B T d i (.slice ao l.length cap) l) : ∃ S, QiAt w S d i (.slice ao l.length cap) l ∧ ∀ b, S b → B ≤ b ∧ b < w.heap.size := by
  obtain ⟨S, h1, h2⟩ := h.ps
  refine ⟨S, ⟨ao, cap, rfl, ?_, h1⟩, h2⟩
  obtain ⟨us, S', ho, _⟩ := h
  rcases ho.2 with ⟨h3, h4⟩ | ⟨g, cp, cur, hv, hB, hg, hn, hcm, hcs, htk⟩
  · omega
  · cases hv
    exact hn
/-- where a row of primitives stands -/
def DnI (w wr : World) (d : Nat) (ps : List Pr) (l : List Vt) (j : Nat) (v : Value) (k : Nat) : Prop := ∃ lj : List Vt, (∃ S, QiAt wr S (d + 2 * j) false v lj ∧ ∀ b, S b → b < wr.heap.size) ∧ lj.length = k ∧ doL d ps l = doL (d + 2 * j) (ps.drop j) lj ∧ (∀ x ∈ lj, ∃ e, SmT e x) ∧ k ≤ l.length + 3 * j ∧ Only (fun _ => False) w wr
theorem smL_self (f : Vt → Vt → Bool) : ∀ (l : List Vt), (∀ x ∈ l, f x x = true) → smL f l l = true
  | [], _ => rfl
  | t :: l, h => by
    have h1 := h t (List.mem_cons_self ..)
    have h2 := smL_self f l (fun x hx => h x (List.mem_cons_of_mem _ hx))
    simp only [smL, h1, h2, Bool.and_true]
theorem saV_self : ∀ (d : Nat) (t : Vt), LfT d t → saV d t t = true
  | 0, _, h => h.elim
  | d + 1, t, h => by
    have h1 : smL (saV d) t.l t.l = true := smL_self _ _ (fun x hx => saV_self d x (h.2 x hx))
    have h2 : saL t.k t.n t.n t.s t.s = true := by
      unfold saL
      split
      · simp
      split
      · simp
      split
      · simp
      · rfl
    simp only [saV, h1, h2, decide_true, Bool.and_true]
theorem UrAt.vs {w : World} {B d : Nat} {v : Value} {l : List Vt} (h : UrAt w B d v l) : ∃ S, VsAt w S (d + 1) l v := by
  obtain ⟨S, h1, _⟩ := h.tree (t := ⟨0, 0, ⟨#[]⟩, l⟩) rfl
  exact ⟨S, h1⟩
end Go.Proofs.YtioffjdjnlibgaaGreatDoor
namespace Go.Proofs.YtioffjdjnlibgaaGreatDoor
open Go.RowKit Go.Lib
set_option linter.unusedSimpArgs false
set_option linter.unusedVariables false
/-- a flag as a value -/
def boT (b : Bool) : Vt := ⟨3, if b then 1 else 0, ⟨#[]⟩, []⟩
theorem bo_sm (b : Bool) : ∃ e, SmT e (boT b) := by
  refine ⟨1, Nat.zero_le _, Nat.zero_le _, ⟨(by decide : (-9223372036854775808 : Int) ≤ 3), (by decide : (3 : Int) ≤ 9223372036854775807)⟩, ?_, fun x hx => by cases hx⟩
  cases b
  · exact ⟨(by decide : (-9223372036854775808 : Int) ≤ 0), (by decide : (0 : Int) ≤ 9223372036854775807)⟩
  · exact ⟨(by decide : (-9223372036854775808 : Int) ≤ 1), (by decide : (1 : Int) ≤ 9223372036854775807)⟩
theorem bo_ti (w : World) (S : Nat → Prop) (d : Nat) (b : Bool) : TiAt w S (d + 1) false (boT b) (.iface 58 (.agg #[.bool b])) := by
  refine .inr (.inr (.inl ⟨rfl, rfl, ?_⟩))
  cases b <;> rfl
/-- what holds answers of values of its kinds -/
def HoC (name : ByteArray) (ks : List Int) (hb : List Vt → Bool) : Prop := ∀ (d : Nat) (l : List Vt) (G q : Nat) (w : World) (S : Nat → Prop), PsAt w S d false l (some ⟨G, q, none⟩) → (∀ b, S b → b < w.heap.size) → l.length = ks.length → (∀ x ∈ l, ∃ e, SmT e x) → l.all (sdB d) = true → fitB l ks = true → Tx w →
  Calls Tryz.prog 38 #[.string name, .slice (some ⟨G, q, none⟩) l.length l.length] w fun e w' => e = .returned (.bool (hb l)) ∧ Only (fun _ => False) w w'
theorem ti_1 {w : World} {S : Nat → Prop} {d : Nat} {t : Vt} {v : Value} (h : TiAt w S d false t v) (hk : t.k = 1) : v = .iface 27 (.agg #[.int .i64 t.n]) := by
  cases d with
  | zero => exact h.elim
  | succ d => rcases h with ⟨e, _, g⟩ | ⟨e, _, g⟩ | ⟨e, _, g⟩ | ⟨e, _, g⟩ | ⟨e, _, g⟩ | ⟨e, _⟩ <;> first | exact g | omega
theorem ti_2 {w : World} {S : Nat → Prop} {d : Nat} {t : Vt} {v : Value} (h : TiAt w S d false t v) (hk : t.k = 2) : v = .iface 56 (.agg #[.string t.s]) := by
  cases d with
  | zero => exact h.elim
  | succ d => rcases h with ⟨e, _, g⟩ | ⟨e, _, g⟩ | ⟨e, _, g⟩ | ⟨e, _, g⟩ | ⟨e, _, g⟩ | ⟨e, _⟩ <;> first | omega | exact g
theorem ti_3 {w : World} {S : Nat → Prop} {d : Nat} {t : Vt} {v : Value} (h : TiAt w S d false t v) (hk : t.k = 3) : v = .iface 58 (.agg #[.bool (t.n != 0)]) := by
  cases d with
  | zero => exact h.elim
  | succ d => rcases h with ⟨e, _, g⟩ | ⟨e, _, g⟩ | ⟨e, _, g⟩ | ⟨e, _, g⟩ | ⟨e, _, g⟩ | ⟨e, _⟩ <;> first | omega | exact g
set_option maxRecDepth 100000 in
theorem mh_not {ks : List Int} {hb : List Vt → Bool} (hH : HoC ⟨#[110, 111, 116]⟩ ks hb) : MdC ⟨#[110, 111, 116]⟩ ks (fun _ l => .ok (boT (hb l))) := by
  intro d l G q w S hl hS hlen hsm hsd hf hT
  have HH : Hid _ := hH d l G q w S hl hS hlen hsm hsd hf hT
  obtain ⟨b, hb0⟩ : ∃ b, b = hb l := ⟨_, rfl⟩
  have HP : Hid (∀ w', Only (fun _ => False) w w' → MdP (.ok (boT b)) (d + 2) w (.returned (.tuple #[.iface 58 (.agg #[.bool b]), .int .i64 0])) w') := fun w' o => ⟨_, rfl, ⟨fun _ => False, bo_ti w' _ (d + 1) b, fun _ g => g.elim⟩, bo_sm b, o⟩
  obtain ⟨L, hL⟩ : ∃ L, L = l.length := ⟨_, rfl⟩
  dsimp only
  rw [← hb0] at HH ⊢
  rw [← hL] at HH ⊢
  clear hl hS hlen hsm hsd hf hT hL hb0 hH
  go_enter Tryz.func28, Tryz.ntmps28
  go_wp2_with fail
  refine (show Calls Tryz.prog 38 _ _ _ from HH.out).mono ?_
  rintro e w1 ⟨rfl, o1⟩
  have O1 : Hid (Only (fun _ => False) w w1) := o1
  clear HH o1
  go_wp2
  go_ret2
  exact HP.out _ O1.out
set_option maxRecDepth 100000 in
theorem mh_and {ks : List Int} {hb : List Vt → Bool} (hH : HoC ⟨#[97, 110, 100]⟩ ks hb) : MdC ⟨#[97, 110, 100]⟩ ks (fun _ l => .ok (boT (hb l))) := by
  intro d l G q w S hl hS hlen hsm hsd hf hT
  have HH : Hid _ := hH d l G q w S hl hS hlen hsm hsd hf hT
  obtain ⟨b, hb0⟩ : ∃ b, b = hb l := ⟨_, rfl⟩
  have HP : Hid (∀ w', Only (fun _ => False) w w' → MdP (.ok (boT b)) (d + 2) w (.returned (.tuple #[.iface 58 (.agg #[.bool b]), .int .i64 0])) w') := fun w' o => ⟨_, rfl, ⟨fun _ => False, bo_ti w' _ (d + 1) b, fun _ g => g.elim⟩, bo_sm b, o⟩
  obtain ⟨L, hL⟩ : ∃ L, L = l.length := ⟨_, rfl⟩
  dsimp only
  rw [← hb0] at HH ⊢
  rw [← hL] at HH ⊢
  clear hl hS hlen hsm hsd hf hT hL hb0 hH
  go_enter Tryz.func28, Tryz.ntmps28
  go_wp2_with fail
  refine (show Calls Tryz.prog 38 _ _ _ from HH.out).mono ?_
  rintro e w1 ⟨rfl, o1⟩
  have O1 : Hid (Only (fun _ => False) w w1) := o1
  clear HH o1
  go_wp2
  go_ret2
  exact HP.out _ O1.out
set_option maxRecDepth 100000 in
theorem mh_or {ks : List Int} {hb : List Vt → Bool} (hH : HoC ⟨#[111, 114]⟩ ks hb) : MdC ⟨#[111, 114]⟩ ks (fun _ l => .ok (boT (hb l))) := by
  intro d l G q w S hl hS hlen hsm hsd hf hT
  have HH : Hid _ := hH d l G q w S hl hS hlen hsm hsd hf hT
  obtain ⟨b, hb0⟩ : ∃ b, b = hb l := ⟨_, rfl⟩
  have HP : Hid (∀ w', Only (fun _ => False) w w' → MdP (.ok (boT b)) (d + 2) w (.returned (.tuple #[.iface 58 (.agg #[.bool b]), .int .i64 0])) w') := fun w' o => ⟨_, rfl, ⟨fun _ => False, bo_ti w' _ (d + 1) b, fun _ g => g.elim⟩, bo_sm b, o⟩
  obtain ⟨L, hL⟩ : ∃ L, L = l.length := ⟨_, rfl⟩
  dsimp only
  rw [← hb0] at HH ⊢
  rw [← hL] at HH ⊢
  clear hl hS hlen hsm hsd hf hT hL hb0 hH
  go_enter Tryz.func28, Tryz.ntmps28
  go_wp2_with fail
  refine (show Calls Tryz.prog 38 _ _ _ from HH.out).mono ?_
  rintro e w1 ⟨rfl, o1⟩
  have O1 : Hid (Only (fun _ => False) w w1) := o1
  clear HH o1
  go_wp2
  go_ret2
  exact HP.out _ O1.out
set_option maxRecDepth 100000 in
theorem mh_lt {ks : List Int} {hb : List Vt → Bool} (hH : HoC ⟨#[60]⟩ ks hb) : MdC ⟨#[60]⟩ ks (fun _ l => .ok (boT (hb l))) := by
  intro d l G q w S hl hS hlen hsm hsd hf hT
  have HH : Hid _ := hH d l G q w S hl hS hlen hsm hsd hf hT
  obtain ⟨b, hb0⟩ : ∃ b, b = hb l := ⟨_, rfl⟩
  have HP : Hid (∀ w', Only (fun _ => False) w w' → MdP (.ok (boT b)) (d + 2) w (.returned (.tuple #[.iface 58 (.agg #[.bool b]), .int .i64 0])) w') := fun w' o => ⟨_, rfl, ⟨fun _ => False, bo_ti w' _ (d + 1) b, fun _ g => g.elim⟩, bo_sm b, o⟩
  obtain ⟨L, hL⟩ : ∃ L, L = l.length := ⟨_, rfl⟩
  dsimp only
  rw [← hb0] at HH ⊢
  rw [← hL] at HH ⊢
  clear hl hS hlen hsm hsd hf hT hL hb0 hH
  go_enter Tryz.func28, Tryz.ntmps28
  go_wp2_with fail
  refine (show Calls Tryz.prog 38 _ _ _ from HH.out).mono ?_
  rintro e w1 ⟨rfl, o1⟩
  have O1 : Hid (Only (fun _ => False) w w1) := o1
  clear HH o1
  go_wp2
  go_ret2
  exact HP.out _ O1.out
set_option maxRecDepth 100000 in
theorem mh_gt {ks : List Int} {hb : List Vt → Bool} (hH : HoC ⟨#[62]⟩ ks hb) : MdC ⟨#[62]⟩ ks (fun _ l => .ok (boT (hb l))) := by
  intro d l G q w S hl hS hlen hsm hsd hf hT
  have HH : Hid _ := hH d l G q w S hl hS hlen hsm hsd hf hT
  obtain ⟨b, hb0⟩ : ∃ b, b = hb l := ⟨_, rfl⟩
  have HP : Hid (∀ w', Only (fun _ => False) w w' → MdP (.ok (boT b)) (d + 2) w (.returned (.tuple #[.iface 58 (.agg #[.bool b]), .int .i64 0])) w') := fun w' o => ⟨_, rfl, ⟨fun _ => False, bo_ti w' _ (d + 1) b, fun _ g => g.elim⟩, bo_sm b, o⟩
  obtain ⟨L, hL⟩ : ∃ L, L = l.length := ⟨_, rfl⟩
  dsimp only
  rw [← hb0] at HH ⊢
  rw [← hL] at HH ⊢
  clear hl hS hlen hsm hsd hf hT hL hb0 hH
  go_enter Tryz.func28, Tryz.ntmps28
  go_wp2_with fail
  refine (show Calls Tryz.prog 38 _ _ _ from HH.out).mono ?_
  rintro e w1 ⟨rfl, o1⟩
  have O1 : Hid (Only (fun _ => False) w w1) := o1
  clear HH o1
  go_wp2
  go_ret2
  exact HP.out _ O1.out
set_option maxRecDepth 100000 in
theorem mh_eq {ks : List Int} {hb : List Vt → Bool} (hH : HoC ⟨#[61]⟩ ks hb) : MdC ⟨#[61]⟩ ks (fun _ l => .ok (boT (hb l))) := by
  intro d l G q w S hl hS hlen hsm hsd hf hT
  have HH : Hid _ := hH d l G q w S hl hS hlen hsm hsd hf hT
  obtain ⟨b, hb0⟩ : ∃ b, b = hb l := ⟨_, rfl⟩
  have HP : Hid (∀ w', Only (fun _ => False) w w' → MdP (.ok (boT b)) (d + 2) w (.returned (.tuple #[.iface 58 (.agg #[.bool b]), .int .i64 0])) w') := fun w' o => ⟨_, rfl, ⟨fun _ => False, bo_ti w' _ (d + 1) b, fun _ g => g.elim⟩, bo_sm b, o⟩
  obtain ⟨L, hL⟩ : ∃ L, L = l.length := ⟨_, rfl⟩
  dsimp only
  rw [← hb0] at HH ⊢
  rw [← hL] at HH ⊢
  clear hl hS hlen hsm hsd hf hT hL hb0 hH
  go_enter Tryz.func28, Tryz.ntmps28
  go_wp2_with fail
  refine (show Calls Tryz.prog 38 _ _ _ from HH.out).mono ?_
  rintro e w1 ⟨rfl, o1⟩
  have O1 : Hid (Only (fun _ => False) w w1) := o1
  clear HH o1
  go_wp2
  go_ret2
  exact HP.out _ O1.out
set_option maxRecDepth 100000 in
theorem mh_intQ {ks : List Int} {hb : List Vt → Bool} (hH : HoC ⟨#[105, 110, 116, 63]⟩ ks hb) : MdC ⟨#[105, 110, 116, 63]⟩ ks (fun _ l => .ok (boT (hb l))) := by
  intro d l G q w S hl hS hlen hsm hsd hf hT
  have HH : Hid _ := hH d l G q w S hl hS hlen hsm hsd hf hT
  obtain ⟨b, hb0⟩ : ∃ b, b = hb l := ⟨_, rfl⟩
  have HP : Hid (∀ w', Only (fun _ => False) w w' → MdP (.ok (boT b)) (d + 2) w (.returned (.tuple #[.iface 58 (.agg #[.bool b]), .int .i64 0])) w') := fun w' o => ⟨_, rfl, ⟨fun _ => False, bo_ti w' _ (d + 1) b, fun _ g => g.elim⟩, bo_sm b, o⟩
  obtain ⟨L, hL⟩ : ∃ L, L = l.length := ⟨_, rfl⟩
  dsimp only
  rw [← hb0] at HH ⊢
  rw [← hL] at HH ⊢
  clear hl hS hlen hsm hsd hf hT hL hb0 hH
  go_enter Tryz.func28, Tryz.ntmps28
  go_wp2_with fail
  refine (show Calls Tryz.prog 38 _ _ _ from HH.out).mono ?_
  rintro e w1 ⟨rfl, o1⟩
  have O1 : Hid (Only (fun _ => False) w w1) := o1
  clear HH o1
  go_wp2
  go_ret2
  exact HP.out _ O1.out
set_option maxRecDepth 100000 in
theorem mh_strQ {ks : List Int} {hb : List Vt → Bool} (hH : HoC ⟨#[115, 116, 114, 63]⟩ ks hb) : MdC ⟨#[115, 116, 114, 63]⟩ ks (fun _ l => .ok (boT (hb l))) := by
  intro d l G q w S hl hS hlen hsm hsd hf hT
  have HH : Hid _ := hH d l G q w S hl hS hlen hsm hsd hf hT
  obtain ⟨b, hb0⟩ : ∃ b, b = hb l := ⟨_, rfl⟩
  have HP : Hid (∀ w', Only (fun _ => False) w w' → MdP (.ok (boT b)) (d + 2) w (.returned (.tuple #[.iface 58 (.agg #[.bool b]), .int .i64 0])) w') := fun w' o => ⟨_, rfl, ⟨fun _ => False, bo_ti w' _ (d + 1) b, fun _ g => g.elim⟩, bo_sm b, o⟩
  obtain ⟨L, hL⟩ : ∃ L, L = l.length := ⟨_, rfl⟩
  dsimp only
  rw [← hb0] at HH ⊢
  rw [← hL] at HH ⊢
  clear hl hS hlen hsm hsd hf hT hL hb0 hH
  go_enter Tryz.func28, Tryz.ntmps28
  go_wp2_with fail
  refine (show Calls Tryz.prog 38 _ _ _ from HH.out).mono ?_
  rintro e w1 ⟨rfl, o1⟩
  have O1 : Hid (Only (fun _ => False) w w1) := o1
  clear HH o1
  go_wp2
  go_ret2
  exact HP.out _ O1.out
set_option maxRecDepth 100000 in
theorem mh_boolQ {ks : List Int} {hb : List Vt → Bool} (hH : HoC ⟨#[98, 111, 111, 108, 63]⟩ ks hb) : MdC ⟨#[98, 111, 111, 108, 63]⟩ ks (fun _ l => .ok (boT (hb l))) := by
  intro d l G q w S hl hS hlen hsm hsd hf hT
  have HH : Hid _ := hH d l G q w S hl hS hlen hsm hsd hf hT
  obtain ⟨b, hb0⟩ : ∃ b, b = hb l := ⟨_, rfl⟩
  have HP : Hid (∀ w', Only (fun _ => False) w w' → MdP (.ok (boT b)) (d + 2) w (.returned (.tuple #[.iface 58 (.agg #[.bool b]), .int .i64 0])) w') := fun w' o => ⟨_, rfl, ⟨fun _ => False, bo_ti w' _ (d + 1) b, fun _ g => g.elim⟩, bo_sm b, o⟩
  obtain ⟨L, hL⟩ : ∃ L, L = l.length := ⟨_, rfl⟩
  dsimp only
  rw [← hb0] at HH ⊢
  rw [← hL] at HH ⊢
  clear hl hS hlen hsm hsd hf hT hL hb0 hH
  go_enter Tryz.func28, Tryz.ntmps28
  go_wp2_with fail
  refine (show Calls Tryz.prog 38 _ _ _ from HH.out).mono ?_
  rintro e w1 ⟨rfl, o1⟩
  have O1 : Hid (Only (fun _ => False) w w1) := o1
  clear HH o1
  go_wp2
  go_ret2
  exact HP.out _ O1.out
set_option maxRecDepth 100000 in
theorem mh_listQ {ks : List Int} {hb : List Vt → Bool} (hH : HoC ⟨#[108, 105, 115, 116, 63]⟩ ks hb) : MdC ⟨#[108, 105, 115, 116, 63]⟩ ks (fun _ l => .ok (boT (hb l))) := by
  intro d l G q w S hl hS hlen hsm hsd hf hT
  have HH : Hid _ := hH d l G q w S hl hS hlen hsm hsd hf hT
  obtain ⟨b, hb0⟩ : ∃ b, b = hb l := ⟨_, rfl⟩
  have HP : Hid (∀ w', Only (fun _ => False) w w' → MdP (.ok (boT b)) (d + 2) w (.returned (.tuple #[.iface 58 (.agg #[.bool b]), .int .i64 0])) w') := fun w' o => ⟨_, rfl, ⟨fun _ => False, bo_ti w' _ (d + 1) b, fun _ g => g.elim⟩, bo_sm b, o⟩
  obtain ⟨L, hL⟩ : ∃ L, L = l.length := ⟨_, rfl⟩
  dsimp only
  rw [← hb0] at HH ⊢
  rw [← hL] at HH ⊢
  clear hl hS hlen hsm hsd hf hT hL hb0 hH
  go_enter Tryz.func28, Tryz.ntmps28
  go_wp2_with fail
  refine (show Calls Tryz.prog 38 _ _ _ from HH.out).mono ?_
  rintro e w1 ⟨rfl, o1⟩
  have O1 : Hid (Only (fun _ => False) w w1) := o1
  clear HH o1
  go_wp2
  go_ret2
  exact HP.out _ O1.out
set_option maxRecDepth 100000 in
theorem mh_quotQ {ks : List Int} {hb : List Vt → Bool} (hH : HoC ⟨#[113, 117, 111, 116, 63]⟩ ks hb) : MdC ⟨#[113, 117, 111, 116, 63]⟩ ks (fun _ l => .ok (boT (hb l))) := by
  intro d l G q w S hl hS hlen hsm hsd hf hT
  have HH : Hid _ := hH d l G q w S hl hS hlen hsm hsd hf hT
  obtain ⟨b, hb0⟩ : ∃ b, b = hb l := ⟨_, rfl⟩
  have HP : Hid (∀ w', Only (fun _ => False) w w' → MdP (.ok (boT b)) (d + 2) w (.returned (.tuple #[.iface 58 (.agg #[.bool b]), .int .i64 0])) w') := fun w' o => ⟨_, rfl, ⟨fun _ => False, bo_ti w' _ (d + 1) b, fun _ g => g.elim⟩, bo_sm b, o⟩
  obtain ⟨L, hL⟩ : ∃ L, L = l.length := ⟨_, rfl⟩
  dsimp only
  rw [← hb0] at HH ⊢
  rw [← hL] at HH ⊢
  clear hl hS hlen hsm hsd hf hT hL hb0 hH
  go_enter Tryz.func28, Tryz.ntmps28
  go_wp2_with fail
  refine (show Calls Tryz.prog 38 _ _ _ from HH.out).mono ?_
  rintro e w1 ⟨rfl, o1⟩
  have O1 : Hid (Only (fun _ => False) w w1) := o1
  clear HH o1
  go_wp2
  go_ret2
  exact HP.out _ O1.out
set_option maxRecDepth 100000 in
theorem mh_boxQ {ks : List Int} {hb : List Vt → Bool} (hH : HoC ⟨#[98, 111, 120, 63]⟩ ks hb) : MdC ⟨#[98, 111, 120, 63]⟩ ks (fun _ l => .ok (boT (hb l))) := by
  intro d l G q w S hl hS hlen hsm hsd hf hT
  have HH : Hid _ := hH d l G q w S hl hS hlen hsm hsd hf hT
  obtain ⟨b, hb0⟩ : ∃ b, b = hb l := ⟨_, rfl⟩
  have HP : Hid (∀ w', Only (fun _ => False) w w' → MdP (.ok (boT b)) (d + 2) w (.returned (.tuple #[.iface 58 (.agg #[.bool b]), .int .i64 0])) w') := fun w' o => ⟨_, rfl, ⟨fun _ => False, bo_ti w' _ (d + 1) b, fun _ g => g.elim⟩, bo_sm b, o⟩
  obtain ⟨L, hL⟩ : ∃ L, L = l.length := ⟨_, rfl⟩
  dsimp only
  rw [← hb0] at HH ⊢
  rw [← hL] at HH ⊢
  clear hl hS hlen hsm hsd hf hT hL hb0 hH
  go_enter Tryz.func28, Tryz.ntmps28
  go_wp2_with fail
  refine (show Calls Tryz.prog 38 _ _ _ from HH.out).mono ?_
  rintro e w1 ⟨rfl, o1⟩
  have O1 : Hid (Only (fun _ => False) w w1) := o1
  clear HH o1
  go_wp2
  go_ret2
  exact HP.out _ O1.out
/-- the flag of a value -/
def flB (t : Vt) : Bool := t.n != 0
set_option maxRecDepth 100000 in
theorem ho_not : HoC ⟨#[110, 111, 116]⟩ [4] (fun l => !flB (l.getD 0 zT)) := by
  intro d l G q w S hl hS hlen hsm hsd hf hT
  obtain ⟨x, rfl, hk⟩ := fit1 hlen hf
  obtain ⟨g, k, u, ha, hg, hc, ht⟩ := hl 0 x rfl
  cases ha
  have hu := ti_3 ht (fb_4 hk)
  subst hu
  show Calls Tryz.prog 38 #[_, .slice (some ⟨G, q, none⟩) 1 1] w fun e w' => e = .returned (.bool (!flB x)) ∧ _
  have hc0 : w.cell? ⟨G, q, none⟩ = some (.iface 58 (.agg #[.bool (flB x)])) := hc
  obtain ⟨b, hb⟩ : ∃ b, b = flB x := ⟨_, rfl⟩
  rw [← hb] at hc0 ⊢
  have HF : Hid _ := g_flag b w
  have O0 : Hid (Only (fun _ => False) w w) := Only.refl _ _
  clear hl hS hlen hsm hsd hf hT hk hg hc ht hb
  go_enter Tryz.func38, Tryz.ntmps38
  go_wp2_with fail
  refine (show Calls Tryz.prog 55 _ _ _ from HF.out).mono ?_
  rintro e w1 ⟨rfl, hw1⟩
  obtain rfl := hw1.symm
  go_wp2
  go_ret
  exact ⟨rfl, O0.out⟩
set_option maxRecDepth 100000 in
theorem ho_and : HoC ⟨#[97, 110, 100]⟩ [4, 4] (fun l => flB (l.getD 0 zT) && flB (l.getD 1 zT)) := by
  intro d l G q w S hl hS hlen hsm hsd hf hT
  obtain ⟨x, y, rfl, hk, hk2⟩ := fit2 hlen hf
  obtain ⟨g, k, u, ha, hg, hc, ht⟩ := hl 0 x rfl
  cases ha
  obtain ⟨g2, k2, u2, ha2, hg2, hc2, ht2⟩ := hl 1 y rfl
  cases ha2
  have hu := ti_3 ht (fb_4 hk)
  subst hu
  have hu2 := ti_3 ht2 (fb_4 hk2)
  subst hu2
  show Calls Tryz.prog 38 #[_, .slice (some ⟨G, q, none⟩) 2 2] w fun e w' => e = .returned (.bool (flB x && flB y)) ∧ _
  have hc0 : w.cell? ⟨G, q, none⟩ = some (.iface 58 (.agg #[.bool (flB x)])) := hc
  have hc1 : w.cell? ⟨G, q + 1, none⟩ = some (.iface 58 (.agg #[.bool (flB y)])) := hc2
  obtain ⟨b, hb⟩ : ∃ b, b = flB x := ⟨_, rfl⟩
  obtain ⟨c, hcc⟩ : ∃ c, c = flB y := ⟨_, rfl⟩
  rw [← hb] at hc0 ⊢
  rw [← hcc] at hc1 ⊢
  have HF : Hid _ := g_flag b w
  have HF2 : Hid _ := g_flag c w
  have O0 : Hid (Only (fun _ => False) w w) := Only.refl _ _
  clear hl hS hlen hsm hsd hf hT hk hg hc ht hb hk2 hg2 hc2 ht2 hcc
  cases b with
  | false =>
    go_enter Tryz.func38, Tryz.ntmps38
    go_wp2_with fail
    refine (show Calls Tryz.prog 55 _ _ _ from HF.out).mono ?_
    rintro e w1 ⟨rfl, hw1⟩
    obtain rfl := hw1.symm
    go_wp2
    go_ret
    exact ⟨rfl, O0.out⟩
  | true =>
    go_enter Tryz.func38, Tryz.ntmps38
    go_wp2_with fail
    refine (show Calls Tryz.prog 55 _ _ _ from HF.out).mono ?_
    rintro e w1 ⟨rfl, hw1⟩
    obtain rfl := hw1.symm
    go_wp2_with fail
    refine (show Calls Tryz.prog 55 _ _ _ from HF2.out).mono ?_
    rintro e w1 ⟨rfl, hw1⟩
    obtain rfl := hw1.symm
    go_wp2
    go_ret
    exact ⟨rfl, O0.out⟩
set_option maxRecDepth 100000 in
theorem ho_or : HoC ⟨#[111, 114]⟩ [4, 4] (fun l => flB (l.getD 0 zT) || flB (l.getD 1 zT)) := by
  intro d l G q w S hl hS hlen hsm hsd hf hT
  obtain ⟨x, y, rfl, hk, hk2⟩ := fit2 hlen hf
  obtain ⟨g, k, u, ha, hg, hc, ht⟩ := hl 0 x rfl
  cases ha
  obtain ⟨g2, k2, u2, ha2, hg2, hc2, ht2⟩ := hl 1 y rfl
  cases ha2
  have hu := ti_3 ht (fb_4 hk)
  subst hu
  have hu2 := ti_3 ht2 (fb_4 hk2)
  subst hu2
  show Calls Tryz.prog 38 #[_, .slice (some ⟨G, q, none⟩) 2 2] w fun e w' => e = .returned (.bool (flB x || flB y)) ∧ _
  have hc0 : w.cell? ⟨G, q, none⟩ = some (.iface 58 (.agg #[.bool (flB x)])) := hc
  have hc1 : w.cell? ⟨G, q + 1, none⟩ = some (.iface 58 (.agg #[.bool (flB y)])) := hc2
  obtain ⟨b, hb⟩ : ∃ b, b = flB x := ⟨_, rfl⟩
  obtain ⟨c, hcc⟩ : ∃ c, c = flB y := ⟨_, rfl⟩
  rw [← hb] at hc0 ⊢
  rw [← hcc] at hc1 ⊢
  have HF : Hid _ := g_flag b w
  have HF2 : Hid _ := g_flag c w
  have O0 : Hid (Only (fun _ => False) w w) := Only.refl _ _
  clear hl hS hlen hsm hsd hf hT hk hg hc ht hb hk2 hg2 hc2 ht2 hcc
  cases b with
  | true =>
    go_enter Tryz.func38, Tryz.ntmps38
    go_wp2_with fail
    refine (show Calls Tryz.prog 55 _ _ _ from HF.out).mono ?_
    rintro e w1 ⟨rfl, hw1⟩
    obtain rfl := hw1.symm
    go_wp2
    go_ret
    exact ⟨rfl, O0.out⟩
  | false =>
    go_enter Tryz.func38, Tryz.ntmps38
    go_wp2_with fail
    refine (show Calls Tryz.prog 55 _ _ _ from HF.out).mono ?_
    rintro e w1 ⟨rfl, hw1⟩
    obtain rfl := hw1.symm
    go_wp2_with fail
    refine (show Calls Tryz.prog 55 _ _ _ from HF2.out).mono ?_
    rintro e w1 ⟨rfl, hw1⟩
    obtain rfl := hw1.symm
    go_wp2
    go_ret
    exact ⟨rfl, O0.out⟩
end Go.Proofs.YtioffjdjnlibgaaGreatDoor
namespace Go.Proofs.YtioffjdjnlibgaaGreatDoor
open Go.RowKit Go.Lib
set_option linter.unusedSimpArgs false
set_option linter.unusedVariables false
set_option maxRecDepth 100000 in
theorem measured7 (w : World) : Calls Tryz.prog 49 #[i7] w fun e w' => e = .returned (.tuple #[.agg #[.int .i64 1, .int .i64 0], .int .i64 0]) ∧ Only (fun _ => False) w w' := by
  have HV : Hid (Calls Tryz.prog 69 #[.pointer (some ⟨w.heap.size + 1, 0, none⟩), i7, .int .i64 0] ((w.alloc (.cells #[.int .i64 0, .int .i64 0] 106)).alloc (.cells #[.int .i64 0, .int .i64 0] 106)) fun e w' => e = .returned (.bool true) ∧ Only (fun b => b = w.heap.size + 1) ((w.alloc (.cells #[.int .i64 0, .int .i64 0] 106)).alloc (.cells #[.int .i64 0, .int .i64 0] 106)) w' ∧ VmB w' (w.heap.size + 1) (0 + 1) 0) := vval_int 7 (by omega) (by omega) (w.heap.size + 1) 0 0 0 _ (va_at (w.alloc (.cells #[.int .i64 0, .int .i64 0] 106)) _ _ (Array.size_push ..).symm) (by omega) (by omega)
  have ca : ((w.alloc (.cells #[.int .i64 0, .int .i64 0] 106)).alloc (.cells #[.int .i64 0, .int .i64 0] 106)).heap[w.heap.size]? = some (.cells #[.int .i64 0, .int .i64 0] 106) := (((Only.refl (fun _ => False) (w.alloc (.cells #[.int .i64 0, .int .i64 0] 106))).alloc _).block w.heap.size (by rw [show (w.alloc (.cells #[.int .i64 0, .int .i64 0] 106)).heap.size = w.heap.size + 1 from Array.size_push ..]; omega) (fun h => h)).trans (va_at w _ _ rfl)
  have CA : Hid (((w.alloc (.cells #[.int .i64 0, .int .i64 0] 106)).alloc (.cells #[.int .i64 0, .int .i64 0] 106)).heap[w.heap.size]? = some (.cells #[.int .i64 0, .int .i64 0] 106)) := ca
  have CZ : Hid (((w.alloc (.cells #[.int .i64 0, .int .i64 0] 106)).alloc (.cells #[.int .i64 0, .int .i64 0] 106)).heap.size = w.heap.size + 2) := (Array.size_push ..).trans (congrArg (· + 1) (Array.size_push ..))
  clear ca
  go_enter Tryz.func49, Tryz.ntmps49
  go_wp2_with fail
  refine (show Calls Tryz.prog 69 _ _ _ from HV.out).mono ?_
  rintro e w1 ⟨rfl, o1, m1⟩
  have O1 : Hid (Only (fun _ => False) w w1) := (((Only.refl (fun _ => False) w).alloc _).alloc _).trans o1 (fun k hk e => by omega)
  have h0 := (o1.block w.heap.size (by rw [CZ.out]; omega) (by omega)).trans CA.out
  have c0 := wr_cell h0 0
  have c1 := wr_cell h0 1
  have f0 := wr_froz h0 0
  have f1 := wr_froz h0 1
  have d0 := wr_cell m1 0
  have d1 := wr_cell m1 1
  simp only [List.getElem?_toArray, List.getElem?_cons_succ, List.getElem?_cons_zero, Int.zero_add] at c0 c1 d0 d1
  have q := set2 c0 c1 (.int .i64 1) (.int .i64 0)
  have Q : Hid (((w1.setCell ⟨w.heap.size, 0, none⟩ (.int .i64 1)).setCell ⟨w.heap.size, 1, none⟩ (.int .i64 0)).cell? ⟨w.heap.size, 0, none⟩ = some (.int .i64 1) ∧ ((w1.setCell ⟨w.heap.size, 0, none⟩ (.int .i64 1)).setCell ⟨w.heap.size, 1, none⟩ (.int .i64 0)).cell? ⟨w.heap.size, 1, none⟩ = some (.int .i64 0)) := q
  clear h0 CA CZ HV o1 m1 q
  go_wp2
  refine bodyPost_ret (results_two rfl _ _ w.heap.size Q.out.1 Q.out.2 rfl) rfl ?_
  exact ⟨rfl, (O1.out.setCell _ _ (fun g => by simp only at g; omega)).setCell _ _ (fun g => by simp only at g; omega)⟩
set_option maxRecDepth 100000 in
theorem check7 (w : World) : Calls Tryz.prog 34 #[i7] w fun e w' => e = .returned (.int .i64 0) ∧ Only (fun _ => False) w w' := by
  have HV : Hid (Calls Tryz.prog 49 #[i7] w fun e w' => e = .returned (.tuple #[.agg #[.int .i64 1, .int .i64 0], .int .i64 0]) ∧ Only (fun _ => False) w w') := measured7 w
  go_enter Tryz.func34, Tryz.ntmps34
  go_wp2_with fail
  refine (show Calls Tryz.prog 49 _ _ _ from HV.out).mono ?_
  rintro e w1 ⟨rfl, o1⟩
  have O1 : Hid (Only (fun _ => False) w w1) := o1
  clear HV o1
  go_wp2
  go_ret
  exact ⟨rfl, O1.out.alloc _⟩
set_option maxRecDepth 100000 in
theorem word7 (w : World) : Calls Tryz.prog 84 #[p7] w fun e w' => e = .returned (.string ⟨#[55]⟩) ∧ Only (fun _ => False) w w' := by
  have HV : Hid (∀ w1 g, w1.cell? ⟨g, 0, none⟩ = some p7 → Calls Tryz.prog 103 #[.slice (some ⟨g, 0, none⟩) 1 1] w1 fun e w' => e = .returned (.tuple #[.string ⟨#[55]⟩, .int .i64 0]) ∧ Only (fun _ => False) w1 w') := fun w1 g => text7 g w1
  go_enter Tryz.func84, Tryz.ntmps84
  go_wp2_with fail
  have hc : (w.alloc (.cells #[p7] 82)).cell? ⟨w.heap.size, 0, none⟩ = some p7 := (wr_cell (va_at w (.cells #[p7] 82) _ rfl) 0).trans rfl
  refine (show Calls Tryz.prog 103 _ _ _ from HV.out _ _ hc).mono ?_
  rintro e w1 ⟨rfl, o1⟩
  have O1 : Hid (Only (fun _ => False) w w1) := ((Only.refl (fun _ => False) w).alloc _).trans o1 (fun _ _ g => g)
  clear HV o1 hc
  go_wp2
  go_ret
  exact ⟨rfl, O1.out⟩
set_option maxRecDepth 100000 in
theorem join1 (w : World) (g : Nat) (c : Int) (hc : 1 ≤ c) (s : ByteArray) (hg : w.cell? ⟨g, 0, none⟩ = some (.string s)) : Calls Tryz.prog 64 #[.slice (some ⟨g, 0, none⟩) 1 c.toNat, .string ⟨#[32]⟩] w fun e w' => e = .returned (.string s) ∧ w' = w := by
  go_enter Tryz.func64, Tryz.ntmps64
  go_wp2
  go_ret
  exact ⟨rfl, rfl⟩
end Go.Proofs.YtioffjdjnlibgaaGreatDoor
namespace Go.Proofs.YtioffjdjnlibgaaGreatDoor
open Go.RowKit Go.Lib
set_option linter.unusedSimpArgs false
set_option linter.unusedVariables false
/-- an item that pushes v -/
def pV (T : TypeId) (y : Value) : Value := .iface 95 (.agg #[.iface T y])
set_option maxRecDepth 100000 in
theorem pitemV {T : TypeId} {y : Value} (hv : PsV (.iface T y)) (M : Nat) (w : World) (hT : Tb w) (hg : Mg M) (h : MlB w M 1024) : Calls Tryz.prog 117 #[.pointer (some ⟨M, 0, none⟩), pV T y, .int .i64 32] w fun e w' => e = .returned (.bool true) ∧ Only (fun b => b = M) w w' := by
  have HV : Hid (∀ w1, Only (fun _ => False) w w1 → Calls Tryz.prog 121 #[.pointer (some ⟨M, 0, none⟩), .iface T y, .int .i64 32] w1 fun e w' => e = .returned (.bool true) ∧ Only (fun b => b = M) w1 w') := fun w1 o => hv M w1 (hT.frame o) (mlB_keep h o) hg
  have hP := va_hit 95 82 _ Tryz.underlying95 (by intro m h; cases h)
  have O0 : Hid (Only (fun _ => False) w w) := Only.refl _ _
  clear h hv hT hg
  unfold pV
  go_enter Tryz.func117, Tryz.ntmps117
  go_wp2_with fail
  refine (show Calls Tryz.prog 121 _ _ _ from HV.out _ (O0.out.alloc _)).mono ?_
  rintro e w1 ⟨rfl, o1⟩
  have O1 : Hid (Only (fun b => b = M) w w1) := ((Only.refl (fun b => b = M) w).alloc _).trans o1 (fun _ _ g => g)
  clear HV o1
  go_wp2
  go_ret
  exact ⟨rfl, O1.out⟩
set_option maxRecDepth 100000 in
theorem psoundV {T : TypeId} {y : Value} (hv : PsV (.iface T y)) (w : World) (hT : Tb w) : Calls Tryz.prog 114 #[pV T y] w fun e w' => e = .returned (.bool true) ∧ Only (fun _ => False) w w' := by
  have HI : Hid (Calls Tryz.prog 117 #[.pointer (some ⟨w.heap.size, 0, none⟩), pV T y, .int .i64 32] (w.alloc (.cells #[.int .i64 1024] 214)) fun e w' => e = .returned (.bool true) ∧ Only (fun b => b = w.heap.size) (w.alloc (.cells #[.int .i64 1024] 214)) w') := pitemV hv _ _ (hT.frame ((Only.refl _ w).alloc _)) (by have := hT.lt; exact ⟨by omega, by omega, by omega⟩) (va_at _ _ _ rfl)
  clear hv hT
  unfold pV at HI ⊢
  go_enter Tryz.func114, Tryz.ntmps114
  go_wp2_with fail
  refine (show Calls Tryz.prog 117 _ _ _ from HI.out).mono ?_
  rintro e w1 ⟨rfl, o1⟩
  have O1 : Hid (Only (fun _ => False) w w1) := ((Only.refl (fun _ => False) w).alloc _).trans o1 (fun k hk e => by omega)
  clear HI o1
  go_wp2
  go_ret
  exact ⟨rfl, O1.out⟩
set_option maxRecDepth 100000 in
theorem psoundsV {T : TypeId} {y : Value} (hv : PsV (.iface T y)) (w : World) (hT : Tb w) (g : Nat) (hg : w.cell? ⟨g, 0, none⟩ = some (pV T y)) : Calls Tryz.prog 109 #[.slice (some ⟨g, 0, none⟩) 1 1] w fun e w' => e = .returned (.bool true) ∧ Only (fun _ => False) w w' := by
  have HI : Hid (∀ w1, Only (fun _ => False) w w1 → Calls Tryz.prog 114 #[pV T y] w1 fun e w' => e = .returned (.bool true) ∧ Only (fun _ => False) w1 w') := fun w1 o => psoundV hv w1 (hT.frame o)
  clear hv hT
  unfold pV at HI hg
  go_enter Tryz.func109, Tryz.ntmps109
  go_wp2
  go_loopw [7] (fun r wr => ∃ i : Int, r = .int .i64 i ∧ (i = 0 ∨ i = 1) ∧ Hid (Only (fun _ => False) w wr)) (fun r _ => 1 - uOf r)
  case atStart => exact ⟨0, rfl, .inl rfl, Only.refl _ _⟩
  case round =>
    obtain ⟨i, rfl, hi, HO⟩ := hrel
    obtain ⟨w1, rfl⟩ : ∃ w1, w1 = wr := ⟨_, rfl⟩
    rcases hi with rfl | rfl
    · have hg1 := HO.out.cell hg (fun h => h)
      go_wp2_with fail
      refine (show Calls Tryz.prog 114 _ _ _ from HI.out _ HO.out).mono ?_
      rintro e w2 ⟨rfl, o2⟩
      have O2 : Hid (Only (fun _ => False) w w2) := HO.out.trans o2 (fun _ _ g => g)
      clear HI o2 hg1 HO
      go_wp2
      go_roundw
      case rel => exact ⟨1, rfl, .inr rfl, O2⟩
      case measure => simp [uOf]
    · go_wp2
      go_ret
      exact ⟨rfl, HO.out⟩
set_option maxRecDepth 100000 in
theorem witemV {T : TypeId} {y : Value} {t : ByteArray} (hv : WvV (.iface T y) t) (B b : Nat) (w : World) (hT : Tx w) (h : WrU B b [] false w) (hBw : B ≤ w.heap.size) : Calls Tryz.prog 115 #[.pointer (some ⟨b, 0, none⟩), pV T y] w fun e w' => e = .returned (.tuple #[]) ∧ Hid (WrU B b (strCells t) true w' ∧ Only (fun k => B ≤ k) w w') := by
  have HV : Hid (Calls Tryz.prog 118 #[.pointer (some ⟨b, 0, none⟩), .iface T y] (w.alloc (.cells #[.iface T y] 95)) fun e w' => e = .returned (.tuple #[]) ∧ Hid (WrU B b (strCells t) true w' ∧ Only (fun k => B ≤ k) (w.alloc (.cells #[.iface T y] 95)) w')) := hv B b _ (hT.frame ((Only.refl _ w).alloc _)) (h.alloc _) (by simp; omega)
  have hP := va_hit 95 82 _ Tryz.underlying95 (by intro m h; cases h)
  have O0 : Hid (Only (fun k => B ≤ k) w (w.alloc (.cells #[.iface T y] 95))) := (Only.refl (fun k => B ≤ k) w).alloc _
  clear h hBw hv hT
  unfold pV
  go_enter Tryz.func115, Tryz.ntmps115
  go_wp2_with fail
  refine (show Calls Tryz.prog 118 _ _ _ from HV.out).mono ?_
  rintro e w1 ⟨rfl, g1⟩
  clear HV
  go_wp2
  go_end0
  exact ⟨rfl, g1.out.1, O0.out.trans g1.out.2 (fun _ _ g => g)⟩
set_option maxRecDepth 100000 in
theorem witemsV {T : TypeId} {y : Value} {t : ByteArray} (hv : WvV (.iface T y) t) (B b g : Nat) (w : World) (hT : Tx w) (h : WrU B b [] false w) (hBw : B ≤ w.heap.size) (hg : w.cell? ⟨g, 0, none⟩ = some (pV T y)) : Calls Tryz.prog 110 #[.pointer (some ⟨b, 0, none⟩), .slice (some ⟨g, 0, none⟩) 1 1] w fun e w' => e = .returned (.tuple #[]) ∧ Hid (WrU B b (strCells t) true w' ∧ Only (fun k => B ≤ k) w w') := by
  have HI : Hid (Calls Tryz.prog 115 #[.pointer (some ⟨b, 0, none⟩), pV T y] w fun e w' => e = .returned (.tuple #[]) ∧ Hid (WrU B b (strCells t) true w' ∧ Only (fun k => B ≤ k) w w')) := witemV hv B b w hT h hBw
  clear h hBw hv hT
  unfold pV at HI hg
  go_enter Tryz.func110, Tryz.ntmps110
  go_wp2
  go_loopw [8] (fun r wr => (r = .int .i64 0 ∧ wr = w) ∨ (r = .int .i64 1 ∧ Hid (WrU B b (strCells t) true wr ∧ Only (fun k => B ≤ k) w wr))) (fun r _ => 1 - uOf r)
  case atStart => exact .inl ⟨rfl, rfl⟩
  case round =>
    rcases hrel with ⟨rfl, rfl⟩ | ⟨rfl, HO⟩
    · go_wp2_with fail
      refine (show Calls Tryz.prog 115 _ _ _ from HI.out).mono ?_
      rintro e w2 ⟨rfl, g2⟩
      clear HI hg
      go_wp2
      go_roundw
      case rel => exact .inr ⟨rfl, g2⟩
      case measure => simp [uOf]
    · obtain ⟨w1, rfl⟩ : ∃ w1, w1 = wr := ⟨_, rfl⟩
      go_wp2
      go_end0
      exact ⟨rfl, HO⟩
set_option maxRecDepth 100000 in
theorem textV {T : TypeId} {y : Value} {t : ByteArray} (hp : PsV (.iface T y)) (hv : WvV (.iface T y) t) (h0 : 0 < t.size) (h1 : t.size ≤ 65536) (g : Nat) (w : World) (hT : Tx w) (hg : w.cell? ⟨g, 0, none⟩ = some (pV T y)) : Calls Tryz.prog 103 #[.slice (some ⟨g, 0, none⟩) 1 1] w fun e w' => e = .returned (.tuple #[.string t, .int .i64 0]) ∧ Only (fun _ => False) w w' := by
  have HS : Hid (Calls Tryz.prog 109 #[.slice (some ⟨g, 0, none⟩) 1 1] w fun e w' => e = .returned (.bool true) ∧ Only (fun _ => False) w w') := psoundsV hp w hT.1 g hg
  have HG : Hid (w.cell? ⟨g, 0, none⟩ = some (pV T y)) := hg
  have HTx : Hid (Tx w) := hT
  have HZ : Hid (0 < t.size ∧ t.size ≤ 65536) := ⟨h0, h1⟩
  clear hg hp hT h0 h1
  go_enter Tryz.func103, Tryz.ntmps103
  go_wp2_with fail
  refine (show Calls Tryz.prog 109 _ _ _ from HS.out).mono ?_
  rintro e w1 ⟨rfl, o1⟩
  have O1 : Hid (Only (fun _ => False) w w1) := o1
  obtain ⟨b, hb⟩ : ∃ b, b = w1.heap.size := ⟨_, rfl⟩
  obtain ⟨W2, hW2⟩ : ∃ W2, W2 = w1.alloc (.cells #[.pointer none, .slice none 0 0, .bool false] 202) := ⟨_, rfl⟩
  have A2 : WrU b b [] false W2 := ⟨Nat.le_refl _, .pointer none, .slice none 0 0, by rw [hW2]; exact va_at _ _ _ hb, .inl rfl, ⟨rfl, .inl ⟨rfl, rfl⟩⟩, by simp [Value.ownBlock]⟩
  have o2 : Only (fun _ => False) w1 W2 := by rw [hW2]; exact (Only.refl _ w1).alloc _
  have HI : Hid (Calls Tryz.prog 110 #[.pointer (some ⟨b, 0, none⟩), .slice (some ⟨g, 0, none⟩) 1 1] W2 fun e w' => e = .returned (.tuple #[]) ∧ Hid (WrU b b (strCells t) true w' ∧ Only (fun k => b ≤ k) W2 w')) := witemsV hv b b g W2 (HTx.out.frame (O1.out.trans o2 (fun _ _ g => g))) A2 (by rw [hW2]; simp; omega) ((O1.out.trans o2 (fun _ _ g => g)).cell HG.out (fun h => h))
  have H2 : Hid (Only (fun _ => False) w W2 ∧ w.heap.size ≤ b) := ⟨O1.out.trans o2 (fun _ _ g => g), by rw [hb]; exact O1.out.size⟩
  clear HS o1 A2 o2 O1 HG
  go_wp2_with fail
  rw [← hb, ← hW2]
  refine (show Calls Tryz.prog 110 _ _ _ from HI.out).mono ?_
  rintro e w3 ⟨rfl, g3⟩
  have HW : Hid (Calls Tryz.prog 111 #[.pointer (some ⟨b, 0, none⟩)] w3 fun e w' => e = .returned (.tuple #[.string t, .int .i64 0]) ∧ Below b w3 w') := by
    have hne : t.data.toList ≠ [] := fun e => by
      have h4 : t.data.toList.length = 0 := by rw [e]; rfl
      rw [Array.length_toList] at h4
      have h2 : t.data.size = t.size := rfl
      have h3 := HZ.out.1
      omega
    have := wwhole_any b b t.data.toList true w3 (by rw [byteCells_str]; exact g3.out.1) hne (by rw [Array.length_toList]; exact HZ.out.2)
    rwa [show (⟨t.data.toList.toArray⟩ : ByteArray) = t from rfl] at this
  have O3 : Hid (Only (fun _ => False) w w3) := H2.out.1.trans g3.out.2 (fun k hk e => by have := H2.out.2; omega)
  clear HI g3 hW2 hb
  go_wp2_with fail
  refine (show Calls Tryz.prog 111 _ _ _ from HW.out).mono ?_
  rintro e w4 ⟨rfl, b4⟩
  have O4 : Hid (Only (fun _ => False) w w4) := O3.out.trans (⟨b4.os, b4.tape, b4.output, b4.size, fun k hk hn => b4.block k (by omega)⟩ : Only (fun k => b ≤ k) w3 w4) (fun k hk e => by have := H2.out.2; omega)
  clear HW b4 O3
  go_wp2
  go_ret2
  exact ⟨rfl, O4.out⟩
set_option maxRecDepth 100000 in
theorem wordV {T : TypeId} {y : Value} {t : ByteArray} (hp : PsV (.iface T y)) (hv : WvV (.iface T y) t) (h0 : 0 < t.size) (h1 : t.size ≤ 65536) (w : World) (hT : Tx w) : Calls Tryz.prog 84 #[pV T y] w fun e w' => e = .returned (.string t) ∧ Only (fun _ => False) w w' := by
  have HV : Hid (∀ w1 g, Only (fun _ => False) w w1 → w1.cell? ⟨g, 0, none⟩ = some (pV T y) → Calls Tryz.prog 103 #[.slice (some ⟨g, 0, none⟩) 1 1] w1 fun e w' => e = .returned (.tuple #[.string t, .int .i64 0]) ∧ Only (fun _ => False) w1 w') := fun w1 g o => textV hp hv h0 h1 g w1 (hT.frame o)
  clear hp hv h0 h1 hT
  unfold pV at HV ⊢
  go_enter Tryz.func84, Tryz.ntmps84
  go_wp2_with fail
  have hc : (w.alloc (.cells #[pV T y] 82)).cell? ⟨w.heap.size, 0, none⟩ = some (pV T y) := (wr_cell (va_at w (.cells #[pV T y] 82) _ rfl) 0).trans rfl
  refine (show Calls Tryz.prog 103 _ _ _ from HV.out _ _ ((Only.refl _ w).alloc _) hc).mono ?_
  rintro e w1 ⟨rfl, o1⟩
  have O1 : Hid (Only (fun _ => False) w w1) := ((Only.refl (fun _ => False) w).alloc _).trans o1 (fun _ _ g => g)
  clear HV o1 hc
  go_wp2
  go_ret
  exact ⟨rfl, O1.out⟩
set_option maxRecDepth 100000 in
theorem wordC (s : ByteArray) (hs : clB s = true) (w : World) (hN : Nog w) : Calls Tryz.prog 84 #[cV s] w fun e w' => e = .returned (.string s) ∧ Only (fun _ => False) w w' := by
  have HV : Hid (∀ w1 g, Only (fun _ => False) w w1 → w1.cell? ⟨g, 0, none⟩ = some (cV s) → Calls Tryz.prog 103 #[.slice (some ⟨g, 0, none⟩) 1 1] w1 fun e w' => e = .returned (.tuple #[.string s, .int .i64 0]) ∧ Only (fun _ => False) w1 w') := fun w1 g o hg => by
    have := textC s g w1 hg ⟨o.cell hN.1 (fun h => h), o.cell hN.2.1 (fun h => h), o.cell hN.2.2 (fun h => h)⟩
    rw [hs] at this
    exact this
  clear hs hN
  unfold cV at HV ⊢
  go_enter Tryz.func84, Tryz.ntmps84
  go_wp2_with fail
  have hc : (w.alloc (.cells #[cV s] 82)).cell? ⟨w.heap.size, 0, none⟩ = some (cV s) := (wr_cell (va_at w (.cells #[cV s] 82) _ rfl) 0).trans rfl
  refine (show Calls Tryz.prog 103 _ _ _ from HV.out _ _ ((Only.refl _ w).alloc _) hc).mono ?_
  rintro e w1 ⟨rfl, o1⟩
  have O1 : Hid (Only (fun _ => False) w w1) := ((Only.refl (fun _ => False) w).alloc _).trans o1 (fun _ _ g => g)
  clear HV o1 hc
  go_wp2
  go_ret
  exact ⟨rfl, O1.out⟩
end Go.Proofs.YtioffjdjnlibgaaGreatDoor
