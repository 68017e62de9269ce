/- What an inference comes to, as a function. The list of an inference in memory: push, pop. The list of an inference: pop. mustFit, quotation, count, entryOf, apply. -/
import Derived.Test.YtodbkihobgdpdaaGreatDoorGai
import Derived.Test.YtodbkihobgdpdaaGreatDoorGaa
import Derived.Test.YtodbkihobgdpdaaGreatDoorEf5
import Derived.Test.YtodbkihobgdpdaaGreatDoorGae
import Derived.Deep.RegionLaw
namespace Go.Proofs.YtodbkihobgdpdaaGreatDoor
open Go.RowKit
set_option linter.unusedSimpArgs false
set_option linter.unusedVariables false
/-- what is known of a value on the list: a quotation of such items, or nothing -/
abbrev Ent := Option (List Vt)
/-- an inference under way: how many items may still be gone through, the list, how many values were taken from below it -/
structure Ist where
  a : Nat
  st : List Ent
  tk : Nat
def popE (s : Ist) : Ent × Ist := match s.st.getLast? with
  | none => (none, ⟨s.a, s.st, s.tk + 1⟩)
  | some x => (x, ⟨s.a, s.st.dropLast, s.tk⟩)
def pushE (x : Ent) (s : Ist) : Ist := ⟨s.a, s.st ++ [x], s.tk⟩
def popsE : Nat → Ist → List Ent × Ist
  | 0, s => ([], s)
  | n + 1, s => ((popE s).1 :: (popsE n (popE s).2).1, (popsE n (popE s).2).2)
/-- so many values are taken, and so many left -/
def appE (i o : Nat) (s : Ist) : Ist := ⟨(popsE i s).2.a, (popsE i s).2.st ++ List.replicate o none, (popsE i s).2.tk⟩
def movE (n : Nat) (ps : List Nat) (s : Ist) : Ist := ⟨(popsE n s).2.a, (popsE n s).2.st ++ ps.map (fun p => ((popsE n s).1.reverse).getD p none), (popsE n s).2.tk⟩
def bdE {α β : Type} (x : Except Int α) (f : α → Except Int β) : Except Int β := match x with
  | .error e => .error e
  | .ok a => f a
def cntE (s : Ist) : Except Int Ist := if s.a = 0 then .error 11 else .ok ⟨s.a - 1, s.st, s.tk⟩
def quoE (s : Ist) : Except Int (List Vt × Ist) := match popE s with
  | (none, _) => .error 12
  | (some l, t) => .ok (l, t)
def mvF (l : List UInt8) : List (List UInt8 × List Nat) → Option (List Nat)
  | [] => none
  | x :: r => if l = x.1 then some x.2 else mvF l r
/-- the words that move values, and what they leave -/
def mvT : List (List UInt8 × List Nat) := [([100, 117, 112], [0, 0]), ([100, 114, 111, 112], []), ([115, 119, 97, 112], [1, 0]), ([111, 118, 101, 114], [0, 1, 0]), ([114, 111, 116], [1, 2, 0]), ([110, 105, 112], [1]), ([116, 117, 99, 107], [1, 0, 1])]
def mvP (s : ByteArray) : Option (List Nat) := mvF s.toList mvT
def kwF (l : List UInt8) : List (List UInt8 × Nat) → Nat
  | [] => 0
  | x :: r => if l = x.1 then x.2 else kwF l r
/-- the words that call quotations: call 1, dip 2, keep 3, if 4, when and times 5, loop 6, each 7 -/
def kwT : List (List UInt8 × Nat) := [([99, 97, 108, 108], 1), ([100, 105, 112], 2), ([107, 101, 101, 112], 3), ([105, 102], 4), ([119, 104, 101, 110], 5), ([116, 105, 109, 101, 115], 5), ([108, 111, 111, 112], 6), ([101, 97, 99, 104], 7)]
def kwd (s : ByteArray) : Nat := kwF s.toList kwT
/-- the effect of a word that has one whatever it is handed -/
def plnE (W : ByteArray → Option (Nat × Nat)) (s : ByteArray) : Option (Nat × Nat) := if (pmR s).2.2 then some ((pmR s).1.toNat, (pmR s).2.1.toNat) else W s
/-- what a word does that calls quotations -/
def ctlE (R : List Vt → Ist → Except Int Ist) (k : Nat) (s : Ist) : Except Int Ist :=
  if k = 1 then bdE (quoE s) fun q => R q.1 q.2
  else if k = 2 then bdE (quoE s) fun q => bdE (R q.1 (popE q.2).2) fun t => .ok (pushE (popE q.2).1 t)
  else if k = 3 then bdE (quoE s) fun q => bdE (R q.1 (pushE (popE q.2).1 (popE q.2).2)) fun t => .ok (pushE (popE q.2).1 t)
  else if k = 4 then bdE (quoE s) fun no => bdE (quoE no.2) fun yes => bdE (R yes.1 ⟨(popE yes.2).2.a, [], 0⟩) fun x => bdE (R no.1 ⟨x.a, [], 0⟩) fun y =>
    if (x.st.length : Int) - x.tk = y.st.length - y.tk then .ok (appE (if x.tk < y.tk then y.tk else x.tk) (if x.tk < y.tk then y.st.length else x.st.length) ⟨y.a, (popE yes.2).2.st, (popE yes.2).2.tk⟩) else .error 12
  else if k = 5 then bdE (quoE s) fun q => bdE (R q.1 ⟨(popE q.2).2.a, [], 0⟩) fun x => if x.st.length = x.tk then .ok (appE x.tk x.st.length ⟨x.a, (popE q.2).2.st, (popE q.2).2.tk⟩) else .error 12
  else if k = 6 then bdE (quoE s) fun q => bdE (R q.1 ⟨q.2.a, [], 0⟩) fun x => if x.st.length = x.tk + 1 then .ok (appE x.tk x.tk ⟨x.a, q.2.st, q.2.tk⟩) else .error 12
  else bdE (quoE s) fun q => bdE (R q.1 ⟨(popE q.2).2.a, [], 0⟩) fun x => if x.st.length + 1 = x.tk then .ok (appE x.st.length x.st.length ⟨x.a, (popE q.2).2.st, (popE q.2).2.tk⟩) else .error 12
def thrL (I : Vt → Ist → Except Int Ist) : List Vt → Ist → Except Int Ist
  | [], s => .ok s
  | x :: l, s => bdE (I x s) (thrL I l)
/-- one item -/
def itmE (W : ByteArray → Option (Nat × Nat)) : Nat → Vt → Ist → Except Int Ist
  | 0, _, _ => .error 11
  | n + 1, x, s =>
    if x.k = 7 then
      if kwd x.s = 0 then (match plnE W x.s with
        | none => .error 10
        | some e => bdE (cntE s) fun t => .ok (match mvP x.s with
          | some ps => movE e.1 ps t
          | none => appE e.1 e.2 t))
      else bdE (cntE s) fun t => ctlE (thrL (itmE W n)) (kwd x.s) t
    else if x.k = 8 then .ok s
    else bdE (cntE s) fun t => .ok (pushE (if x.k = 5 then some x.l else none) t)
/-- items, one by one -/
def thrE (W : ByteArray → Option (Nat × Nat)) (n : Nat) : List Vt → Ist → Except Int Ist := thrL (itmE W n)
/-- what an inference may still come to -/
def potE (s : Ist) : Nat := s.st.length + s.tk + 32 * s.a
theorem popE_a (s : Ist) : (popE s).2.a = s.a := by unfold popE; split <;> rfl
theorem popE_pot (s : Ist) : potE (popE s).2 ≤ potE s + 1 := by
  unfold popE potE
  split
  · simp; omega
  · simp; omega
theorem popE_len (s : Ist) : (popE s).2.st.length ≤ s.st.length := by
  unfold popE
  split <;> simp
theorem quoE_ok {s : Ist} {q : List Vt × Ist} (h : quoE s = .ok q) : popE s = (some q.1, q.2) := by
  unfold quoE at h
  split at h
  · exact nomatch h
  · rename_i l t e
    injection h with h
    subst h
    exact e
theorem quoE_pot {s : Ist} {q : List Vt × Ist} (h : quoE s = .ok q) : q.2.a = s.a ∧ potE q.2 + 1 ≤ potE s := by
  have e := quoE_ok h
  have ha := popE_a s
  rw [e] at ha
  refine ⟨ha, ?_⟩
  unfold popE at e
  split at e
  · simp at e
  · rename_i x hx
    have : s.st ≠ [] := by intro h0; rw [h0] at hx; simp at hx
    have hl : s.st.length ≠ 0 := by simpa using this
    injection e with e1 e2
    rw [← e2]
    unfold potE
    simp
    omega
theorem popsE_a : ∀ (n : Nat) (s : Ist), (popsE n s).2.a = s.a
  | 0, s => rfl
  | n + 1, s => by
    show (popsE n (popE s).2).2.a = _
    rw [popsE_a n, popE_a]
theorem popsE_len : ∀ (n : Nat) (s : Ist), (popsE n s).1.length = n
  | 0, s => rfl
  | n + 1, s => by
    show ((popE s).1 :: (popsE n (popE s).2).1).length = _
    simp [popsE_len n]
theorem popsE_pot : ∀ (n : Nat) (s : Ist), potE (popsE n s).2 ≤ potE s + n
  | 0, s => by simp [popsE]
  | n + 1, s => by
    show potE (popsE n (popE s).2).2 ≤ _
    have := popsE_pot n (popE s).2
    have := popE_pot s
    omega
/-- one more is taken -/
theorem popsE_snoc : ∀ (n : Nat) (s : Ist), popsE (n + 1) s = ((popsE n s).1 ++ [(popE (popsE n s).2).1], (popE (popsE n s).2).2)
  | 0, s => by simp [popsE]
  | n + 1, s => by
    have ih := popsE_snoc n (popE s).2
    show ((popE s).1 :: (popsE (n + 1) (popE s).2).1, (popsE (n + 1) (popE s).2).2) = _
    rw [ih]
    rfl
theorem appE_pot (i o : Nat) (s : Ist) : (appE i o s).a = s.a ∧ potE (appE i o s) ≤ potE s + i + o := by
  have h1 := popsE_a i s
  have h2 := popsE_pot i s
  refine ⟨h1, ?_⟩
  unfold appE potE at *
  simp
  omega
theorem movE_pot (n : Nat) (ps : List Nat) (s : Ist) : (movE n ps s).a = s.a ∧ potE (movE n ps s) ≤ potE s + n + ps.length := by
  have h1 := popsE_a n s
  have h2 := popsE_pot n s
  refine ⟨h1, ?_⟩
  unfold movE potE at *
  simp
  omega
theorem bdE_ok {α β : Type} {x : Except Int α} {f : α → Except Int β} {b : β} (h : bdE x f = .ok b) : ∃ a, x = .ok a ∧ f a = .ok b := by
  unfold bdE at h
  cases x with
  | error e => exact nomatch h
  | ok a => exact ⟨a, rfl, h⟩
theorem cntE_ok {s t : Ist} (h : cntE s = .ok t) : t.a + 1 = s.a ∧ potE t + 32 = potE s ∧ t.st = s.st ∧ t.tk = s.tk := by
  unfold cntE at h
  split at h
  · exact nomatch h
  · injection h with h
    subst h
    unfold potE
    simp
    omega
theorem mv_cases {s : ByteArray} {ps : List Nat} (h : mvP s = some ps) : ps.length ≤ 3 := by
  unfold mvP at h
  simp only [mvF, mvT] at h
  repeat' (split at h)
  all_goals (first | (injection h with h; subst h; simp) | (exact nomatch h))
theorem ctlE_pot {R : List Vt → Ist → Except Int Ist} (hR : ∀ l s t, R l s = .ok t → t.a ≤ s.a ∧ potE t ≤ potE s) {k : Nat} {s t : Ist} (h : ctlE R k s = .ok t) : t.a ≤ s.a ∧ potE t ≤ potE s + 32 := by
  have pp := popE_pot
  have pa := popE_a
  have hpu : ∀ (x : Ent) (u : Ist), (pushE x u).a = u.a ∧ potE (pushE x u) = potE u + 1 := fun x u => ⟨rfl, by unfold potE pushE; simp; omega⟩
  have h0 : ∀ a, potE ⟨a, [], 0⟩ = 32 * a := fun a => by simp [potE]
  have hp : ∀ u : Ist, potE u = u.st.length + u.tk + 32 * u.a := fun u => rfl
  unfold ctlE at h
  split at h
  · obtain ⟨q, hq, h⟩ := bdE_ok h
    have := quoE_pot hq
    have := hR _ _ _ h
    omega
  split at h
  · obtain ⟨q, hq, h⟩ := bdE_ok h
    obtain ⟨u, hu, h⟩ := bdE_ok h
    have := quoE_pot hq
    have := hR _ _ _ hu
    have := pp q.2
    have := pa q.2
    have := hpu (popE q.2).1 u
    injection h with h
    rw [← h]
    omega
  split at h
  · obtain ⟨q, hq, h⟩ := bdE_ok h
    obtain ⟨u, hu, h⟩ := bdE_ok h
    have := quoE_pot hq
    have := hR _ _ _ hu
    have := pp q.2
    have := pa q.2
    have := hpu (popE q.2).1 u
    have := hpu (popE q.2).1 (popE q.2).2
    injection h with h
    rw [← h]
    omega
  split at h
  · obtain ⟨q, hq, h⟩ := bdE_ok h
    obtain ⟨r, hr, h⟩ := bdE_ok h
    obtain ⟨x, hx, h⟩ := bdE_ok h
    obtain ⟨y, hy, h⟩ := bdE_ok h
    have := quoE_pot hq
    have := quoE_pot hr
    have h3 := hR _ _ _ hx
    have h4 := hR _ _ _ hy
    have := pp r.2
    have := pa r.2
    rw [h0] at h3 h4
    split at h
    · injection h with h
      have e1 := hp x
      have e2 := hp y
      have := appE_pot (if x.tk < y.tk then y.tk else x.tk) (if x.tk < y.tk then y.st.length else x.st.length) ⟨y.a, (popE r.2).2.st, (popE r.2).2.tk⟩
      have e3 := hp (popE r.2).2
      have e4 := hp ⟨y.a, (popE r.2).2.st, (popE r.2).2.tk⟩
      simp only at e4 h3 h4
      have hs : (if x.tk < y.tk then y.tk else x.tk) + (if x.tk < y.tk then y.st.length else x.st.length) ≤ x.st.length + x.tk + (y.st.length + y.tk) := by split <;> omega
      rw [← h]
      generalize (if x.tk < y.tk then y.tk else x.tk) = i0 at *
      generalize (if x.tk < y.tk then y.st.length else x.st.length) = o0 at *
      simp only at this
      omega
    · exact nomatch h
  split at h
  · obtain ⟨q, hq, h⟩ := bdE_ok h
    obtain ⟨x, hx, h⟩ := bdE_ok h
    have := quoE_pot hq
    have h3 := hR _ _ _ hx
    have := pp q.2
    have := pa q.2
    rw [h0] at h3
    split at h
    · injection h with h
      have e1 := hp x
      have := appE_pot x.tk x.st.length ⟨x.a, (popE q.2).2.st, (popE q.2).2.tk⟩
      have e3 := hp (popE q.2).2
      have e4 := hp ⟨x.a, (popE q.2).2.st, (popE q.2).2.tk⟩
      simp only at e4 this h3
      rw [← h]
      omega
    · exact nomatch h
  split at h
  · obtain ⟨q, hq, h⟩ := bdE_ok h
    obtain ⟨x, hx, h⟩ := bdE_ok h
    have := quoE_pot hq
    have h3 := hR _ _ _ hx
    rw [h0] at h3
    split at h
    · injection h with h
      have e1 := hp x
      have := appE_pot x.tk x.tk ⟨x.a, q.2.st, q.2.tk⟩
      have e3 := hp q.2
      have e4 := hp ⟨x.a, q.2.st, q.2.tk⟩
      simp only at e4 this h3
      rw [← h]
      omega
    · exact nomatch h
  · obtain ⟨q, hq, h⟩ := bdE_ok h
    obtain ⟨x, hx, h⟩ := bdE_ok h
    have := quoE_pot hq
    have h3 := hR _ _ _ hx
    have := pp q.2
    have := pa q.2
    rw [h0] at h3
    split at h
    · injection h with h
      have e1 := hp x
      have := appE_pot x.st.length x.st.length ⟨x.a, (popE q.2).2.st, (popE q.2).2.tk⟩
      have e3 := hp (popE q.2).2
      have e4 := hp ⟨x.a, (popE q.2).2.st, (popE q.2).2.tk⟩
      simp only at e4 this h3
      rw [← h]
      omega
    · exact nomatch h
theorem thrL_pot {I : Vt → Ist → Except Int Ist} (hI : ∀ x s t, I x s = .ok t → t.a ≤ s.a ∧ potE t ≤ potE s) : ∀ (l : List Vt) (s t : Ist), thrL I l s = .ok t → t.a ≤ s.a ∧ potE t ≤ potE s
  | [], s, t, h => by
    injection h with h
    subst h
    exact ⟨Nat.le_refl _, Nat.le_refl _⟩
  | x :: l, s, t, h => by
    obtain ⟨u, hu, h⟩ := bdE_ok h
    have := hI _ _ _ hu
    have := thrL_pot hI l u t h
    omega
/-- the effects of words are small -/
def WdOk (W : ByteArray → Option (Nat × Nat)) : Prop := ∀ s e, W s = some e → e.1 ≤ 16 ∧ e.2 ≤ 16
theorem pm_small (s : ByteArray) : 0 ≤ (pmR s).1 ∧ (pmR s).1 ≤ 3 ∧ 0 ≤ (pmR s).2.1 ∧ (pmR s).2.1 ≤ 3 := by
  have key : ∀ (q : List (List UInt8 × Int × Int)), (∀ x ∈ q, 0 ≤ x.2.1 ∧ x.2.1 ≤ 3 ∧ 0 ≤ x.2.2 ∧ x.2.2 ≤ 3) → 0 ≤ (pmF s.toList q).1 ∧ (pmF s.toList q).1 ≤ 3 ∧ 0 ≤ (pmF s.toList q).2.1 ∧ (pmF s.toList q).2.1 ≤ 3 := by
    intro q
    induction q with
    | nil => intro _; simp [pmF]
    | cons x r ih =>
      intro hx
      unfold pmF
      split
      · exact hx x (by simp)
      · exact ih (fun y hy => hx y (by simp [hy]))
  exact key pmL (by decide)
theorem pln_ok {W : ByteArray → Option (Nat × Nat)} (hW : WdOk W) {s : ByteArray} {e : Nat × Nat} (h : plnE W s = some e) : e.1 ≤ 16 ∧ e.2 ≤ 16 := by
  unfold plnE at h
  split at h
  · injection h with h
    have := pm_small s
    subst h
    simp only
    omega
  · exact hW s e h
theorem itmE_pot {W : ByteArray → Option (Nat × Nat)} (hW : WdOk W) : ∀ (n : Nat) (x : Vt) (s t : Ist), itmE W n x s = .ok t → t.a ≤ s.a ∧ potE t ≤ potE s
  | 0, x, s, t, h => nomatch h
  | n + 1, x, s, t, h => by
    unfold itmE at h
    split at h
    · split at h
      · split at h
        · exact nomatch h
        · rename_i e he
          obtain ⟨u, hu, h⟩ := bdE_ok h
          have h1 := cntE_ok hu
          have h2 := pln_ok hW he
          injection h with h
          split at h
          · rename_i ps hps
            have := mv_cases hps
            have := movE_pot e.1 ps u
            rw [← h]
            omega
          · have := appE_pot e.1 e.2 u
            rw [← h]
            omega
      · obtain ⟨u, hu, h⟩ := bdE_ok h
        have h1 := cntE_ok hu
        have := ctlE_pot (thrL_pot (itmE_pot hW n)) h
        omega
    · split at h
      · injection h with h
        subst h
        exact ⟨Nat.le_refl _, Nat.le_refl _⟩
      · obtain ⟨u, hu, h⟩ := bdE_ok h
        have h1 := cntE_ok hu
        injection h with h
        rw [← h]
        unfold pushE potE at *
        simp only [List.length_append, List.length_cons, List.length_nil]
        omega
theorem thrE_pot {W : ByteArray → Option (Nat × Nat)} (hW : WdOk W) (n : Nat) (l : List Vt) (s t : Ist) (h : thrE W n l s = .ok t) : t.a ≤ s.a ∧ potE t ≤ potE s := thrL_pot (itmE_pot hW n) l s t h
end Go.Proofs.YtodbkihobgdpdaaGreatDoor
namespace Go.Proofs.YtodbkihobgdpdaaGreatDoor
open Go.RowKit Go.Lib
set_option linter.unusedSimpArgs false
set_option linter.unusedVariables false
/-- the items l from the place ao on, within the blocks S -/
def QsAt (w : World) (S : Nat → Prop) (d : Nat) (l : List Vt) (ao : Option Addr) : Prop := ∀ (j : Nat) (x : Vt), l[j]? = some x → ∃ g q u, ao = some ⟨g, q, none⟩ ∧ S g ∧ w.cell? ⟨g, q + j, none⟩ = some u ∧ TiAt w S d true x u
theorem QsAt.only {w w' : World} {S bs : Nat → Prop} {d : Nat} {l : List Vt} {ao : Option Addr} (h : QsAt w S d l ao) (o : Only bs w w') (hb : ∀ b, S b → ¬ bs b) : QsAt w' S d l ao := fun j x hx => by
  obtain ⟨g, q, u, h1, h2, h3, h4⟩ := h j x hx
  exact ⟨g, q, u, h1, h2, o.cell h3 (hb g h2), h4.only o hb⟩
/-- items within the bounds -/
def SmL (l : List Vt) : Prop := l.length ≤ 2513169434900 ∧ ∀ x ∈ l, ∃ e, SmT e x
/-- what an entry of the list is -/
def EnAt (w : World) (S : Nat → Prop) (d : Nat) (x : Ent) (b : Bool) (ao : Option Addr) (n cap : Nat) : Prop := match x with
  | none => b = false ∧ ao = none ∧ n = 0 ∧ cap = 0
  | some l => b = true ∧ n = l.length ∧ l.length ≤ cap ∧ SmL l ∧ QsAt w S d l ao
theorem EnAt.only {w w' : World} {S bs : Nat → Prop} {d n cap : Nat} {x : Ent} {b : Bool} {ao : Option Addr} (h : EnAt w S d x b ao n cap) (o : Only bs w w') (hb : ∀ b, S b → ¬ bs b) : EnAt w' S d x b ao n cap := by
  cases x with
  | none => exact h
  | some l => exact ⟨h.1, h.2.1, h.2.2.1, h.2.2.2.1, h.2.2.2.2.only o hb⟩
/-- the list st with tk values taken from below it, at the block s, as the row v -/
def EsV (w : World) (S : Nat → Prop) (d s : Nat) (st : List Ent) (tk : Nat) (v : Value) : Prop := ∃ (xs : List Value), w.heap[s]? = some (.cells #[v, .int .i64 (tk : Int)] 109) ∧ w.ownsRow (s + 1) 130 2 v st.length xs ∧
  ∀ (j : Nat) (x : Ent), st[j]? = some x → ∃ b ao n cap, xs[2 * j]? = some (.bool b) ∧ xs[2 * j + 1]? = some (.slice ao n cap) ∧ EnAt w S d x b ao n cap
/-- the list st with tk values taken from below it, at the block s -/
def EsAt (w : World) (S : Nat → Prop) (d s : Nat) (st : List Ent) (tk : Nat) : Prop := ∃ v, EsV w S d s st tk v
theorem EsAt.only {w w' : World} {S bs : Nat → Prop} {d s tk : Nat} {st : List Ent} (h : EsAt w S d s st tk) (o : Only bs w w') (hs : ∀ b, s ≤ b → ¬ bs b) (hb : ∀ b, S b → ¬ bs b) : EsAt w' S d s st tk := by
  obtain ⟨v, xs, h1, h2, h3⟩ := h
  refine ⟨v, xs, (o.block s (Array.getElem?_eq_some_iff.1 h1).1 (hs s (Nat.le_refl _))).trans h1, o.owns h2 (fun k hk => hs k (by have := (h2.lt k hk).1; omega)), fun j x hx => ?_⟩
  obtain ⟨b, ao, n, cap, g1, g2, g3⟩ := h3 j x hx
  exact ⟨b, ao, n, cap, g1, g2, g3.only o hb⟩
theorem EsAt.lt {w : World} {S : Nat → Prop} {d s tk : Nat} {st : List Ent} (h : EsAt w S d s st tk) : s < w.heap.size := by
  obtain ⟨v, xs, h1, _⟩ := h
  exact (Array.getElem?_eq_some_iff.1 h1).1
set_option maxRecDepth 100000 in
theorem en_info : ∃ i z, Tryz.prog.info? 130 = some i ∧ i.zero = some z ∧ i.size = 2 ∧ i.bytes = 32 ∧ z.cells.size = 2 := ⟨_, _, rfl, rfl, rfl, rfl, rfl⟩
/-- an entry is put behind a row of them: what append answers where the entry stands in a new block -/
theorem app_en {w W : World} {B n : Nat} {v : Value} {xs : List Value} {b : Bool} {ao : Option Addr} {m cap : Nat} (ho : w.ownsRow B 130 2 v n xs) (o : Only (fun _ => False) w W) (g : Nat) (hW : W.heap[g]? = some (.cells #[.bool b, .slice ao m cap] 130)) (hB : B ≤ W.heap.size) (hl : n ≤ 2000000) :
    ∃ v' w', (∀ ty, (Builtin.append_ #[107, 107] ty #[v, .slice (some ⟨g, 0, none⟩) 1 1]).run Tryz.prog W = .ok v' w') ∧ w'.ownsRow B 130 2 v' (n + 1) (xs ++ [.bool b, .slice ao m cap]) ∧ W.grownBy w' v.ownBlock ∧ (v'.ownBlock = v.ownBlock ∨ v'.ownBlock = some W.heap.size) := by
  obtain ⟨i0, z0, hi, hz0, hz1, hz2, hz3⟩ := en_info
  have ho2 := o.owns ho (fun _ _ e => e)
  have key := fun ty => run_append_own_at (P := Tryz.prog) W B 107 ty 130 i0 z0 2 32 Tryz.underlying107 hi hz0 hz1 hz2 hz3 (by omega) v n xs ho2 ⟨g, 0, none⟩ 1 1 [.bool b, .slice ao m cap] rfl (by
      intro j u hj
      rw [addr_ad, vblk_cells hW]
      simpa using hj) (by
      intro u hu
      simp only [List.mem_cons, List.not_mem_nil, or_false] at hu
      rcases hu with rfl | rfl
      · rfl
      · rfl) (by unfold maxLen; omega) (by omega) hB
  obtain ⟨v', w', hr, own', hg, _, hat⟩ := key 0
  refine ⟨v', w', fun ty => ?_, own', hg, hat⟩
  rw [← hr]
  rfl
theorem wr2_cell {w : World} {B : Nat} {x y : Value} {t : TypeId} (h : w.heap[B]? = some (.cells #[x, y] t)) : w.cell? ⟨B, 0, none⟩ = some x ∧ w.cell? ⟨B, 1, none⟩ = some y ∧ w.frozen? ⟨B, 0, none⟩ = false ∧ w.frozen? ⟨B, 1, none⟩ = false :=
  ⟨(vblk_cells h 0).trans rfl, (vblk_cells h 1).trans rfl, eblk_froz h 0, eblk_froz h 1⟩
theorem EsAt.snoc {w w' : World} {S : Nat → Prop} {d s tk : Nat} {st : List Ent} {x : Ent} {b : Bool} {ao : Option Addr} {n cap : Nat} {v' : Value} {xs : List Value} (hS : ∀ b, S b → b < s)
    (h3 : ∀ (j : Nat) (x : Ent), st[j]? = some x → ∃ b ao n cap, xs[2 * j]? = some (.bool b) ∧ xs[2 * j + 1]? = some (.slice ao n cap) ∧ EnAt w S d x b ao n cap) (he : EnAt w S d x b ao n cap) (hx : xs.length = st.length * 2)
    (o : Only (fun b => s ≤ b) w w') (h1 : w'.heap[s]? = some (.cells #[v', .int .i64 (tk : Int)] 109)) (h2 : w'.ownsRow (s + 1) 130 2 v' (st.length + 1) (xs ++ [.bool b, .slice ao n cap])) : EsV w' S d s (st ++ [x]) tk v' := by
  have hb : ∀ b, S b → ¬ s ≤ b := fun b hb => by have := hS b hb; omega
  refine ⟨_, h1, by simpa using h2, fun j y hy => ?_⟩
  by_cases hj : j < st.length
  · rw [List.getElem?_append_left hj] at hy
    obtain ⟨b', ao', n', cap', g1, g2, g3⟩ := h3 j y hy
    exact ⟨b', ao', n', cap', by rw [List.getElem?_append_left (by omega)]; exact g1, by rw [List.getElem?_append_left (by omega)]; exact g2, g3.only o hb⟩
  · have hj2 : j < (st ++ [x]).length := (List.getElem?_eq_some_iff.1 hy).1
    have hj3 : j = st.length := by simp at hj2; omega
    subst hj3
    simp at hy
    subst hy
    exact ⟨b, ao, n, cap, by rw [List.getElem?_append_right (by omega), hx, show 2 * st.length - st.length * 2 = 0 by omega]; rfl, by rw [List.getElem?_append_right (by omega), hx, show 2 * st.length + 1 - st.length * 2 = 1 by omega]; rfl, he.only o hb⟩
set_option maxRecDepth 100000 in
set_option maxHeartbeats 1000000 in
theorem push_v {w : World} {S : Nat → Prop} {d s tk : Nat} {st : List Ent} {v : Value} (h : EsV w S d s st tk v) (hS : ∀ b, S b → b < s) {x : Ent} {b : Bool} {ao : Option Addr} {n cap : Nat} (he : EnAt w S d x b ao n cap) (hl : st.length ≤ 2000000) :
    Calls Tryz.prog 55 #[.pointer (some ⟨s, 0, none⟩), .agg #[.bool b, .slice ao n cap]] w fun e w' => e = .returned (.tuple #[]) ∧ Hid ((∃ v', EsV w' S d s (st ++ [x]) tk v' ∧ (v'.ownBlock = v.ownBlock ∨ ∃ k, v'.ownBlock = some k ∧ w.heap.size ≤ k)) ∧ Only (fun b => b = s ∨ v.ownBlock = some b) w w') := by
  have hlt := EsAt.lt ⟨v, h⟩
  obtain ⟨xs, h1, h2, h3⟩ := h
  obtain ⟨a0, c0, hv⟩ := ownsRow_slice h2
  obtain ⟨W1, hW1⟩ : ∃ W, W = w.alloc (.cells #[.bool b, .slice ao n cap] 130) := ⟨_, rfl⟩
  obtain ⟨W2, hW2⟩ : ∃ W, W = (W1.alloc (.cells #[.bool b, .slice ao n cap] 130)).drew := ⟨_, rfl⟩
  have o1 : Only (fun _ => False) w W1 := by rw [hW1]; exact (Only.refl _ w).alloc _
  have o2 : Only (fun _ => False) w W2 := by rw [hW2]; exact (o1.alloc _).drew
  have hs1 := o1.size
  have hs2 := o2.size
  obtain ⟨v', w3, hr, own3, hg3, hat⟩ := app_en (b := b) (ao := ao) (m := n) (cap := cap) h2 o2 (w.heap.size + 1) (by rw [hW2]; exact ealloc_at W1 _ _ (by rw [hW1]; simp)) (by omega) hl
  obtain ⟨a3, c3, hv3⟩ := ownsRow_slice own3
  have o3 : Only (fun b => s + 1 ≤ b) w w3 := (o2.mono (bs' := fun b => s + 1 ≤ b) (fun _ _ g => g.elim)).grown hg3 (fun k e _ => (h2.lt k e).1)
  have b3 : w3.heap[s]? = some (.cells #[v, .int .i64 (tk : Int)] 109) := (o3.block s hlt (by omega)).trans h1
  have k3 := wr2_cell b3
  have o4 : Only (fun b => s ≤ b) w (w3.setCell ⟨s, 0, none⟩ v') := (o3.mono (bs' := fun b => s ≤ b) (fun k _ g => by omega)).setCell ⟨s, 0, none⟩ v' (fun _ => Nat.le_refl _)
  have o5 : Only (fun b => b = s ∨ v.ownBlock = some b) w (w3.setCell ⟨s, 0, none⟩ v') := ((o2.mono (bs' := fun b => b = s ∨ v.ownBlock = some b) (fun _ _ g => g.elim)).grown hg3 (fun k e _ => .inr e)).setCell ⟨s, 0, none⟩ v' (fun _ => .inl rfl)
  have F : Hid ((∃ u, EsV (w3.setCell ⟨s, 0, none⟩ v') S d s (st ++ [x]) tk u ∧ (u.ownBlock = v.ownBlock ∨ ∃ k, u.ownBlock = some k ∧ w.heap.size ≤ k)) ∧ Only (fun b => b = s ∨ v.ownBlock = some b) w (w3.setCell ⟨s, 0, none⟩ v')) := by
    refine ⟨⟨v', EsAt.snoc (v' := v') hS h3 he (by have := h2.1; omega) o4 ?_ ?_, hat.imp id (fun e => ⟨_, e, hs2⟩)⟩, o5⟩
    · rw [heap_setCell_same _ _ _ _ _ _ b3]
      rfl
    · refine ((Only.refl (fun b => b = s) w3).setCell ⟨s, 0, none⟩ v' (fun _ => rfl)).owns own3 (fun k hk e => ?_)
      have := (own3.lt k hk).1
      omega
  have HR : Hid _ := hr
  have c1 := (wr2_cell ((o1.block s hlt (fun e => e)).trans h1)).1
  have c2 := (wr2_cell ((o2.block s hlt (fun e => e)).trans h1)).1
  have d1 := wr2_cell (show W1.heap[w.heap.size]? = some (.cells #[.bool b, .slice ao n cap] 130) by rw [hW1]; exact ealloc_at _ _ _ rfl)
  have d2 := wr2_cell (show W2.heap[w.heap.size]? = some (.cells #[.bool b, .slice ao n cap] 130) by rw [hW2]; exact alloc_old (W := W1) (by rw [hW1]; exact ealloc_at _ _ _ rfl))
  obtain ⟨e10, e11, -, -⟩ := d1
  obtain ⟨e20, e21, -, -⟩ := d2
  obtain ⟨k30, k31, k3f, -⟩ := k3
  subst hv hv3
  clear h1 h2 h3 he hS o1 o2 o3 o4 o5 own3 hg3 hat b3 hr hs1 hs2 hl
  rw [hW2, hW1] at HR
  rw [hW2, hW1] at c2 e20 e21
  rw [hW1] at c1 e10 e11
  clear hW1 hW2 W1 W2
  go_enter Tryz.func55, Tryz.ntmps55
  go_wp2_with fail
  go_region_law (refine vstep_append_run (by rfl) _ _ 107 (by rfl) _ _ (.slice a3 (st.length + 1) c3) (by rfl) (by rfl) HR.out ?_)
  all_goals (go_wp2; first | (refine bodyPost_ret (results_none rfl _ _ _) rfl ?_; exact ⟨rfl, F.out⟩) | (refine ⟨_, results_none rfl _ _ _, rfl, F.out⟩) | (refine ⟨rfl, _, results_none rfl _ _ _, rfl, F.out⟩))
theorem push_any {w : World} {S : Nat → Prop} {d s tk : Nat} {st : List Ent} (h : EsAt w S d s st tk) (hS : ∀ b, S b → b < s) {x : Ent} {b : Bool} {ao : Option Addr} {n cap : Nat} (he : EnAt w S d x b ao n cap) (hl : st.length ≤ 2000000) :
    Calls Tryz.prog 55 #[.pointer (some ⟨s, 0, none⟩), .agg #[.bool b, .slice ao n cap]] w fun e w' => e = .returned (.tuple #[]) ∧ Hid (EsAt w' S d s (st ++ [x]) tk ∧ Only (fun b => s ≤ b) w w') := by
  obtain ⟨v, h⟩ := h
  have h2 := h
  obtain ⟨xs, _, own, _⟩ := h2
  refine (push_v h hS he hl).mono fun e w' g => ⟨g.1, ?_⟩
  obtain ⟨⟨v', g1, _⟩, g2⟩ := g.2.out
  refine ⟨⟨v', g1⟩, g2.mono fun k _ e => ?_⟩
  rcases e with e | e
  · omega
  · have := (own.lt k e).1
    omega
end Go.Proofs.YtodbkihobgdpdaaGreatDoor
namespace Go.Proofs.YtodbkihobgdpdaaGreatDoor
open Go.RowKit Go.Lib
set_option linter.unusedSimpArgs false
set_option linter.unusedVariables false
theorem results_en {fn : Func} {u : Tmp} (h : fn.results = #[.cell u 130]) (tmps : Array Value) (w : World) (B : Nat) {x y : Value} (h0 : w.cell? ⟨B, 0, none⟩ = some x) (h1 : w.cell? ⟨B, 1, none⟩ = some y) (ha : tmps.getD u undef = .pointer (some ⟨B, 0, none⟩)) :
    (results fn tmps).run Tryz.prog w = .ok (.agg #[x, y]) w := by
  have ha' : tmps[u]?.getD undef = .pointer (some ⟨B, 0, none⟩) := by simpa using ha
  simp [results, h, ha', asAddr, go_sem, loadVar, isAgg, Tryz.underlying130, h0, h1]
theorem fset2 {w : World} {B : Nat} {x y : Value} {t : TypeId} (h : w.heap[B]? = some (.cells #[x, y] t)) (u v : Value) : ((w.setCell ⟨B, 0, none⟩ u).setCell ⟨B, 1, none⟩ v).cell? ⟨B, 0, none⟩ = some u ∧ ((w.setCell ⟨B, 0, none⟩ u).setCell ⟨B, 1, none⟩ v).cell? ⟨B, 1, none⟩ = some v := by
  obtain ⟨c0, c1, _, _⟩ := wr2_cell h
  have ne : ∀ (W : World) (i j : Nat) (v : Value), i ≠ j → (W.setCell ⟨B, i, none⟩ v).cell? ⟨B, j, none⟩ = W.cell? ⟨B, j, none⟩ := fun W i j v g => by apply World.cell?_setCell_other; intro e; exact g (by injection e)
  refine ⟨?_, ?_⟩
  · rw [ne _ 1 0 _ (by omega)]
    exact World.cell?_setCell_same' _ _ _ (by rw [c0]; rfl)
  · exact World.cell?_setCell_same' _ _ _ (by rw [ne _ 0 1 _ (by omega), c1]; rfl)
/-- what pop answers -/
def PoV (S : Nat → Prop) (d s : Nat) (v : Value) (x : Ent) (st : List Ent) (tk : Nat) (w : World) (e : Ending) (w' : World) : Prop := ∃ b ao n cap, e = .returned (.agg #[.bool b, .slice ao n cap]) ∧ Hid (EnAt w' S d x b ao n cap ∧ (∃ v', EsV w' S d s st tk v' ∧ v'.ownBlock = v.ownBlock) ∧ Only (fun b => b = s) w w')
def PoP (S : Nat → Prop) (d s : Nat) (x : Ent) (st : List Ent) (tk : Nat) (w : World) (e : Ending) (w' : World) : Prop := ∃ b ao n cap, e = .returned (.agg #[.bool b, .slice ao n cap]) ∧ Hid (EnAt w' S d x b ao n cap ∧ EsAt w' S d s st tk ∧ Only (fun b => s ≤ b) w w')
set_option maxRecDepth 100000 in
theorem pop_nil {w : World} {S : Nat → Prop} {d s tk : Nat} {v : Value} (h : EsV w S d s [] tk v) (hS : ∀ b, S b → b < s) (hl : tk ≤ 2000000) :
    Calls Tryz.prog 76 #[.pointer (some ⟨s, 0, none⟩)] w (PoV S d s v none [] (tk + 1) w) := by
  have hlt := EsAt.lt ⟨v, h⟩
  obtain ⟨xs, h1, h2, h3⟩ := h
  obtain ⟨a0, c0, hv⟩ := ownsRow_slice h2
  obtain ⟨N, hN⟩ : ∃ N, N = w.heap.size := ⟨_, rfl⟩
  obtain ⟨W, hW⟩ : ∃ W, W = w.alloc (.cells #[.bool false, .slice none 0 0] 130) := ⟨_, rfl⟩
  have oW : Only (fun _ => False) w W := by rw [hW]; exact (Only.refl _ w).alloc _
  have sW : W.heap[s]? = some (.cells #[v, .int .i64 (tk : Int)] 109) := (oW.block s hlt (fun e => e)).trans h1
  have nW : W.heap[N]? = some (.cells #[.bool false, .slice none 0 0] 130) := by rw [hW]; exact ealloc_at _ _ _ hN
  obtain ⟨k0, k1, f0, f1⟩ := wr2_cell sW
  have nT : (W.setCell ⟨s, 1, none⟩ (.int .i64 ((tk : Int) + 1))).heap[N]? = some (.cells #[.bool false, .slice none 0 0] 130) := by
    rw [heap_setCell_other _ _ _ _ (by simp only; omega)]; exact nW
  have sT : (W.setCell ⟨s, 1, none⟩ (.int .i64 ((tk : Int) + 1))).heap[s]? = some (.cells #[v, .int .i64 ((tk + 1 : Nat) : Int)] 109) := by
    rw [heap_setCell_same _ _ _ _ _ _ sW]; rfl
  obtain ⟨n0, n1, g0, g1⟩ := wr2_cell nT
  have q := fset2 nT (.bool false) (.slice none 0 0)
  have o3 : Only (fun b => b = s) w (((W.setCell ⟨s, 1, none⟩ (.int .i64 ((tk : Int) + 1))).setCell ⟨N, 0, none⟩ (.bool false)).setCell ⟨N, 1, none⟩ (.slice none 0 0)) :=
    (((oW.mono (bs' := fun b => b = s) (fun _ _ g => g.elim)).setCell ⟨s, 1, none⟩ _ (fun _ => rfl)).setCell ⟨N, 0, none⟩ _ (fun g => by simp only at g; omega)).setCell ⟨N, 1, none⟩ _ (fun g => by simp only at g; omega)
  have sZ : (((W.setCell ⟨s, 1, none⟩ (.int .i64 ((tk : Int) + 1))).setCell ⟨N, 0, none⟩ (.bool false)).setCell ⟨N, 1, none⟩ (.slice none 0 0)).heap[s]? = some (.cells #[v, .int .i64 ((tk + 1 : Nat) : Int)] 109) := by
    rw [heap_setCell_other _ _ _ _ (by simp only; omega), heap_setCell_other _ _ _ _ (by simp only; omega)]; exact sT
  have own3 : (((W.setCell ⟨s, 1, none⟩ (.int .i64 ((tk : Int) + 1))).setCell ⟨N, 0, none⟩ (.bool false)).setCell ⟨N, 1, none⟩ (.slice none 0 0)).ownsRow (s + 1) 130 2 v 0 xs := by
    refine ((((oW.mono (bs' := fun b => b = s ∨ b = N) (fun _ _ g => g.elim)).setCell ⟨s, 1, none⟩ _ (fun _ => .inl rfl)).setCell ⟨N, 0, none⟩ _ (fun _ => .inr rfl)).setCell ⟨N, 1, none⟩ _ (fun _ => .inr rfl)).owns h2 (fun k hk e => ?_)
    have := h2.lt k hk
    omega
  have F : Hid (EnAt (((W.setCell ⟨s, 1, none⟩ (.int .i64 ((tk : Int) + 1))).setCell ⟨N, 0, none⟩ (.bool false)).setCell ⟨N, 1, none⟩ (.slice none 0 0)) S d none false none 0 0 ∧ (∃ v', EsV (((W.setCell ⟨s, 1, none⟩ (.int .i64 ((tk : Int) + 1))).setCell ⟨N, 0, none⟩ (.bool false)).setCell ⟨N, 1, none⟩ (.slice none 0 0)) S d s [] (tk + 1) v' ∧ v'.ownBlock = v.ownBlock) ∧ Only (fun b => b = s) w (((W.setCell ⟨s, 1, none⟩ (.int .i64 ((tk : Int) + 1))).setCell ⟨N, 0, none⟩ (.bool false)).setCell ⟨N, 1, none⟩ (.slice none 0 0))) :=
    ⟨⟨rfl, rfl, rfl, rfl⟩, ⟨v, ⟨xs, sZ, own3, fun j x hx => by simp at hx⟩, rfl⟩, o3⟩
  have Q : Hid _ := q
  subst hv
  have i1 : IntKind.i64.wrap ((tk : Int) + 1) = (tk : Int) + 1 := by rw [IntKind.wrap_i64]; omega
  clear h1 h2 h3 hS oW sW nW nT sT o3 sZ own3 q hl hlt
  subst hW hN
  go_enter Tryz.func76, Tryz.ntmps76
  go_wp2
  refine bodyPost_ret (results_en rfl _ _ w.heap.size Q.out.1 Q.out.2 rfl) rfl ?_
  exact ⟨false, none, 0, 0, rfl, F.out⟩
set_option maxRecDepth 100000 in
theorem pop_snoc {w : World} {S : Nat → Prop} {d s tk : Nat} {st : List Ent} {x : Ent} {v : Value} (h : EsV w S d s (st ++ [x]) tk v) (hS : ∀ b, S b → b < s) (hl : st.length ≤ 2000000) :
    Calls Tryz.prog 76 #[.pointer (some ⟨s, 0, none⟩)] w (PoV S d s v x st tk w) := by
  have hlt := EsAt.lt ⟨v, h⟩
  obtain ⟨xs, h1, h2, h3⟩ := h
  obtain ⟨b, ao, n, cap, q1, q2, q3⟩ := h3 st.length x (by simp)
  have hlen : (st ++ [x]).length = st.length + 1 := by simp
  rw [hlen] at h2
  obtain ⟨L, hL⟩ : ∃ L, L = st.length := ⟨_, rfl⟩
  rw [← hL] at h2 q1 q2 hl
  obtain ⟨hxl, hrow⟩ := id h2
  rcases hrow with ⟨_, h0⟩ | ⟨g, c, cur, hv, hgs, hgc, hnc, hcm, hcs, htk⟩
  · omega
  have cg0 : w.cell? ⟨g, L * 2, none⟩ = some (.bool b) := by
    have := h2.cells (g := g) (by rw [hv]; rfl) (2 * L) _ q1
    rw [addr_ad, Nat.mul_comm] at this; exact this
  have cg1 : w.cell? ⟨g, L * 2 + 1, none⟩ = some (.slice ao n cap) := by
    have := h2.cells (g := g) (by rw [hv]; rfl) (2 * L + 1) _ q2
    rw [addr_ad, Nat.mul_comm] at this; exact this
  obtain ⟨N, hN⟩ : ∃ N, N = w.heap.size := ⟨_, rfl⟩
  have glt : g < w.heap.size := (Array.getElem?_eq_some_iff.1 hgc).1
  obtain ⟨W1, hW1⟩ : ∃ W, W = w.alloc (.cells #[.bool false, .slice none 0 0] 130) := ⟨_, rfl⟩
  have o1 : Only (fun _ => False) w W1 := by rw [hW1]; exact (Only.refl _ w).alloc _
  have z1 : W1.heap.size = N + 1 := by rw [hW1, hN]; simp
  obtain ⟨W2, hW2⟩ : ∃ W, W = W1.alloc (.cells #[.bool b, .slice ao n cap] 130) := ⟨_, rfl⟩
  have o2 : Only (fun _ => False) w W2 := by rw [hW2]; exact o1.alloc _
  have s1 : W1.heap[s]? = some (.cells #[v, .int .i64 (tk : Int)] 109) := (o1.block s hlt (fun e => e)).trans h1
  have s2 : W2.heap[s]? = some (.cells #[v, .int .i64 (tk : Int)] 109) := (o2.block s hlt (fun e => e)).trans h1
  obtain ⟨k10, k11, -, -⟩ := wr2_cell s1
  obtain ⟨k20, k21, f20, -⟩ := wr2_cell s2
  have p0 := o1.cell cg0 (fun e => e)
  have p1 := o1.cell cg1 (fun e => e)
  have n1 : W1.heap[N]? = some (.cells #[.bool false, .slice none 0 0] 130) := by rw [hW1]; exact ealloc_at _ _ _ hN
  have n2 : W2.heap[N]? = some (.cells #[.bool false, .slice none 0 0] 130) := by rw [hW2]; exact alloc_old n1
  have m2 : W2.heap[N + 1]? = some (.cells #[.bool b, .slice ao n cap] 130) := by rw [hW2]; exact ealloc_at _ _ _ z1.symm
  obtain ⟨W3, hW3⟩ : ∃ W, W = W2.setCell ⟨s, 0, none⟩ (.slice (some ⟨g, 0, none⟩) L c) := ⟨_, rfl⟩
  have n3 : W3.heap[N]? = some (.cells #[.bool false, .slice none 0 0] 130) := by
    rw [hW3, heap_setCell_other _ _ _ _ (by simp only; omega)]; exact n2
  have m3 : W3.heap[N + 1]? = some (.cells #[.bool b, .slice ao n cap] 130) := by
    rw [hW3, heap_setCell_other _ _ _ _ (by simp only; omega)]; exact m2
  have s3 : W3.heap[s]? = some (.cells #[.slice (some ⟨g, 0, none⟩) L c, .int .i64 (tk : Int)] 109) := by
    rw [hW3, heap_setCell_same _ _ _ _ _ _ s2]; rfl
  obtain ⟨a0, a1, g0, g1⟩ := wr2_cell n3
  obtain ⟨e0, e1, -, -⟩ := wr2_cell m3
  have q := fset2 n3 (.bool b) (.slice ao n cap)
  have o3 : Only (fun b => b = s ∨ b = N) w ((W3.setCell ⟨N, 0, none⟩ (.bool b)).setCell ⟨N, 1, none⟩ (.slice ao n cap)) := by
    rw [hW3]
    exact (((o2.mono (bs' := fun b => b = s ∨ b = N) (fun _ _ g => g.elim)).setCell ⟨s, 0, none⟩ _ (fun _ => .inl rfl)).setCell ⟨N, 0, none⟩ _ (fun _ => .inr rfl)).setCell ⟨N, 1, none⟩ _ (fun _ => .inr rfl)
  have o4 : Only (fun b => s ≤ b) w ((W3.setCell ⟨N, 0, none⟩ (.bool b)).setCell ⟨N, 1, none⟩ (.slice ao n cap)) := o3.mono (fun k hk e => by omega)
  have hb : ∀ b, S b → ¬ s ≤ b := fun b hb => by have := hS b hb; omega
  have sZ : ((W3.setCell ⟨N, 0, none⟩ (.bool b)).setCell ⟨N, 1, none⟩ (.slice ao n cap)).heap[s]? = some (.cells #[.slice (some ⟨g, 0, none⟩) L c, .int .i64 (tk : Int)] 109) := by
    rw [heap_setCell_other _ _ _ _ (by simp only; omega), heap_setCell_other _ _ _ _ (by simp only; omega)]; exact s3
  have own3 : ((W3.setCell ⟨N, 0, none⟩ (.bool b)).setCell ⟨N, 1, none⟩ (.slice ao n cap)).ownsRow (s + 1) 130 2 (.slice (some ⟨g, 0, none⟩) L c) L (xs.take (L * 2)) := by
    refine ⟨by rw [List.length_take]; omega, .inr ⟨g, c, cur, rfl, hgs, (o3.block g glt (by omega)).trans hgc, by omega, hcm, hcs, ?_⟩⟩
    rw [← htk, List.take_take]
    congr 1
    omega
  have F : Hid (EnAt ((W3.setCell ⟨N, 0, none⟩ (.bool b)).setCell ⟨N, 1, none⟩ (.slice ao n cap)) S d x b ao n cap ∧ (∃ v', EsV ((W3.setCell ⟨N, 0, none⟩ (.bool b)).setCell ⟨N, 1, none⟩ (.slice ao n cap)) S d s st tk v' ∧ v'.ownBlock = v.ownBlock) ∧ Only (fun b => b = s) w ((W3.setCell ⟨N, 0, none⟩ (.bool b)).setCell ⟨N, 1, none⟩ (.slice ao n cap))) := by
    refine ⟨q3.only o4 hb, ⟨.slice (some ⟨g, 0, none⟩) L c, ⟨xs.take (L * 2), sZ, by rw [← hL]; exact own3, fun j y hy => ?_⟩, by rw [hv]; rfl⟩, o3.mono (fun k hk e => by omega)⟩
    have hj : j < st.length := (List.getElem?_eq_some_iff.1 hy).1
    obtain ⟨b', ao', n', cap', r1, r2, r3⟩ := h3 j y (by rw [List.getElem?_append_left hj]; exact hy)
    exact ⟨b', ao', n', cap', by rw [List.getElem?_take, if_pos (by omega)]; exact r1, by rw [List.getElem?_take, if_pos (by omega)]; exact r2, r3.only o4 hb⟩
  have Q : Hid _ := q
  subst hv
  have i1 : IntKind.i64.wrap (L : Int) = (L : Int) := by rw [IntKind.wrap_i64]; omega
  have i2 : ¬ (L : Int) < 0 := by omega
  have i3 : L < L + 1 := by omega
  have i4 : L ≤ c := by omega
  have i5 : (L : Int) ≤ (c : Int) := by omega
  have HN : Hid (N = w.heap.size) := hN
  clear h1 h2 h3 hS o1 o2 o3 o4 s1 s2 s3 sZ own3 q n1 n2 n3 m2 m3 q1 q2 q3 hl hlt hxl hgs hgc hcm hcs htk cg0 cg1 glt z1 hb hlen HN
  clear hL
  subst hW3
  subst hW2
  subst hW1
  subst hN
  go_enter Tryz.func76, Tryz.ntmps76
  go_wp2
  refine bodyPost_ret (results_en rfl _ _ w.heap.size Q.out.1 Q.out.2 rfl) rfl ?_
  exact ⟨b, ao, n, cap, rfl, F.out⟩
theorem pop_v {w : World} {S : Nat → Prop} {d s tk : Nat} {st : List Ent} {v : Value} (a : Nat) (h : EsV w S d s st tk v) (hS : ∀ b, S b → b < s) (hl : potE ⟨a, st, tk⟩ ≤ 1000000) :
    Calls Tryz.prog 76 #[.pointer (some ⟨s, 0, none⟩)] w (PoV S d s v (popE ⟨a, st, tk⟩).1 (popE ⟨a, st, tk⟩).2.st (popE ⟨a, st, tk⟩).2.tk w) := by
  have hl2 : st.length + tk + 32 * a ≤ 1000000 := hl
  clear hl
  rcases List.eq_nil_or_concat st with rfl | ⟨l, x, hx⟩
  · have h9 : tk ≤ 2000000 := by omega
    exact pop_nil h hS h9
  · have hx2 : st = l ++ [x] := by rw [hx]; simp
    subst hx2
    simp only [List.length_append, List.length_cons, List.length_nil] at hl2
    have e : popE ⟨a, l ++ [x], tk⟩ = (x, ⟨a, l, tk⟩) := by simp [popE]
    rw [e]
    have h9 : l.length ≤ 2000000 := by omega
    exact pop_snoc h hS h9
theorem pop_any {w : World} {S : Nat → Prop} {d s tk : Nat} {st : List Ent} (a : Nat) (h : EsAt w S d s st tk) (hS : ∀ b, S b → b < s) (hl : potE ⟨a, st, tk⟩ ≤ 1000000) :
    Calls Tryz.prog 76 #[.pointer (some ⟨s, 0, none⟩)] w (PoP S d s (popE ⟨a, st, tk⟩).1 (popE ⟨a, st, tk⟩).2.st (popE ⟨a, st, tk⟩).2.tk w) := by
  obtain ⟨v, h⟩ := h
  refine (pop_v a h hS hl).mono fun e w' g => ?_
  obtain ⟨b, ao, n, cap, he, g⟩ := g
  obtain ⟨g1, ⟨v', g2, _⟩, g3⟩ := g.out
  exact ⟨b, ao, n, cap, he, g1, ⟨v', g2⟩, g3.mono (fun k _ e => by omega)⟩
/-- the row that the list has now is the one that it had, or a new one -/
def RwK (w : World) (v v' : Value) : Prop := v'.ownBlock = v.ownBlock ∨ ∃ k, v'.ownBlock = some k ∧ w.heap.size ≤ k
/-- the list at s, which was the row v, is st now, and nothing else has turned -/
def EsO (w w' : World) (S : Nat → Prop) (d s : Nat) (v : Value) (st : List Ent) (tk : Nat) : Prop := (∃ v', EsV w' S d s st tk v' ∧ RwK w v v') ∧ Only (fun b => b = s ∨ v.ownBlock = some b) w w'
theorem EsO.refl {w : World} {S : Nat → Prop} {d s tk : Nat} {v : Value} {st : List Ent} (h : EsV w S d s st tk v) : EsO w w S d s v st tk := ⟨⟨v, h, .inl rfl⟩, Only.refl _ _⟩
theorem EsO.step {w w1 w2 : World} {S : Nat → Prop} {d s tk : Nat} {v v1 : Value} {st : List Ent} (hr : RwK w v v1) (o : Only (fun b => b = s ∨ v.ownBlock = some b) w w1) (g : EsO w1 w2 S d s v1 st tk) : EsO w w2 S d s v st tk := by
  obtain ⟨⟨v2, g1, g2⟩, g3⟩ := g
  have hz := o.size
  refine ⟨⟨v2, g1, ?_⟩, o.trans g3 (fun k hk e => ?_)⟩
  · rcases g2 with g2 | ⟨k, g2, g4⟩
    · rcases hr with hr | ⟨k, hr, hk⟩
      · exact .inl (g2.trans hr)
      · exact .inr ⟨k, g2.trans hr, hk⟩
    · exact .inr ⟨k, g2, by omega⟩
  · rcases e with e | e
    · exact .inl e
    · rcases hr with hr | ⟨k', hr, hk'⟩
      · exact .inr (hr ▸ e)
      · rw [hr] at e
        injection e with e
        omega
theorem EsO.only {w w1 w2 : World} {S : Nat → Prop} {d s tk : Nat} {v : Value} {st : List Ent} (g : EsO w w1 S d s v st tk) (o : Only (fun _ => False) w1 w2) : EsO w w2 S d s v st tk := by
  obtain ⟨⟨v2, ⟨xs, q1, q2, q3⟩, g2⟩, g3⟩ := g
  refine ⟨⟨v2, ⟨xs, o.at q1, o.owns q2 (fun _ _ e => e), fun j x hx => ?_⟩, g2⟩, g3.trans o (fun _ _ e => e.elim)⟩
  obtain ⟨b, ao, n, cap, r1, r2, r3⟩ := q3 j x hx
  exact ⟨b, ao, n, cap, r1, r2, r3.only o (fun _ _ e => e)⟩
theorem EsO.es {w w' : World} {S : Nat → Prop} {d s tk : Nat} {v : Value} {st : List Ent} (g : EsO w w' S d s v st tk) : EsAt w' S d s st tk := by
  obtain ⟨⟨v', h, _⟩, _⟩ := g
  exact ⟨v', h⟩
theorem EsV.own {w : World} {S : Nat → Prop} {d s tk : Nat} {v : Value} {st : List Ent} (h : EsV w S d s st tk v) : ∀ k, v.ownBlock = some k → s + 1 ≤ k ∧ k < w.heap.size := by
  obtain ⟨xs, _, h2, _⟩ := h
  exact h2.lt
theorem EsO.wide {w w' : World} {S : Nat → Prop} {d s tk tk' : Nat} {v : Value} {st st' : List Ent} (h : EsV w S d s st tk v) (g : EsO w w' S d s v st' tk') : Only (fun b => s ≤ b) w w' := g.2.mono fun k _ e => by
  rcases e with e | e
  · omega
  · have := (h.own k e).1
    omega
end Go.Proofs.YtodbkihobgdpdaaGreatDoor
namespace Go.Proofs.YtodbkihobgdpdaaGreatDoor
open Go.RowKit Go.Lib
set_option linter.unusedSimpArgs false
set_option linter.unusedVariables false
/-- an inference gives up -/
def gupE (e : Int) : Ending := .panicked [{ v := .iface 83 (.agg #[.int .i64 e]), recovered := false }]
set_option maxRecDepth 100000 in
theorem fit_yes (w : World) : Calls Tryz.prog 77 #[.bool true] w fun e w' => e = .returned (.tuple #[]) ∧ w' = w := by
  go_enter Tryz.func77, Tryz.ntmps77
  go_wp2
  first | (refine bodyPost_ret (results_none rfl _ _ _) rfl ?_; exact ⟨rfl, rfl⟩) | (refine ⟨_, results_none rfl _ _ _, rfl, rfl⟩) | (refine ⟨rfl, _, results_none rfl _ _ _, rfl, rfl⟩)
set_option maxRecDepth 100000 in
theorem fit_no (w : World) : Calls Tryz.prog 77 #[.bool false] w fun e w' => e = gupE 12 ∧ w' = w := by
  unfold gupE
  go_enter Tryz.func77, Tryz.ntmps77
  go_wp2
  exact ⟨rfl, rfl, rfl⟩
theorem fit_any (b : Bool) (w : World) : Calls Tryz.prog 77 #[.bool b] w fun e w' => e = (if b then .returned (.tuple #[]) else gupE 12) ∧ w' = w := by
  cases b
  · exact fit_no w
  · exact fit_yes w
/-- what quotation answers -/
def QuP (S : Nat → Prop) (d s : Nat) (v : Value) (r : Except Int (List Vt × Ist)) (w : World) (e : Ending) (w' : World) : Prop := match r with
  | .error k => e = gupE k ∧ Only (fun b => b = s) w w'
  | .ok q => ∃ ao cap, e = .returned (.slice ao q.1.length cap) ∧ Hid (q.1.length ≤ cap ∧ SmL q.1 ∧ QsAt w' S d q.1 ao ∧ EsO w w' S d s v q.2.st q.2.tk)
set_option maxRecDepth 100000 in
theorem quotation_any {w : World} {S : Nat → Prop} {d s tk : Nat} {st : List Ent} {v : Value} (a : Nat) (h : EsV w S d s st tk v) (hS : ∀ b, S b → b < s) (hl : potE ⟨a, st, tk⟩ ≤ 1000000) :
    Calls Tryz.prog 75 #[.pointer (some ⟨s, 0, none⟩)] w (QuP S d s v (quoE ⟨a, st, tk⟩) w) := by
  have HP : Hid _ := pop_v a h hS hl
  have hlt := EsAt.lt ⟨v, h⟩
  have HS : Hid (s < w.heap.size ∧ ∀ b, S b → b < s) := ⟨hlt, hS⟩
  obtain ⟨X, hX⟩ : ∃ X, X = quoE ⟨a, st, tk⟩ := ⟨_, rfl⟩
  rw [← hX]
  have HX : Hid (X = quoE ⟨a, st, tk⟩) := hX
  obtain ⟨PO, hPO⟩ : ∃ PO, PO = popE ⟨a, st, tk⟩ := ⟨_, rfl⟩
  have HO : Hid (PO = popE ⟨a, st, tk⟩) := hPO
  rw [← hPO] at HP
  have HT := fit_yes
  have HN := fit_no
  have HTN : Hid (∀ b w, Calls Tryz.prog 77 #[.bool b] w fun e w' => e = (if b then .returned (.tuple #[]) else gupE 12) ∧ w' = w) := fit_any
  clear h hS hl hlt hX hPO HT HN
  go_enter Tryz.func75, Tryz.ntmps75
  go_wp2_with fail
  refine (show Calls Tryz.prog 76 _ _ _ from HP.out).mono ?_
  rintro e w1 ⟨b, ao, n, cap, rfl, G⟩
  clear HP
  go_wp2_with fail
  refine (show Calls Tryz.prog 77 _ _ _ from HTN.out b _).mono ?_
  rintro e w2 ⟨rfl, rfl⟩
  clear HTN
  have o1 := G.out.2.2
  have oo : Only (fun b => b = s) w (w1.alloc (.cells #[.bool b, .slice ao n cap] 130)) := o1.alloc _
  have oa : Only (fun _ => False) w1 (w1.alloc (.cells #[.bool b, .slice ao n cap] 130)) := (Only.refl _ _).alloc _
  obtain ⟨x, t⟩ := PO
  cases x with
  | none =>
    have e0 := G.out.1
    have hX2 : X = .error 12 := by rw [HX.out]; unfold quoE; rw [← HO.out]
    obtain ⟨rfl, rfl, rfl, rfl⟩ := e0
    clear HX
    subst hX2
    have OO : Hid _ := oo
    clear G o1 oo oa HO HS
    unfold gupE
    simp only [Bool.false_eq_true, if_false]
    go_wp2
    exact ⟨rfl, rfl, OO.out⟩
  | some l =>
    obtain ⟨rfl, rfl, hcap, hsm, hq⟩ := G.out.1
    have hX2 : X = .ok (l, t) := by rw [HX.out]; unfold quoE; rw [← HO.out]
    clear HX
    subst hX2
    have F : Hid (l.length ≤ cap ∧ SmL l ∧ QsAt (w1.alloc (.cells #[.bool true, .slice ao l.length cap] 130)) S d l ao ∧ EsO w (w1.alloc (.cells #[.bool true, .slice ao l.length cap] 130)) S d s v t.st t.tk) := by
      obtain ⟨v', g1, g2⟩ := G.out.2.1
      refine ⟨hcap, hsm, hq.only oa (fun _ _ g => g), EsO.only ⟨⟨v', g1, .inl g2⟩, o1.mono (fun _ _ e => .inl e)⟩ oa⟩
    clear G o1 oo oa HO HS hcap hsm hq
    simp only [if_true]
    go_wp2
    go_ret
    exact ⟨ao, cap, rfl, F.out⟩
/-- the inference in memory: the words at the block M, how many items may still be gone through -/
def IfAt (w : World) (F M a : Nat) : Prop := w.heap[F]? = some (.cells #[.map (some M), .int .i64 (a : Int)] 61)
theorem IfAt.only {w w' : World} {F M a : Nat} {bs : Nat → Prop} (h : IfAt w F M a) (o : Only bs w w') (hn : ¬ bs F) : IfAt w' F M a := (o.block F (Array.getElem?_eq_some_iff.1 h).1 hn).trans h
/-- what count answers -/
def CnE (F M : Nat) (s : Ist) (w : World) (e : Ending) (w' : World) : Prop := match cntE s with
  | .error k => e = gupE k ∧ w' = w
  | .ok t => e = .returned (.tuple #[]) ∧ Hid (IfAt w' F M t.a ∧ Only (fun b => b = F) w w')
set_option maxRecDepth 100000 in
theorem icount_any {w : World} {F M : Nat} (s : Ist) (h : IfAt w F M s.a) (hl : s.a ≤ 1000000) : Calls Tryz.prog 54 #[.pointer (some ⟨F, 0, none⟩)] w (CnE F M s w) := by
  obtain ⟨k0, k1, f0, f1⟩ := wr2_cell h
  unfold CnE cntE
  by_cases ha : s.a = 0
  · rw [if_pos ha]
    rw [ha] at k1
    unfold gupE
    clear h hl ha k0 f0 f1
    go_enter Tryz.func54, Tryz.ntmps54
    go_wp2
    exact ⟨rfl, rfl, rfl⟩
  · rw [if_neg ha]
    obtain ⟨c, hc⟩ : ∃ c, s.a = c + 1 := ⟨s.a - 1, by omega⟩
    have hc2 : s.a - 1 = c := by omega
    have F1 : Hid (IfAt (w.setCell ⟨F, 1, none⟩ (.int .i64 (c : Int))) F M c ∧ Only (fun b => b = F) w (w.setCell ⟨F, 1, none⟩ (.int .i64 (c : Int)))) := by
      refine ⟨?_, (Only.refl (fun b => b = F) w).setCell ⟨F, 1, none⟩ _ (fun _ => rfl)⟩
      unfold IfAt
      rw [heap_setCell_same _ _ _ _ _ _ h]
      rfl
    simp only [hc2]
    rw [hc] at k1
    have i0 : (((c + 1 : Nat) : Int) == 0) = false := by simp; omega
    have i1 : IntKind.i64.wrap (((c + 1 : Nat) : Int) - 1) = (c : Int) := by rw [IntKind.wrap_i64]; omega
    have i2 : IntKind.i64.wrap (c : Int) = (c : Int) := by rw [IntKind.wrap_i64]; omega
    have i3 : ¬ ((c : Int) + 1 = 0) := by omega
    clear h hl ha hc hc2 k0 f0
    go_enter Tryz.func54, Tryz.ntmps54
    go_wp2
    first | (refine bodyPost_ret (results_none rfl _ _ _) rfl ?_; exact ⟨rfl, F1.out⟩) | (refine ⟨_, results_none rfl _ _ _, rfl, F1.out⟩) | (refine ⟨rfl, _, results_none rfl _ _ _, rfl, F1.out⟩)
end Go.Proofs.YtodbkihobgdpdaaGreatDoor
