/- An inference with more items to go: the same. An inference with more items to go: the same, all the way. Quotations that are called at once, dipped, chosen: what an inference makes of them. An inference's errors are errors; the soundness of quotations that are called, dipped, chosen. Quotations called at once, dipped, chosen: what Of makes of them. Measure of a tree and of what it is as items: the same; names are small. EffectQuotes: rows of a quotation and a name. -/
import Derived.Test.YtodbkihobgdpdaaGreatDoorGap
import Derived.Test.YtodbkihobgdpdaaGreatDoorGai
import Derived.Test.YtodbkihobgdpdaaGreatDoorGar
import Derived.Test.YtodbkihobgdpdaaGreatDoorGaq
namespace Go.Proofs.YtodbkihobgdpdaaGreatDoor
open Go.RowKit Go.Lib
set_option linter.unusedSimpArgs false
set_option linter.unusedVariables false
/-- with k more to go, and j more taken -/
def upE (k j : Nat) (s : Ist) : Ist := ⟨s.a + k, s.st, s.tk + j⟩
/-- what comes of a way with k more to go and j more taken, beside what comes of it with less: the same, if there is enough to go; else the way with less ends in 11 -/
def RelE (k j : Nat) (hi lo : Except Int Ist) : Prop := match hi with
  | .ok t => (k ≤ t.a ∧ ∃ u, lo = .ok u ∧ t = upE k j u) ∨ (t.a < k ∧ lo = .error 11)
  | .error e => lo = .error e ∨ lo = .error 11
theorem popE_up (k j : Nat) (s : Ist) : popE (upE k j s) = ((popE s).1, upE k j (popE s).2) := by
  unfold popE upE
  simp only
  split
  · simp; omega
  · rfl
theorem popsE_up (k j : Nat) : ∀ (n : Nat) (s : Ist), popsE n (upE k j s) = ((popsE n s).1, upE k j (popsE n s).2)
  | 0, s => rfl
  | n + 1, s => by
    show ((popE (upE k j s)).1 :: (popsE n (popE (upE k j s)).2).1, (popsE n (popE (upE k j s)).2).2) = _
    rw [popE_up]
    simp only
    rw [popsE_up k j n]
    rfl
theorem appE_up (k j i o : Nat) (s : Ist) : appE i o (upE k j s) = upE k j (appE i o s) := by
  unfold appE
  rw [popsE_up]
  rfl
theorem movE_up (k j n : Nat) (ps : List Nat) (s : Ist) : movE n ps (upE k j s) = upE k j (movE n ps s) := by
  unfold movE
  rw [popsE_up]
  rfl
theorem pushE_up (k j : Nat) (x : Ent) (s : Ist) : pushE x (upE k j s) = upE k j (pushE x s) := rfl
theorem quoE_up (k j : Nat) (s : Ist) : quoE (upE k j s) = bdE (quoE s) fun q => .ok (q.1, upE k j q.2) := by
  unfold quoE
  rw [popE_up]
  cases h : (popE s) with
  | mk x t =>
    cases x with
    | none => rfl
    | some l => rfl
theorem RelE.ok {k j : Nat} {u : Ist} : RelE k j (.ok (upE k j u)) (.ok u) := .inl ⟨by unfold upE; simp, u, rfl, rfl⟩
theorem RelE.err {k j : Nat} {e : Int} : RelE k j (.error e) (.error e) := .inl rfl
theorem RelE.cut {k j : Nat} {hi : Except Int Ist} (h : ∀ t, hi = .ok t → t.a < k) : RelE k j hi (.error 11) := by
  cases hi with
  | error e => exact .inr rfl
  | ok t => exact .inr ⟨h t rfl, rfl⟩
/-- one way behind another -/
theorem RelE.bind {k j j' : Nat} {hi lo : Except Int Ist} {f g : Ist → Except Int Ist} (h : RelE k j hi lo) (hf : ∀ t u, f t = .ok u → u.a ≤ t.a) (hg : ∀ u, RelE k j' (f (upE k j u)) (g u)) : RelE k j' (bdE hi f) (bdE lo g) := by
  cases hi with
  | error e =>
    rcases h with h | h
    · rw [h]; exact .inl rfl
    · rw [h]; exact .inr rfl
  | ok t =>
    rcases h with ⟨h1, u, h2, h3⟩ | ⟨h1, h2⟩
    · rw [h2, h3]
      exact hg u
    · rw [h2]
      show RelE k j' (f t) (.error 11)
      exact RelE.cut (fun u hu => by have := hf t u hu; omega)
theorem cntE_rel (k j : Nat) (s : Ist) : RelE k j (cntE (upE k j s)) (cntE s) := by
  unfold cntE upE
  simp only
  by_cases h : s.a = 0
  · rw [if_pos h]
    by_cases h2 : s.a + k = 0
    · rw [if_pos h2]; exact .inl rfl
    · rw [if_neg h2]
      exact .inr ⟨by simp only; omega, rfl⟩
  · rw [if_neg h, if_neg (by omega)]
    exact .inl ⟨by simp only; omega, _, rfl, by unfold upE; simp only; congr 1; omega⟩
end Go.Proofs.YtodbkihobgdpdaaGreatDoor
namespace Go.Proofs.YtodbkihobgdpdaaGreatDoor
open Go.RowKit Go.Lib
set_option linter.unusedSimpArgs false
set_option linter.unusedVariables false
theorem RelE.bindC {k j j' : Nat} {hi lo : Except Int Ist} {f g : Ist → Except Int Ist} (h : RelE k j hi lo) (hf : ∀ t u, f t = .ok u → u.a ≤ t.a) (hg : ∀ u, lo = .ok u → RelE k j' (f (upE k j u)) (g u)) : RelE k j' (bdE hi f) (bdE lo g) := by
  cases hi with
  | error e =>
    rcases h with h | h
    · rw [h]; exact .inl rfl
    · rw [h]; exact .inr rfl
  | ok t =>
    rcases h with ⟨h1, u, h2, h3⟩ | ⟨h1, h2⟩
    · rw [h2, h3]
      exact hg u h2
    · rw [h2]
      show RelE k j' (f t) (.error 11)
      exact RelE.cut (fun u hu => by have := hf t u hu; omega)
theorem RelE.quo {k j j' : Nat} {s : Ist} {f g : List Vt × Ist → Except Int Ist} (hg : ∀ q, quoE s = .ok q → RelE k j' (f (q.1, upE k j q.2)) (g q)) : RelE k j' (bdE (quoE (upE k j s)) f) (bdE (quoE s) g) := by
  rw [quoE_up]
  cases h : quoE s with
  | error e => exact .inl rfl
  | ok q => exact hg q h
/-- going on goes on to no more -/
def Dn (R : List Vt → Ist → Except Int Ist) : Prop := ∀ l s t, R l s = .ok t → t.a ≤ s.a
theorem ctl_rel {R Q : List Vt → Ist → Except Int Ist} {A k j : Nat} (hR : Dn R) (hQ : Dn Q) (hRQ : ∀ l s j, s.a ≤ A → RelE k j (R l (upE k j s)) (Q l s)) (kw : Nat) (s : Ist) (ha : s.a ≤ A) : RelE k j (ctlE R kw (upE k j s)) (ctlE Q kw s) := by
  have pa : ∀ u : Ist, (popE u).2.a = u.a := popE_a
  have qa : ∀ {u : Ist} {q : List Vt × Ist}, quoE u = .ok q → q.2.a = u.a := fun h => (quoE_pot h).1
  have aa : ∀ i o (u : Ist), (appE i o u).a = u.a := fun i o u => (appE_pot i o u).1
  have p0 : ∀ (b : Nat), (⟨b + k, [], 0⟩ : Ist) = upE k 0 ⟨b, [], 0⟩ := fun b => rfl
  unfold ctlE
  split
  · exact RelE.quo fun q hq => hRQ q.1 q.2 j (by rw [qa hq]; exact ha)
  split
  · refine RelE.quo fun q hq => ?_
    simp only [popE_up]
    refine RelE.bindC (hRQ q.1 (popE q.2).2 j (by rw [pa, qa hq]; exact ha)) (fun t u h => by injection h with h; rw [← h]; exact Nat.le_refl _) fun u hu => ?_
    rw [pushE_up]
    exact RelE.ok
  split
  · refine RelE.quo fun q hq => ?_
    simp only [popE_up, pushE_up]
    refine RelE.bindC (hRQ q.1 (pushE (popE q.2).1 (popE q.2).2) j (by show (popE q.2).2.a ≤ A; rw [pa, qa hq]; exact ha)) (fun t u h => by injection h with h; rw [← h]; exact Nat.le_refl _) fun u hu => ?_
    rw [pushE_up]
    exact RelE.ok
  split
  · refine RelE.quo fun q hq => RelE.quo fun r hr => ?_
    simp only [popE_up]
    have ha2 : (popE r.2).2.a ≤ A := by rw [pa, qa hr, qa hq]; exact ha
    refine RelE.bindC (j := 0) (hRQ r.1 ⟨(popE r.2).2.a, [], 0⟩ 0 ha2) (fun t u h => ?_) fun x hx => ?_
    · obtain ⟨y, hy, h⟩ := bdE_ok h
      have h1 := hR _ _ _ hy
      split at h
      · injection h with h
        rw [← h, aa]
        exact h1
      · exact nomatch h
    · have hxa := hQ _ _ _ hx
      simp only at hxa
      refine RelE.bindC (j := 0) (hRQ q.1 ⟨x.a, [], 0⟩ 0 (by show x.a ≤ A; omega)) (fun t u h => ?_) fun y hy => ?_
      · split at h
        · injection h with h
          rw [← h, aa]
          exact Nat.le_refl _
        · exact nomatch h
      · have e1 : (upE k 0 x).st = x.st := rfl
        have e2 : (upE k 0 x).tk = x.tk := rfl
        have e3 : (upE k 0 y).st = y.st := rfl
        have e4 : (upE k 0 y).tk = y.tk := rfl
        have e5 : (upE k 0 y).a = y.a + k := rfl
        simp only [e1, e2, e3, e4, e5]
        split
        · rw [show (⟨y.a + k, (upE k j (popE r.2).2).st, (upE k j (popE r.2).2).tk⟩ : Ist) = upE k j ⟨y.a, (popE r.2).2.st, (popE r.2).2.tk⟩ from rfl, appE_up]
          exact RelE.ok
        · exact RelE.err
  split
  · refine RelE.quo fun q hq => ?_
    simp only [popE_up]
    refine RelE.bindC (j := 0) (hRQ q.1 ⟨(popE q.2).2.a, [], 0⟩ 0 (by show (popE q.2).2.a ≤ A; rw [pa, qa hq]; exact ha)) (fun t u h => ?_) fun x hx => ?_
    · split at h
      · injection h with h
        rw [← h, aa]
        exact Nat.le_refl _
      · exact nomatch h
    · have e1 : (upE k 0 x).st = x.st := rfl
      have e2 : (upE k 0 x).tk = x.tk := rfl
      have e5 : (upE k 0 x).a = x.a + k := rfl
      simp only [e1, e2, e5]
      split
      · rw [show (⟨x.a + k, (upE k j (popE q.2).2).st, (upE k j (popE q.2).2).tk⟩ : Ist) = upE k j ⟨x.a, (popE q.2).2.st, (popE q.2).2.tk⟩ from rfl, appE_up]
        exact RelE.ok
      · exact RelE.err
  split
  · refine RelE.quo fun q hq => ?_
    refine RelE.bindC (j := 0) (hRQ q.1 ⟨q.2.a, [], 0⟩ 0 (by show q.2.a ≤ A; rw [qa hq]; exact ha)) (fun t u h => ?_) fun x hx => ?_
    · split at h
      · injection h with h
        rw [← h, aa]
        exact Nat.le_refl _
      · exact nomatch h
    · have e1 : (upE k 0 x).st = x.st := rfl
      have e2 : (upE k 0 x).tk = x.tk := rfl
      have e5 : (upE k 0 x).a = x.a + k := rfl
      simp only [e1, e2, e5]
      split
      · rw [show (⟨x.a + k, (upE k j q.2).st, (upE k j q.2).tk⟩ : Ist) = upE k j ⟨x.a, q.2.st, q.2.tk⟩ from rfl, appE_up]
        exact RelE.ok
      · exact RelE.err
  · refine RelE.quo fun q hq => ?_
    simp only [popE_up]
    refine RelE.bindC (j := 0) (hRQ q.1 ⟨(popE q.2).2.a, [], 0⟩ 0 (by show (popE q.2).2.a ≤ A; rw [pa, qa hq]; exact ha)) (fun t u h => ?_) fun x hx => ?_
    · split at h
      · injection h with h
        rw [← h, aa]
        exact Nat.le_refl _
      · exact nomatch h
    · have e1 : (upE k 0 x).st = x.st := rfl
      have e2 : (upE k 0 x).tk = x.tk := rfl
      have e5 : (upE k 0 x).a = x.a + k := rfl
      simp only [e1, e2, e5]
      split
      · rw [show (⟨x.a + k, (upE k j (popE q.2).2).st, (upE k j (popE q.2).2).tk⟩ : Ist) = upE k j ⟨x.a, (popE q.2).2.st, (popE q.2).2.tk⟩ from rfl, appE_up]
        exact RelE.ok
      · exact RelE.err
theorem itm_dn {W : ByteArray → Option (Nat × Nat)} (hW : WdOk W) (n : Nat) : Dn (thrL (itmE W n)) := fun l s t h => (thrE_pot hW n l s t h).1
theorem thr_rel_of {I J : Vt → Ist → Except Int Ist} {A k : Nat} (hI : ∀ x s t, I x s = .ok t → t.a ≤ s.a) (hJ : ∀ x s t, J x s = .ok t → t.a ≤ s.a) (h : ∀ x s j, s.a ≤ A → RelE k j (I x (upE k j s)) (J x s)) : ∀ (l : List Vt) (s : Ist) (j : Nat), s.a ≤ A → RelE k j (thrL I l (upE k j s)) (thrL J l s)
  | [], s, j, _ => RelE.ok
  | x :: l, s, j, ha => by
    have hd : ∀ (l : List Vt) (s t : Ist), thrL I l s = .ok t → t.a ≤ s.a := by
      intro l
      induction l with
      | nil => intro s t h; injection h with h; rw [h]; exact Nat.le_refl _
      | cons y r ih =>
        intro s t h
        obtain ⟨u, hu, h⟩ := bdE_ok h
        have := hI _ _ _ hu
        have := ih u t h
        omega
    exact RelE.bindC (h x s j ha) (fun t u hu => hd l t u hu) fun u hu => thr_rel_of hI hJ h l u j (by have := hJ _ _ _ hu; omega)
theorem itm_rel {W : ByteArray → Option (Nat × Nat)} (hW : WdOk W) : ∀ (n m : Nat) (x : Vt) (s : Ist) (k j : Nat), s.a < n → s.a + k < m → RelE k j (itmE W m x (upE k j s)) (itmE W n x s)
  | 0, _, _, s, _, _, h, _ => absurd h (Nat.not_lt_zero _)
  | n + 1, 0, _, _, _, _, _, h => absurd h (Nat.not_lt_zero _)
  | n + 1, m + 1, x, s, k, j, hn, hm => by
    unfold itmE
    split
    · split
      · cases plnE W x.s with
        | none => exact RelE.err
        | some e =>
          simp only
          refine RelE.bindC (cntE_rel k j s) (fun t u h => ?_) fun u hu => ?_
          · injection h with h
            rw [← h]
            split
            · exact Nat.le_of_eq (movE_pot _ _ _).1
            · exact Nat.le_of_eq (appE_pot _ _ _).1
          · cases mvP x.s with
            | none => simp only [appE_up]; exact RelE.ok
            | some ps => simp only [movE_up]; exact RelE.ok
      · refine RelE.bindC (cntE_rel k j s) (fun t u h => (ctlE_pot (fun l s t h => thrE_pot hW m l s t h) h).1) fun u hu => ?_
        have hc := cntE_ok hu
        refine ctl_rel (A := u.a) (itm_dn hW m) (itm_dn hW n) (fun l s2 j2 h2 => ?_) (kwd x.s) u (Nat.le_refl _)
        refine thr_rel_of (A := u.a) (fun x s t h => (itmE_pot hW m x s t h).1) (fun x s t h => (itmE_pot hW n x s t h).1) (fun y s3 j3 h3 => ?_) l s2 j2 h2
        exact itm_rel hW n m y s3 k j3 (by omega) (by omega)
    · split
      · exact RelE.ok
      · refine RelE.bindC (cntE_rel k j s) (fun t u h => by injection h with h; rw [← h]; exact Nat.le_refl _) fun u hu => ?_
        rw [pushE_up]
        exact RelE.ok
/-- items with k more to go, and j more taken from below -/
theorem thr_rel {W : ByteArray → Option (Nat × Nat)} (hW : WdOk W) {n m : Nat} {l : List Vt} {s : Ist} {k j : Nat} (hn : s.a < n) (hm : s.a + k < m) : RelE k j (thrE W m l (upE k j s)) (thrE W n l s) :=
  thr_rel_of (A := s.a) (fun x s t h => (itmE_pot hW m x s t h).1) (fun x s t h => (itmE_pot hW n x s t h).1) (fun y s3 j3 h3 => itm_rel hW n m y s3 k j3 (by omega) (by omega)) l s j (Nat.le_refl _)
end Go.Proofs.YtodbkihobgdpdaaGreatDoor
namespace Go.Proofs.YtodbkihobgdpdaaGreatDoor
open Go.RowKit Go.Lib
set_option linter.unusedSimpArgs false
set_option linter.unusedVariables false
/-- a call of a name -/
def caT (s : ByteArray) : Vt := ⟨7, 0, s, []⟩
theorem itm_quo {W : ByteArray → Option (Nat × Nat)} {n a : Nat} {L : List Vt} {st : List Ent} {tk : Nat} : itmE W (n + 1) (qT L) ⟨a + 1, st, tk⟩ = .ok ⟨a, st ++ [some L], tk⟩ := by
  unfold itmE
  rw [if_neg (show ¬ (qT L).k = 7 by show ¬ (5 : Int) = 7; omega), if_neg (show ¬ (qT L).k = 8 by show ¬ (5 : Int) = 8; omega), if_pos (show (qT L).k = 5 from rfl)]
  rfl
theorem itm_ctl {W : ByteArray → Option (Nat × Nat)} {n a kw : Nat} {s : ByteArray} {st : List Ent} {tk : Nat} (hk : kwd s = kw) (h0 : kw ≠ 0) : itmE W (n + 1) (caT s) ⟨a + 1, st, tk⟩ = ctlE (thrL (itmE W n)) kw ⟨a, st, tk⟩ := by
  unfold itmE
  rw [if_pos (show (caT s).k = 7 from rfl), if_neg (show ¬ kwd (caT s).s = 0 by show ¬ kwd s = 0; rw [hk]; exact h0)]
  show bdE (cntE _) _ = _
  rw [show kwd (caT s).s = kw from hk]
  rfl
/-- a quotation that is called at once -/
theorem called_eq {W : ByteArray → Option (Nat × Nat)} {L : List Vt} : thrE W 4097 [qT L, caT ⟨#[99, 97, 108, 108]⟩] ⟨4096, [], 0⟩ = thrE W 4096 L ⟨4094, [], 0⟩ := by
  show bdE (itmE W (4096 + 1) (qT L) ⟨4095 + 1, [], 0⟩) (thrL (itmE W 4097) [caT ⟨#[99, 97, 108, 108]⟩]) = _
  rw [itm_quo]
  show bdE (itmE W (4096 + 1) (caT ⟨#[99, 97, 108, 108]⟩) ⟨4094 + 1, [some L], 0⟩) (thrL (itmE W 4097) []) = _
  rw [itm_ctl (kw := 1) (by kernel_rfl) (by decide)]
  show bdE (thrL (itmE W 4096) L ⟨4094, [], 0⟩) (fun s => .ok s) = thrL (itmE W 4096) L ⟨4094, [], 0⟩
  cases thrL (itmE W 4096) L ⟨4094, [], 0⟩ <;> rfl
/-- one that is dipped -/
theorem dipped_eq {W : ByteArray → Option (Nat × Nat)} {L : List Vt} : thrE W 4097 [qT L, caT ⟨#[100, 105, 112]⟩] ⟨4096, [], 0⟩ = bdE (thrE W 4096 L ⟨4094, [], 1⟩) fun t => .ok (pushE none t) := by
  show bdE (itmE W (4096 + 1) (qT L) ⟨4095 + 1, [], 0⟩) (thrL (itmE W 4097) [caT ⟨#[100, 105, 112]⟩]) = _
  rw [itm_quo]
  show bdE (itmE W (4096 + 1) (caT ⟨#[100, 105, 112]⟩) ⟨4094 + 1, [some L], 0⟩) (thrL (itmE W 4097) []) = _
  rw [itm_ctl (kw := 2) (by kernel_rfl) (by decide)]
  show bdE (bdE (thrL (itmE W 4096) L ⟨4094, [], 1⟩) fun t => .ok (pushE none t)) (fun s => .ok s) = bdE (thrL (itmE W 4096) L ⟨4094, [], 1⟩) fun t => .ok (pushE none t)
  cases thrL (itmE W 4096) L ⟨4094, [], 1⟩ <;> rfl
/-- what comes of two quotations of which one is chosen -/
def chE (R : List Vt → Ist → Except Int Ist) (L M : List Vt) : Except Int Ist := bdE (R L ⟨4093, [], 0⟩) fun x => bdE (R M ⟨x.a, [], 0⟩) fun y =>
  if (x.st.length : Int) - x.tk = y.st.length - y.tk then .ok (appE (if x.tk < y.tk then y.tk else x.tk) (if x.tk < y.tk then y.st.length else x.st.length) ⟨y.a, [], 1⟩) else .error 12
theorem chosen_eq {W : ByteArray → Option (Nat × Nat)} {L M : List Vt} : thrE W 4097 [qT L, qT M, caT ⟨#[105, 102]⟩] ⟨4096, [], 0⟩ = chE (thrE W 4096) L M := by
  show bdE (itmE W (4096 + 1) (qT L) ⟨4095 + 1, [], 0⟩) (thrL (itmE W 4097) [qT M, caT ⟨#[105, 102]⟩]) = _
  rw [itm_quo]
  show bdE (itmE W (4096 + 1) (qT M) ⟨4094 + 1, [some L], 0⟩) (thrL (itmE W 4097) [caT ⟨#[105, 102]⟩]) = _
  rw [itm_quo]
  show bdE (itmE W (4096 + 1) (caT ⟨#[105, 102]⟩) ⟨4093 + 1, [some L, some M], 0⟩) (thrL (itmE W 4097) []) = _
  rw [itm_ctl (kw := 4) (by kernel_rfl) (by decide)]
  show bdE (chE (thrE W 4096) L M) (fun s => .ok s) = _
  cases chE (thrE W 4096) L M <;> rfl
/-- both branches may change places -/
theorem ch_turn {W : ByteArray → Option (Nat × Nat)} (hW : WdOk W) {L M : List Vt} {t : Ist} (h : chE (thrE W 4096) L M = .ok t) : chE (thrE W 4096) M L = .ok t := by
  unfold chE at h
  obtain ⟨x, hx, h⟩ := bdE_ok h
  obtain ⟨y, hy, h⟩ := bdE_ok h
  have hxa := (thrE_pot hW 4096 _ _ _ hx).1
  have hya := (thrE_pot hW 4096 _ _ _ hy).1
  simp only at hxa hya
  have r1 := thr_rel hW (n := 4096) (m := 4096) (l := M) (s := ⟨x.a, [], 0⟩) (k := 4093 - x.a) (j := 0) (by simp only; omega) (by simp only; omega)
  rw [show upE (4093 - x.a) 0 ⟨x.a, [], 0⟩ = ⟨4093, [], 0⟩ by unfold upE; simp only; congr 1; omega, hy] at r1
  have h1 : thrE W 4096 M ⟨4093, [], 0⟩ = .ok (upE (4093 - x.a) 0 y) := by
    cases hh : thrE W 4096 M ⟨4093, [], 0⟩ with
    | error e => rw [hh] at r1; rcases r1 with r | r <;> exact nomatch r
    | ok u =>
      rw [hh] at r1
      rcases r1 with ⟨_, v, e1, e2⟩ | ⟨_, e1⟩
      · injection e1 with e1
        rw [e2, e1]
      · exact nomatch e1
  have r2 := thr_rel hW (n := 4096) (m := 4096) (l := L) (s := ⟨y.a + (4093 - x.a), [], 0⟩) (k := x.a - y.a) (j := 0) (by simp only; omega) (by simp only; omega)
  rw [show upE (x.a - y.a) 0 ⟨y.a + (4093 - x.a), [], 0⟩ = ⟨4093, [], 0⟩ by unfold upE; simp only; congr 1; omega, hx] at r2
  have h2 : thrE W 4096 L ⟨y.a + (4093 - x.a), [], 0⟩ = .ok ⟨y.a, x.st, x.tk⟩ := by
    rcases r2 with ⟨_, u, e1, e2⟩ | ⟨e1, _⟩
    · rw [e1]
      have e3 : x.a = u.a + (x.a - y.a) := congrArg Ist.a e2
      have e4 : x.st = (upE (x.a - y.a) 0 u).st := congrArg Ist.st e2
      have e5 : x.tk = (upE (x.a - y.a) 0 u).tk := congrArg Ist.tk e2
      obtain ⟨ua, us, ut⟩ := u
      simp only [upE] at e3 e4 e5
      congr 1
      rw [e4, e5]
      congr 1
      omega
    · omega
  unfold chE
  rw [h1]
  simp only [bdE]
  rw [show (upE (4093 - x.a) 0 y).a = y.a + (4093 - x.a) from rfl, h2]
  simp only
  rw [show (upE (4093 - x.a) 0 y).st = y.st from rfl, show (upE (4093 - x.a) 0 y).tk = y.tk from rfl]
  split at h
  · rename_i hc
    rw [if_pos hc.symm]
    injection h with h
    rw [← h]
    congr 2
    · split <;> split <;> omega
    · split <;> split <;> omega
  · exact nomatch h
end Go.Proofs.YtodbkihobgdpdaaGreatDoor
namespace Go.Proofs.YtodbkihobgdpdaaGreatDoor
open Go.RowKit Go.Lib
set_option linter.unusedSimpArgs false
set_option linter.unusedVariables false
/-- no error is 0 -/
def Nz {α : Type} (r : Except Int α) : Prop := ∀ e, r = .error e → e ≠ 0
theorem nz_ok {α : Type} {a : α} : Nz (.ok a : Except Int α) := fun _ h => nomatch h
theorem nz_err {α : Type} {e : Int} (h : e ≠ 0) : Nz (.error e : Except Int α) := fun x hx => by injection hx with hx; rw [← hx]; exact h
theorem nz_bd {α β : Type} {x : Except Int α} {f : α → Except Int β} (h : Nz x) (hf : ∀ a, Nz (f a)) : Nz (bdE x f) := by
  cases x with
  | error e => exact nz_err (h e rfl)
  | ok a => exact hf a
theorem nz_if {α : Type} {c : Prop} [Decidable c] {x y : Except Int α} (hx : Nz x) (hy : Nz y) : Nz (if c then x else y) := by
  split
  · exact hx
  · exact hy
theorem nz_quo (s : Ist) : Nz (quoE s) := by
  unfold quoE
  split
  · exact nz_err (by decide)
  · exact nz_ok
theorem nz_cnt (s : Ist) : Nz (cntE s) := nz_if (nz_err (by decide)) nz_ok
theorem nz_ctl {R : List Vt → Ist → Except Int Ist} (hR : ∀ l s, Nz (R l s)) (k : Nat) (s : Ist) : Nz (ctlE R k s) := by
  unfold ctlE
  refine nz_if (nz_bd (nz_quo s) fun q => hR _ _) ?_
  refine nz_if (nz_bd (nz_quo s) fun q => nz_bd (hR _ _) fun t => nz_ok) ?_
  refine nz_if (nz_bd (nz_quo s) fun q => nz_bd (hR _ _) fun t => nz_ok) ?_
  refine nz_if (nz_bd (nz_quo s) fun q => nz_bd (nz_quo _) fun y => nz_bd (hR _ _) fun t => nz_bd (hR _ _) fun u => nz_if nz_ok (nz_err (by decide))) ?_
  refine nz_if (nz_bd (nz_quo s) fun q => nz_bd (hR _ _) fun t => nz_if nz_ok (nz_err (by decide))) ?_
  refine nz_if (nz_bd (nz_quo s) fun q => nz_bd (hR _ _) fun t => nz_if nz_ok (nz_err (by decide))) ?_
  exact nz_bd (nz_quo s) fun q => nz_bd (hR _ _) fun t => nz_if nz_ok (nz_err (by decide))
theorem nz_thrL {I : Vt → Ist → Except Int Ist} (hI : ∀ x s, Nz (I x s)) : ∀ (l : List Vt) (s : Ist), Nz (thrL I l s)
  | [], s => nz_ok
  | x :: l, s => nz_bd (hI x s) fun t => nz_thrL hI l t
theorem nz_itm {W : ByteArray → Option (Nat × Nat)} : ∀ (n : Nat) (x : Vt) (s : Ist), Nz (itmE W n x s)
  | 0, x, s => nz_err (by decide)
  | n + 1, x, s => by
    unfold itmE
    split
    · split
      · split
        · exact nz_err (by decide)
        · exact nz_bd (nz_cnt s) fun t => nz_ok
      · exact nz_bd (nz_cnt s) fun t => nz_ctl (fun l s => nz_thrL (nz_itm n) l s) _ _
    · split
      · exact nz_ok
      · exact nz_bd (nz_cnt s) fun t => nz_ok
theorem nz_thr {W : ByteArray → Option (Nat × Nat)} (n : Nat) (l : List Vt) (s : Ist) : Nz (thrE W n l s) := nz_thrL (nz_itm n) l s
theorem nz_wh {r : Except Int Ist} (h : Nz r) : Nz (whE r) := nz_bd h fun t => nz_if nz_ok (nz_err (by decide))
/-- size and depth of a row of items -/
def sL (e : Nat) (L : List Vt) : Nat := (L.map (szD e)).sum
def pL (e : Nat) (L : List Vt) : Nat := (L.map (dpD e)).foldl max 0
theorem lf_q {e : Nat} {L : List Vt} (h : ∀ x ∈ L, LfT e x) : LfT (e + 1) (qT L) := ⟨fun g => absurd (.inr rfl) g, h⟩
theorem lf_c {e : Nat} {s : ByteArray} : LfT (e + 1) (caT s) := ⟨fun _ => rfl, fun x hx => by cases hx⟩
theorem okD_q {e : Nat} {L : List Vt} {i : Bool} : okD (e + 1) i (qT L) = L.all (okD e true) := rfl
theorem okD_c {e : Nat} {s : ByteArray} : okD (e + 1) true (caT s) = clB s := rfl
theorem szD_q {e : Nat} {L : List Vt} : szD (e + 1) (qT L) = 1 + sL e L := rfl
theorem dpD_q {e : Nat} {L : List Vt} : dpD (e + 1) (qT L) = 1 + pL e L := rfl
theorem sd_q {e F : Nat} {L : List Vt} (h : ∀ x ∈ L, LfT e x) (hF : 2 * (e + 1) + 1 ≤ F) : sdB F (qT L) = true ↔ L.all (okD e true) = true ∧ 1 + sL e L ≤ 1024 ∧ 1 + pL e L ≤ 32 := by
  obtain ⟨h1, h2, h3⟩ := ok_eq (e + 1) (qT L) (lf_q h) false F (by simpa using hF)
  unfold sdB msB
  rw [h1, h2, h3, okD_q, szD_q, dpD_q]
  simp only [Bool.and_eq_true, decide_eq_true_eq, Nat.zero_add, and_assoc]
theorem sd_two {e F : Nat} {L : List Vt} {s : ByteArray} (h : ∀ x ∈ L, LfT e x) (hF : 2 * (e + 2) + 1 ≤ F) : sdB F (qT [qT L, caT s]) = true ↔ (L.all (okD e true) = true ∧ clB s = true) ∧ 3 + sL e L ≤ 1024 ∧ 2 + pL e L ≤ 32 := by
  rw [sd_q (e := e + 1) (fun x hx => by
    rcases List.mem_cons.1 hx with rfl | hx
    · exact lf_q h
    · rcases List.mem_cons.1 hx with rfl | hx
      · exact lf_c
      · cases hx) hF]
  have e1 : sL (e + 1) [qT L, caT s] = (1 + sL e L) + (1 + 0) := rfl
  have e2 : pL (e + 1) [qT L, caT s] = max (max 0 (1 + pL e L)) 0 := rfl
  have e3 : [qT L, caT s].all (okD (e + 1) true) = (L.all (okD e true) && (clB s && true)) := rfl
  rw [e1, e2, e3]
  simp only [Bool.and_eq_true, and_true]
  constructor
  · rintro ⟨a, b, c⟩; exact ⟨a, by omega, by omega⟩
  · rintro ⟨a, b, c⟩; exact ⟨a, by omega, by omega⟩
theorem sd_three {e F : Nat} {L M : List Vt} {s : ByteArray} (h : ∀ x ∈ L, LfT e x) (h' : ∀ x ∈ M, LfT e x) (hF : 2 * (e + 2) + 1 ≤ F) : sdB F (qT [qT L, qT M, caT s]) = true ↔ (L.all (okD e true) = true ∧ M.all (okD e true) = true ∧ clB s = true) ∧ 4 + sL e L + sL e M ≤ 1024 ∧ 2 + pL e L ≤ 32 ∧ 2 + pL e M ≤ 32 := by
  rw [sd_q (e := e + 1) (fun x hx => by
    rcases List.mem_cons.1 hx with rfl | hx
    · exact lf_q h
    · rcases List.mem_cons.1 hx with rfl | hx
      · exact lf_q h'
      · rcases List.mem_cons.1 hx with rfl | hx
        · exact lf_c
        · cases hx) hF]
  have e1 : sL (e + 1) [qT L, qT M, caT s] = (1 + sL e L) + ((1 + sL e M) + (1 + 0)) := rfl
  have e2 : pL (e + 1) [qT L, qT M, caT s] = max (max (max 0 (1 + pL e L)) (1 + pL e M)) 0 := rfl
  have e3 : [qT L, qT M, caT s].all (okD (e + 1) true) = (L.all (okD e true) && (M.all (okD e true) && (clB s && true))) := rfl
  rw [e1, e2, e3]
  simp only [Bool.and_eq_true, and_true]
  constructor
  · rintro ⟨a, b, c⟩; exact ⟨a, by omega, by omega, by omega⟩
  · rintro ⟨a, b, c, d⟩; exact ⟨a, by omega, by omega⟩
end Go.Proofs.YtodbkihobgdpdaaGreatDoor
namespace Go.Proofs.YtodbkihobgdpdaaGreatDoor
open Go.RowKit Go.Lib
set_option linter.unusedSimpArgs false
set_option linter.unusedVariables false
def nCall : ByteArray := ⟨#[99, 97, 108, 108]⟩
def nDip : ByteArray := ⟨#[100, 105, 112]⟩
def nIf : ByteArray := ⟨#[105, 102]⟩
theorem cl_call : clB nCall = true := by kernel_rfl
theorem cl_dip : clB nDip = true := by kernel_rfl
theorem cl_if : clB nIf = true := by kernel_rfl
theorem wd_nil : WdOk (fun s => fsF s []) := fun s e h => nomatch h
theorem oF_sd {d : Nat} {l : List Vt} (h : sdB (d + 1) (qT l) = true) : oF d l [] = ofR (whE (thrE (fun s => fsF s []) 4097 l ⟨4096, [], 0⟩)) := by
  unfold oF
  rw [if_pos ⟨h, rfl⟩]
theorem oF_no {d : Nat} {l : List Vt} (h : ¬ sdB (d + 1) (qT l) = true) : oF d l [] = (0, 0, 1) := by
  unfold oF
  rw [if_neg (fun g => h g.1)]
theorem ofR_nz {r : Except Int Ist} (h : Nz r) : (ofR r).2.2 = 0 ↔ ∃ t, r = .ok t := by
  cases r with
  | error e => exact ⟨fun g => absurd g (h e rfl), fun ⟨t, g⟩ => nomatch g⟩
  | ok t => exact ⟨fun _ => ⟨t, rfl⟩, fun _ => rfl⟩
/-- what the law asks of a quotation that is called at once, and of one that is dipped; sd: the row with call is sound -/
def QcB (sd : Bool) (r1 r2 r3 : Nat × Nat × Int) : Prop :=
  (r1.2.2 ≠ 0 → r2.2.2 ≠ 0) ∧ (r1.2.2 = 0 → r2.2.2 ≠ 0 → (sd = false ∧ r2.2.2 = 1) ∨ r2.2.2 = 11) ∧ (r1.2.2 = 0 → r2.2.2 = 0 → r2.1 = r1.1 ∧ r2.2.1 = r1.2.1 ∧ ((r3.2.2 = 0 ∧ r3.1 = r1.1 + 1 ∧ r3.2.1 = r1.2.1 + 1) ∨ r3.2.2 = 11))
theorem qc_of {e d1 d2 d3 : Nat} {L : List Vt} (h : ∀ x ∈ L, LfT e x) (h1 : 2 * (e + 1) + 1 ≤ d1 + 1) (h2 : 2 * (e + 2) + 1 ≤ d2 + 1) (h3 : 2 * (e + 2) + 1 ≤ d3 + 1) :
    QcB (sdB (d2 + 1) (qT [qT L, caT nCall])) (oF d1 L []) (oF d2 [qT L, caT nCall] []) (oF d3 [qT L, caT nDip] []) := by
  have s1 := sd_q h h1
  have s2 := sd_two (s := nCall) h h2
  have s3 := sd_two (s := nDip) h h3
  rw [cl_call] at s2
  rw [cl_dip] at s3
  by_cases c2 : sdB (d2 + 1) (qT [qT L, caT nCall]) = true
  · obtain ⟨⟨a1, _⟩, a2, a3⟩ := s2.1 c2
    have q1 := oF_sd (s1.2 ⟨a1, by omega, by omega⟩)
    have q2 := oF_sd c2
    have q3 := oF_sd (s3.2 ⟨⟨a1, rfl⟩, a2, a3⟩)
    rw [show ([qT L, caT nCall] : List Vt) = [qT L, caT ⟨#[99, 97, 108, 108]⟩] from rfl, called_eq] at q2
    rw [show ([qT L, caT nDip] : List Vt) = [qT L, caT ⟨#[100, 105, 112]⟩] from rfl, dipped_eq] at q3
    have n1 := nz_thr (W := fun s => fsF s []) 4097 L ⟨4096, [], 0⟩
    have n2 := nz_thr (W := fun s => fsF s []) 4096 L ⟨4094, [], 0⟩
    have r1 := thr_rel wd_nil (n := 4096) (m := 4097) (l := L) (s := ⟨4094, [], 0⟩) (k := 2) (j := 0) (by simp only; omega) (by simp only; omega)
    have r2 := thr_rel wd_nil (n := 4096) (m := 4096) (l := L) (s := ⟨4094, [], 0⟩) (k := 0) (j := 1) (by simp only; omega) (by simp only; omega)
    rw [show upE 2 0 ⟨4094, [], 0⟩ = ⟨4096, [], 0⟩ from rfl] at r1
    rw [show upE 0 1 ⟨4094, [], 0⟩ = ⟨4094, [], 1⟩ from rfl] at r2
    rw [show ([qT L, caT nCall] : List Vt) = [qT L, caT ⟨#[99, 97, 108, 108]⟩] from rfl, show ([qT L, caT nDip] : List Vt) = [qT L, caT ⟨#[100, 105, 112]⟩] from rfl, q1, q2, q3]
    revert r1 r2 n1 n2
    generalize thrE (fun s => fsF s []) 4097 L ⟨4096, [], 0⟩ = X
    generalize thrE (fun s => fsF s []) 4096 L ⟨4094, [], 0⟩ = Y
    generalize thrE (fun s => fsF s []) 4096 L ⟨4094, [], 1⟩ = Z
    intro n1 n2 r1 r2
    cases X with
    | error ex =>
      have hx := n1 ex rfl
      refine ⟨fun _ => ?_, fun g => absurd g hx, fun g => absurd g hx⟩
      rcases r1 with rfl | rfl
      · exact hx
      · show ¬ (11 : Int) = 0; omega
    | ok t =>
      rcases r1 with ⟨b1, u, rfl, b3⟩ | ⟨b1, rfl⟩
      · have b4 : t.st = u.st := by rw [b3]; rfl
        have b5 : t.tk = u.tk := by rw [b3]; rfl
        have w1 : whE (.ok t) = if u.tk ≤ 16 ∧ u.st.length ≤ 16 then .ok t else .error 11 := by rw [← b4, ← b5]; rfl
        have w2 : whE (.ok u) = if u.tk ≤ 16 ∧ u.st.length ≤ 16 then .ok u else .error 11 := rfl
        rw [w1, w2]
        by_cases c : u.tk ≤ 16 ∧ u.st.length ≤ 16
        · rw [if_pos c, if_pos c]
          refine ⟨fun g => absurd rfl g, fun _ g => absurd rfl g, fun _ _ => ⟨b5.symm, by show u.st.length = t.st.length; rw [b4], ?_⟩⟩
          cases Z with
          | error ez => rcases r2 with r | r <;> exact nomatch r
          | ok z =>
            rcases r2 with ⟨_, v, e1, e2⟩ | ⟨_, e1⟩
            · injection e1 with e1
              subst e1
              have z4 : z.st = u.st := by rw [e2]; rfl
              have z5 : z.tk = u.tk + 1 := by rw [e2]; rfl
              have w3 : whE (bdE (.ok z) fun t => .ok (pushE none t)) = if z.tk ≤ 16 ∧ (z.st ++ [none]).length ≤ 16 then .ok (pushE none z) else .error 11 := rfl
              rw [w3]
              by_cases c' : z.tk ≤ 16 ∧ (z.st ++ [none]).length ≤ 16
              · rw [if_pos c']
                refine .inl ⟨rfl, ?_, ?_⟩
                · show z.tk = t.tk + 1; omega
                · show (z.st ++ [none]).length = t.st.length + 1; rw [z4, b4]; simp
              · rw [if_neg c']
                exact .inr rfl
            · exact nomatch e1
        · rw [if_neg c, if_neg c]
          refine ⟨fun _ => ?_, fun g => ?_, fun g => ?_⟩
          · show ¬ (11 : Int) = 0; omega
          · exact absurd (show (11 : Int) = 0 from g) (by omega)
          · exact absurd (show (11 : Int) = 0 from g) (by omega)
      · refine ⟨fun _ => ?_, fun _ _ => .inr rfl, fun _ g => ?_⟩
        · show ¬ (11 : Int) = 0; omega
        · exact absurd (show (11 : Int) = 0 from g) (by omega)
  · rw [oF_no c2]
    refine ⟨fun _ => ?_, fun _ _ => .inl ⟨by simpa using c2, rfl⟩, fun _ g => ?_⟩
    · show ¬ (1 : Int) = 0; omega
    · exact absurd (show (1 : Int) = 0 from g) (by omega)
/-- both branches of an if may change places -/
theorem qi_of {e d1 d2 : Nat} {L M : List Vt} (h : ∀ x ∈ L, LfT e x) (h' : ∀ x ∈ M, LfT e x) (h1 : 2 * (e + 2) + 1 ≤ d1 + 1) (h2 : 2 * (e + 2) + 1 ≤ d2 + 1) :
    ((oF d1 [qT L, qT M, caT nIf] []).2.2 = 0 ↔ (oF d2 [qT M, qT L, caT nIf] []).2.2 = 0) ∧ (oF d1 [qT L, qT M, caT nIf] []).1 = (oF d2 [qT M, qT L, caT nIf] []).1 ∧ (oF d1 [qT L, qT M, caT nIf] []).2.1 = (oF d2 [qT M, qT L, caT nIf] []).2.1 := by
  have s1 := sd_three (s := nIf) h h' h1
  have s2 := sd_three (s := nIf) h' h h2
  by_cases c : sdB (d1 + 1) (qT [qT L, qT M, caT nIf]) = true
  · obtain ⟨⟨a1, a2, a3⟩, a4, a5, a6⟩ := s1.1 c
    have q1 := oF_sd c
    have q2 := oF_sd (s2.2 ⟨⟨a2, a1, a3⟩, by omega, a6, a5⟩)
    rw [show ([qT L, qT M, caT nIf] : List Vt) = [qT L, qT M, caT ⟨#[105, 102]⟩] from rfl, chosen_eq] at q1
    rw [show ([qT M, qT L, caT nIf] : List Vt) = [qT M, qT L, caT ⟨#[105, 102]⟩] from rfl, chosen_eq] at q2
    rw [show ([qT L, qT M, caT nIf] : List Vt) = [qT L, qT M, caT ⟨#[105, 102]⟩] from rfl, show ([qT M, qT L, caT nIf] : List Vt) = [qT M, qT L, caT ⟨#[105, 102]⟩] from rfl, q1, q2]
    have t1 : ∀ t, chE (thrE (fun s => fsF s []) 4096) L M = .ok t → chE (thrE (fun s => fsF s []) 4096) M L = .ok t := fun t => ch_turn wd_nil
    have t2 : ∀ t, chE (thrE (fun s => fsF s []) 4096) M L = .ok t → chE (thrE (fun s => fsF s []) 4096) L M = .ok t := fun t => ch_turn wd_nil
    have nz : ∀ A B, Nz (chE (thrE (fun s => fsF s []) 4096) A B) := fun A B => nz_bd (nz_thr _ _ _) fun x => nz_bd (nz_thr _ _ _) fun y => nz_if nz_ok (nz_err (by decide))
    have n1 := nz L M
    have n2 := nz M L
    revert t1 t2 n1 n2
    generalize chE (thrE (fun s => fsF s []) 4096) L M = X
    generalize chE (thrE (fun s => fsF s []) 4096) M L = Y
    intro t1 t2 n1 n2
    cases X with
    | ok t => rw [t1 t rfl]; exact ⟨Iff.rfl, rfl, rfl⟩
    | error ex =>
      cases Y with
      | ok t => exact nomatch t2 t rfl
      | error ey =>
        have e1 := n1 ex rfl
        have e2 := n2 ey rfl
        exact ⟨⟨fun g => absurd g e1, fun g => absurd g e2⟩, rfl, rfl⟩
  · rw [oF_no c, oF_no (fun g => by
      obtain ⟨⟨a1, a2, a3⟩, a4, a5, a6⟩ := s2.1 g
      exact c (s1.2 ⟨⟨a2, a1, a3⟩, by omega, a6, a5⟩))]
    exact ⟨Iff.rfl, rfl, rfl⟩
end Go.Proofs.YtodbkihobgdpdaaGreatDoor
namespace Go.Proofs.YtodbkihobgdpdaaGreatDoor
open Go.RowKit Go.Lib
set_option linter.unusedSimpArgs false
set_option linter.unusedVariables false
theorem dec_le (s : ByteArray) (i : Nat) : (Utf8.decode s i).2 ≤ 4 := by
  unfold Utf8.decode
  simp only
  repeat' split
  all_goals simp
theorem size_rns : ∀ (n : Nat) (s : ByteArray), s.size ≤ n → s.size ≤ 4 * (rns s).length
  | 0, s, h => by omega
  | n + 1, s, h => by
    by_cases h0 : 0 < s.size
    · rw [rns_cons h0]
      have h1 := wid_pos s 0 h0
      have h2 := dec_le s 0
      have h3 : (s.extract (Utf8.decode s 0).2 s.size).size = s.size - (Utf8.decode s 0).2 := by simp
      have h4 := size_rns n (s.extract (Utf8.decode s 0).2 s.size) (by omega)
      rw [List.length_cons]
      omega
    · omega
theorem nmL_len : ∀ (l : List Nat) (k : Nat), k ≤ 32 → nmL l k = true → l.length + k ≤ 32
  | [], k, hk, _ => by simpa using hk
  | c :: l, k, hk, h => by
    unfold nmL at h
    split at h
    · exact nomatch h
    · rename_i hc
      have := nmL_len l (k + 1) (by omega) h
      rw [List.length_cons]
      omega
theorem cl_small {s : ByteArray} (h : clB s = true) : s.size ≤ 268435456 := by
  unfold clB nameB at h
  simp only [Bool.and_eq_true] at h
  have h1 := h.1.2
  unfold nmdB at h1
  split at h1
  · exact nomatch h1
  split at h1
  · exact nomatch h1
  have := nmL_len _ _ (by omega) h1
  have := size_rns s.size s (Nat.le_refl _)
  omega
theorem mz8 (d : Nat) (left nest : Int) : mz d ⟨8, 0, ⟨#[]⟩, []⟩ left nest = (0, 0, false) := by
  cases d with
  | zero => rfl
  | succ d =>
    unfold mz
    split
    · rfl
    · rw [if_neg (by show ¬ ((8 : Int) = 4 ∨ (8 : Int) = 5); omega), if_neg (by show ¬ (1 ≤ (8 : Int) ∧ (8 : Int) ≤ 7); omega)]
theorem nm_no7 (d : Nat) (x : Vt) : (nm d false x).k ≠ 7 := by
  cases d with
  | zero => show ¬ (8 : Int) = 7; omega
  | succ d =>
    unfold nm
    repeat' split
    all_goals first
      | (simp; done)
      | (rename_i g; exact absurd g.1 (by decide))
theorem nm_is8 (d : Nat) (x : Vt) (h : x.k = 7) : nm d false x = ⟨8, 0, ⟨#[]⟩, []⟩ := by
  cases d with
  | zero => rfl
  | succ d =>
    unfold nm
    rw [if_neg (by omega), if_neg (by omega), if_neg (by omega), if_neg (by omega), if_neg (by omega), if_neg (by omega), if_neg (fun g => absurd g.1 (by decide))]
theorem mzL_nm (d : Nat) (k4 : Bool) (left nest : Int) (IH : ∀ (i : Bool) (t : Vt) (lf : Int), (i = true ∨ t.k ≠ 7) → mz d (nm d i t) lf nest = mz d t lf nest) : ∀ (l : List Vt) (z p : Int), mzL (fun x lf => mz d x lf nest) k4 left (l.map (nm d (!k4))) z p = mzL (fun x lf => mz d x lf nest) k4 left l z p
  | [], z, p => rfl
  | x :: l, z, p => by
    rw [List.map_cons]
    unfold mzL
    have hn : ¬ (k4 = true ∧ (nm d (!k4) x).k = 7) := by
      rintro ⟨g1, g2⟩
      subst g1
      exact nm_no7 d x g2
    rw [if_neg hn]
    by_cases c : k4 = true ∧ x.k = 7
    · rw [if_pos c]
      obtain ⟨rfl, c⟩ := c
      rw [show nm d (!true) x = _ from nm_is8 d x c]
      simp only [mz8]
      rfl
    · rw [if_neg c]
      have e := IH (!k4) x (left - z) (by
        cases k4 with
        | false => exact .inl rfl
        | true => exact .inr (fun g => c ⟨rfl, g⟩))
      simp only [e]
      split
      · exact mzL_nm d k4 left nest IH l _ _
      · rfl
theorem mz_nm : ∀ (d : Nat) (i : Bool) (t : Vt) (left nest : Int), (i = true ∨ t.k ≠ 7) → mz d (nm d i t) left nest = mz d t left nest
  | 0, _, _, _, _, _ => rfl
  | d + 1, i, t, left, nest, h => by
    have ih := fun i t lf => mz_nm d i t lf (nest + 1)
    obtain ⟨k, n, s, l⟩ := t
    dsimp only at h
    unfold nm mz
    dsimp only
    by_cases c0 : left < 1 ∨ 32 < nest
    · rw [if_pos c0, if_pos c0]
    rw [if_neg c0, if_neg c0]
    by_cases k1 : k = 1
    · subst k1; rfl
    rw [if_neg k1]
    by_cases k2 : k = 2
    · subst k2; rfl
    rw [if_neg k2]
    by_cases k3 : k = 3
    · subst k3; rfl
    rw [if_neg k3]
    by_cases k4 : k = 4
    · subst k4
      exact mzL_nm d true left (nest + 1) ih l 1 0
    rw [if_neg k4]
    by_cases k5 : k = 5
    · subst k5
      exact mzL_nm d false left (nest + 1) ih l 1 0
    rw [if_neg k5]
    by_cases k6 : k = 6
    · subst k6; rfl
    rw [if_neg k6]
    by_cases k7 : k = 7
    · subst k7
      rw [if_pos (show i = true ∧ (7 : Int) = 7 from ⟨h.elim id (fun g => absurd rfl g), rfl⟩)]
      rfl
    · rw [if_neg (show ¬ (i = true ∧ k = 7) from fun g => k7 g.2)]
      rw [if_neg (show ¬ (k = 4 ∨ k = 5) by omega), if_neg (show ¬ (1 ≤ k ∧ k ≤ 7) by omega)]
      rfl
theorem sn_of : ∀ (d : Nat) (i : Bool) (t : Vt), SmT d t → okD d i (nm d i t) = true → SmN d t
  | 0, _, _, h, _ => h.elim
  | d + 1, i, t, h, ho => by
    obtain ⟨k, n, s, l⟩ := t
    obtain ⟨h1, h2, h3, h4, h5⟩ := h
    dsimp only at h1 h2 h3 h4 h5
    refine ⟨h2, fun k7 => ?_, fun k45 => ?_⟩
    · dsimp only at k7 ⊢
      subst k7
      cases i with
      | false =>
        rw [nm_is8 (d + 1) _ rfl] at ho
        exact absurd (show (false : Bool) = true from ho) (by decide)
      | true =>
        have : clB s = true := ho
        exact cl_small this
    · dsimp only at k45 ⊢
      intro x hx
      rcases k45 with k4 | k5
      · subst k4
        have ho : (l.map (nm d false)).all (okD d false) = true := ho
        rw [List.all_eq_true] at ho
        exact sn_of d false x (h5 x hx) (ho _ (List.mem_map.2 ⟨x, hx, rfl⟩))
      · subst k5
        have ho : (l.map (nm d true)).all (okD d true) = true := ho
        rw [List.all_eq_true] at ho
        exact sn_of d true x (h5 x hx) (ho _ (List.mem_map.2 ⟨x, hx, rfl⟩))
/-- the tree that the law measures -/
def mqT (l : List Vt) : Vt := ⟨5, 0, ⟨#[]⟩, [⟨5, 0, ⟨#[]⟩, l⟩, ⟨7, 0, nCall, []⟩]⟩
theorem mq_nm (D : Nat) (l : List Vt) : nm (D + 2) false (mqT l) = qT [qT (l.map (nm D true)), caT nCall] := rfl
theorem mq_sm {D : Nat} {l : List Vt} (hl : l.length ≤ 2513169434900) (h : ∀ x ∈ l, SmT D x) (ho : (l.map (nm D true)).all (okD D true) = true) : SmN (D + 2) (mqT l) := by
  rw [List.all_eq_true] at ho
  refine ⟨by show 2 ≤ 2513169434900; omega, fun g => absurd (show (5 : Int) = 7 from g) (by omega), fun _ x hx => ?_⟩
  rcases List.mem_cons.1 hx with rfl | hx
  · exact ⟨hl, fun g => absurd (show (5 : Int) = 7 from g) (by omega), fun _ y hy => sn_of D true y (h y hy) (ho _ (List.mem_map.2 ⟨y, hy, rfl⟩))⟩
  · rcases List.mem_cons.1 hx with rfl | hx
    · exact ⟨Nat.zero_le _, fun _ => by show nCall.size ≤ 268435456; exact cl_small cl_call, fun g => absurd (show (7 : Int) = 4 ∨ (7 : Int) = 5 from g) (by omega)⟩
    · cases hx
theorem mq_sd {D F : Nat} {l : List Vt} (h : ∀ x ∈ l, SmT D x) (hF : 2 * (D + 2) + 1 ≤ F) : (mz (D + 2) (mqT l) 1024 0).2.2 = sdB F (qT [qT (l.map (nm D true)), caT nCall]) := by
  have lf : LfT (D + 2) (qT [qT (l.map (nm D true)), caT nCall]) := lf_q (fun x hx => by
    rcases List.mem_cons.1 hx with rfl | hx
    · exact lf_q (fun y hy => by obtain ⟨z, hz, rfl⟩ := List.mem_map.1 hy; exact nm_lf D true z (h z hz))
    · rcases List.mem_cons.1 hx with rfl | hx
      · exact lf_c
      · cases hx)
  rw [ds_sd lf hF]
  unfold dsB
  rw [← mq_nm, mz_nm (D + 2) false (mqT l) 1024 0 (.inr (by show ¬ (5 : Int) = 7; omega))]
  rw [decide_eq_true (show (nm (D + 2) false (mqT l)).k ≠ 7 from nm_no7 _ _), Bool.and_true]
end Go.Proofs.YtodbkihobgdpdaaGreatDoor
namespace Go.Proofs.YtodbkihobgdpdaaGreatDoor
open Go.RowKit Go.Lib
set_option linter.unusedSimpArgs false
set_option linter.unusedVariables false
/-- an item, made anew -/
def IqP (D : Nat) (l : List Vt) (w : World) (e : Ending) (w' : World) : Prop := ∃ u, e = .returned (.iface 70 (.agg #[u])) ∧ Hid ((∃ S, TiAt w' S (2 * D + 4) true (qT (l.map (nm D true))) (.iface 70 (.agg #[u])) ∧ ∀ b, S b → b < w'.heap.size) ∧ Only (fun _ => False) w w')
theorem quotOf_any {D m : Nat} {l : List Vt} {a : Option Addr} {c : Nat} {w : World} {S : Nat → Prop} (hm : m = l.length) (h : VsAt w S (D + 1) l (.slice a m c)) (hl : l.length ≤ 2513169434900) (hs : ∀ x ∈ l, SmT D x) : Calls Tryz.prog 11 #[.agg #[.int .i64 5, .int .i64 0, .string ⟨#[]⟩, .slice a m c]] w (IqP D l w) := by
  refine (itemof_all (D + 1) ⟨5, 0, ⟨#[]⟩, l⟩ (.slice a m c) w S h ⟨Nat.zero_le _, hl, ⟨by show (-9223372036854775808 : Int) ≤ 5; omega, by show (5 : Int) ≤ 9223372036854775807; omega⟩, ⟨by show (-9223372036854775808 : Int) ≤ 0; omega, by show (0 : Int) ≤ 9223372036854775807; omega⟩, hs⟩).mono fun e w' g => ?_
  obtain ⟨v, he, g⟩ := g
  obtain ⟨⟨S2, g1, g2⟩, g3⟩ := g.out
  have g4 : TiAt w' S2 (2 * D + 3 + 1) true (qT (l.map (nm D true))) v := g1
  rcases id g4 with q | q | ⟨_, _, u, rfl, _⟩
  · exact absurd (show (5 : Int) = 7 from q.1) (by omega)
  · exact absurd (show (5 : Int) = 8 from q.1) (by omega)
  exact ⟨u, he, ⟨S2, g4, fun b hb => (g2 b hb).2⟩, g3⟩
theorem cell_old {W : World} {o : Obj} {a : Addr} {u : Value} (h : W.cell? a = some u) : (W.alloc o).cell? a = some u := ((Only.refl (fun _ => False) W).alloc o).cell h (fun g => g)
/-- a row of a quotation and a name, made anew -/
theorem row2 {w0 W : World} {d : Nat} {x : Vt} {u : Value} {s : ByteArray} {T : TypeId} (h : ∃ S, TiAt w0 S (d + 1) true x u ∧ ∀ b, S b → b < w0.heap.size) (o : Only (fun _ => False) w0 W) :
    ∃ S, QsAt (W.alloc (.cells #[u, .iface 40 (.agg #[.string s])] T)) S (d + 1) [x, caT s] (some ⟨W.heap.size, 0, none⟩) ∧ ∀ b, S b → b < (W.alloc (.cells #[u, .iface 40 (.agg #[.string s])] T)).heap.size := by
  obtain ⟨S, h1, h2⟩ := h
  have hz := o.size
  have hsz : (W.alloc (.cells #[u, .iface 40 (.agg #[.string s])] T)).heap.size = W.heap.size + 1 := by simp
  have hb := valloc_at W (.cells #[u, .iface 40 (.agg #[.string s])] T) _ rfl
  have oo : Only (fun _ => False) w0 (W.alloc (.cells #[u, .iface 40 (.agg #[.string s])] T)) := o.alloc _
  have hx := (h1.only oo (fun _ _ g => g)).step (S' := fun b => S b ∨ b = W.heap.size) (fun b g => .inl g) (fun _ _ _ g => g) (Nat.le_refl _)
  refine ⟨fun b => S b ∨ b = W.heap.size, fun j y hy => ?_, fun b g => ?_⟩
  · match j, hy with
    | 0, hy => injection hy with hy; subst hy; exact ⟨_, _, _, rfl, .inr rfl, vblk_cells hb 0, hx⟩
    | 1, hy => injection hy with hy; subst hy; exact ⟨_, _, _, rfl, .inr rfl, vblk_cells hb 1, .inl ⟨rfl, rfl, rfl⟩⟩
  · rcases g with g | g
    · have := h2 b g; omega
    · omega
/-- of two quotations and a name -/
theorem row3 {w0 w1 W : World} {d : Nat} {x y : Vt} {u v : Value} {s : ByteArray} {T : TypeId} (h : ∃ S, TiAt w0 S (d + 1) true x u ∧ ∀ b, S b → b < w0.heap.size) (o : Only (fun _ => False) w0 W) (h' : ∃ S, TiAt w1 S (d + 1) true y v ∧ ∀ b, S b → b < w1.heap.size) (o' : Only (fun _ => False) w1 W) :
    ∃ S, QsAt (W.alloc (.cells #[u, v, .iface 40 (.agg #[.string s])] T)) S (d + 1) [x, y, caT s] (some ⟨W.heap.size, 0, none⟩) ∧ ∀ b, S b → b < (W.alloc (.cells #[u, v, .iface 40 (.agg #[.string s])] T)).heap.size := by
  obtain ⟨S, h1, h2⟩ := h
  obtain ⟨S', h1', h2'⟩ := h'
  have hz := o.size
  have hz' := o'.size
  have hsz : (W.alloc (.cells #[u, v, .iface 40 (.agg #[.string s])] T)).heap.size = W.heap.size + 1 := by simp
  have hb := valloc_at W (.cells #[u, v, .iface 40 (.agg #[.string s])] T) _ rfl
  have oo : Only (fun _ => False) w0 (W.alloc (.cells #[u, v, .iface 40 (.agg #[.string s])] T)) := o.alloc _
  have oo' : Only (fun _ => False) w1 (W.alloc (.cells #[u, v, .iface 40 (.agg #[.string s])] T)) := o'.alloc _
  have hx := (h1.only oo (fun _ _ g => g)).step (S' := fun b => S b ∨ S' b ∨ b = W.heap.size) (fun b g => .inl g) (fun _ _ _ g => g) (Nat.le_refl _)
  have hx' := (h1'.only oo' (fun _ _ g => g)).step (S' := fun b => S b ∨ S' b ∨ b = W.heap.size) (fun b g => .inr (.inl g)) (fun _ _ _ g => g) (Nat.le_refl _)
  refine ⟨fun b => S b ∨ S' b ∨ b = W.heap.size, fun j z hy => ?_, fun b g => ?_⟩
  · match j, hy with
    | 0, hy => injection hy with hy; subst hy; exact ⟨_, _, _, rfl, .inr (.inr rfl), vblk_cells hb 0, hx⟩
    | 1, hy => injection hy with hy; subst hy; exact ⟨_, _, _, rfl, .inr (.inr rfl), vblk_cells hb 1, hx'⟩
    | 2, hy => injection hy with hy; subst hy; exact ⟨_, _, _, rfl, .inr (.inr rfl), vblk_cells hb 2, .inl ⟨rfl, rfl, rfl⟩⟩
  · rcases g with g | g | g
    · have := h2 b g; omega
    · have := h2' b g; omega
    · omega
theorem sm_q {L : List Vt} (h : SmL L) : ∃ e, SmT e (qT L) := by
  obtain ⟨e, he⟩ := sm_max h.2
  exact ⟨e + 1, Nat.zero_le _, h.1, ⟨by show (-9223372036854775808 : Int) ≤ 5; omega, by show (5 : Int) ≤ 9223372036854775807; omega⟩, ⟨by show (-9223372036854775808 : Int) ≤ 0; omega, by show (0 : Int) ≤ 9223372036854775807; omega⟩, he⟩
theorem sm_c {s : ByteArray} (h : s.size ≤ 268435456) : ∃ e, SmT e (caT s) :=
  ⟨1, by show s.size ≤ 140737488355328; omega, Nat.zero_le _, ⟨by show (-9223372036854775808 : Int) ≤ 7; omega, by show (7 : Int) ≤ 9223372036854775807; omega⟩, ⟨by show (-9223372036854775808 : Int) ≤ 0; omega, by show (0 : Int) ≤ 9223372036854775807; omega⟩, fun x hx => by cases hx⟩
theorem sml2 {L : List Vt} {s : ByteArray} (h : SmL L) (hs : s.size ≤ 268435456) : SmL [qT L, caT s] := ⟨by show 2 ≤ 2513169434900; omega, fun x hx => by
  rcases List.mem_cons.1 hx with rfl | hx
  · exact sm_q h
  · rcases List.mem_cons.1 hx with rfl | hx
    · exact sm_c hs
    · cases hx⟩
theorem sml3 {L M : List Vt} {s : ByteArray} (h : SmL L) (h' : SmL M) (hs : s.size ≤ 268435456) : SmL [qT L, qT M, caT s] := ⟨by show 3 ≤ 2513169434900; omega, fun x hx => by
  rcases List.mem_cons.1 hx with rfl | hx
  · exact sm_q h
  · rcases List.mem_cons.1 hx with rfl | hx
    · exact sm_q h'
    · rcases List.mem_cons.1 hx with rfl | hx
      · exact sm_c hs
      · cases hx⟩
end Go.Proofs.YtodbkihobgdpdaaGreatDoor
