import Derived.Test.YtlcglapcmdpkfaaGreatQ8
import Derived.Test.YtlcglapcmdpkfaaGreatG19
namespace Go.Proofs.YtlcglapcmdpkfaaGreat
open Go.RowKit Go.Maps
set_option linter.unusedSimpArgs false
set_option linter.unusedVariables false
def sh (f : Nat → Bool) : Nat → Bool := fun j => f j || decide (j < 2)
theorem sh_set (f : Nat → Bool) (q : Nat) : sh (fun j => f j || j == q) = fun j => sh f j || j == q := by
 funext j
 simp only [sh]
 cases f j <;> cases (j == q) <;> cases decide (j < 2) <;> rfl
theorem sh_tk : sh (fun _ => false) = tk := by
 funext j
 simp [sh, tk]
theorem tk_yes {d : DS} {f : Nat → Bool} {q : Nat} (id : Nat) (h : tkOk (d.n / 4) f q = true) : ldR d (sh f) q id = (sh (fun j => f j || j == q), ldD d q id) := by
 simp only [tkOk, Bool.and_eq_true, decide_eq_true_eq, Bool.not_eq_true'] at h
 have : ¬ (d.n / 4 ≤ q ∨ sh f q = true) := by
  rintro (e | e)
  ·omega
  ·simp only [sh, h.2, Bool.false_or, decide_eq_true_eq] at e
   omega
 unfold ldR
 rw [if_neg this, sh_set]
theorem tk_no {d : DS} {f : Nat → Bool} {q : Nat} (id : Nat) (h : tkOk (d.n / 4) f q = false) : (ldR d (sh f) q id).2 = none := by
 have : d.n / 4 ≤ q ∨ sh f q = true := by
  by_cases e1 : d.n / 4 ≤ q
  ·exact .inl e1
  ·refine .inr ?_
   by_cases e2 : q < 2
   ·simp [sh, e2]
   ·have e3 : (decide (2 ≤ q ∧ q < d.n / 4)) = true := by simp; omega
    rw [tkOk, e3, Bool.true_and, Bool.not_eq_false'] at h
    simp [sh, h]
 unfold ldR
 rw [if_pos this]
def dtR (d : DS) : Nat → (Nat → Bool) → Nat → List Nat → List Nat → Option ((Nat → Bool) × Nat × List Nat × List Nat)
 | 0, f, nx, at_, tab => some (f, nx, at_, tab)
 | k + 1, f, nx, at_, tab => if tkOk (d.n / 4) f nx = false then none else
   match ldD d nx 2 with
   | none => none
   | some D => if D.length < 4 then none else dtR d k (fun j => f j || j == nx) (part D 0 4) (at_ ++ [nx]) (tab ++ D.drop 4)
theorem dtR_take {d : DS} {k : Nat} {f : Nat → Bool} {nx : Nat} {at_ tab : List Nat} (h : tkOk (d.n / 4) f nx = false) : dtR d (k + 1) f nx at_ tab = none := by rw [dtR, if_pos h]
theorem dtR_none {d : DS} {k : Nat} {f : Nat → Bool} {nx : Nat} {at_ tab : List Nat} (h2 : ldD d nx 2 = none) : dtR d (k + 1) f nx at_ tab = none := by
 rw [dtR, h2]
 split <;> rfl
theorem dtR_short {d : DS} {k : Nat} {f : Nat → Bool} {nx : Nat} {at_ tab D : List Nat} (h2 : ldD d nx 2 = some D) (h3 : D.length < 4) : dtR d (k + 1) f nx at_ tab = none := by
 rw [dtR, h2]
 simp only [h3, if_true]
 split <;> rfl
theorem dtR_go {d : DS} {k : Nat} {f : Nat → Bool} {nx : Nat} {at_ tab D : List Nat} (h : tkOk (d.n / 4) f nx = true) (h2 : ldD d nx 2 = some D) (h3 : ¬ D.length < 4) : dtR d (k + 1) f nx at_ tab = dtR d k (fun j => f j || j == nx) (part D 0 4) (at_ ++ [nx]) (tab ++ D.drop 4) := by
 rw [dtR, if_neg (by rw [h]; simp), h2]
 exact if_neg h3
def dtO (x : Option ((Nat → Bool) × Nat × List Nat × List Nat)) : Option ((Nat → Bool) × List Nat × List Nat) := match x with
 | none => none
 | some (g, n, a, t) => if n = 0 then some (sh g, a, t) else none
def tbO (c : Nat) (x : (Nat → Bool) × Option (List Nat × List Nat)) : Option ((Nat → Bool) × List Nat × List Nat) := match x.2 with
 | none => none
 | some (a, t) => if a.length = c then some (x.1, a, t) else none
theorem tb_more {d : DS} : ∀ (k : Nat) (f : Nat → Bool) (nx : Nat) (at_ tab : List Nat) {a t : List Nat}, (tbR d k f nx at_ tab).2 = some (a, t) → at_.length ≤ a.length ∧ (nx ≠ 0 → at_.length < a.length)
 | 0, f, nx, at_, tab, a, t, h => by rw [tbR] at h; cases h
 | k + 1, f, nx, at_, tab, a, t, h => by
   by_cases hz : nx = 0
   ·subst hz
    rw [tbR_end] at h
    cases h
    exact ⟨Nat.le_refl _, fun e => absurd rfl e⟩
   ·cases hl : (ldR d f nx 2).2 with
    | none => rw [tbR_none hz hl] at h; cases h
    | some D =>
      by_cases hD : D.length < 4
      ·rw [tbR_short hz hl hD] at h; cases h
      ·rw [tbR_go hz hl hD] at h
       have := (tb_more k _ _ _ _ h).1
       simp only [List.length_append, List.length_cons, List.length_nil] at this
       exact ⟨by omega, fun _ => by omega⟩
theorem tb_dt (d : DS) : ∀ (left k : Nat) (f : Nat → Bool) (nx : Nat) (at_ tab : List Nat), cnt (sh f) (d.n / 4) < k → tbO (at_.length + left) (tbR d k (sh f) nx at_ tab) = dtO (dtR d left f nx at_ tab)
 | left, 0, f, nx, at_, tab, h => by omega
 | 0, k + 1, f, nx, at_, tab, h => by
   by_cases hz : nx = 0
   ·subst hz
    rw [tbR_end]
    simp [tbO, dtR, dtO]
   ·have e1 : dtO (dtR d 0 f nx at_ tab) = none := by simp [dtR, dtO, hz]
    rw [e1]
    cases hr : (tbR d (k + 1) (sh f) nx at_ tab).2 with
    | none => simp [tbO, hr]
    | some x =>
      obtain ⟨a, t⟩ := x
      have := (tb_more _ _ _ _ _ hr).2 hz
      simp only [tbO, hr]
      rw [if_neg (by omega)]
 | left + 1, k + 1, f, nx, at_, tab, h => by
   by_cases hz : nx = 0
   ·subst hz
    have h9 : tkOk (d.n / 4) f 0 = false := by simp [tkOk]
    rw [tbR_end, dtR_take h9]
    simp [tbO, dtO]
   ·by_cases ht : tkOk (d.n / 4) f nx = false
    ·rw [tbR_none hz (tk_no 2 ht), dtR_take ht]
     rfl
    ·have ht' : tkOk (d.n / 4) f nx = true := by simpa using ht
     have hl := tk_yes 2 ht'
     cases hd : ldD d nx 2 with
     | none =>
       rw [tbR_none hz (by rw [hl]; exact hd), dtR_none hd]
       rfl
     | some D =>
       have hl2 : (ldR d (sh f) nx 2).2 = some D := by rw [hl]; exact hd
       by_cases hD : D.length < 4
       ·rw [tbR_short hz hl2 hD, dtR_short hd hD]
        rfl
       ·rw [tbR_go hz hl2 hD, dtR_go ht' hd hD, hl]
        have hc : cnt (sh (fun j => f j || j == nx)) (d.n / 4) + 1 = cnt (sh f) (d.n / 4) := by
         rw [sh_set]
         simp only [tkOk, Bool.and_eq_true, decide_eq_true_eq, Bool.not_eq_true'] at ht'
         exact cnt_set (sh f) nx (by simp only [sh, ht'.2, Bool.false_or, decide_eq_false_iff_not]; omega) _ (by omega)
        have := tb_dt d left k (fun j => f j || j == nx) (part D 0 4) (at_ ++ [nx]) (tab ++ D.drop 4) (by omega)
        rw [← this]
        simp only [List.length_append, List.length_cons, List.length_nil]
        rw [show at_.length + (0 + 1) + left = at_.length + (left + 1) by omega]
theorem put_end {v : Nat × List Nat} {i : Int} : ∀ {m : Pgs}, (∀ p ∈ m, p.1 < i) → putL m i v = m ++ [(i, v)] := by
 intro m h
 have hd : delL m i = m := by
  unfold delL
  refine List.filter_eq_self.2 (fun p hp => ?_)
  have := h p hp
  simp
  omega
 unfold putL
 rw [hd]
 clear hd
 induction m with
 | nil => rfl
 | cons p r ih =>
   have h1 := h p (List.mem_cons_self ..)
   have := ih (fun q hq => h q (List.mem_cons_of_mem _ hq))
   simp only [insL]
   rw [if_neg (by omega), this]
   rfl
def lastI (m : Pgs) : Int := match m.getLast? with
 | none => -1
 | some p => p.1
theorem lastI_snoc (m : Pgs) (p : Int × Nat × List Nat) : lastI (m ++ [p]) = p.1 := by simp [lastI]
def dpR (d : DS) (tab : List Nat) : Nat → (Nat → Bool) → Nat → Pgs → Option Pgs
 | 0, _, _, _ => none
 | k + 1, f, pos, m => if tab.length ≤ pos then some m else
   match rd tab pos 0 0 with
   | none => none
   | some (i, q) =>
     match rd tab q 0 0 with
     | none => none
     | some (P, z) => if 728 ≤ i ∨ (i : Int) ≤ lastI m ∨ tkOk (d.n / 4) f P = false then none else
       match ldD d P (3 + 256 * i) with
       | none => none
       | some D => dpR d tab k (fun j => f j || j == P) z (m ++ [((i : Int), P, D)])
section
variable {d : DS} {tab : List Nat} {f : Nat → Bool} {pos i q P z k : Nat} {m : Pgs} {D : List Nat}
theorem dpR_end (h : tab.length ≤ pos) : dpR d tab (k + 1) f pos m = some m := by rw [dpR, if_pos h]
theorem dpR_none1 (h : ¬ tab.length ≤ pos) (h1 : rd tab pos 0 0 = none) : dpR d tab (k + 1) f pos m = none := by rw [dpR, if_neg h, h1]
theorem dpR_none2 (h : ¬ tab.length ≤ pos) (h1 : rd tab pos 0 0 = some (i, q)) (h2 : rd tab q 0 0 = none) : dpR d tab (k + 1) f pos m = none := by
 rw [dpR, if_neg h, h1]; simp only [h2]
theorem dpR_bad (h : ¬ tab.length ≤ pos) (h1 : rd tab pos 0 0 = some (i, q)) (h2 : rd tab q 0 0 = some (P, z)) (h3 : 728 ≤ i ∨ (i : Int) ≤ lastI m ∨ tkOk (d.n / 4) f P = false) : dpR d tab (k + 1) f pos m = none := by
 rw [dpR, if_neg h, h1]; simp only [h2]; exact if_pos h3
theorem dpR_not (h : ¬ tab.length ≤ pos) (h1 : rd tab pos 0 0 = some (i, q)) (h2 : rd tab q 0 0 = some (P, z)) (h4 : ldD d P (3 + 256 * i) = none) : dpR d tab (k + 1) f pos m = none := by
 rw [dpR, if_neg h, h1]; simp only [h2, h4]; split <;> rfl
theorem dpR_go (h : ¬ tab.length ≤ pos) (h1 : rd tab pos 0 0 = some (i, q)) (h2 : rd tab q 0 0 = some (P, z)) (h3 : ¬ (728 ≤ i ∨ (i : Int) ≤ lastI m ∨ tkOk (d.n / 4) f P = false)) (h4 : ldD d P (3 + 256 * i) = some D) : dpR d tab (k + 1) f pos m = dpR d tab k (fun j => f j || j == P) z (m ++ [((i : Int), P, D)]) := by
 rw [dpR, if_neg h, h1]; simp only [h2]; refine (if_neg h3).trans ?_; rw [h4]
end
theorem pgs_dp (d : DS) (tab : List Nat) : ∀ (k : Nat) (f : Nat → Bool) (least pos : Nat) (m : Pgs), (∀ p ∈ m, p.1 ≤ lastI m) → (least : Int) = lastI m + 1 → (pgsR d tab k (sh f) least pos m).2 = dpR d tab k f pos m
 | 0, f, least, pos, m, _, _ => rfl
 | k + 1, f, least, pos, m, hm, hl => by
   by_cases h : tab.length ≤ pos
   ·rw [pgsR_end h, dpR_end h]
   ·cases h1 : rd tab pos 0 0 with
    | none => rw [pgsR_none1 h h1, dpR_none1 h h1]
    | some x =>
      obtain ⟨i, q⟩ := x
      by_cases hi : i < least ∨ 728 ≤ i
      ·rw [pgsR_low h h1 hi]
       cases h2 : rd tab q 0 0 with
       | none => rw [dpR_none2 h h1 h2]
       | some y =>
         obtain ⟨P, z⟩ := y
         rw [dpR_bad h h1 h2 (by omega)]
      ·cases h2 : rd tab q 0 0 with
       | none => rw [pgsR_none2 h h1 hi h2, dpR_none2 h h1 h2]
       | some y =>
         obtain ⟨P, z⟩ := y
         by_cases ht : tkOk (d.n / 4) f P = false
         ·rw [pgsR_not h h1 hi h2 (tk_no _ ht), dpR_bad h h1 h2 (.inr (.inr ht))]
         ·have ht' : tkOk (d.n / 4) f P = true := by simpa using ht
          have hd := tk_yes (3 + 256 * i) ht'
          cases h4 : ldD d P (3 + 256 * i) with
          | none => rw [pgsR_not h h1 hi h2 (by rw [hd]; exact h4), dpR_not h h1 h2 h4]
          | some D =>
            have hlt : ∀ p ∈ m, p.1 < (i : Int) := fun p hp => by have := hm p hp; omega
            rw [pgsR_go h h1 hi h2 (by rw [hd]; exact h4), dpR_go h h1 h2 (by rintro (e | e | e) <;> first | omega | exact ht e) h4, hd, put_end hlt]
            refine pgs_dp d tab k _ _ _ _ (fun p hp => ?_) ?_
            ·rw [lastI_snoc]
             rcases List.mem_append.1 hp with hp | hp
             ·have := hlt p hp; simp only; omega
             ·simp only [List.mem_cons, List.not_mem_nil, or_false] at hp; rw [hp]; exact Int.le_refl _
            ·rw [lastI_snoc]; simp
def loadD (d : DS) (q : Nat) : Option SS := if rtOk (secN (d.sec q)) = true then
    match dtR d (rtC (secN (d.sec q))) (fun _ => false) (rtF (secN (d.sec q))) [] [] with
    | none => none
    | some (g, n, a, t) => if n = 0 then (dpR d t (t.length + 1) g 0 []).map fun m => ⟨d.n / 4, rtE (secN (d.sec q)), q, a, m, m⟩ else none
 else none
theorem load_doc (d : DS) (q : Nat) : loadR d q = loadD d q := by
 unfold loadR loadD
 by_cases h : rtOk (secN (d.sec q)) = true
 ·rw [if_pos h, if_pos h]
  have key := tb_dt d (rtC (secN (d.sec q))) (cnt tk (d.n / 4) + 1) (fun _ => false) (rtF (secN (d.sec q))) [] [] (by rw [sh_tk]; omega)
  rw [sh_tk] at key
  simp only [List.length_nil, Nat.zero_add] at key
  generalize tbR d (cnt tk (d.n / 4) + 1) tk (rtF (secN (d.sec q))) [] [] = X at key ⊢
  generalize dtR d (rtC (secN (d.sec q))) (fun _ => false) (rtF (secN (d.sec q))) [] [] = Y at key ⊢
  obtain ⟨g, x⟩ := X
  cases x with
  | none =>
    cases Y with
    | none => rfl
    | some y =>
      obtain ⟨g', n, a, t⟩ := y
      simp only [tbO, dtO] at key
      simp only [loadP]
      by_cases hn : n = 0
      ·rw [if_pos hn] at key; cases key
      ·rw [if_neg hn]
  | some z =>
    obtain ⟨a, t⟩ := z
    simp only [tbO] at key
    simp only [loadP]
    by_cases hc : a.length = rtC (secN (d.sec q))
    ·rw [if_pos hc] at key ⊢
     cases Y with
     | none => simp only [dtO] at key; cases key
     | some y =>
       obtain ⟨g', n, a', t'⟩ := y
       simp only [dtO] at key
       by_cases hn : n = 0
       ·rw [if_pos hn] at key
        simp only [Option.some.injEq, Prod.mk.injEq] at key
        obtain ⟨rfl, rfl, rfl⟩ := key
        simp only [hn, if_true]
        rw [pgs_dp d t _ g' 0 0 [] (fun p hp => by cases hp) (by simp [lastI])]
       ·rw [if_neg hn] at key; cases key
    ·rw [if_neg hc] at key ⊢
     cases Y with
     | none => rfl
     | some y =>
       obtain ⟨g', n, a', t'⟩ := y
       simp only [dtO] at key
       by_cases hn : n = 0
       ·rw [if_pos hn] at key; cases key
       ·simp only [hn, if_false]
 ·rw [if_neg h, if_neg h]
end Go.Proofs.YtlcglapcmdpkfaaGreat
