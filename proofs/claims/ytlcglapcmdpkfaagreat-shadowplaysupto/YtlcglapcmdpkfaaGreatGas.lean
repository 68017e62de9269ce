/-       -/
import Derived.Test.YtlcglapcmdpkfaaGreatGai
import Derived.Test.YtlcglapcmdpkfaaGreatGar
import Derived.Test.YtlcglapcmdpkfaaGreatGaj
import Derived.Test.YtlcglapcmdpkfaaGreatGak
import Derived.Test.YtlcglapcmdpkfaaGreatGaa
import Derived.Test.YtlcglapcmdpkfaaGreatGaf
import Derived.Test.YtlcglapcmdpkfaaGreatGag
import Derived.Test.YtlcglapcmdpkfaaGreatGan
namespace Go.Proofs.YtlcglapcmdpkfaaGreat
open Go.RowKit Go.Maps
set_option linter.unusedSimpArgs false
set_option linter.unusedVariables false
set_option maxRecDepth 100000
set_option maxHeartbeats 16000000
def sh (f : Nat → Bool) : Nat → Bool := fun j => f j || decide (j < 2)
theorem sh_set (f : Nat → Bool) (q : Nat) : sh (fun j => f j || j == q) = fun j => sh f j || j == q := by
 funext j
 simp only [sh]
 cases f j <;> cases (j == q) <;> cases decide (j < 2) <;> rfl
theorem sh_tk : sh (fun _ => false) = tk := by
 funext j
 simp [sh, tk]
theorem tk_yes {d : DS} {f : Nat → Bool} {q : Nat} (id : Nat) (h : tkOk (d.n / 4) f q = true) : ldR d (sh f) q id = (sh (fun j => f j || j == q), ldD d q id) := by
 simp only [tkOk, Bool.and_eq_true, decide_eq_true_eq, Bool.not_eq_true'] at h
 have : ¬ (d.n / 4 ≤ q ∨ sh f q = true) := by
  rintro (e | e)
  ·omega
  ·simp only [sh, h.2, Bool.false_or, decide_eq_true_eq] at e
   omega
 unfold ldR
 rw [if_neg this, sh_set]
theorem tk_no {d : DS} {f : Nat → Bool} {q : Nat} (id : Nat) (h : tkOk (d.n / 4) f q = false) : (ldR d (sh f) q id).2 = none := by
 have : d.n / 4 ≤ q ∨ sh f q = true := by
  by_cases e1 : d.n / 4 ≤ q
  ·exact .inl e1
  ·refine .inr ?_
   by_cases e2 : q < 2
   ·simp [sh, e2]
   ·have e3 : (decide (2 ≤ q ∧ q < d.n / 4)) = true := by simp; omega
    rw [tkOk, e3, Bool.true_and, Bool.not_eq_false'] at h
    simp [sh, h]
 unfold ldR
 rw [if_pos this]
def dtR (d : DS) : Nat → (Nat → Bool) → Nat → List Nat → List Nat → Option ((Nat → Bool) × Nat × List Nat × List Nat)
 | 0, f, nx, at_, tab => some (f, nx, at_, tab)
 | k + 1, f, nx, at_, tab => if tkOk (d.n / 4) f nx = false then none else
   match ldD d nx 2 with
   | none => none
   | some D => if D.length < 4 then none else dtR d k (fun j => f j || j == nx) (part D 0 4) (at_ ++ [nx]) (tab ++ D.drop 4)
theorem dtR_take {d : DS} {k : Nat} {f : Nat → Bool} {nx : Nat} {at_ tab : List Nat} (h : tkOk (d.n / 4) f nx = false) : dtR d (k + 1) f nx at_ tab = none := by rw [dtR, if_pos h]
theorem dtR_none {d : DS} {k : Nat} {f : Nat → Bool} {nx : Nat} {at_ tab : List Nat} (h2 : ldD d nx 2 = none) : dtR d (k + 1) f nx at_ tab = none := by
 rw [dtR, h2]
 split <;> rfl
theorem dtR_short {d : DS} {k : Nat} {f : Nat → Bool} {nx : Nat} {at_ tab D : List Nat} (h2 : ldD d nx 2 = some D) (h3 : D.length < 4) : dtR d (k + 1) f nx at_ tab = none := by
 rw [dtR, h2]
 simp only [h3, if_true]
 split <;> rfl
theorem dtR_go {d : DS} {k : Nat} {f : Nat → Bool} {nx : Nat} {at_ tab D : List Nat} (h : tkOk (d.n / 4) f nx = true) (h2 : ldD d nx 2 = some D) (h3 : ¬ D.length < 4) : dtR d (k + 1) f nx at_ tab = dtR d k (fun j => f j || j == nx) (part D 0 4) (at_ ++ [nx]) (tab ++ D.drop 4) := by
 rw [dtR, if_neg (by rw [h]; simp), h2]
 exact if_neg h3
def dtO (x : Option ((Nat → Bool) × Nat × List Nat × List Nat)) : Option ((Nat → Bool) × List Nat × List Nat) := match x with
 | none => none
 | some (g, n, a, t) => if n = 0 then some (sh g, a, t) else none
def tbO (c : Nat) (x : (Nat → Bool) × Option (List Nat × List Nat)) : Option ((Nat → Bool) × List Nat × List Nat) := match x.2 with
 | none => none
 | some (a, t) => if a.length = c then some (x.1, a, t) else none
theorem tb_more {d : DS} : ∀ (k : Nat) (f : Nat → Bool) (nx : Nat) (at_ tab : List Nat) {a t : List Nat}, (tbR d k f nx at_ tab).2 = some (a, t) → at_.length ≤ a.length ∧ (nx ≠ 0 → at_.length < a.length)
 | 0, f, nx, at_, tab, a, t, h => by rw [tbR] at h; cases h
 | k + 1, f, nx, at_, tab, a, t, h => by
   by_cases hz : nx = 0
   ·subst hz
    rw [tbR_end] at h
    cases h
    exact ⟨Nat.le_refl _, fun e => absurd rfl e⟩
   ·cases hl : (ldR d f nx 2).2 with
    | none => rw [tbR_none hz hl] at h; cases h
    | some D =>
      by_cases hD : D.length < 4
      ·rw [tbR_short hz hl hD] at h; cases h
      ·rw [tbR_go hz hl hD] at h
       have := (tb_more k _ _ _ _ h).1
       simp only [List.length_append, List.length_cons, List.length_nil] at this
       exact ⟨by omega, fun _ => by omega⟩
theorem tb_dt (d : DS) : ∀ (left k : Nat) (f : Nat → Bool) (nx : Nat) (at_ tab : List Nat), cnt (sh f) (d.n / 4) < k → tbO (at_.length + left) (tbR d k (sh f) nx at_ tab) = dtO (dtR d left f nx at_ tab)
 | left, 0, f, nx, at_, tab, h => by omega
 | 0, k + 1, f, nx, at_, tab, h => by
   by_cases hz : nx = 0
   ·subst hz
    rw [tbR_end]
    simp [tbO, dtR, dtO]
   ·have e1 : dtO (dtR d 0 f nx at_ tab) = none := by simp [dtR, dtO, hz]
    rw [e1]
    cases hr : (tbR d (k + 1) (sh f) nx at_ tab).2 with
    | none => simp [tbO, hr]
    | some x =>
      obtain ⟨a, t⟩ := x
      have := (tb_more _ _ _ _ _ hr).2 hz
      simp only [tbO, hr]
      rw [if_neg (by omega)]
 | left + 1, k + 1, f, nx, at_, tab, h => by
   by_cases hz : nx = 0
   ·subst hz
    have h9 : tkOk (d.n / 4) f 0 = false := by simp [tkOk]
    rw [tbR_end, dtR_take h9]
    simp [tbO, dtO]
   ·by_cases ht : tkOk (d.n / 4) f nx = false
    ·rw [tbR_none hz (tk_no 2 ht), dtR_take ht]
     rfl
    ·have ht' : tkOk (d.n / 4) f nx = true := by simpa using ht
     have hl := tk_yes 2 ht'
     cases hd : ldD d nx 2 with
     | none =>
       rw [tbR_none hz (by rw [hl]; exact hd), dtR_none hd]
       rfl
     | some D =>
       have hl2 : (ldR d (sh f) nx 2).2 = some D := by rw [hl]; exact hd
       by_cases hD : D.length < 4
       ·rw [tbR_short hz hl2 hD, dtR_short hd hD]
        rfl
       ·rw [tbR_go hz hl2 hD, dtR_go ht' hd hD, hl]
        have hc : cnt (sh (fun j => f j || j == nx)) (d.n / 4) + 1 = cnt (sh f) (d.n / 4) := by
         rw [sh_set]
         simp only [tkOk, Bool.and_eq_true, decide_eq_true_eq, Bool.not_eq_true'] at ht'
         exact cnt_set (sh f) nx (by simp only [sh, ht'.2, Bool.false_or, decide_eq_false_iff_not]; omega) _ (by omega)
        have := tb_dt d left k (fun j => f j || j == nx) (part D 0 4) (at_ ++ [nx]) (tab ++ D.drop 4) (by omega)
        rw [← this]
        simp only [List.length_append, List.length_cons, List.length_nil]
        rw [show at_.length + (0 + 1) + left = at_.length + (left + 1) by omega]
theorem put_end {v : Nat × List Nat} {i : Int} : ∀ {m : Pgs}, (∀ p ∈ m, p.1 < i) → putL m i v = m ++ [(i, v)] := by
 intro m h
 have hd : delL m i = m := by
  unfold delL
  refine List.filter_eq_self.2 (fun p hp => ?_)
  have := h p hp
  simp
  omega
 unfold putL
 rw [hd]
 clear hd
 induction m with
 | nil => rfl
 | cons p r ih =>
   have h1 := h p (List.mem_cons_self ..)
   have := ih (fun q hq => h q (List.mem_cons_of_mem _ hq))
   simp only [insL]
   rw [if_neg (by omega), this]
   rfl
def lastI (m : Pgs) : Int := match m.getLast? with
 | none => -1
 | some p => p.1
theorem lastI_snoc (m : Pgs) (p : Int × Nat × List Nat) : lastI (m ++ [p]) = p.1 := by simp [lastI]
def dpR (d : DS) (tab : List Nat) : Nat → (Nat → Bool) → Nat → Pgs → Option Pgs
 | 0, _, _, _ => none
 | k + 1, f, pos, m => if tab.length ≤ pos then some m else
   match rd tab pos 0 0 with
   | none => none
   | some (i, q) =>
     match rd tab q 0 0 with
     | none => none
     | some (P, z) => if 728 ≤ i ∨ (i : Int) ≤ lastI m ∨ tkOk (d.n / 4) f P = false then none else
       match ldD d P (3 + 256 * i) with
       | none => none
       | some D => dpR d tab k (fun j => f j || j == P) z (m ++ [((i : Int), P, D)])
section
variable {d : DS} {tab : List Nat} {f : Nat → Bool} {pos i q P z k : Nat} {m : Pgs} {D : List Nat}
theorem dpR_end (h : tab.length ≤ pos) : dpR d tab (k + 1) f pos m = some m := by rw [dpR, if_pos h]
theorem dpR_none1 (h : ¬ tab.length ≤ pos) (h1 : rd tab pos 0 0 = none) : dpR d tab (k + 1) f pos m = none := by rw [dpR, if_neg h, h1]
theorem dpR_none2 (h : ¬ tab.length ≤ pos) (h1 : rd tab pos 0 0 = some (i, q)) (h2 : rd tab q 0 0 = none) : dpR d tab (k + 1) f pos m = none := by
 rw [dpR, if_neg h, h1]; simp only [h2]
theorem dpR_bad (h : ¬ tab.length ≤ pos) (h1 : rd tab pos 0 0 = some (i, q)) (h2 : rd tab q 0 0 = some (P, z)) (h3 : 728 ≤ i ∨ (i : Int) ≤ lastI m ∨ tkOk (d.n / 4) f P = false) : dpR d tab (k + 1) f pos m = none := by
 rw [dpR, if_neg h, h1]; simp only [h2]; exact if_pos h3
theorem dpR_not (h : ¬ tab.length ≤ pos) (h1 : rd tab pos 0 0 = some (i, q)) (h2 : rd tab q 0 0 = some (P, z)) (h4 : ldD d P (3 + 256 * i) = none) : dpR d tab (k + 1) f pos m = none := by
 rw [dpR, if_neg h, h1]; simp only [h2, h4]; split <;> rfl
theorem dpR_go (h : ¬ tab.length ≤ pos) (h1 : rd tab pos 0 0 = some (i, q)) (h2 : rd tab q 0 0 = some (P, z)) (h3 : ¬ (728 ≤ i ∨ (i : Int) ≤ lastI m ∨ tkOk (d.n / 4) f P = false)) (h4 : ldD d P (3 + 256 * i) = some D) : dpR d tab (k + 1) f pos m = dpR d tab k (fun j => f j || j == P) z (m ++ [((i : Int), P, D)]) := by
 rw [dpR, if_neg h, h1]; simp only [h2]; refine (if_neg h3).trans ?_; rw [h4]
end
theorem pgs_dp (d : DS) (tab : List Nat) : ∀ (k : Nat) (f : Nat → Bool) (least pos : Nat) (m : Pgs), (∀ p ∈ m, p.1 ≤ lastI m) → (least : Int) = lastI m + 1 → (pgsR d tab k (sh f) least pos m).2 = dpR d tab k f pos m
 | 0, f, least, pos, m, _, _ => rfl
 | k + 1, f, least, pos, m, hm, hl => by
   by_cases h : tab.length ≤ pos
   ·rw [pgsR_end h, dpR_end h]
   ·cases h1 : rd tab pos 0 0 with
    | none => rw [pgsR_none1 h h1, dpR_none1 h h1]
    | some x =>
      obtain ⟨i, q⟩ := x
      by_cases hi : i < least ∨ 728 ≤ i
      ·rw [pgsR_low h h1 hi]
       cases h2 : rd tab q 0 0 with
       | none => rw [dpR_none2 h h1 h2]
       | some y =>
         obtain ⟨P, z⟩ := y
         rw [dpR_bad h h1 h2 (by omega)]
      ·cases h2 : rd tab q 0 0 with
       | none => rw [pgsR_none2 h h1 hi h2, dpR_none2 h h1 h2]
       | some y =>
         obtain ⟨P, z⟩ := y
         by_cases ht : tkOk (d.n / 4) f P = false
         ·rw [pgsR_not h h1 hi h2 (tk_no _ ht), dpR_bad h h1 h2 (.inr (.inr ht))]
         ·have ht' : tkOk (d.n / 4) f P = true := by simpa using ht
          have hd := tk_yes (3 + 256 * i) ht'
          cases h4 : ldD d P (3 + 256 * i) with
          | none => rw [pgsR_not h h1 hi h2 (by rw [hd]; exact h4), dpR_not h h1 h2 h4]
          | some D =>
            have hlt : ∀ p ∈ m, p.1 < (i : Int) := fun p hp => by have := hm p hp; omega
            rw [pgsR_go h h1 hi h2 (by rw [hd]; exact h4), dpR_go h h1 h2 (by rintro (e | e | e) <;> first | omega | exact ht e) h4, hd, put_end hlt]
            refine pgs_dp d tab k _ _ _ _ (fun p hp => ?_) ?_
            ·rw [lastI_snoc]
             rcases List.mem_append.1 hp with hp | hp
             ·have := hlt p hp; simp only; omega
             ·simp only [List.mem_cons, List.not_mem_nil, or_false] at hp; rw [hp]; exact Int.le_refl _
            ·rw [lastI_snoc]; simp
def loadD (d : DS) (q : Nat) : Option SS := if rtOk (secN (d.sec q)) = true then
    match dtR d (rtC (secN (d.sec q))) (fun _ => false) (rtF (secN (d.sec q))) [] [] with
    | none => none
    | some (g, n, a, t) => if n = 0 then (dpR d t (t.length + 1) g 0 []).map fun m => ⟨d.n / 4, rtE (secN (d.sec q)), q, a, m, m⟩ else none
 else none
theorem load_doc (d : DS) (q : Nat) : loadR d q = loadD d q := by
 unfold loadR loadD
 by_cases h : rtOk (secN (d.sec q)) = true
 ·rw [if_pos h, if_pos h]
  have key := tb_dt d (rtC (secN (d.sec q))) (cnt tk (d.n / 4) + 1) (fun _ => false) (rtF (secN (d.sec q))) [] [] (by rw [sh_tk]; omega)
  rw [sh_tk] at key
  simp only [List.length_nil, Nat.zero_add] at key
  generalize tbR d (cnt tk (d.n / 4) + 1) tk (rtF (secN (d.sec q))) [] [] = X at key ⊢
  generalize dtR d (rtC (secN (d.sec q))) (fun _ => false) (rtF (secN (d.sec q))) [] [] = Y at key ⊢
  obtain ⟨g, x⟩ := X
  cases x with
  | none =>
    cases Y with
    | none => rfl
    | some y =>
      obtain ⟨g', n, a, t⟩ := y
      simp only [tbO, dtO] at key
      simp only [loadP]
      by_cases hn : n = 0
      ·rw [if_pos hn] at key; cases key
      ·rw [if_neg hn]
  | some z =>
    obtain ⟨a, t⟩ := z
    simp only [tbO] at key
    simp only [loadP]
    by_cases hc : a.length = rtC (secN (d.sec q))
    ·rw [if_pos hc] at key ⊢
     cases Y with
     | none => simp only [dtO] at key; cases key
     | some y =>
       obtain ⟨g', n, a', t'⟩ := y
       simp only [dtO] at key
       by_cases hn : n = 0
       ·rw [if_pos hn] at key
        simp only [Option.some.injEq, Prod.mk.injEq] at key
        obtain ⟨rfl, rfl, rfl⟩ := key
        simp only [hn, if_true]
        rw [pgs_dp d t _ g' 0 0 [] (fun p hp => by cases hp) (by simp [lastI])]
       ·rw [if_neg hn] at key; cases key
    ·rw [if_neg hc] at key ⊢
     cases Y with
     | none => rfl
     | some y =>
       obtain ⟨g', n, a', t'⟩ := y
       simp only [dtO] at key
       by_cases hn : n = 0
       ·rw [if_pos hn] at key; cases key
       ·simp only [hn, if_false]
 ·rw [if_neg h, if_neg h]
theorem open_dead (p S B : Nat) (pv : Value) (d : DS) (w : World) (h : DiskAt w B p S pv d) (hl : d.life = 0) :
  Calls Tryz.prog 45 #[.pointer (some ⟨p, 0, none⟩)] w fun e w' => e = .returned (.tuple #[.pointer none, .int .i64 3]) ∧ w' = w := by
 have h2 : w.cell? ⟨p, 2, none⟩ = some (.int .i64 0) := by rw [← hl]; exact h.c2
 have HR := read_dead p 0 w h2
 clear h h2
 go_enter Tryz.func45, Tryz.ntmps45
 go_wp2_with (go_at_call 8; refine HR.mono ?_; rintro e w' ⟨rfl, rfl⟩)
 go_ret2
 exact ⟨rfl, rfl⟩
theorem open_small (p S B : Nat) (pv : Value) (d : DS) (w : World) (h : DiskAt w B p S pv d) (hl : d.life ≠ 0) (h0 : 0 < d.n) (hn : d.n / 4 < 3) :
  Calls Tryz.prog 45 #[.pointer (some ⟨p, 0, none⟩)] w fun e w' => e = .returned (.tuple #[.pointer none, .int .i64 6]) ∧ Only (fun _ => False) w w' := by
 obtain ⟨w1, hw1⟩ : ∃ w1, w1 = w.alloc (.cells (secL (d.sec 0)).toArray 67) := ⟨_, rfl⟩
 have HRd : Hid (Calls Tryz.prog 8 #[.pointer (some ⟨p, 0, none⟩), .int .i64 0] w fun e w' => e = .returned (.tuple #[.slice (some ⟨w.heap.size, 0, none⟩) 32 32, .int .i64 0]) ∧ w' = w1) := by
  rw [hw1]
  exact read_any p S 0 B pv d w h hl h0
 have o1 : Only (fun _ => False) w w1 := by rw [hw1]; exact (Only.refl _ w).alloc _
 have O1 : Hid (Only (fun _ => False) w w1) := o1
 have h1 : DiskAt w1 B p S pv d := h.frame o1 (fun _ _ e => e)
 obtain ⟨c, hc⟩ := h1.c0
 have HCn : Hid (Calls Tryz.prog 28 _ _ _) := count_any p S d.n c w1 h1.n2 hc
 obtain ⟨nn, hnn⟩ : ∃ nn, nn = d.n / 4 := ⟨_, rfl⟩
 rw [← hnn] at hn HCn
 have hn' : (nn : Int) < 3 := by omega
 clear h h1 hc hw1 o1 hnn hl h0
 go_enter Tryz.func45, Tryz.ntmps45
 go_wp2_with fail
 refine (show Calls Tryz.prog 8 _ _ _ from HRd.out).mono ?_
 rintro e wa ⟨rfl, hwa⟩
 rw [hwa]
 clear hwa HRd
 go_wp2_with fail
 refine (show Calls Tryz.prog 28 _ _ _ from HCn.out).mono ?_
 rintro e wb ⟨rfl, hwb⟩
 rw [hwb]
 clear hwb HCn
 go_wp2
 go_ret2
 exact ⟨rfl, O1.out⟩
theorem ropen_dead {w : World} {B q K : Nat} {rv : Value} {rs : List RW} {d : DS} (h : RefAt w B q K rv d rs) (hl : d.life = 0) :
  Calls Tryz.prog 46 #[.pointer (some ⟨q, 0, none⟩)] w fun e w' => e = .returned (.tuple #[.pointer none, .int .i64 3]) ∧ w' = w := by
 have h2 : w.cell? ⟨q, 3, none⟩ = some (.int .i64 0) := by rw [← hl]; exact h.c3
 have HR := rread_dead q 0 w h2
 clear h h2
 go_enter Tryz.func46, Tryz.ntmps46
 go_wp2_with (go_at_call 9; refine HR.mono ?_; rintro e w' ⟨rfl, rfl⟩)
 go_ret2
 exact ⟨rfl, rfl⟩
theorem ropen_small {w : World} {B q K : Nat} {rv : Value} {rs : List RW} {d : DS} (h : RefAt w B q K rv d rs) (hg : Good d) (hl : d.life ≠ 0) (hlen : d.pend.length ≤ 140737488351232) (h0 : 0 < d.n) (hn : d.n / 4 < 3) :
  Calls Tryz.prog 46 #[.pointer (some ⟨q, 0, none⟩)] w fun e w' => e = .returned (.tuple #[.pointer none, .int .i64 6]) ∧ Only (fun _ => False) w w' := by
 have HRd : Hid (Calls Tryz.prog 9 #[.pointer (some ⟨q, 0, none⟩), .int .i64 0] w fun e w' => ∃ u, e = .returned (.tuple #[u, .int .i64 0]) ∧ Hid (Only (fun _ => False) w w')) := by
  refine (rread_any h hg hl hlen 0 h0).mono ?_
  rintro e w' ⟨g, cap, he, _, q2⟩
  exact ⟨_, he, q2⟩
 have HC : Hid (∀ w1, Only (fun _ => False) w w1 → Calls Tryz.prog 71 #[.pointer (some ⟨q, 0, none⟩)] w1 fun e w' => e = .returned (.int .i64 ((d.n / 4 : Nat) : Int)) ∧ w' = w1) := fun w1 ho => rcount_any q d.n w1 h.n2 (ho.cell h.c0 (fun e => e))
 obtain ⟨nn, hnn⟩ : ∃ nn, nn = d.n / 4 := ⟨_, rfl⟩
 rw [← hnn] at hn HC
 have hn' : (nn : Int) < 3 := by omega
 clear h hnn hl h0 hg hlen
 go_enter Tryz.func46, Tryz.ntmps46
 go_wp2_with fail
 refine (show Calls Tryz.prog 9 _ _ _ from HRd.out).mono ?_
 rintro e wa ⟨u, rfl, HO⟩
 clear HRd
 go_wp2_with fail
 refine (HC.out wa HO.out).mono ?_
 rintro e wb ⟨rfl, hwb⟩
 rw [hwb]
 clear hwb HC
 go_wp2
 go_ret2
 exact ⟨rfl, HO.out⟩
end Go.Proofs.YtlcglapcmdpkfaaGreat
namespace Go.Proofs.YtlcglapcmdpkfaaGreat
open Go.RowKit
set_option linter.unusedSimpArgs false
set_option linter.unusedVariables false
set_option maxRecDepth 100000
set_option maxHeartbeats 16000000
theorem copy32c (w : World) (g o c : Nat) (f : Nat → Int) (h : w.rangeAt g o (secL f)) :
  ∃ g' cap w', (∀ ty, (Builtin.append_ #[37, 37] ty #[.slice (some ⟨w.heap.size, 0, none⟩) 0 0, .slice (some ⟨g, o, none⟩) 32 c]).run Tryz.prog (w.alloc (.cells #[] 5)) = .ok (.slice (some ⟨g', 0, none⟩) 32 cap) w') ∧ w'.rangeAt g' 0 (secL f) ∧ w.heap.size ≤ g' ∧ g' < w'.heap.size ∧ Only (fun _ => False) w w' ∧ 32 ≤ cap := by
 obtain ⟨i0, hi0, hz0, hz1, hz2⟩ := info_parts info5
 obtain ⟨a, cap, w', hr, own, ho⟩ := app_copy0 37 5 i0 _ 1 Tryz.underlying37 hi0 hz0 hz1 hz2 rfl rfl w (.slice (some ⟨g, o, none⟩) 32 c) 32 (fun j => .int .u8 (f j)) (.inr ⟨_, c, rfl, fun j hj => by rw [Addr.add_mid]; exact h j _ (secL_get f j (by omega))⟩) (fun j => rfl) (by omega)
 have hcap : 32 ≤ cap := by
  rcases own.2 with ⟨_, h0⟩ | ⟨_, cap2, _, hv, _, _, hc, _⟩
  ·omega
  ·simp only [Value.slice.injEq] at hv
   omega
 obtain ⟨g', cap', hv, h1, h2⟩ := own.form (by omega)
 simp only [Value.slice.injEq] at hv
 obtain ⟨rfl, _, rfl⟩ := hv
 refine ⟨g', cap, w', hr, fun j v hv => ?_, h1, h2, ho, hcap⟩
 have hj : j < 32 := by have := (List.getElem?_eq_some_iff.1 hv).1; rwa [secL_length] at this
 rw [Nat.zero_add, own.cellAt j (by omega)]
 exact hv
def RdIsC (w w' : World) (e : Ending) (f : Nat → Int) : Prop := ∃ g cap, e = .returned (.tuple #[.slice (some ⟨g, 0, none⟩) 32 cap, .int .i64 0]) ∧ w'.rangeAt g 0 (secL f) ∧ Only (fun _ => False) w w' ∧ 32 ≤ cap
theorem rread_cap {w : World} {B r K : Nat} {pv : Value} {d : DS} {rs : List RW} (h : RefAt w B r K pv d rs) (hg : Good d) (hl : d.life ≠ 0) (hlen : d.pend.length ≤ 140737488351232) (k : Nat) (hk : k < d.n) :
  Calls Tryz.prog 9 #[.pointer (some ⟨r, 0, none⟩), .int .i64 k] w fun e w' => RdIsC w w' e (d.sec k) := by
 obtain ⟨a, c, hpv⟩ := h.form
 subst hpv
 have HR : Hid (RefAt w B r K (.slice a rs.length c) d rs) := h
 have HG : Hid (Good d) := hg
 have c0 := h.c0
 have c1 := h.c1
 have c2 := h.c2
 have c3 := h.c3
 have hrl := h.len
 have hn2 := h.n2
 have hlz : (d.life == 0) = false := by simpa using hl
 obtain ⟨m, hm⟩ : ∃ m, m = rs.length := ⟨_, rfl⟩
 have hm2 : m ≤ 140737488351232 := by omega
 have HM : Hid (m = rs.length) := hm
 have HRL : Hid (rs.length = d.pend.length) := hrl
 rw [← hm] at c2
 clear hm hrl
 have oE : Only (fun _ => False) w (w.alloc (.cells #[] 5)) := (Only.refl _ w).alloc _
 have OE : Hid (Only (fun _ => False) w (w.alloc (.cells #[] 5))) := oE
 have e1 := oE.cell c1 (fun e => e)
 have e2 := oE.cell c2 (fun e => e)
 clear oE
 have k0 : ¬ (k : Int) < 0 := by omega
 have k1 : ¬ (d.n : Int) ≤ (k : Int) := by omega
 have hem := empty23
 clear h hg
 go_enter Tryz.func9, Tryz.ntmps9
 go_wp2_with fail
 go_loopw [6] (fun t wr => ∃ i : Int, -1 ≤ i ∧ i < m ∧ t = .int .i64 i ∧ w = wr ∧ ∀ j (hj : j < rs.length), i < (j : Int) → (rs[j]).x.at_ ≠ k) (fun t _ => (intOf t + 1).toNat)
 case atStart => exact ⟨(m : Int) - 1, by omega, by omega, by first | rfl | go_num, rfl, fun j hj hi => by have := HM.out; omega⟩
 case round =>
  obtain ⟨i, hi1, hi2, rfl, rfl, hall⟩ := hrel
  by_cases hneg : i < 0
  ·obtain rfl : i = -1 := by omega
   have hsec : d.sec k = undoW d.pend d.sec k := by
    have h1 := congrFun HG.out k
    rw [← h1]
    exact doAll_keep _ _ _ (fun x hx => by
     rw [← HR.out.tie] at hx
     obtain ⟨y, hy, rfl⟩ := List.mem_map.1 hx
     obtain ⟨j, hj, rfl⟩ := List.getElem_of_mem hy
     exact hall j hj (by omega))
   have hsrc : w.rangeAt K (k * 32) (secL (d.sec k)) := fun j v hv => by
    have hj : j < 32 := by have := (List.getElem?_eq_some_iff.1 hv).1; rwa [secL_length] at this
    rw [secL_get _ _ hj] at hv
    have := HR.out.kept (k * 32 + j) (.int .u8 (undoW d.pend d.sec k j)) (allL_get _ _ k j hk hj)
    rw [Nat.zero_add] at this
    rw [this, ← hv, hsec]
   obtain ⟨g', cap, w', hr, hrg, hg1, hg2, ho, hcap⟩ := copy32c w K (k * 32) (d.n * 32 - k * 32) (d.sec k) hsrc
   have HRR : Hid _ := hr
   have HRG : Hid (w'.rangeAt g' 0 (secL (d.sec k)) ∧ Only (fun _ => False) w w' ∧ 32 ≤ cap) := ⟨hrg, ho, hcap⟩
   clear hr hrg ho hcap hsrc hsec hall
   have q1 : IntKind.i64.wrap ((k : Int) * 32) = (k : Int) * 32 := by rw [IntKind.wrap_i64]; omega
   have q2 : IntKind.i64.wrap ((k : Int) + 1) = (k : Int) + 1 := by rw [IntKind.wrap_i64]; omega
   have q3 : IntKind.i64.wrap (((k : Int) + 1) * 32) = ((k : Int) + 1) * 32 := by rw [IntKind.wrap_i64]; omega
   have q4 : (0 : Int) ≤ (k : Int) * 32 := by omega
   have q5 : (k : Int) * 32 ≤ ((k : Int) + 1) * 32 := by omega
   have q6 : ((k : Int) + 1) * 32 ≤ (d.n : Int) * 32 := by omega
   have q7 : ((k : Int) * 32).toNat = k * 32 := by omega
   have q8 : (((k : Int) + 1) * 32).toNat = (k + 1) * 32 := by omega
   have q9 : (k + 1) * 32 - k * 32 = 32 := by omega
   go_wp2_with (at_builtin; refine wpList_append_run rfl _ _ 37 rfl _ _ (.slice (some ⟨g', 0, none⟩) 32 cap) rfl rfl HRR.out ?_)
   go_ret2
   exact ⟨g', cap, rfl, HRG.out⟩
  ·obtain ⟨j, rfl⟩ : ∃ j : Nat, i = (j : Int) := ⟨i.toNat, by omega⟩
   have j0 : (0 : Int) ≤ (j : Int) := Int.natCast_nonneg _
   have hjr : j < rs.length := by have := HM.out; omega
   obtain ⟨g, hga, x0, x1, hgr, hgK⟩ := HR.out.get j hjr
   subst hga
   by_cases hat : (rs[j]).x.at_ = k
   ·have hsec : d.sec k = (rs[j]).x.aft := by
     have hjd : j < d.pend.length := by have := HRL.out; omega
     have hx : ∀ q (hq : q < rs.length) (hq' : q < d.pend.length), (rs[q]).x = d.pend[q] := fun q hq hq' => by
      have := HR.out.tie
      simp only [← this, List.getElem_map]
     have h1 := congrFun HG.out (d.pend[j]).at_
     rw [doAll_last _ _ j hjd (fun q hq hlt => by
      have hq' : q < rs.length := by have := HRL.out; omega
      rw [← hx q hq' hq, ← hx j hjr hjd, hat]; exact hall q hq' (by omega)), ← hx j hjr hjd, hat] at h1
     exact h1.symm
    obtain ⟨_, hxr, _⟩ := HR.out.at_ _ (List.getElem_mem hjr)
    rw [← hsec] at hxr
    obtain ⟨g', cap, w', hr, hrg, hg1, hg2, ho, hcap⟩ := copy32c w (rs[j]).g 0 (rs[j]).c (d.sec k) hxr
    have HRR : Hid _ := hr
    have HRG : Hid (w'.rangeAt g' 0 (secL (d.sec k)) ∧ Only (fun _ => False) w w' ∧ 32 ≤ cap) := ⟨hrg, ho, hcap⟩
    have z1 := OE.out.cell x1 (fun e => e)
    obtain ⟨ka, hka⟩ : ∃ ka, ka = (rs[j]).x.at_ := ⟨_, rfl⟩
    obtain ⟨gg, hgg⟩ : ∃ k, k = (rs[j]).g := ⟨_, rfl⟩
    obtain ⟨gc, hgc⟩ : ∃ k, k = (rs[j]).c := ⟨_, rfl⟩
    rw [← hgg, ← hgc] at HRR z1
    rw [← hka] at hat x0
    subst hat
    clear hr hrg ho hcap hxr hsec hall hka hgg hgc x1
    go_wp2_with (at_builtin; refine wpList_append_run rfl _ _ 37 rfl _ _ (.slice (some ⟨g', 0, none⟩) 32 cap) rfl rfl HRR.out ?_)
    go_ret2
    exact ⟨g', cap, rfl, HRG.out⟩
   ·have hat' : ¬ (((rs[j]).x.at_ : Nat) : Int) = (k : Int) := by omega
    have HALL : Hid (∀ q (hq : q < rs.length), (j : Int) - 1 < (q : Int) → (rs[q]).x.at_ ≠ k) := fun q hq hi => by
     by_cases e : q = j
     ·subst e; exact hat
     ·exact hall q hq (by omega)
    obtain ⟨ka, hka⟩ : ∃ ka, ka = (rs[j]).x.at_ := ⟨_, rfl⟩
    rw [← hka] at hat hat' x0
    clear hka hall x1
    go_wp2
    go_roundw
    case rel => exact ⟨(j : Int) - 1, by omega, by omega, by go_num, trivial, HALL.out⟩
    case measure => simp [intOf]
end Go.Proofs.YtlcglapcmdpkfaaGreat
namespace Go.Proofs.YtlcglapcmdpkfaaGreat
open Go.RowKit Go.Maps
set_option linter.unusedSimpArgs false
set_option linter.unusedVariables false
set_option maxRecDepth 100000
set_option maxHeartbeats 16000000
theorem sec_part {w : World} {g p m c : Nat} {f : Nat → Int} (h : w.rangeAt g 0 (secL f)) (hb : Byt f) (hp : p + m ≤ 32) (hc : m ≤ c) : BytesAt w (.slice (some ⟨g, p, none⟩) m c) (((secN f).drop p).take m) := by
 have hl : (((secN f).drop p).take m).length = m := by rw [List.length_take, List.length_drop, secN_length]; omega
 refine ⟨?_, by rw [hl]; omega, fun z hz => secN_lt hb z (List.mem_of_mem_drop (List.mem_of_mem_take hz))⟩
 rw [hl]
 refine .inr ⟨⟨g, p, none⟩, c, rfl, hc, fun j hj => ?_⟩
 rw [Nat.mul_one] at hj
 rw [Addr.add_mid]
 have h1 := h (p + j) _ (secL_get f (p + j) (by omega))
 rw [Nat.zero_add] at h1
 rw [h1]
 have e : (((secN f).drop p).take m).getD j 0 = (f (p + j)).toNat := by
  rw [← secN_getD f (p + j) (by omega)]
  simp [List.getD, List.getElem?_take, hj]
 show some (Value.int IntKind.u8 (f (p + j))) = some (Value.int IntKind.u8 (((((secN f).drop p).take m).getD j 0 : Nat) : Int))
 rw [e]
 have := (hb (p + j)).1
 rw [Int.toNat_of_nonneg this]
theorem laid_sec {w : World} {g p m c : Nat} {f : Nat → Int} (h : w.rangeAt g 0 (secL f)) (hb : Byt f) (hp : p + m ≤ 32) (hc : m ≤ c) (hm : m ≤ 8) :
  Calls Tryz.prog 98 #[.slice (some ⟨g, p, none⟩) m c] w fun e w' => e = .returned (.int .u64 (part (secN f) p m : Nat)) ∧ w' = w :=
 laidk_any _ _ w (sec_part h hb hp hc) (by rw [List.length_take]; omega)
theorem cut_0 (g cap : Nat) (h : 32 ≤ cap) (w : World) : (Instr.slice 37 (.slice (some ⟨g, 0, none⟩) 32 cap) none (some (.int .i64 8)) none).run Tryz.prog w = .ok (.slice (some ⟨g, 0, none⟩) 8 cap) w := by
 have k2 : (8 : Int) ≤ (cap : Int) := by omega
 have k3 : ¬ cap = 0 := by omega
 go_simp
theorem cut_24 (g cap : Nat) (h : 32 ≤ cap) (w : World) : (Instr.slice 37 (.slice (some ⟨g, 0, none⟩) 32 cap) (some (.int .i64 24)) none none).run Tryz.prog w = .ok (.slice (some ⟨g, 24, none⟩) 8 (cap - 24)) w := by
 have k1 : (32 : Int) ≤ (cap : Int) := by omega
 have e2 : ((cap : Int) - 24).toNat = cap - 24 := by omega
 have ec : ¬ cap - 24 = 0 := by omega
 have ec2 : ¬ cap = 24 := by omega
 go_simp
theorem cut_m (g cap a b : Nat) (h : 32 ≤ cap) (hab : a ≤ b) (hb : b ≤ 32) (ha : a < 32) (w : World) : (Instr.slice 37 (.slice (some ⟨g, 0, none⟩) 32 cap) (some (.int .i64 (a : Nat))) (some (.int .i64 (b : Nat))) none).run Tryz.prog w = .ok (.slice (some ⟨g, a, none⟩) (b - a) (cap - a)) w := by
 have k0 : (0 : Int) ≤ (a : Int) := by omega
 have k1 : (a : Int) ≤ (b : Int) := by omega
 have k2 : (b : Int) ≤ (cap : Int) := by omega
 have e1 : ((b : Int) - (a : Int)).toNat = b - a := by omega
 have e2 : ((cap : Int) - (a : Int)).toNat = cap - a := by omega
 have ec : ¬ cap - a = 0 := by omega
 have ec2 : ¬ cap = a := by omega
 go_simp
theorem rload_bad {w : World} {B q K : Nat} {rv : Value} {rs : List RW} {d : DS} (h : RefAt w B q K rv d rs) (hg : Good d) (hby : ByteD d) (hl : d.life ≠ 0) (hlen : d.pend.length ≤ 140737488351232) (r : Nat) (hr : r = 0 ∨ r = 1) (hn : 4 * r < d.n) (hbad : rtOk (secN (d.sec (4 * r))) = false) :
  Calls Tryz.prog 75 #[.pointer (some ⟨q, 0, none⟩), .int .i64 (r : Nat)] w fun e w' => e = .returned (.pointer none) ∧ Only (fun _ => False) w w' := by
 have HRd : Hid (Calls Tryz.prog 9 #[.pointer (some ⟨q, 0, none⟩), .int .i64 ((4 * r : Nat) : Int)] w fun e w' => RdIsC w w' e (d.sec (4 * r))) := rread_cap h hg hl hlen (4 * r) hn
 have HB : Hid (Byt (d.sec (4 * r))) := hby.sec _
 have e4 : IntKind.i64.wrap (4 * (r : Int)) = ((4 * r : Nat) : Int) := by rw [IntKind.wrap_i64]; omega
 obtain ⟨f, hf⟩ : ∃ f, f = d.sec (4 * r) := ⟨_, rfl⟩
 obtain ⟨R4, hR4⟩ : ∃ f, f = 4 * r := ⟨_, rfl⟩
 rw [← hf] at HRd HB hbad
 rw [← hR4] at HRd e4
 clear h hg hby hl hlen hn hf hR4
 go_enter Tryz.func75, Tryz.ntmps75
 go_wp2_with fail
 refine (show Calls Tryz.prog 9 _ _ _ from HRd.out).mono ?_
 rintro e w1 ⟨g, cap, rfl, hrg, ho, hcap⟩
 clear HRd e4
 have HO : Hid (Only (fun _ => False) w w1) := ho
 have HL : Hid (∀ wx k m c, Only (fun _ => False) w1 wx → k + m ≤ 32 → m ≤ c → m ≤ 8 → Calls Tryz.prog 98 #[.slice (some ⟨g, k, none⟩) m c] wx fun e w' => e = .returned (.int .u64 (part (secN f) k m : Nat)) ∧ w' = wx) := fun wx k m c hx h1 h2 h3 => laid_sec (hx.range hrg (fun e => e)) HB.out h1 h2 h3
 have s0 := cut_0 g cap hcap
 have s24 := cut_24 g cap hcap
 have s16 : ∀ w, (Instr.slice 37 (.slice (some ⟨g, 0, none⟩) 32 cap) (some (.int .i64 16)) (some (.int .i64 24)) none).run Tryz.prog w = .ok (.slice (some ⟨g, 16, none⟩) 8 (cap - 16)) w := fun w => cut_m g cap 16 24 hcap (by omega) (by omega) (by omega) w
 clear hrg ho
 unfold rtOk at hbad
 obtain ⟨x0, h0⟩ : ∃ x, x = part (secN f) 0 8 := ⟨_, rfl⟩
 obtain ⟨x24, h24⟩ : ∃ x, x = part (secN f) 24 8 := ⟨_, rfl⟩
 obtain ⟨x16, h16⟩ : ∃ x, x = part (secN f) 16 8 := ⟨_, rfl⟩
 rw [← h0, ← h24, ← h16] at hbad
 have HL0 : Hid (∀ wx c, Only (fun _ => False) w1 wx → 8 ≤ c → Calls Tryz.prog 98 #[.slice (some ⟨g, 0, none⟩) 8 c] wx fun e w' => e = .returned (.int .u64 (x0 : Nat)) ∧ w' = wx) := fun wx c hx hc => by rw [h0]; exact HL.out wx 0 8 c hx (by omega) hc (by omega)
 have HL24 : Hid (∀ wx c, Only (fun _ => False) w1 wx → 8 ≤ c → Calls Tryz.prog 98 #[.slice (some ⟨g, 24, none⟩) 8 c] wx fun e w' => e = .returned (.int .u64 (x24 : Nat)) ∧ w' = wx) := fun wx c hx hc => by rw [h24]; exact HL.out wx 24 8 c hx (by omega) hc (by omega)
 have HL16 : Hid (∀ wx c, Only (fun _ => False) w1 wx → 8 ≤ c → Calls Tryz.prog 98 #[.slice (some ⟨g, 16, none⟩) 8 c] wx fun e w' => e = .returned (.int .u64 (x16 : Nat)) ∧ w' = wx) := fun wx c hx hc => by rw [h16]; exact HL.out wx 16 8 c hx (by omega) hc (by omega)
 clear HL h0 h24 h16 HB
 go_wp2_with fail
 by_cases c1 : x0 = x24
 ·subst c1
  by_cases c2 : x0 = 0
  ·subst c2
   refine wp_region_held_drew (S := fun w2 => Only (fun _ => False) w1 w2) (by kernel_rfl) ((Only.refl _ w1).drew) (fun hHeld => ?_)
   refine t8 (i := 0) (v := .int .i64 0) rfl hHeld ?_
   simp only [Act.put, z9]
   refine t8 (i := 1) (v := .bool false) rfl hHeld ?_
   simp only [Act.put, z9]
   refine t8 (i := 2) (v := .bool false) rfl hHeld ?_
   simp only [Act.put, z9]
   refine t8 (i := 3) (v := .slice (some ⟨g, 0, none⟩) 32 cap) rfl hHeld ?_
   simp only [Act.put, z9]
   refine t8 (i := 4) (v := .slice (some ⟨g, 0, none⟩) 8 cap) rfl hHeld ?_
   simp only [Act.put, z9]
   refine t8 (i := 6) (v := .slice (some ⟨g, 0, none⟩) 32 cap) rfl hHeld ?_
   simp only [Act.put, z9]
   refine t8 (i := 7) (v := .slice (some ⟨g, 24, none⟩) 8 (cap - 24)) rfl hHeld ?_
   simp only [Act.put, z9]
   refine wpAnyH_ready (rs := [5]) (by kernel_rfl) (by simp) ?_
   refine AllReadyH.cons rfl (fun K hK => ?_) AllReadyH.nil
   rw [if_pos (by rfl)]
   refine wp_call_func #[.tmp 34] #[37] rfl #[.slice (some ⟨g, 0, none⟩) 8 cap] (by simp [Act.eval]) (enters_of Tryz.func98 (by kernel_rfl) rfl) (HL0.out _ cap hHeld (by omega)) (fun e W4 he4 => ?_)
   obtain ⟨rfl, rfl⟩ := he4
   refine ⟨_, rfl, hK _ _ hHeld (fun hHeld => ?_)⟩
   clear hK K
   simp only [Act.put, z9]
   refine wpAnyH_ready (rs := [8]) (by kernel_rfl) (by simp) ?_
   refine AllReadyH.cons rfl (fun K hK => ?_) AllReadyH.nil
   rw [if_pos (by rfl)]
   refine wp_call_func #[.tmp 37] #[37] rfl #[.slice (some ⟨g, 24, none⟩) 8 (cap - 24)] (by simp [Act.eval]) (enters_of Tryz.func98 (by kernel_rfl) rfl) (HL24.out _ (cap - 24) hHeld (by omega)) (fun e W4 he4 => ?_)
   obtain ⟨rfl, rfl⟩ := he4
   refine ⟨_, rfl, hK _ _ hHeld (fun hHeld => ?_)⟩
   clear hK K
   simp only [Act.put, z9]
   refine t8 (i := 9) (v := .bool false) rfl hHeld ?_
   simp only [Act.put, z9]
   refine t8 (i := 10) (v := .bool false) rfl hHeld ?_
   simp only [Act.put, z9]
   refine t8 (i := 11) (v := .bool false) rfl hHeld ?_
   simp only [Act.put, z9]
   refine t8 (i := 12) (v := .slice (some ⟨g, 0, none⟩) 32 cap) rfl hHeld ?_
   simp only [Act.put, z9]
   refine t8 (i := 13) (v := .slice (some ⟨g, 0, none⟩) 8 cap) rfl hHeld ?_
   simp only [Act.put, z9]
   refine wpAnyH_ready (rs := [14]) (by kernel_rfl) (by simp) ?_
   refine AllReadyH.cons rfl (fun K hK => ?_) AllReadyH.nil
   rw [if_pos (by rfl)]
   refine wp_call_func #[.tmp 43] #[37] rfl #[.slice (some ⟨g, 0, none⟩) 8 cap] (by simp [Act.eval]) (enters_of Tryz.func98 (by kernel_rfl) rfl) (HL0.out _ cap hHeld (by omega)) (fun e W4 he4 => ?_)
   obtain ⟨rfl, rfl⟩ := he4
   refine ⟨_, rfl, hK _ _ hHeld (fun hHeld => ?_)⟩
   clear hK K
   simp only [Act.put, z9]
   refine t8 (i := 15) (v := .bool true) rfl hHeld ?_
   simp only [Act.put, z9]
   refine t8 (i := 16) (v := .bool true) rfl hHeld ?_
   simp only [Act.put, z9]
   refine t8 (i := 17) (v := .bool true) rfl hHeld ?_
   simp only [Act.put, z9]
   refine t9 (i := 18) rfl hHeld ?_
   simp only [Act.put, z9]
   refine t9 (i := 19) rfl hHeld ?_
   simp only [Act.put, z9]
   refine t9 (i := 20) rfl hHeld ?_
   simp only [Act.put, z9]
   refine t9 (i := 21) rfl hHeld ?_
   simp only [Act.put, z9]
   refine t8 (i := 22) (v := .bool true) rfl hHeld ?_
   simp only [Act.put, z9]
   refine wpAnyH_done (by kernel_rfl) ?_ _
   have HQ : Hid (Only (fun _ => False) w w1.drew) := HO.out.drew
   clear hHeld
   go_wp2
   go_ret
   exact ⟨rfl, HQ.out⟩
  ·have c2' : ¬ (x0 : Int) = 0 := by omega
   have c3 : ¬ x16 = 0 := fun e => by subst e; simp [c2] at hbad
   have c3' : ¬ (x16 : Int) = 0 := by omega
   refine wp_region_held_drew (S := fun w2 => Only (fun _ => False) w1 w2) (by kernel_rfl) ((Only.refl _ w1).drew) (fun hHeld => ?_)
   refine t8 (i := 0) (v := .int .i64 0) rfl hHeld ?_
   simp only [Act.put, z9]
   refine t8 (i := 1) (v := .bool false) rfl hHeld ?_
   simp only [Act.put, z9]
   refine t8 (i := 2) (v := .bool false) rfl hHeld ?_
   simp only [Act.put, z9]
   refine t8 (i := 3) (v := .slice (some ⟨g, 0, none⟩) 32 cap) rfl hHeld ?_
   simp only [Act.put, z9]
   refine t8 (i := 4) (v := .slice (some ⟨g, 0, none⟩) 8 cap) rfl hHeld ?_
   simp only [Act.put, z9]
   refine t8 (i := 6) (v := .slice (some ⟨g, 0, none⟩) 32 cap) rfl hHeld ?_
   simp only [Act.put, z9]
   refine t8 (i := 7) (v := .slice (some ⟨g, 24, none⟩) 8 (cap - 24)) rfl hHeld ?_
   simp only [Act.put, z9]
   refine wpAnyH_ready (rs := [5]) (by kernel_rfl) (by simp) ?_
   refine AllReadyH.cons rfl (fun K hK => ?_) AllReadyH.nil
   rw [if_pos (by rfl)]
   refine wp_call_func #[.tmp 34] #[37] rfl #[.slice (some ⟨g, 0, none⟩) 8 cap] (by simp [Act.eval]) (enters_of Tryz.func98 (by kernel_rfl) rfl) (HL0.out _ cap hHeld (by omega)) (fun e W4 he4 => ?_)
   obtain ⟨rfl, rfl⟩ := he4
   refine ⟨_, rfl, hK _ _ hHeld (fun hHeld => ?_)⟩
   clear hK K
   simp only [Act.put, z9]
   refine wpAnyH_ready (rs := [8]) (by kernel_rfl) (by simp) ?_
   refine AllReadyH.cons rfl (fun K hK => ?_) AllReadyH.nil
   rw [if_pos (by rfl)]
   refine wp_call_func #[.tmp 37] #[37] rfl #[.slice (some ⟨g, 24, none⟩) 8 (cap - 24)] (by simp [Act.eval]) (enters_of Tryz.func98 (by kernel_rfl) rfl) (HL24.out _ (cap - 24) hHeld (by omega)) (fun e W4 he4 => ?_)
   obtain ⟨rfl, rfl⟩ := he4
   refine ⟨_, rfl, hK _ _ hHeld (fun hHeld => ?_)⟩
   clear hK K
   simp only [Act.put, z9]
   refine t8 (i := 9) (v := .bool false) rfl hHeld ?_
   simp only [Act.put, z9]
   refine t8 (i := 10) (v := .bool false) rfl hHeld ?_
   simp only [Act.put, z9]
   refine t8 (i := 11) (v := .bool false) rfl hHeld ?_
   simp only [Act.put, z9]
   refine t8 (i := 12) (v := .slice (some ⟨g, 0, none⟩) 32 cap) rfl hHeld ?_
   simp only [Act.put, z9]
   refine t8 (i := 13) (v := .slice (some ⟨g, 0, none⟩) 8 cap) rfl hHeld ?_
   simp only [Act.put, z9]
   refine wpAnyH_ready (rs := [14]) (by kernel_rfl) (by simp) ?_
   refine AllReadyH.cons rfl (fun K hK => ?_) AllReadyH.nil
   rw [if_pos (by rfl)]
   refine wp_call_func #[.tmp 43] #[37] rfl #[.slice (some ⟨g, 0, none⟩) 8 cap] (by simp [Act.eval]) (enters_of Tryz.func98 (by kernel_rfl) rfl) (HL0.out _ cap hHeld (by omega)) (fun e W4 he4 => ?_)
   obtain ⟨rfl, rfl⟩ := he4
   refine ⟨_, rfl, hK _ _ hHeld (fun hHeld => ?_)⟩
   clear hK K
   simp only [Act.put, z9]
   refine t8 (i := 15) (v := .bool false) rfl hHeld ?_
   simp only [Act.put, z9]
   refine t8 (i := 16) (v := .bool false) rfl hHeld ?_
   simp only [Act.put, z9]
   refine t8 (i := 17) (v := .bool false) rfl hHeld ?_
   simp only [Act.put, z9]
   refine t8 (i := 18) (v := .slice (some ⟨g, 0, none⟩) 32 cap) rfl hHeld ?_
   simp only [Act.put, z9]
   refine t8 (i := 19) (v := .slice (some ⟨g, 16, none⟩) 8 (cap - 16)) rfl hHeld ?_
   simp only [Act.put, z9]
   refine wpAnyH_ready (rs := [20]) (by kernel_rfl) (by simp) ?_
   refine AllReadyH.cons rfl (fun K hK => ?_) AllReadyH.nil
   rw [if_pos (by rfl)]
   refine wp_call_func #[.tmp 49] #[37] rfl #[.slice (some ⟨g, 16, none⟩) 8 (cap - 16)] (by simp [Act.eval]) (enters_of Tryz.func98 (by kernel_rfl) rfl) (HL16.out _ (cap - 16) hHeld (by omega)) (fun e W4 he4 => ?_)
   obtain ⟨rfl, rfl⟩ := he4
   refine ⟨_, rfl, hK _ _ hHeld (fun hHeld => ?_)⟩
   clear hK K
   simp only [Act.put, z9]
   refine t8 (i := 21) (v := .bool true) rfl hHeld ?_
   simp only [Act.put, z9]
   refine t8 (i := 22) (v := .bool true) rfl hHeld ?_
   simp only [Act.put, z9]
   refine wpAnyH_done (by kernel_rfl) ?_ _
   have HQ : Hid (Only (fun _ => False) w w1.drew) := HO.out.drew
   clear hHeld
   go_wp2
   go_ret
   exact ⟨rfl, HQ.out⟩
 ·have c1' : ¬ (x0 : Int) = (x24 : Int) := by omega
  refine wp_region_held_drew (S := fun w2 => Only (fun _ => False) w1 w2) (by kernel_rfl) ((Only.refl _ w1).drew) (fun hHeld => ?_)
  refine t8 (i := 0) (v := .int .i64 0) rfl hHeld ?_
  simp only [Act.put, z9]
  refine t8 (i := 1) (v := .bool false) rfl hHeld ?_
  simp only [Act.put, z9]
  refine t8 (i := 2) (v := .bool false) rfl hHeld ?_
  simp only [Act.put, z9]
  refine t8 (i := 3) (v := .slice (some ⟨g, 0, none⟩) 32 cap) rfl hHeld ?_
  simp only [Act.put, z9]
  refine t8 (i := 4) (v := .slice (some ⟨g, 0, none⟩) 8 cap) rfl hHeld ?_
  simp only [Act.put, z9]
  refine t8 (i := 6) (v := .slice (some ⟨g, 0, none⟩) 32 cap) rfl hHeld ?_
  simp only [Act.put, z9]
  refine t8 (i := 7) (v := .slice (some ⟨g, 24, none⟩) 8 (cap - 24)) rfl hHeld ?_
  simp only [Act.put, z9]
  refine wpAnyH_ready (rs := [5]) (by kernel_rfl) (by simp) ?_
  refine AllReadyH.cons rfl (fun K hK => ?_) AllReadyH.nil
  rw [if_pos (by rfl)]
  refine wp_call_func #[.tmp 34] #[37] rfl #[.slice (some ⟨g, 0, none⟩) 8 cap] (by simp [Act.eval]) (enters_of Tryz.func98 (by kernel_rfl) rfl) (HL0.out _ cap hHeld (by omega)) (fun e W4 he4 => ?_)
  obtain ⟨rfl, rfl⟩ := he4
  refine ⟨_, rfl, hK _ _ hHeld (fun hHeld => ?_)⟩
  clear hK K
  simp only [Act.put, z9]
  refine wpAnyH_ready (rs := [8]) (by kernel_rfl) (by simp) ?_
  refine AllReadyH.cons rfl (fun K hK => ?_) AllReadyH.nil
  rw [if_pos (by rfl)]
  refine wp_call_func #[.tmp 37] #[37] rfl #[.slice (some ⟨g, 24, none⟩) 8 (cap - 24)] (by simp [Act.eval]) (enters_of Tryz.func98 (by kernel_rfl) rfl) (HL24.out _ (cap - 24) hHeld (by omega)) (fun e W4 he4 => ?_)
  obtain ⟨rfl, rfl⟩ := he4
  refine ⟨_, rfl, hK _ _ hHeld (fun hHeld => ?_)⟩
  clear hK K
  simp only [Act.put, z9]
  refine t8 (i := 9) (v := .bool true) rfl hHeld ?_
  simp only [Act.put, z9]
  refine t8 (i := 10) (v := .bool true) rfl hHeld ?_
  simp only [Act.put, z9]
  refine t8 (i := 11) (v := .bool true) rfl hHeld ?_
  simp only [Act.put, z9]
  refine t9 (i := 12) rfl hHeld ?_
  simp only [Act.put, z9]
  refine t9 (i := 13) rfl hHeld ?_
  simp only [Act.put, z9]
  refine t9 (i := 14) rfl hHeld ?_
  simp only [Act.put, z9]
  refine t9 (i := 15) rfl hHeld ?_
  simp only [Act.put, z9]
  refine t8 (i := 16) (v := .bool true) rfl hHeld ?_
  simp only [Act.put, z9]
  refine t8 (i := 17) (v := .bool true) rfl hHeld ?_
  simp only [Act.put, z9]
  refine t9 (i := 18) rfl hHeld ?_
  simp only [Act.put, z9]
  refine t9 (i := 19) rfl hHeld ?_
  simp only [Act.put, z9]
  refine t9 (i := 20) rfl hHeld ?_
  simp only [Act.put, z9]
  refine t9 (i := 21) rfl hHeld ?_
  simp only [Act.put, z9]
  refine t8 (i := 22) (v := .bool true) rfl hHeld ?_
  simp only [Act.put, z9]
  refine wpAnyH_done (by kernel_rfl) ?_ _
  have HQ : Hid (Only (fun _ => False) w w1.drew) := HO.out.drew
  clear hHeld
  go_wp2
  go_ret
  exact ⟨rfl, HQ.out⟩
theorem keep_live (d : DS) (k : Nat) (f : Nat → Int) (hl : d.life = -1) (hk : k < d.n) : d.keep k f = (0, { d with sec := upd d.sec k f, pend := [], life := -1 }) := by
 have hw : d.write (k : Int) f 32 = (0, { d with sec := upd d.sec k f, pend := d.pend ++ [⟨k, d.sec k, f⟩], life := -1 }) := by
  have h1 : ¬ ((k : Int) < 0 ∨ (d.n : Int) ≤ k) := by omega
  simp [DS.write, hl, hk, aged]
 simp [DS.keep, hw, DS.barrier, aged]
theorem format_live (p S B : Nat) (pv : Value) (d : DS) (w : World) (h : DiskAt w B p S pv d) (hB : B ≤ w.heap.size) (hby : (d.pend.length + 2) * 72 ≤ 140737488355328) (hn : 12 ≤ d.n) (hl : d.life = -1) :
  Calls Tryz.prog 11 #[.pointer (some ⟨p, 0, none⟩)] w fun e w' => ∃ s mc mn pv', e = .returned (.tuple #[.pointer (some ⟨s, 0, none⟩), .int .i64 0]) ∧ Hid (DiskAt w' B p S pv' ⟨d.n, upd (upd d.sec 4 (byF zeros32)) 0 (byF (rootB 1 0 0)), [], -1⟩ ∧
   StAt w' (diskB p S pv') s p mc mn (.slice none 0 0) (SS.new (d.n / 4)) ∧ Only (diskB p S pv) w w' ∧ (∀ b, pv'.ownBlock = some b → pv.ownBlock = some b ∨ w.heap.size ≤ b) ∧ w.heap.size ≤ s ∧ w.heap.size ≤ mc ∧ w.heap.size ≤ mn) := by
 have e1 := keep_live d 4 (byF zeros32) hl (by omega)
 have e2 := keep_live { d with sec := upd d.sec 4 (byF zeros32), pend := [], life := -1 } 0 (byF (rootB 1 0 0)) rfl (by simp; omega)
 have e1' : d.keep 4 (byF zeros32) = (0, { d with sec := upd d.sec 4 (byF zeros32), pend := [], life := -1 }) := e1
 have e2' : (d.keep 4 (byF zeros32)).2.keep 0 (byF (rootB 1 0 0)) = (0, ⟨d.n, upd (upd d.sec 4 (byF zeros32)) 0 (byF (rootB 1 0 0)), [], -1⟩) := by rw [e1']; exact e2
 have := format_ok p S B pv d w h hB hby (by omega) (by rw [e1']) (by rw [e2'])
 rw [e2'] at this
 exact this
theorem one_nine (w : World) : BytesAt (w.alloc (.cells #[.int .u8 9] 5)) (.slice (some ⟨w.heap.size, 0, none⟩) 1 1) [9] := by
 refine ⟨.inr ⟨_, _, rfl, by simp, fun j hj => ?_⟩, by simp, by simp⟩
 have : j = 0 := by simp at hj; omega
 subst this
 rw [Addr.add_mid, cell_of_row _ _ _ _ _ _ (heap_alloc_new w _)]
 rfl
theorem awake_any (w : World) : Calls Tryz.prog 4 #[] w fun e w' => e = .returned (.bool true) ∧ Only (fun _ => False) w w' := by
 have HN : Hid (Calls Tryz.prog 5 _ _ _) := new_any 16 w (by omega) (by omega)
 go_enter Tryz.func4, Tryz.ntmps4
 go_wp2_with fail
 refine (show Calls Tryz.prog 5 _ _ _ from HN.out).mono ?_
 rintro e w1 ⟨p, S, rfl, hd1, ho1⟩
 have HF : Hid (Calls Tryz.prog 11 _ _ _) := format_live p S w.heap.size _ _ w1 hd1 ho1.size (by simp) (by simp) rfl
 have H1 : Hid (DiskAt w1 w.heap.size p S (.slice none 0 0) ⟨16, fun _ _ => 0, [], -1⟩ ∧ Only (fun _ => False) w w1) := ⟨hd1, ho1⟩
 clear HN hd1 ho1
 go_wp2_with fail
 refine (show Calls Tryz.prog 11 _ _ _ from HF.out).mono ?_
 rintro e w2 ⟨s, mc, mn, pv, rfl, H2⟩
 obtain ⟨hd2, hs2, ho2, hp2, hsl, hml, hnl⟩ := H2.out
 have oA : Only (fun _ => False) w2 (w2.alloc (.cells #[.int .u8 9] 5)) := (Only.refl _ w2).alloc _
 have lt2 : ∀ k, diskB p S pv k → k < w2.heap.size := fun k hk => (hd2.lt k hk).2
 have HP : Hid (Calls Tryz.prog 12 _ _ _) := put_ok (hs2.still oA) (fun k hk => Nat.lt_of_lt_of_le (lt2 k hk) oA.size) 3 (by omega) _ [9] (one_nine w2) (by simp)
 have H2' : Hid (Only (diskB p S (.slice none 0 0)) w1 w2 ∧ w1.heap.size ≤ mn ∧ mn < w2.heap.size) := ⟨ho2, hnl, hs2.now.lt⟩
 clear HF H2 hd2 hs2 ho2 hp2 hsl hml hnl oA lt2
 go_wp2_with fail
 refine (show Calls Tryz.prog 12 _ _ _ from HP.out).mono ?_
 rintro e w3 ⟨rfl, hs3, ho3⟩
 have HG : Hid (Calls Tryz.prog 13 _ _ _) := get_some hs3 3 (by omega) (a := 0) (zs := [9]) rfl
 have HS3 : Hid _ := hs3
 have H3 : Hid (Only (fun k => k = mn) (w2.alloc (.cells #[.int .u8 9] 5)) w3) := ho3
 clear HP hs3 ho3
 go_wp2_with fail
 refine (show Calls Tryz.prog 13 _ _ _ from HG.out).mono ?_
 rintro e w4 ⟨u, rfl, hf4, ho4⟩
 obtain ⟨a, c, hu, _, hc⟩ := hf4.bytes.form
 obtain ⟨g, o, rfl, hc0⟩ := hc 0 (by simp)
 obtain rfl : u = .slice (some ⟨g, o, none⟩) 1 c := hu
 have hc0' : w4.cell? ⟨g, o, none⟩ = some (.int .u8 9) := hc0
 clear hc0
 have HE : Hid (Calls Tryz.prog 14 _ _ _) := epoch_ok (HS3.out.still ho4)
 have H4 : Hid (Only (fun _ => False) w w4) := by
  have o1 := H1.out.2
  have l1 := H1.out.1.lt
  have s1 := o1.size
  have o2 : Only (fun _ => False) w w2 := o1.trans H2'.out.1 (fun k hk e => by have := (l1 k e).1; omega)
  have o3 : Only (fun _ => False) w w3 := (o2.alloc _).trans H3.out (fun k hk e => by have := H2'.out.2.1; omega)
  exact o3.trans ho4 (fun _ _ e => e)
 clear HG HS3 H3 H2' H1 hf4 ho4 hc
 go_wp2_with (go_at_call 14; refine (show Calls Tryz.prog 14 _ _ _ from HE.out).mono ?_; rintro e w5 ⟨rfl, rfl⟩)
 go_ret
 exact ⟨rfl, H4.out⟩
theorem sreach_dead (s : Nat) (i : Int) (w : World) (h : w.cell? ⟨s, 0, none⟩ = some (.pointer none)) : Calls Tryz.prog 32 #[.pointer (some ⟨s, 0, none⟩), .int .i64 i] w fun e w' => e = .returned (.int .i64 3) ∧ w' = w := by
 go_enter Tryz.func32, Tryz.ntmps32
 go_wp2_with (go_at_call 35; refine (usable_dead s _ h).mono ?_; rintro e w' ⟨rfl, rfl⟩)
 go_ret
 exact ⟨rfl, rfl⟩
theorem holds_dead (s : Nat) (i : Int) (w : World) (h : w.cell? ⟨s, 0, none⟩ = some (.pointer none)) : Calls Tryz.prog 34 #[.pointer (some ⟨s, 0, none⟩), .int .i64 i] w fun e w' => e = .returned (.int .i64 3) ∧ w' = w := by
 go_enter Tryz.func34, Tryz.ntmps34
 go_wp2_with (go_at_call 32; refine (sreach_dead s _ _ h).mono ?_; rintro e w' ⟨rfl, rfl⟩)
 go_ret
 exact ⟨rfl, rfl⟩
theorem get_dead (s : Nat) (i : Int) (w : World) (h : w.cell? ⟨s, 0, none⟩ = some (.pointer none)) : Calls Tryz.prog 13 #[.pointer (some ⟨s, 0, none⟩), .int .i64 i] w fun e w' => e = .returned (.tuple #[.slice none 0 0, .int .i64 3]) ∧ w' = w := by
 go_enter Tryz.func13, Tryz.ntmps13
 go_wp2_with (go_at_call 34; refine (holds_dead s _ _ h).mono ?_; rintro e w' ⟨rfl, rfl⟩)
 go_ret2
 exact ⟨rfl, rfl⟩
theorem put_dead (s : Nat) (i : Int) (v : Value) (w : World) (h : w.cell? ⟨s, 0, none⟩ = some (.pointer none)) : Calls Tryz.prog 12 #[.pointer (some ⟨s, 0, none⟩), .int .i64 i, v] w fun e w' => e = .returned (.int .i64 3) ∧ w' = w := by
 go_enter Tryz.func12, Tryz.ntmps12
 go_wp2_with (go_at_call 32; refine (sreach_dead s _ _ h).mono ?_; rintro e w' ⟨rfl, rfl⟩)
 go_ret
 exact ⟨rfl, rfl⟩
theorem drop_dead (s : Nat) (i : Int) (w : World) (h : w.cell? ⟨s, 0, none⟩ = some (.pointer none)) : Calls Tryz.prog 18 #[.pointer (some ⟨s, 0, none⟩), .int .i64 i] w fun e w' => e = .returned (.int .i64 3) ∧ w' = w := by
 go_enter Tryz.func18, Tryz.ntmps18
 go_wp2_with (go_at_call 34; refine (holds_dead s _ _ h).mono ?_; rintro e w' ⟨rfl, rfl⟩)
 go_ret
 exact ⟨rfl, rfl⟩
theorem commit_dead (s : Nat) (w : World) (h : w.cell? ⟨s, 0, none⟩ = some (.pointer none)) : Calls Tryz.prog 20 #[.pointer (some ⟨s, 0, none⟩)] w fun e w' => e = .returned (.int .i64 3) ∧ w' = w := by
 go_enter Tryz.func20, Tryz.ntmps20
 go_wp2_with (go_at_call 35; refine (usable_dead s _ h).mono ?_; rintro e w' ⟨rfl, rfl⟩)
 go_ret
 exact ⟨rfl, rfl⟩
theorem roll_dead (s : Nat) (w : World) (h : w.cell? ⟨s, 0, none⟩ = some (.pointer none)) : Calls Tryz.prog 23 #[.pointer (some ⟨s, 0, none⟩)] w fun e w' => e = .returned (.int .i64 3) ∧ w' = w := by
 go_enter Tryz.func23, Tryz.ntmps23
 go_wp2_with (go_at_call 35; refine (usable_dead s _ h).mono ?_; rintro e w' ⟨rfl, rfl⟩)
 go_ret
 exact ⟨rfl, rfl⟩
theorem epoch_dead (s : Nat) (w : World) (h : w.cell? ⟨s, 0, none⟩ = some (.pointer none)) : Calls Tryz.prog 14 #[.pointer (some ⟨s, 0, none⟩)] w fun e w' => e = .returned (.int .u64 0) ∧ w' = w := by
 go_enter Tryz.func14, Tryz.ntmps14
 go_wp2_with (go_at_call 35; refine (usable_dead s _ h).mono ?_; rintro e w' ⟨rfl, rfl⟩)
 go_ret
 exact ⟨rfl, rfl⟩
theorem room_dead (s : Nat) (w : World) (h : w.cell? ⟨s, 0, none⟩ = some (.pointer none)) : Calls Tryz.prog 47 #[.pointer (some ⟨s, 0, none⟩)] w fun e w' => e = .returned (.tuple #[.int .i64 0, .int .i64 0]) ∧ w' = w := by
 go_enter Tryz.func47, Tryz.ntmps47
 go_wp2_with (go_at_call 35; refine (usable_dead s _ h).mono ?_; rintro e w' ⟨rfl, rfl⟩)
 go_ret2
 exact ⟨rfl, rfl⟩
theorem pages_dead (s : Nat) (w : World) (h : w.cell? ⟨s, 0, none⟩ = some (.pointer none)) : Calls Tryz.prog 77 #[.pointer (some ⟨s, 0, none⟩)] w (PagesIs [] w) := by
 have HV : ∀ w, Calls Tryz.prog 102 #[.slice none 0 0] w _ := fun w => (callsIn_wide (n := 5)).1 (values_in 5 none 0 0 w)
 go_enter Tryz.func77, Tryz.ntmps77
 go_wp2_with (first | (go_at_call 35; refine (usable_dead s _ h).mono ?_; rintro e w' ⟨rfl, rfl⟩) | (go_at_call 102; refine (HV _).mono ?_; rintro e w1 ⟨rfl, rfl⟩))
 go_ret
 exact ⟨_, w'.heap.size, _, rfl, (Boxed.new _ _ _).cell, .inl ⟨rfl, rfl⟩, by simp, (Only.refl _ _).alloc _⟩
theorem listed_dead (s : Nat) (w : World) (h : w.cell? ⟨s, 0, none⟩ = some (.pointer none)) : Calls Tryz.prog 49 #[.pointer (some ⟨s, 0, none⟩)] w fun e w' => ∃ a c, e = .returned (.tuple #[.slice a 0 c, .bool true]) ∧ Only (fun _ => False) w w' := by
 refine (callsIn_wide (n := 6)).1 ((listed_core [] (by simp) (some ⟨s, 0, none⟩) w (fun w1 ho => (callsIn_wide (n := 5)).2 (pages_dead s w1 (ho.cell h (fun e => e))))).mono ?_)
 rintro e w' ⟨v, rfl, h, ho⟩
 obtain ⟨a, c, rfl⟩ := ownsRow_slice h
 exact ⟨a, c, rfl, ho⟩
end Go.Proofs.YtlcglapcmdpkfaaGreat
