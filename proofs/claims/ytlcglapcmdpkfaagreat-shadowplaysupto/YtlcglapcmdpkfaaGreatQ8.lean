import Derived.Test.YtlcglapcmdpkfaaGreatQ7
import Derived.Test.YtlcglapcmdpkfaaGreatM8
namespace Go.Proofs.YtlcglapcmdpkfaaGreat
open Go.RowKit
set_option linter.unusedSimpArgs false
set_option linter.unusedVariables false
def tk : Nat → Bool := fun j => decide (j < 2)
def loadP (d : DS) (q : Nat) (x : (Nat → Bool) × Option (List Nat × List Nat)) : Option SS := match x.2 with
 | none => none
 | some (at_, tab) => if at_.length = rtC (secN (d.sec q)) then
   (pgsR d tab (tab.length + 1) x.1 0 0 []).2.map fun m => ⟨d.n / 4, rtE (secN (d.sec q)), q, at_, m, m⟩
   else none
def loadR (d : DS) (q : Nat) : Option SS := if rtOk (secN (d.sec q)) = true then loadP d q (tbR d (cnt tk (d.n / 4) + 1) tk (rtF (secN (d.sec q))) [] []) else none
theorem ld_two {d : DS} {f : Nat → Bool} {q id : Nat} {D : List Nat} (h0 : f 0 = true) (h1 : f 1 = true) (h : (ldR d f q id).2 = some D) : 2 ≤ q := by
 obtain ⟨a, b, _, _⟩ := ldR_some h
 rcases q with _ | _ | q
 ·rw [h0] at b; cases b
 ·rw [h1] at b; cases b
 ·omega
theorem tb_ok {d : DS} : ∀ (k : Nat) (f : Nat → Bool) (nx : Nat) (at_ tab : List Nat) {f' : Nat → Bool} {a' t' : List Nat}, f 0 = true → f 1 = true → (∀ t ∈ at_, 2 ≤ t ∧ t < d.n / 4) → tbR d k f nx at_ tab = (f', some (a', t')) →
  f' 0 = true ∧ f' 1 = true ∧ (∀ t ∈ a', 2 ≤ t ∧ t < d.n / 4) ∧ a'.length + cnt f' (d.n / 4) = at_.length + cnt f (d.n / 4)
 | 0, f, nx, at_, tab, f', a', t', _, _, _, h => by rw [tbR] at h; cases h
 | k + 1, f, nx, at_, tab, f', a', t', h0, h1, ha, h => by
   by_cases hz : nx = 0
   ·subst hz
    rw [tbR_end] at h
    cases h
    exact ⟨h0, h1, ha, rfl⟩
   ·cases hq : (ldR d f nx 2).2 with
    | none => rw [tbR_none hz hq] at h; cases h
    | some D =>
      by_cases h4 : D.length < 4
      ·rw [tbR_short hz hq h4] at h; cases h
      ·rw [tbR_go hz hq h4] at h
       obtain ⟨s1, s2, s3, s4⟩ := ldR_some hq
       have := tb_ok k _ _ _ _ (by rw [s3]; simp [h0]) (by rw [s3]; simp [h1]) (fun t ht => by
        rcases List.mem_append.1 ht with ht | ht
        ·exact ha t ht
        ·simp at ht; subst ht; exact ⟨ld_two h0 h1 hq, s1⟩) h
       refine ⟨this.1, this.2.1, this.2.2.1, this.2.2.2.trans ?_⟩
       rw [List.length_append, s3]
       have := cnt_set f nx s2 _ s1
       simp only [List.length_singleton]
       omega
theorem pgs_ok {d : DS} {tab : List Nat} : ∀ (k : Nat) (f : Nat → Bool) (least pos : Nat) (m : Pgs) {m' : Pgs}, f 0 = true → f 1 = true → (∀ p ∈ m, (0 ≤ p.1 ∧ p.1 < 728) ∧ (2 ≤ p.2.1 ∧ p.2.1 < d.n / 4) ∧ p.2.2.length ≤ 116) → (pgsR d tab k f least pos m).2 = some m' →
  ∀ p ∈ m', (0 ≤ p.1 ∧ p.1 < 728) ∧ (2 ≤ p.2.1 ∧ p.2.1 < d.n / 4) ∧ p.2.2.length ≤ 116
 | 0, f, least, pos, m, m', _, _, _, h => by rw [pgsR] at h; cases h
 | k + 1, f, least, pos, m, m', h0, h1, ha, h => by
   by_cases hz : tab.length ≤ pos
   ·rw [pgsR_end hz] at h
    cases h
    exact ha
   ·cases e1 : rd tab pos 0 0 with
    | none => rw [pgsR_none1 hz e1] at h; cases h
    | some y =>
      obtain ⟨i, q⟩ := y
      by_cases hi : i < least ∨ 728 ≤ i
      ·rw [pgsR_low hz e1 hi] at h; cases h
      ·cases e2 : rd tab q 0 0 with
       | none => rw [pgsR_none2 hz e1 hi e2] at h; cases h
       | some y =>
         obtain ⟨P, z⟩ := y
         cases hq : (ldR d f P (3 + 256 * i)).2 with
         | none => rw [pgsR_not hz e1 hi e2 hq] at h; cases h
         | some D =>
           rw [pgsR_go hz e1 hi e2 hq] at h
           obtain ⟨s1, s2, s3, s4⟩ := ldR_some hq
           refine pgs_ok k _ _ _ _ (by rw [s3]; simp [h0]) (by rw [s3]; simp [h1]) (fun p hp => ?_) h
           rcases (putL_mem _ _ _ _).1 hp with rfl | ⟨hp, _⟩
           ·exact ⟨⟨by show (0 : Int) ≤ (i : Int); omega, by show (i : Int) < 728; omega⟩, ⟨ld_two h0 h1 hq, s1⟩, s4⟩
           ·exact ha p hp
theorem load_wf {d : DS} {q : Nat} {x : SS} (hn : 3 ≤ d.n / 4) (hn2 : d.n ≤ 8192) (hb : ByteD d) (hq : q = 0 ∨ q = 4) (h : loadR d q = some x) : x.Wf := by
 unfold loadR at h
 split at h
 ·cases ht : tbR d (cnt tk (d.n / 4) + 1) tk (rtF (secN (d.sec q))) [] [] with
  | mk f y =>
    rw [ht] at h
    cases y with
    | none => cases h
    | some z =>
      obtain ⟨a, t⟩ := z
      simp only [loadP] at h
      split at h
      ·cases hp : (pgsR d t (t.length + 1) f 0 0 []).2 with
       | none => rw [hp] at h; cases h
       | some m =>
         rw [hp] at h
         simp only [Option.map_some, Option.some.injEq] at h
         obtain ⟨t1, t2, t3, t4⟩ := tb_ok _ _ _ _ _ (show tk 0 = true from rfl) (show tk 1 = true from rfl) (fun t ht => by cases ht) ht
         have hc := cnt_le tk (d.n / 4)
         have hm := pgs_ok _ _ _ _ _ t1 t2 (fun p hp => by cases hp) hp
         have he := part_lt (secN_lt (hb.sec q)) 0 8
         subst h
         refine ⟨⟨hn, by show d.n / 4 ≤ 2048; omega⟩, he, hq, ⟨?_, t3⟩, hm, fun p hp => ⟨(hm p hp).1, .inr (hm p hp).2.1, (hm p hp).2.2⟩⟩
         show a.length ≤ 2048
         simp only [List.length_nil] at t4
         omega
      ·cases h
 ·cases h
end Go.Proofs.YtlcglapcmdpkfaaGreat
