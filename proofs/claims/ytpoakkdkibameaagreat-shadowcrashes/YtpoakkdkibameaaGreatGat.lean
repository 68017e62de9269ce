/- What pages that are written leave of a disk that never dies. Behind a commit the disk holds what was committed; Open finds it. A commit on a disk that may die, and what a crash leaves of it. What a crash leaves of a commit: the store as it was, or as it was to be. -/
import Derived.Test.YtpoakkdkibameaaGreatGas
import Derived.Test.YtpoakkdkibameaaGreatGah
namespace Go.Proofs.YtpoakkdkibameaaGreat
open Go.RowKit Go.Maps Go.Shelf
set_option linter.unusedSimpArgs false
set_option linter.unusedVariables false

theorem upd_at (s : Nat → Nat → Int) (k i : Nat) (f : Nat → Int) : upd s k f i = if i = k then f else s i := rfl
theorem wr4_sec {d : DS} (h : d.life = -1) (P : Nat) (hP : 4 * P + 4 ≤ d.n) (Z : List Nat) : ∀ k, k ≤ 4 → ∀ i, (d.wr4 P Z k).2.sec i = if 4 * P ≤ i ∧ i < 4 * P + k then secF Z (i - 4 * P) else d.sec i
  | 0, _, i => by rw [if_neg (by omega)]; rfl
  | k + 1, hk, i => by
    obtain ⟨h1, h2, h3⟩ := wr4_live h P hP Z k (by omega)
    have ih := wr4_sec h P hP Z k (by omega) i
    simp only [DS.wr4]
    rw [if_pos h1, write_live h2 (4 * P + k) (by omega)]
    simp only
    rw [upd_at, ih]
    by_cases e : i = 4 * P + k
    · rw [if_pos e, if_pos (by omega), e, Nat.add_sub_cancel_left]
    · rw [if_neg e]
      by_cases e2 : 4 * P ≤ i ∧ i < 4 * P + k
      · rw [if_pos e2, if_pos (by omega)]
      · rw [if_neg e2, if_neg (by omega)]
theorem take128 (Z : List Nat) (h : Z.length = 128) : (((Z.drop (32 * 0)).take 32 ++ (Z.drop (32 * 1)).take 32) ++ (Z.drop (32 * 2)).take 32) ++ (Z.drop (32 * 3)).take 32 = Z := by
  have e : ∀ k, (Z.drop (32 * k)).take 32 ++ Z.drop (32 * (k + 1)) = Z.drop (32 * k) := fun k => by
    rw [show 32 * (k + 1) = 32 * k + 32 by omega, ← List.drop_drop]
    exact List.take_append_drop 32 (Z.drop (32 * k))
  have e4 : Z.drop (32 * 4) = [] := List.drop_eq_nil_of_le (by omega)
  have h3 := e 3
  rw [e4, List.append_nil] at h3
  rw [h3, List.append_assoc, e 2, List.append_assoc, e 1, e 0]
  simp
/-- A page that is written holds what was written; all other sectors are as they were. -/
theorem wpage_eff {d : DS} (h : d.life = -1) (P : Nat) (hP : P < d.n / 4) (id : Nat) (D : List Nat) (hD : D.length ≤ 116) :
    pgN (d.wpage (P : Int) id D).2 P 4 = page id D ∧ ∀ i, ¬ (4 * P ≤ i ∧ i < 4 * P + 4) → (d.wpage (P : Int) id D).2.sec i = d.sec i := by
  have e : d.wpage (P : Int) id D = d.wr4 P (page id D) 4 := by
    unfold DS.wpage
    rw [if_neg (by omega), if_neg (by omega), Int.toNat_natCast]
  rw [e]
  have hs := wr4_sec h P (by omega) (page id D) 4 (Nat.le_refl _)
  have hl := page_length id D hD
  constructor
  · have k : ∀ k, k < 4 → secN ((d.wr4 P (page id D) 4).2.sec (4 * P + k)) = ((page id D).drop (32 * k)).take 32 := fun k hk => by
      rw [hs, if_pos (by omega), Nat.add_sub_cancel_left, secN_secF _ _ (by omega)]
    simp only [pgN, List.nil_append]
    rw [k 0 (by omega), k 1 (by omega), k 2 (by omega), k 3 (by omega)]
    exact take128 _ hl
  · intro i hi
    rw [hs, if_neg hi]
theorem pgN_same {d d' : DS} {P : Nat} (h : ∀ k, k < 4 → d'.sec (4 * P + k) = d.sec (4 * P + k)) : pgN d' P 4 = pgN d P 4 := by
  simp only [pgN, h 0 (by omega), h 1 (by omega), h 2 (by omega), h 3 (by omega)]
/-- Pages that are written one after the other: places, ids, data. -/
def wrs : List (Nat × Nat × List Nat) → DS → DS
  | [], d => d
  | q :: l, d => wrs l (d.wpage (q.1 : Int) q.2.1 q.2.2).2
theorem wrs_append (l l' : List (Nat × Nat × List Nat)) (d : DS) : wrs (l ++ l') d = wrs l' (wrs l d) := by
  induction l generalizing d with
  | nil => rfl
  | cons q r ih => simp only [List.cons_append, wrs]; exact ih _
theorem wrs_eff : ∀ (l : List (Nat × Nat × List Nat)) (d : DS), d.life = -1 → (∀ q ∈ l, q.1 < d.n / 4 ∧ q.2.2.length ≤ 116) → (l.map (·.1)).Nodup →
    (wrs l d).life = -1 ∧ (wrs l d).n = d.n ∧ (∀ q ∈ l, pgN (wrs l d) q.1 4 = page q.2.1 q.2.2) ∧ ∀ i, (∀ q ∈ l, ¬ (4 * q.1 ≤ i ∧ i < 4 * q.1 + 4)) → (wrs l d).sec i = d.sec i
  | [], d, h, _, _ => ⟨h, rfl, (fun q hq => by cases hq), fun _ _ => rfl⟩
  | q :: l, d, h, hl, hn => by
    obtain ⟨h1, h2⟩ := hl q (List.mem_cons_self ..)
    obtain ⟨k1, k2, k3⟩ := wpage_live h q.1 h1 q.2.1 q.2.2 h2
    obtain ⟨e1, e2⟩ := wpage_eff h q.1 h1 q.2.1 q.2.2 h2
    have hnd := List.nodup_cons.1 (by simpa using hn : (q.1 :: l.map (·.1)).Nodup)
    obtain ⟨i1, i2, i3, i4⟩ := wrs_eff l _ k2 (fun r hr => by rw [k3]; exact hl r (List.mem_cons_of_mem _ hr)) hnd.2
    have hne : ∀ r ∈ l, r.1 ≠ q.1 := fun r hr e => hnd.1 (List.mem_map.2 ⟨r, hr, e⟩)
    refine ⟨i1, i2.trans k3, fun r hr => ?_, fun i hi => ?_⟩
    · rcases List.mem_cons.1 hr with rfl | hr
      · simp only [wrs]
        rw [pgN_same (d := (d.wpage (r.1 : Int) r.2.1 r.2.2).2) (fun k hk => i4 _ (fun s hs => by have := hne s hs; omega))]
        exact e1
      · exact i3 r hr
    · simp only [wrs]
      rw [i4 i (fun s hs => hi s (List.mem_cons_of_mem _ hs)), e2 i (hi q (List.mem_cons_self ..))]
/-- The data pages of a commit. -/
def dataW (L : Pgs) (fr : List Nat) : List (Nat × Nat × List Nat) := fr.map fun (i : Nat) => (((pgAt L i).getD (0, [])).1, 3 + 256 * i, ((pgAt L i).getD (0, [])).2)
/-- The table pages of a commit. -/
def tabW (tab at_ : List Nat) (m : Nat) : List (Nat × Nat × List Nat) := (List.range m).map fun j => (at_.getD j 0, 2, layB (at_.getD (j + 1) 0) 4 ++ (tab.drop (112 * j)).take 112)
theorem wf_wrs (L : Pgs) : ∀ (fr : List Nat) (d : DS), d.life = -1 → (∀ i ∈ fr, ((pgAt L i).getD (0, [])).1 < d.n / 4 ∧ ((pgAt L i).getD (0, [])).2.length ≤ 116) → fr.foldl (wfStep L) (0, d) = (0, wrs (dataW L fr) d)
  | [], d, _, _ => rfl
  | i :: l, d, h, hL => by
    obtain ⟨q1, q2⟩ := hL i (List.mem_cons_self ..)
    obtain ⟨k1, k2, k3⟩ := wpage_live h _ q1 (3 + 256 * i) _ q2
    have e : wfStep L (0, d) i = (0, (d.wpage ((((pgAt L i).getD (0, [])).1 : Nat) : Int) (3 + 256 * i) ((pgAt L i).getD (0, [])).2).2) := by
      unfold wfStep
      rw [if_neg (by simp)]
      exact Prod.ext k1 rfl
    rw [List.foldl_cons, e, wf_wrs L l _ k2 (fun j hj => by rw [k3]; exact hL j (List.mem_cons_of_mem _ hj))]
    rfl
theorem wt_wrs {d : DS} (tab at_ : List Nat) (hat : ∀ k, at_.getD k 0 < d.n / 4) (h : d.life = -1) : ∀ m, ∃ k, wtR tab at_ d (List.range m) = (k, 0, wrs (tabW tab at_ m) d) ∧ k = m := by
  intro m
  induction m with
  | zero => exact ⟨0, rfl, rfl⟩
  | succ m ih =>
    obtain ⟨k, ih, rfl⟩ := ih
    have hw := wt_live tab at_ (List.range k) (0, 0, d) rfl h (fun j => hat j)
    have e0 : (List.range k).foldl (wtStep tab at_) (0, 0, d) = wtR tab at_ d (List.range k) := rfl
    rw [e0, ih] at hw
    obtain ⟨w1, w2, w3⟩ := hw
    simp only at w1 w2 w3
    obtain ⟨k1, k2, k3⟩ := wpage_live w2 (at_.getD k 0) (by rw [w3]; exact hat k) 2 (layB (at_.getD (k + 1) 0) 4 ++ (tab.drop (112 * k)).take 112) (by simp [layB_length]; omega)
    refine ⟨k + 1, ?_, rfl⟩
    rw [List.range_succ, wtR_snoc, ih]
    unfold wtStep
    simp only
    rw [if_neg (by simp)]
    have e1 : tabW tab at_ (k + 1) = tabW tab at_ k ++ [(at_.getD k 0, 2, layB (at_.getD (k + 1) 0) 4 ++ (tab.drop (112 * k)).take 112)] := by simp [tabW, List.range_succ]
    rw [e1, wrs_append]
    refine Prod.ext rfl (Prod.ext k1 rfl)
end Go.Proofs.YtpoakkdkibameaaGreat
namespace Go.Proofs.YtpoakkdkibameaaGreat
open Go.RowKit Go.Maps Go.Shelf
set_option linter.unusedSimpArgs false
set_option linter.unusedVariables false
set_option linter.unusedSectionVars false

/-- The root at the other sector does not count, or is older. -/
def Low (x : SS) (d : DS) : Prop := rtOk (secN (d.sec (4 - x.sector))) = true → rtE (secN (d.sec (4 - x.sector))) < x.epoch
theorem loadP_epoch {d : DS} {q : Nat} {z : (Nat → Bool) × Option (List Nat × List Nat)} {y : SS} (h : loadP d q z = some y) : y.epoch = rtE (secN (d.sec q)) := by
  obtain ⟨f, o⟩ := z
  cases o with
  | none => cases h
  | some u =>
    obtain ⟨at_, tab⟩ := u
    unfold loadP at h
    simp only at h
    by_cases hc : at_.length = rtC (secN (d.sec q))
    · rw [if_pos hc] at h
      generalize (pgsR d tab (tab.length + 1) f 0 0 []).2 = o at h
      cases o with
      | none => cases h
      | some m =>
        simp only [Option.map_some, Option.some.injEq] at h
        rw [← h]
    · rw [if_neg hc] at h
      cases h
theorem load_epoch {d : DS} {q : Nat} {y : SS} (h : loadR d q = some y) : rtOk (secN (d.sec q)) = true ∧ y.epoch = rtE (secN (d.sec q)) := by
  have key : ∀ (b : Bool) (o : Option SS), (if b = true then o else none) = some y → b = true ∧ o = some y := by
    intro b o h
    cases b with
    | true => exact ⟨rfl, h⟩
    | false => cases h
  unfold loadR at h
  obtain ⟨h1, h2⟩ := key _ _ h
  exact ⟨h1, loadP_epoch h2⟩
/-- Open finds what was committed last. -/
theorem open_back {x : SS} {d : DS} (hw : x.Wf) (hr : Rise x.com) (hn : d.n / 4 = x.size) (hnd : (x.com.map (fun p => p.2.1) ++ x.tabs).Nodup) (h : Hold x d) (hl : Low x d) : openR d = some { x with now := x.com } := by
  have hb := load_back hw hr hn hnd h
  have ho : ∀ y, loadR d (4 - x.sector) = some y → y.epoch < x.epoch := fun y hy => by
    obtain ⟨e1, e2⟩ := load_epoch hy
    rw [e2]
    exact hl e1
  obtain ⟨X, hX⟩ : ∃ X : SS, X = { x with now := x.com } := ⟨_, rfl⟩
  have hXe : X.epoch = x.epoch := by rw [hX]
  rw [← hX] at hb ⊢
  rw [← hXe] at ho
  unfold openR
  generalize hA : loadR d 0 = A
  generalize hC : loadR d 4 = C
  rcases hw.sector with e | e
  · rw [e] at hb ho
    have hA' : A = some X := hA.symm.trans hb
    subst hA'
    cases C with
    | none => rfl
    | some y =>
      have := ho y hC
      exact if_neg (by omega)
  · rw [e] at hb ho
    have hC' : C = some X := hC.symm.trans hb
    subst hC'
    cases A with
    | none => rfl
    | some y =>
      have := ho y hA
      exact if_pos this
/-- All writes of a commit ahead of the root. -/
def allW (x : SS) : List (Nat × Nat × List Nat) := dataW (laid x) (freshN x.now) ++ tabW (tabB (laid x)) (tbs x) (tbs x).length
theorem laid_in {x : SS} (hw : x.Wf) (hfit : needN x ≤ freeN x x.size) (hr : Rise x.now) : ∀ i, i ∈ freshN x.now → ∃ y, pgAt (laid x) (i : Int) = some y ∧ ((i : Int), y) ∈ laid x ∧ y.1 ∈ (freeL x x.size).take (putN x) := by
  intro i hi
  obtain ⟨dt, hm⟩ := (freshN_mem (fun p hp => (hw.now p hp).1.1)).1 hi
  have hk : (i : Int) ∈ (laid x).map (·.1) := by
    unfold laid
    rw [layP_keys]
    exact List.mem_map.2 ⟨_, hm, rfl⟩
  obtain ⟨q, hq, e⟩ := List.mem_map.1 hk
  have hq' : ((i : Int), q.2) ∈ laid x := by rw [← e]; exact hq
  refine ⟨q.2, (getL_mem (layP_rise hr _) _ _).2 hq', hq', ?_⟩
  rcases layK_mem2 hq' (Nat.le_refl _) (by rw [plA_length]; exact Nat.le_refl _) with ⟨e1, e2⟩ | ⟨e1, e2⟩
  · exfalso
    have h1 := (getL_mem hr (i : Int) (0, dt)).2 hm
    have h2 := (getL_mem hr (i : Int) q.2).2 e1
    rw [h1] at h2
    injection h2 with h2
    apply e2
    show q.2.1 = 0
    rw [← h2]
  · rw [← plA_true hw hfit]
    exact e2
theorem allW_ok {x : SS} {d : DS} (hw : x.Wf) (hfit : needN x ≤ freeN x x.size) (hn : d.n / 4 = x.size) (hr : Rise x.now) : ∀ q ∈ allW x, q.1 < d.n / 4 ∧ q.2.2.length ≤ 116 ∧ q.1 ∈ freeL x x.size := by
  intro q hq
  rcases List.mem_append.1 hq with hq | hq
  · obtain ⟨i, hi, rfl⟩ := List.mem_map.1 hq
    obtain ⟨y, h1, h2, h3⟩ := laid_in hw hfit hr i hi
    have h4 := (next_wf hw hfit).com _ h2
    simp only [h1, Option.getD_some]
    exact ⟨by rw [hn]; exact h4.2.1.2, h4.2.2, List.mem_of_mem_take h3⟩
  · obtain ⟨j, hj, rfl⟩ := List.mem_map.1 hq
    have hj' : j < (tbs x).length := List.mem_range.1 hj
    have hm : (tbs x).getD j 0 ∈ tbs x := by simp only [List.getD, List.getElem?_eq_getElem hj', Option.getD_some]; exact List.getElem_mem hj'
    refine ⟨by rw [hn]; exact ((next_wf hw hfit).tabs.2 _ hm).2, by simp [layB_length]; omega, ?_⟩
    exact List.mem_of_mem_take (List.mem_of_mem_drop hm)
theorem allW_nodup {x : SS} {d : DS} (hw : x.Wf) (hfit : needN x ≤ freeN x x.size) (hn : d.n / 4 = x.size) (hr : Rise x.now) (hi : Inv x) : ((allW x).map (·.1)).Nodup := by
  have hnd := next_nodup hw hr hfit hi
  obtain ⟨n1, n2, n3⟩ := List.pairwise_append.1 hnd
  have hcc : ∀ p ∈ laid x, ∀ q ∈ laid x, p.2.1 = q.2.1 → p = q := by
    have hc := List.pairwise_map.1 n1
    intro p hp q hq e
    obtain ⟨i, h1, rfl⟩ := List.getElem_of_mem hp
    obtain ⟨j, h2, rfl⟩ := List.getElem_of_mem hq
    have hpw := List.pairwise_iff_getElem.1 hc
    rcases Nat.lt_trichotomy i j with h | h | h
    · exact absurd e (hpw i j h1 h2 h)
    · subst h; rfl
    · exact absurd e.symm (hpw j i h2 h1 h)
  have et : (tabW (tabB (laid x)) (tbs x) (tbs x).length).map (·.1) = tbs x := by
    unfold tabW
    rw [List.map_map]
    apply List.ext_getElem
    · simp
    · intro j h1 h2
      simp [List.getD, h2]
  unfold allW
  rw [List.map_append, et]
  refine List.pairwise_append.2 ⟨?_, n2, fun a ha b hb => ?_⟩
  · unfold dataW
    rw [List.map_map]
    refine List.pairwise_map.2 ?_
    have hf : (freshN x.now).Pairwise (· ≠ ·) := by
      unfold freshN
      refine List.pairwise_map.2 (List.Pairwise.imp_of_mem (fun {p q} hp hq h e => ?_) (List.Pairwise.filter _ hr : List.Pairwise (fun p q : Int × Nat × List Nat => p.1 < q.1) _))
      have h1 := (hw.now p (List.mem_filter.1 hp).1).1
      have h2 := (hw.now q (List.mem_filter.1 hq).1).1
      omega
    refine List.Pairwise.imp_of_mem (fun {i j} hi' hj' hne e => ?_) hf
    obtain ⟨y, h1, h2, _⟩ := laid_in hw hfit hr i hi'
    obtain ⟨z, h3, h4, _⟩ := laid_in hw hfit hr j hj'
    simp only [Function.comp, h1, h3, Option.getD_some] at e
    have := hcc _ h2 _ h4 e
    injection this with this
    omega
  · obtain ⟨q, hq, rfl⟩ := List.mem_map.1 ha
    obtain ⟨i, hi', rfl⟩ := List.mem_map.1 hq
    obtain ⟨y, h1, h2, _⟩ := laid_in hw hfit hr i hi'
    simp only [h1, Option.getD_some]
    exact n3 y.1 (List.mem_map.2 ⟨_, h2, rfl⟩) b hb
/-- What a commit leaves of the disk. -/
theorem cm_disk {x : SS} {d : DS} (hw : x.Wf) (hfit : needN x ≤ freeN x x.size) (hlf : d.life = -1) (hn : d.n / 4 = x.size) (hr : Rise x.now) : (cmX x d).2 = ⟨d.n, upd (wrs (allW x) d).sec (4 - x.sector) (byF (rootB ((x.epoch + 1) % 18446744073709551616) ((tbs x).getD 0 0) (tbs x).length)), [], -1⟩ := by
  have hok := allW_ok (d := d) hw hfit hn hr
  have hfr : ∀ i ∈ freshN x.now, ((pgAt (laid x) (i : Int)).getD (0, [])).1 < d.n / 4 ∧ ((pgAt (laid x) (i : Int)).getD (0, [])).2.length ≤ 116 := fun i hi => by
    have := hok _ (List.mem_append_left _ (List.mem_map.2 ⟨i, hi, rfl⟩))
    exact ⟨this.1, this.2.1⟩
  have e1 := wf_wrs (laid x) (freshN x.now) d hlf hfr
  obtain ⟨a1, a2, a3⟩ := wf_live (laid x) (freshN x.now) (0, d) rfl hlf hfr
  rw [e1] at a1 a2 a3
  simp only at a2 a3
  have e1' : wfR (laid x) d (freshN x.now) = (0, wrs (dataW (laid x) (freshN x.now)) d) := e1
  obtain ⟨D1, hD1⟩ : ∃ D1, D1 = wrs (dataW (laid x) (freshN x.now)) d := ⟨_, rfl⟩
  rw [← hD1] at e1' a2 a3
  have hat : ∀ k, (tbs x).getD k 0 < D1.n / 4 := fun k => by
    rw [a3, hn]
    simp only [List.getD]
    cases e : (tbs x)[k]? with
    | none => have := hw.size; simp; omega
    | some t => exact ((next_wf hw hfit).tabs.2 t (List.mem_of_getElem? e)).2
  obtain ⟨k, e2, _⟩ := wt_wrs (d := D1) (tabB (laid x)) (tbs x) hat a2 (tabN (tabB (laid x)).length)
  obtain ⟨b1, b2, b3⟩ := wt_live (tabB (laid x)) (tbs x) (List.range (tabN (tabB (laid x)).length)) (0, 0, D1) rfl a2 hat
  have e3 : (List.range (tabN (tabB (laid x)).length)).foldl (wtStep (tabB (laid x)) (tbs x)) (0, 0, D1) = wtR (tabB (laid x)) (tbs x) D1 (List.range (tabN (tabB (laid x)).length)) := rfl
  rw [e3, e2] at b1 b2 b3
  simp only at b2 b3
  obtain ⟨D, hD⟩ : ∃ D, D = wrs (tabW (tabB (laid x)) (tbs x) (tabN (tabB (laid x)).length)) D1 := ⟨_, rfl⟩
  rw [← hD] at e2 b2 b3
  have hall : wrs (allW x) d = D := by
    unfold allW
    rw [wrs_append, ← hD1, tbs_length hfit, hD]
  have hbar : D.barrier = (0, { D with pend := [], life := -1 }) := by
    unfold DS.barrier
    rw [if_neg (by rw [b2]; simp), b2]
    rfl
  have hDn : D.n = d.n := b3.trans a3
  have hs := hw.size
  have hk := keep_lives (d := { D with pend := [], life := -1 }) rfl (4 - x.sector) (by show 4 - x.sector < D.n; rw [hDn]; omega) (byF (rootB ((x.epoch + 1) % 18446744073709551616) ((tbs x).getD 0 0) (tbs x).length))
  have hcm : cmX x d = (0, ⟨D.n, upd D.sec (4 - x.sector) (byF (rootB ((x.epoch + 1) % 18446744073709551616) ((tbs x).getD 0 0) (tbs x).length)), [], -1⟩) := by
    unfold cmX cmR
    rw [e1']
    simp only
    rw [if_neg (by simp), e2]
    simp only
    rw [if_neg (by simp), hbar]
    simp only
    rw [if_neg (by simp)]
    exact hk
  rw [hcm, hall, hDn]
/-- Behind a commit the disk holds the store. -/
theorem hold_next {x : SS} {d : DS} (hw : x.Wf) (hfit : needN x ≤ freeN x x.size) (hlf : d.life = -1) (hn : d.n / 4 = x.size) (hr : Rise x.now) (hi : Inv x) (hb : ∀ p ∈ x.now, ∀ z ∈ p.2.2, z < 256) (hep : x.epoch + 1 < 18446744073709551616) (h : Hold x d) : Hold x.next (cmX x d).2 ∧ Low x.next (cmX x d).2 := by
  have hok := allW_ok (d := d) hw hfit hn hr
  have hnd := allW_nodup (d := d) hw hfit hn hr hi
  obtain ⟨w1, w2, w3, w4⟩ := wrs_eff (allW x) d hlf (fun q hq => ⟨(hok q hq).1, (hok q hq).2.1⟩) hnd
  have hsec := hw.sector
  have hE : (x.epoch + 1) % 18446744073709551616 = x.epoch + 1 := Nat.mod_eq_of_lt hep
  have htwo : ∀ q ∈ allW x, 2 ≤ q.1 := fun q hq => used_two (freeL_mem.1 (hok q hq).2.2).2
  have hcd := cm_disk hw hfit hlf hn hr
  obtain ⟨D, hD⟩ : ∃ D, D = wrs (allW x) d := ⟨_, rfl⟩
  obtain ⟨R, hR⟩ : ∃ R, R = rootB (x.epoch + 1) ((tbs x).getD 0 0) (tbs x).length := ⟨_, rfl⟩
  rw [hE, ← hD, ← hR] at hcd
  rw [← hD] at w1 w2 w3 w4
  obtain ⟨d2, hd2⟩ : ∃ d2, d2 = (cmX x d).2 := ⟨_, rfl⟩
  rw [← hd2] at hcd ⊢
  have hRl : R.length = 32 := by rw [hR]; exact rootB_length _ _ _
  have hp : ∀ P, 2 ≤ P → pgN d2 P 4 = pgN D P 4 := fun P hP => pgN_same (fun k hk => by
    rw [hcd]
    show upd D.sec (4 - x.sector) (byF R) (4 * P + k) = D.sec (4 * P + k)
    rw [upd_at, if_neg (by omega)])
  have hkeep : ∀ P, (∀ q ∈ allW x, q.1 ≠ P) → pgN D P 4 = pgN d P 4 := fun P hP => pgN_same (fun k hk => w4 _ (fun q hq => by have := hP q hq; omega))
  have hby : ∀ p ∈ laid x, ∀ z ∈ p.2.2, z < 256 := fun p hp' z hz => by
    have : (p.1, p.2.2) ∈ (laid x).map (fun q => (q.1, q.2.2)) := List.mem_map.2 ⟨p, hp', rfl⟩
    unfold laid layP at this
    rw [layK_data] at this
    obtain ⟨q, hq, e⟩ := List.mem_map.1 this
    injection e with _ e
    rw [← e] at hz
    exact hb q hq z hz
  have hnw := next_wf hw hfit
  refine ⟨{ root := ?_, tabs := tbs_length hfit, tab := fun j hj => ?_, page := fun p hp' => ?_, pos := ?_ }, fun _ => ?_⟩
  · show secN (d2.sec (4 - x.sector)) = rootB ((x.epoch + 1) % 18446744073709551616) ((tbs x).getD 0 0) (tbs x).length
    rw [hE, ← hR, hcd]
    show secN (upd D.sec (4 - x.sector) (byF R) (4 - x.sector)) = R
    rw [upd_at, if_pos rfl, secN_byF R hRl]
  · have hj' : j < (tbs x).length := hj
    have hm : (tbs x).getD j 0 ∈ tbs x := by simp only [List.getD, List.getElem?_eq_getElem hj', Option.getD_some]; exact List.getElem_mem hj'
    have ht := hnw.tabs.2 _ hm
    have hmw : ((tbs x).getD j 0, 2, layB ((tbs x).getD (j + 1) 0) 4 ++ ((tabB (laid x)).drop (112 * j)).take 112) ∈ allW x := List.mem_append_right _ (List.mem_map.2 ⟨j, List.mem_range.2 hj', rfl⟩)
    have hpw := w3 _ hmw
    show unp (pgN d2 ((tbs x).getD j 0) 4) = some (2, layB ((tbs x).getD (j + 1) 0) 4 ++ ((tabB (laid x)).drop (112 * j)).take 112)
    rw [hp _ ht.1, hpw]
    exact unp_page 2 _ (by simp [layB_length]; omega) (by omega) (fun z hz => by
      rcases List.mem_append.1 hz with hz | hz
      · exact layB_lt _ _ z hz
      · exact tabB_byte _ z (List.mem_of_mem_drop (List.mem_of_mem_take hz)))
  · have hpw : p ∈ laid x := hp'
    have h4 := hnw.com p hpw
    show unp (pgN d2 p.2.1 4) = some (3 + 256 * p.1.toNat, p.2.2)
    rw [hp _ h4.2.1.1]
    rcases layK_mem2 hpw (Nat.le_refl _) (by rw [plA_length]; exact Nat.le_refl _) with ⟨e1, e2⟩ | ⟨e1, e2⟩
    · have hc := hi.2 p e1 e2
      rw [hkeep p.2.1 (fun q hq e => by
        have hfree := (freeL_mem.1 (hok q hq).2.2).2
        unfold usedF at hfree
        simp only [Bool.or_eq_false_iff, List.any_eq_false] at hfree
        have := hfree.1.2 p hc
        simp [e] at this)]
      exact h.page p hc
    · have hii : p.1.toNat ∈ freshN x.now := (freshN_mem (fun q hq => (hw.now q hq).1.1)).2 ⟨p.2.2, by
        have h0 := (hw.now _ e1).1
        simp only at h0
        rw [show ((p.1.toNat : Nat) : Int) = p.1 by omega]
        exact e1⟩
      have h0 := (hw.now _ e1).1
      simp only at h0
      have hpi : ((p.1.toNat : Nat) : Int) = p.1 := by omega
      have hg : pgAt (laid x) ((p.1.toNat : Nat) : Int) = some p.2 := by
        rw [hpi]
        exact (getL_mem (layP_rise hr _) p.1 p.2).2 hpw
      have hmw : (p.2.1, 3 + 256 * p.1.toNat, p.2.2) ∈ allW x := List.mem_append_left _ (List.mem_map.2 ⟨p.1.toNat, hii, by rw [hg]; rfl⟩)
      have hpw' := w3 _ hmw
      simp only at hpw'
      rw [hpw']
      exact unp_page _ _ h4.2.2 (by omega) (hby p hpw)
  · show 0 < (x.epoch + 1) % 18446744073709551616
    omega
  · have e4 : 4 - x.next.sector = x.sector := by show 4 - (4 - x.sector) = x.sector; omega
    rw [e4]
    have e5 : d2.sec x.sector = d.sec x.sector := by
      rw [hcd]
      show upd D.sec (4 - x.sector) (byF R) x.sector = d.sec x.sector
      rw [upd_at, if_neg (by omega)]
      exact w4 _ (fun q hq => by have := htwo q hq; omega)
    rw [e5, h.root]
    have ht0 : x.tabs.getD 0 0 < 4294967296 := by
      have hs := hw.size
      cases e : x.tabs with
      | nil => simp
      | cons a r => have := (hw.tabs.2 a (by rw [e]; exact List.mem_cons_self ..)).2; simp; omega
    rw [(root_says x.epoch (x.tabs.getD 0 0) x.tabs.length hw.epoch ht0 (by have := hw.tabs.1; omega)).1]
    show x.epoch < (x.epoch + 1) % 18446744073709551616
    omega
end Go.Proofs.YtpoakkdkibameaaGreat
namespace Go.Proofs.YtpoakkdkibameaaGreat
open Go.RowKit Go.Maps Go.Shelf
set_option linter.unusedSimpArgs false
set_option linter.unusedVariables false
set_option linter.unusedSectionVars false

/-- Outside P nothing was written. -/
structure Safe (d0 : DS) (P : Nat → Prop) (d : DS) : Prop where
  n : d.n = d0.n
  sec : ∀ i, ¬ P i → d.sec i = d0.sec i
  pend : ∀ x ∈ d.pend, P x.at_
theorem Safe.write {d0 d : DS} {P : Nat → Prop} (h : Safe d0 P d) (k : Nat) (hk : P k) (f : Nat → Int) : Safe d0 P (d.write (k : Int) f 32).2 := by
  unfold DS.write
  rw [if_neg (by simp)]
  split
  · exact h
  · split
    · exact h
    · refine ⟨h.n, fun i hi => ?_, fun x hx => ?_⟩
      · show upd d.sec ((k : Int).toNat) f i = d0.sec i
        rw [upd_at, if_neg (by rw [Int.toNat_natCast]; intro e; exact hi (e ▸ hk))]
        exact h.sec i hi
      · rcases List.mem_append.1 hx with hx | hx
        · exact h.pend x hx
        · simp only [List.mem_singleton] at hx
          rw [hx]
          exact hk
theorem Safe.wr4 {d0 d : DS} {P : Nat → Prop} (h : Safe d0 P d) (Q : Nat) (Z : List Nat) (hP : ∀ i, 4 * Q ≤ i → i < 4 * Q + 4 → P i) : ∀ k, k ≤ 4 → Safe d0 P (d.wr4 Q Z k).2
  | 0, _ => h
  | k + 1, hk => by
    have ih := Safe.wr4 h Q Z hP k (by omega)
    simp only [DS.wr4]
    split
    · exact ih.write (4 * Q + k) (hP _ (by omega) (by omega)) _
    · exact ih
theorem Safe.wpage {d0 d : DS} {P : Nat → Prop} (h : Safe d0 P d) (Q id : Nat) (D : List Nat) (hP : ∀ i, 4 * Q ≤ i → i < 4 * Q + 4 → P i) : Safe d0 P (d.wpage (Q : Int) id D).2 := by
  unfold DS.wpage
  split
  · exact h
  · split
    · exact h
    · rw [Int.toNat_natCast]
      exact h.wr4 Q _ hP 4 (Nat.le_refl _)
/-- Pages that are written one after the other, till the disk refuses. -/
def wrsS (r : Int × DS) (q : Nat × Nat × List Nat) : Int × DS := if r.1 ≠ 0 then r else r.2.wpage (q.1 : Int) q.2.1 q.2.2
def wrsR (l : List (Nat × Nat × List Nat)) (r : Int × DS) : Int × DS := l.foldl wrsS r
theorem wrsR_stuck : ∀ (l : List (Nat × Nat × List Nat)) (r : Int × DS), r.1 ≠ 0 → wrsR l r = r
  | [], r, _ => rfl
  | q :: l, r, h => by
    have e : wrsS r q = r := by unfold wrsS; rw [if_pos h]
    show wrsR l (wrsS r q) = r
    rw [e]
    exact wrsR_stuck l r h
theorem wrsR_append (l l' : List (Nat × Nat × List Nat)) (r : Int × DS) : wrsR (l ++ l') r = wrsR l' (wrsR l r) := by simp [wrsR]
theorem wf_wrsR (L : Pgs) (fr : List Nat) (d : DS) : wfR L d fr = wrsR (dataW L fr) (0, d) := by
  unfold wfR wrsR dataW
  rw [List.foldl_map]
  rfl
theorem wt_wrsR (tab at_ : List Nat) (d : DS) : ∀ m, wtR tab at_ d (List.range m) = (m, wrsR (tabW tab at_ m) (0, d))
  | 0 => rfl
  | m + 1 => by
    have e1 : tabW tab at_ (m + 1) = tabW tab at_ m ++ [(at_.getD m 0, 2, layB (at_.getD (m + 1) 0) 4 ++ (tab.drop (112 * m)).take 112)] := by simp [tabW, List.range_succ]
    rw [List.range_succ, wtR_snoc, wt_wrsR tab at_ d m, e1, wrsR_append]
    rfl
theorem Safe.wrs {d0 : DS} {P : Nat → Prop} : ∀ (l : List (Nat × Nat × List Nat)) (r : Int × DS), Safe d0 P r.2 → (∀ q ∈ l, ∀ i, 4 * q.1 ≤ i → i < 4 * q.1 + 4 → P i) → Safe d0 P (wrsR l r).2
  | [], r, h, _ => h
  | q :: l, r, h, hP => by
    refine Safe.wrs l (wrsS r q) ?_ (fun s hs => hP s (List.mem_cons_of_mem _ hs))
    unfold wrsS
    split
    · exact h
    · exact h.wpage q.1 q.2.1 q.2.2 (hP q (List.mem_cons_self ..))
/-- A commit, in these words. -/
theorem cm_eq {x : SS} {d : DS} (hfit : needN x ≤ freeN x x.size) : cmX x d = if (wrsR (allW x) (0, d)).1 ≠ 0 then wrsR (allW x) (0, d) else if ((wrsR (allW x) (0, d)).2.barrier).1 ≠ 0 then (wrsR (allW x) (0, d)).2.barrier else ((wrsR (allW x) (0, d)).2.barrier).2.keep ((4 - x.sector : Nat) : Int) (byF (rootB ((x.epoch + 1) % 18446744073709551616) ((tbs x).getD 0 0) (tbs x).length)) := by
  have e0 : wrsR (allW x) (0, d) = wrsR (tabW (tabB (laid x)) (tbs x) (tbs x).length) (wrsR (dataW (laid x) (freshN x.now)) (0, d)) := by unfold allW; rw [wrsR_append]
  unfold cmX cmR
  rw [wf_wrsR]
  obtain ⟨r, hr⟩ : ∃ r, r = wrsR (dataW (laid x) (freshN x.now)) (0, d) := ⟨_, rfl⟩
  rw [e0, ← hr, ← tbs_length hfit]
  obtain ⟨rc, rd⟩ := r
  by_cases h : rc = 0
  · subst h
    rw [wt_wrsR]
    simp only
    rw [if_neg (by simp)]
  · rw [wrsR_stuck _ (rc, rd) h, if_pos h, if_pos h]
theorem write_sec {d : DS} {k : Nat} {f : Nat → Int} (h : (d.write (k : Int) f 32).1 = 0) : (d.write (k : Int) f 32).2 = { d with sec := upd d.sec k f, pend := d.pend ++ [⟨k, d.sec k, f⟩], life := aged d.life } ∧ d.life ≠ 0 := by
  unfold DS.write at h ⊢
  rw [if_neg (by simp)] at h ⊢
  by_cases h1 : d.life = 0
  · rw [if_pos h1] at h; simp at h
  · rw [if_neg h1] at h ⊢
    by_cases h2 : (k : Int) < 0 ∨ (d.n : Int) ≤ (k : Int)
    · rw [if_pos h2] at h; simp at h
    · rw [if_neg h2]
      exact ⟨by rw [Int.toNat_natCast], h1⟩
theorem wr4_done {d : DS} (P : Nat) (Z : List Nat) : ∀ k, k ≤ 4 → (d.wr4 P Z k).1 = 0 → (d.wr4 P Z k).2.n = d.n ∧ ∀ i, (d.wr4 P Z k).2.sec i = if 4 * P ≤ i ∧ i < 4 * P + k then secF Z (i - 4 * P) else d.sec i
  | 0, _, _ => ⟨rfl, fun i => by rw [if_neg (by omega)]; rfl⟩
  | k + 1, hk, h => by
    simp only [DS.wr4] at h ⊢
    by_cases h0 : (d.wr4 P Z k).1 = 0
    · rw [if_pos h0] at h ⊢
      obtain ⟨i1, i2⟩ := wr4_done P Z k (by omega) h0
      rw [(write_sec h).1]
      refine ⟨i1, fun i => ?_⟩
      show upd (d.wr4 P Z k).2.sec (4 * P + k) (secF Z k) i = _
      rw [upd_at, i2]
      by_cases e : i = 4 * P + k
      · rw [if_pos e, if_pos (by omega), e, Nat.add_sub_cancel_left]
      · rw [if_neg e]
        by_cases e2 : 4 * P ≤ i ∧ i < 4 * P + k
        · rw [if_pos e2, if_pos (by omega)]
        · rw [if_neg e2, if_neg (by omega)]
    · rw [if_neg h0] at h
      exact absurd h h0
theorem wpage_done {d : DS} (P id : Nat) (D : List Nat) (h : (d.wpage (P : Int) id D).1 = 0) :
    (d.wpage (P : Int) id D).2.n = d.n ∧ pgN (d.wpage (P : Int) id D).2 P 4 = page id D ∧ ∀ i, ¬ (4 * P ≤ i ∧ i < 4 * P + 4) → (d.wpage (P : Int) id D).2.sec i = d.sec i := by
  unfold DS.wpage at h ⊢
  by_cases h1 : (P : Int) < 0 ∨ ((d.n / 4 : Nat) : Int) ≤ (P : Int)
  · rw [if_pos h1] at h; simp at h
  · rw [if_neg h1] at h ⊢
    by_cases h2 : 116 < D.length
    · rw [if_pos h2] at h; simp at h
    · rw [if_neg h2, Int.toNat_natCast] at h ⊢
      obtain ⟨hn, hs⟩ := wr4_done P (page id D) 4 (Nat.le_refl _) h
      have hl := page_length id D (by omega)
      refine ⟨hn, ?_, fun i hi => by rw [hs, if_neg hi]⟩
      have k : ∀ k, k < 4 → secN ((d.wr4 P (page id D) 4).2.sec (4 * P + k)) = ((page id D).drop (32 * k)).take 32 := fun k hk => by
        rw [hs, if_pos (by omega), Nat.add_sub_cancel_left, secN_secF _ _ (by omega)]
      simp only [pgN, List.nil_append]
      rw [k 0 (by omega), k 1 (by omega), k 2 (by omega), k 3 (by omega)]
      exact take128 _ hl
theorem wrsR_done : ∀ (l : List (Nat × Nat × List Nat)) (d : DS), (wrsR l (0, d)).1 = 0 → (l.map (·.1)).Nodup →
    (wrsR l (0, d)).2.n = d.n ∧ (∀ q ∈ l, pgN (wrsR l (0, d)).2 q.1 4 = page q.2.1 q.2.2) ∧ ∀ i, (∀ q ∈ l, ¬ (4 * q.1 ≤ i ∧ i < 4 * q.1 + 4)) → (wrsR l (0, d)).2.sec i = d.sec i
  | [], d, _, _ => ⟨rfl, (fun q hq => by cases hq), fun _ _ => rfl⟩
  | q :: l, d, h, hn => by
    have hs : wrsR (q :: l) (0, d) = wrsR l (d.wpage (q.1 : Int) q.2.1 q.2.2) := rfl
    rw [hs] at h ⊢
    by_cases h0 : (d.wpage (q.1 : Int) q.2.1 q.2.2).1 = 0
    · obtain ⟨e0, e1, e2⟩ := wpage_done q.1 q.2.1 q.2.2 h0
      have e : d.wpage (q.1 : Int) q.2.1 q.2.2 = (0, (d.wpage (q.1 : Int) q.2.1 q.2.2).2) := Prod.ext h0 rfl
      rw [e] at h ⊢
      have hnd := List.nodup_cons.1 (by simpa using hn : (q.1 :: l.map (·.1)).Nodup)
      obtain ⟨i2, i3, i4⟩ := wrsR_done l _ h hnd.2
      have hne : ∀ r ∈ l, r.1 ≠ q.1 := fun r hr e => hnd.1 (List.mem_map.2 ⟨r, hr, e⟩)
      refine ⟨i2.trans e0, fun r hr => ?_, fun i hi => ?_⟩
      · rcases List.mem_cons.1 hr with rfl | hr
        · rw [pgN_same (d := (d.wpage (r.1 : Int) r.2.1 r.2.2).2) (fun k hk => i4 _ (fun s hs => by have := hne s hs; omega))]
          exact e1
        · exact i3 r hr
      · rw [i4 i (fun s hs => hi s (List.mem_cons_of_mem _ hs)), e2 i (hi q (List.mem_cons_self ..))]
    · rw [wrsR_stuck l _ h0] at h
      exact absurd h h0
theorem fold_out : ∀ (ws : List Wr) (s : Nat → Nat → Int) (i : Nat), (∀ x ∈ ws, x.at_ ≠ i) → ws.foldl (fun s x => upd s x.at_ x.bef) s i = s i
  | [], _, _, _ => rfl
  | x :: l, s, i, h => by
    rw [List.foldl_cons, fold_out l _ i (fun y hy => h y (List.mem_cons_of_mem _ hy)), upd_at, if_neg]
    intro e
    exact h x (List.mem_cons_self ..) e.symm
theorem undo_out (ws : List Wr) (s : Nat → Nat → Int) (i : Nat) (h : ∀ x ∈ ws, x.at_ ≠ i) : undoW ws s i = s i := fold_out ws.reverse s i (fun x hx => h x (List.mem_reverse.1 hx))
theorem crashTo_out (kp : Nat → Bool) (torn : Int) (cut : Nat) (ws : List Wr) (s : Nat → Nat → Int) (i : Nat) (h : ∀ x ∈ ws, x.at_ ≠ i) : ∀ m, crashTo kp torn cut ws s m i = s i
  | 0 => rfl
  | m + 1 => by
    have ih := crashTo_out kp torn cut ws s i h m
    cases hk : kp m with
    | false => rw [crashTo_no _ _ _ _ _ _ hk]; exact ih
    | true =>
      cases hx : ws[m]? with
      | none => simp only [crashTo, hx]; exact ih
      | some x =>
        rw [crashTo_yes _ _ _ _ _ _ x hx hk, upd_at, if_neg]
        · exact ih
        · intro e
          exact h x (List.mem_of_getElem? hx) e.symm
theorem crash_eq (d : DS) (ks : List Bool) (torn cut : Int) (hc : ¬ (cut < 0 ∨ 32 < cut)) : d.crash ks torn cut = (0, ⟨d.n, crashTo (fun i => decide (i < ks.length) && ks.getD i false) torn cut.toNat d.pend (undoW d.pend d.sec) d.pend.length, [], -1⟩) := by
  unfold DS.crash
  rw [if_neg hc]
/-- A crash leaves outside P what was there. -/
theorem Safe.crash {d0 d : DS} {P : Nat → Prop} (h : Safe d0 P d) (ks : List Bool) (torn cut : Int) (hc : ¬ (cut < 0 ∨ 32 < cut)) : (d.crash ks torn cut).2.n = d0.n ∧ ∀ i, ¬ P i → (d.crash ks torn cut).2.sec i = d0.sec i := by
  rw [crash_eq d ks torn cut hc]
  refine ⟨h.n, fun i hi => ?_⟩
  show crashTo _ torn cut.toNat d.pend (undoW d.pend d.sec) d.pend.length i = d0.sec i
  have hne : ∀ x ∈ d.pend, x.at_ ≠ i := fun x hx e => hi (e ▸ h.pend x hx)
  rw [crashTo_out _ _ _ _ _ _ hne, undo_out _ _ _ hne]
  exact h.sec i hi
theorem crash_byte {d : DS} (h : ByteD d) (ks : List Bool) (torn cut : Int) (hc : ¬ (cut < 0 ∨ 32 < cut)) : ByteD (d.crash ks torn cut).2 := by
  rw [crash_eq d ks torn cut hc]
  exact h.crash _ _ _ _

theorem acc4_inj {A B : List Nat} (ha : ∀ z ∈ A, z < 256) (hb : ∀ z ∈ B, z < 256) : ∀ k, acc4 A 0 k = acc4 B 0 k → ∀ j, j < k → A.getD j 0 = B.getD j 0
  | 0, _, j, hj => by omega
  | k + 1, h, j, hj => by
    simp only [acc4, Nat.zero_add] at h
    have la := acc4_lt ha 0 k
    have lb := acc4_lt hb 0 k
    obtain ⟨P, hP⟩ : ∃ P, P = 2 ^ (8 * k) := ⟨_, rfl⟩
    rw [← hP] at h la lb
    have hp : 0 < P := by rw [hP]; exact Nat.pos_of_ne_zero (by simp)
    have e1 : acc4 A 0 k = acc4 B 0 k := by
      have := congrArg (· % P) h
      simp only [Nat.add_mul_mod_self_right] at this
      rwa [Nat.mod_eq_of_lt la, Nat.mod_eq_of_lt lb] at this
    have e2 : A.getD k 0 = B.getD k 0 := by
      have := congrArg (· / P) h
      simp only [Nat.add_mul_div_right _ _ hp] at this
      rw [Nat.div_eq_of_lt la, Nat.div_eq_of_lt lb] at this
      omega
    by_cases e : j = k
    · rw [e]; exact e2
    · exact acc4_inj ha hb k e1 j (by omega)
theorem part_getD (Z : List Nat) (k m j : Nat) (hj : j < m) : ((Z.drop k).take m).getD j 0 = Z.getD (k + j) 0 := by
  simp only [List.getD, List.getElem?_take, List.getElem?_drop]
  rw [if_pos hj]
theorem part_inj {A B : List Nat} (ha : ∀ z ∈ A, z < 256) (hb : ∀ z ∈ B, z < 256) (a b m : Nat) (h1 : a + m ≤ A.length) (h2 : b + m ≤ B.length) (h : part A a m = part B b m) : ∀ j, j < m → A.getD (a + j) 0 = B.getD (b + j) 0 := by
  intro j hj
  unfold part nof at h
  rw [show ((A.drop a).take m).length = m by simp; omega, show ((B.drop b).take m).length = m by simp; omega] at h
  have := acc4_inj (A := (A.drop a).take m) (B := (B.drop b).take m) (fun z hz => ha z (List.mem_of_mem_drop (List.mem_of_mem_take hz))) (fun z hz => hb z (List.mem_of_mem_drop (List.mem_of_mem_take hz))) m h j hj
  rwa [part_getD _ _ _ _ hj, part_getD _ _ _ _ hj] at this
theorem part_same {A B : List Nat} (a b m : Nat) (h1 : a + m ≤ A.length) (h2 : b + m ≤ B.length) (h : ∀ j, j < m → A.getD (a + j) 0 = B.getD (b + j) 0) : part A a m = part B b m := by
  unfold part
  congr 1
  apply List.ext_getElem
  · simp; omega
  · intro j q1 q2
    have hj : j < m := by simp at q1; omega
    have := h j hj
    rw [List.getElem_take, List.getElem_take, List.getElem_drop, List.getElem_drop]
    simpa [List.getD, show a + j < A.length by omega, show b + j < B.length by omega] using this
/-- A sector whose ends are alike. -/
def Twin (Z : List Nat) : Prop := ∀ j, j < 8 → Z.getD j 0 = Z.getD (24 + j) 0
theorem secN_ext {f g : Nat → Int} (h : ∀ j, j < 32 → (secN f).getD j 0 = (secN g).getD j 0) : secN f = secN g := by
  apply List.ext_getElem
  · rw [secN_length, secN_length]
  · intro j h1 h2
    rw [secN_length] at h1
    have := h j h1
    simpa [List.getD, secN_length, h1] using this
theorem rtOk_twin {Z : List Nat} (hl : Z.length = 32) (hz : ∀ z ∈ Z, z < 256) (h : rtOk Z = true) : Twin Z := by
  unfold rtOk at h
  simp only [Bool.and_eq_true, beq_iff_eq] at h
  intro j hj
  have := part_inj hz hz 24 0 8 (by omega) (by omega) h.2 j hj
  rw [Nat.zero_add] at this
  exact this.symm
theorem root_twin (E F C : Nat) : Twin (rootB E F C) := by
  intro j hj
  have h1 : (rootB E F C).getD j 0 = (layB E 8).getD j 0 := by
    unfold rootB
    simp only [List.getD]
    rw [List.getElem?_append_left (by rw [layB_length]; exact hj)]
  have h2 : (rootB E F C).getD (24 + j) 0 = (layB E 8).getD j 0 := by
    have e : rootB E F C = (layB E 8 ++ (layB F 4 ++ (layB C 4 ++ List.replicate 8 0))) ++ layB E 8 := by simp [rootB]
    rw [e]
    simp only [List.getD]
    rw [List.getElem?_append_right (by simp [layB_length])]
    congr 2
    simp [layB_length]
  rw [h1, h2]
/-- A root that was torn is as it was, or as it was to be, or counts for none. -/
theorem torn_root {f g : Nat → Int} (hf : Byt f) (hg : Byt g) (tf : Twin (secN f)) (tg : Twin (secN g)) (hne : rtE (secN f) ≠ rtE (secN g)) (c : Nat) : rtOk (secN (mix c f g)) = false ∨ secN (mix c f g) = secN g ∨ secN (mix c f g) = secN f := by
  cases hok : rtOk (secN (mix c f g)) with
  | false => exact .inl rfl
  | true =>
    have tm := rtOk_twin (secN_length _) (secN_lt (byt_mix _ hf hg)) hok
    have hm : ∀ j, j < 32 → (secN (mix c f g)).getD j 0 = if j < c then (secN f).getD j 0 else (secN g).getD j 0 := fun j hj => by
      rw [secN_getD _ _ hj, secN_getD _ _ hj, secN_getD _ _ hj]
      unfold mix
      split <;> rfl
    right
    by_cases h24 : c ≤ 24
    · left
      have hlow : ∀ j, j < 8 → (secN (mix c f g)).getD j 0 = (secN g).getD j 0 := fun j hj => by
        rw [tm j hj, hm (24 + j) (by omega), if_neg (by omega), ← tg j hj]
      by_cases h8 : 8 ≤ c
      · exfalso
        apply hne
        exact part_same 0 0 8 (by rw [secN_length]; omega) (by rw [secN_length]; omega) (fun j hj => by
          rw [Nat.zero_add]
          have := hm j (by omega)
          rw [if_pos (by omega)] at this
          rw [← this, hlow j hj])
      · exact secN_ext (fun j hj => by
          by_cases e : j < 8
          · exact hlow j e
          · rw [hm j hj, if_neg (by omega)])
    · right
      exact secN_ext (fun j hj => by
        by_cases e : j < 24
        · rw [hm j hj, if_pos (by omega)]
        · have e1 := tm (j - 24) (by omega)
          rw [show 24 + (j - 24) = j by omega] at e1
          rw [← e1, hm (j - 24) (by omega), if_pos (by omega)]
          have e2 := tf (j - 24) (by omega)
          rw [show 24 + (j - 24) = j by omega] at e2
          exact e2)
end Go.Proofs.YtpoakkdkibameaaGreat
namespace Go.Proofs.YtpoakkdkibameaaGreat
open Go.RowKit Go.Maps Go.Shelf
set_option linter.unusedSimpArgs false
set_option linter.unusedVariables false
set_option linter.unusedSectionVars false

/-- The root at the other sector is older, and not torn. -/
def Oth (x : SS) (d : DS) : Prop := Twin (secN (d.sec (4 - x.sector))) ∧ rtE (secN (d.sec (4 - x.sector))) < x.epoch
theorem Oth.low {x : SS} {d : DS} (h : Oth x d) : Low x d := fun _ => h.2
/-- A sector of a page that is free. -/
def FreeS (x : SS) (i : Nat) : Prop := i / 4 ∈ freeL x x.size
theorem free_two {x : SS} {i : Nat} (h : FreeS x i) : 8 ≤ i := by
  have := used_two (freeL_mem.1 h).2
  omega
theorem write_fail {d : DS} {k : Int} {f : Nat → Int} (h : (d.write k f 32).1 ≠ 0) : (d.write k f 32).2 = d := by
  unfold DS.write at h ⊢
  rw [if_neg (by simp)] at h ⊢
  split
  · rfl
  · split
    · rfl
    · next h1 h2 =>
      rw [if_neg h1, if_neg h2] at h
      exact absurd rfl h
theorem crash_nil (d : DS) (hp : d.pend = []) (ks : List Bool) (torn cut : Int) (hc : ¬ (cut < 0 ∨ 32 < cut)) : (d.crash ks torn cut).2.sec = d.sec := by
  rw [crash_eq d ks torn cut hc, hp]
  rfl
theorem crash_one (d : DS) (k : Nat) (s : Nat → Nat → Int) (f : Nat → Int) (hs : d.sec = upd s k f) (hp : d.pend = [⟨k, s k, f⟩]) (ks : List Bool) (torn cut : Int) (hc : ¬ (cut < 0 ∨ 32 < cut)) : (d.crash ks torn cut).2.sec = s ∨ ∃ c, (d.crash ks torn cut).2.sec = upd s k (mix c f (s k)) := by
  rw [crash_eq d ks torn cut hc, hp, hs]
  have hu : undoW [⟨k, s k, f⟩] (upd s k f) = s := upd_back s k f
  simp only
  rw [hu]
  show crashTo (fun i => decide (i < ks.length) && ks.getD i false) torn cut.toNat [⟨k, s k, f⟩] s 1 = s ∨ ∃ c, crashTo (fun i => decide (i < ks.length) && ks.getD i false) torn cut.toNat [⟨k, s k, f⟩] s 1 = _
  cases hk : (decide (0 < ks.length) && ks.getD 0 false) with
  | false =>
    left
    rw [crashTo_no (fun i => decide (i < ks.length) && ks.getD i false) torn _ _ _ 0 hk]
    rfl
  | true =>
    right
    rw [crashTo_yes (fun i => decide (i < ks.length) && ks.getD i false) torn _ _ _ 0 ⟨k, s k, f⟩ rfl hk]
    exact ⟨_, rfl⟩
/-- What is written to free pages leaves the store as it was. -/
theorem hold_safe {x : SS} {d : DS} {d2 : DS} (hx : x.Wf) (hs : ∀ i, i ≠ 4 - x.sector → ¬ FreeS x i → d2.sec i = d.sec i) (h : Hold x d) : Hold x d2 := by
  have hsec := hx.sector
  have hpg : ∀ P, 2 ≤ P → usedF x P = true → pgN d2 P 4 = pgN d P 4 := fun P hP hu => pgN_same (fun k hk => hs _ (by omega) (fun hf => by
    have := (freeL_mem.1 hf).2
    rw [show (4 * P + k) / 4 = P by omega, hu] at this
    cases this))
  refine ⟨?_, h.tabs, fun j hj => ?_, fun p hp => ?_, h.pos⟩
  · rw [hs x.sector (by omega) (fun hf => by have := free_two hf; omega)]
    exact h.root
  · have hm : x.tabs.getD j 0 ∈ x.tabs := by simp only [List.getD, List.getElem?_eq_getElem hj, Option.getD_some]; exact List.getElem_mem hj
    rw [hpg _ (hx.tabs.2 _ hm).1 (by unfold usedF; simp only [Bool.or_eq_true, List.any_eq_true, beq_iff_eq]; exact .inr ⟨_, hm, rfl⟩)]
    exact h.tab j hj
  · rw [hpg _ (hx.com p hp).2.1.1 (by unfold usedF; simp only [Bool.or_eq_true, List.any_eq_true, beq_iff_eq]; exact .inl (.inr ⟨p, hp, rfl⟩))]
    exact h.page p hp
/-- Behind all writes and the root the disk holds the next store. -/
theorem hold_of {x : SS} {d : DS} (hw : x.Wf) (hfit : needN x ≤ freeN x x.size) (hn : d.n / 4 = x.size) (hr : Rise x.now) {D d2 : DS} (hi : Inv x) (hb : ∀ p ∈ x.now, ∀ z ∈ p.2.2, z < 256) (hep : x.epoch + 1 < 18446744073709551616) (h : Hold x d) (w3 : ∀ q ∈ allW x, pgN D q.1 4 = page q.2.1 q.2.2) (w4 : ∀ i, (∀ q ∈ allW x, ¬ (4 * q.1 ≤ i ∧ i < 4 * q.1 + 4)) → D.sec i = d.sec i) (hs : ∀ i, i ≠ 4 - x.sector → d2.sec i = D.sec i) (hRt : secN (d2.sec (4 - x.sector)) = rootB (x.epoch + 1) ((tbs x).getD 0 0) (tbs x).length) : Hold x.next d2 ∧ Oth x.next d2 := by
  have hok := allW_ok (d := d) hw hfit hn hr
  have hsec := hw.sector
  have hE : (x.epoch + 1) % 18446744073709551616 = x.epoch + 1 := Nat.mod_eq_of_lt hep
  have htwo : ∀ q ∈ allW x, 2 ≤ q.1 := fun q hq => used_two (freeL_mem.1 (hok q hq).2.2).2
  have hp : ∀ P, 2 ≤ P → pgN d2 P 4 = pgN D P 4 := fun P hP => pgN_same (fun k hk => hs _ (by omega))
  have hkeep : ∀ P, (∀ q ∈ allW x, q.1 ≠ P) → pgN D P 4 = pgN d P 4 := fun P hP => pgN_same (fun k hk => w4 _ (fun q hq => by have := hP q hq; omega))
  have hby : ∀ p ∈ laid x, ∀ z ∈ p.2.2, z < 256 := fun p hp' z hz => by
    have : (p.1, p.2.2) ∈ (laid x).map (fun q => (q.1, q.2.2)) := List.mem_map.2 ⟨p, hp', rfl⟩
    unfold laid layP at this
    rw [layK_data] at this
    obtain ⟨q, hq, e⟩ := List.mem_map.1 this
    injection e with _ e
    rw [← e] at hz
    exact hb q hq z hz
  have hnw := next_wf hw hfit
  refine ⟨{ root := ?_, tabs := tbs_length hfit, tab := fun j hj => ?_, page := fun p hp' => ?_, pos := ?_ }, ?_⟩
  · show secN (d2.sec (4 - x.sector)) = rootB ((x.epoch + 1) % 18446744073709551616) ((tbs x).getD 0 0) (tbs x).length
    rw [hE]
    exact hRt
  · have hj' : j < (tbs x).length := hj
    have hm : (tbs x).getD j 0 ∈ tbs x := by simp only [List.getD, List.getElem?_eq_getElem hj', Option.getD_some]; exact List.getElem_mem hj'
    have ht := hnw.tabs.2 _ hm
    have hmw : ((tbs x).getD j 0, 2, layB ((tbs x).getD (j + 1) 0) 4 ++ ((tabB (laid x)).drop (112 * j)).take 112) ∈ allW x := List.mem_append_right _ (List.mem_map.2 ⟨j, List.mem_range.2 hj', rfl⟩)
    have hpw := w3 _ hmw
    show unp (pgN d2 ((tbs x).getD j 0) 4) = some (2, layB ((tbs x).getD (j + 1) 0) 4 ++ ((tabB (laid x)).drop (112 * j)).take 112)
    rw [hp _ ht.1, hpw]
    exact unp_page 2 _ (by simp [layB_length]; omega) (by omega) (fun z hz => by
      rcases List.mem_append.1 hz with hz | hz
      · exact layB_lt _ _ z hz
      · exact tabB_byte _ z (List.mem_of_mem_drop (List.mem_of_mem_take hz)))
  · have hpw : p ∈ laid x := hp'
    have h4 := hnw.com p hpw
    show unp (pgN d2 p.2.1 4) = some (3 + 256 * p.1.toNat, p.2.2)
    rw [hp _ h4.2.1.1]
    rcases layK_mem2 hpw (Nat.le_refl _) (by rw [plA_length]; exact Nat.le_refl _) with ⟨e1, e2⟩ | ⟨e1, e2⟩
    · have hc := hi.2 p e1 e2
      rw [hkeep p.2.1 (fun q hq e => by
        have hfree := (freeL_mem.1 (hok q hq).2.2).2
        unfold usedF at hfree
        simp only [Bool.or_eq_false_iff, List.any_eq_false] at hfree
        have := hfree.1.2 p hc
        simp [e] at this)]
      exact h.page p hc
    · have hii : p.1.toNat ∈ freshN x.now := (freshN_mem (fun q hq => (hw.now q hq).1.1)).2 ⟨p.2.2, by
        have h0 := (hw.now _ e1).1
        simp only at h0
        rw [show ((p.1.toNat : Nat) : Int) = p.1 by omega]
        exact e1⟩
      have h0 := (hw.now _ e1).1
      simp only at h0
      have hpi : ((p.1.toNat : Nat) : Int) = p.1 := by omega
      have hg : pgAt (laid x) ((p.1.toNat : Nat) : Int) = some p.2 := by
        rw [hpi]
        exact (getL_mem (layP_rise hr _) p.1 p.2).2 hpw
      have hmw : (p.2.1, 3 + 256 * p.1.toNat, p.2.2) ∈ allW x := List.mem_append_left _ (List.mem_map.2 ⟨p.1.toNat, hii, by rw [hg]; rfl⟩)
      have hpw' := w3 _ hmw
      simp only at hpw'
      rw [hpw']
      exact unp_page _ _ h4.2.2 (by omega) (hby p hpw)
  · show 0 < (x.epoch + 1) % 18446744073709551616
    omega
  · have e4 : 4 - x.next.sector = x.sector := by show 4 - (4 - x.sector) = x.sector; omega
    unfold Oth
    rw [e4]
    have e5 : d2.sec x.sector = d.sec x.sector := by
      rw [hs _ (by omega)]
      exact w4 _ (fun q hq => by have := htwo q hq; omega)
    rw [e5, h.root]
    have ht0 : x.tabs.getD 0 0 < 4294967296 := by
      have hs := hw.size
      cases e : x.tabs with
      | nil => simp
      | cons a r => have := (hw.tabs.2 a (by rw [e]; exact List.mem_cons_self ..)).2; simp; omega
    refine ⟨root_twin _ _ _, ?_⟩
    rw [(root_says x.epoch (x.tabs.getD 0 0) x.tabs.length hw.epoch ht0 (by have := hw.tabs.1; omega)).1]
    show x.epoch < (x.epoch + 1) % 18446744073709551616
    omega
/-- Behind a crash in a commit the disk holds the store as it was, or as it was to be. -/
theorem cm_crash {x : SS} {d : DS} (hw : x.Wf) (hfit : needN x ≤ freeN x x.size) (hn : d.n / 4 = x.size) (hr : Rise x.now) (hi : Inv x) (hb : ∀ p ∈ x.now, ∀ z ∈ p.2.2, z < 256) (hep : x.epoch + 1 < 18446744073709551616) (h : Hold x d) (ho : Oth x d) (hbd : ByteD d) (hp : d.pend = []) (ks : List Bool) (torn cut : Int) (hc : ¬ (cut < 0 ∨ 32 < cut)) :
    ((cmX x d).1 ≠ 0 → (Hold x ((cmX x d).2.crash ks torn cut).2 ∧ Low x ((cmX x d).2.crash ks torn cut).2) ∨ (Hold x.next ((cmX x d).2.crash ks torn cut).2 ∧ Low x.next ((cmX x d).2.crash ks torn cut).2)) ∧
    ((cmX x d).1 = 0 → Hold x.next ((cmX x d).2.crash ks torn cut).2 ∧ Low x.next ((cmX x d).2.crash ks torn cut).2) := by
  have hok := allW_ok (d := d) hw hfit hn hr
  have hnd := allW_nodup (d := d) hw hfit hn hr hi
  have hsec := hw.sector
  have hsf : Safe d (FreeS x) (wrsR (allW x) (0, d)).2 := Safe.wrs (allW x) (0, d) ⟨rfl, fun _ _ => rfl, fun y hy => by rw [hp] at hy; cases hy⟩ (fun q hq i h1 h2 => by
    show i / 4 ∈ freeL x x.size
    rw [show i / 4 = q.1 by omega]
    exact (hok q hq).2.2)
  have hns : ¬ FreeS x (4 - x.sector) := fun hf => by have := free_two hf; omega
  have hold0 : ∀ d1 : DS, Safe d (FreeS x) d1 → Hold x (d1.crash ks torn cut).2 ∧ Low x (d1.crash ks torn cut).2 := fun d1 h1 => by
    obtain ⟨_, c2⟩ := h1.crash ks torn cut hc
    refine ⟨hold_safe hw (fun i _ hf => c2 i hf) h, ?_⟩
    unfold Low
    rw [c2 _ hns]
    exact ho.low
  rw [cm_eq hfit, Nat.mod_eq_of_lt hep]
  obtain ⟨R, hR⟩ : ∃ R, R = wrsR (allW x) (0, d) := ⟨_, rfl⟩
  rw [← hR] at hsf ⊢
  by_cases h0 : R.1 = 0
  · have h0' : (wrsR (allW x) (0, d)).1 = 0 := by rw [← hR]; exact h0
    obtain ⟨w2, w3, w4⟩ := wrsR_done (allW x) d h0' hnd
    rw [← hR] at w2 w3 w4
    rw [if_neg (by simp [h0])]
    obtain ⟨rc, D⟩ := R
    simp only at w2 w3 w4 hsf ⊢
    obtain ⟨N, hN⟩ : ∃ N, N = rootB (x.epoch + 1) ((tbs x).getD 0 0) (tbs x).length := ⟨_, rfl⟩
    have hNl : N.length = 32 := by rw [hN]; exact rootB_length _ _ _
    rw [← hN]
    obtain ⟨k, hk⟩ : ∃ k, k = 4 - x.sector := ⟨_, rfl⟩
    rw [← hk]
    have hof := fun (d2 : DS) hs hRt => hold_of (d2 := d2) hw hfit hn hr hi hb hep h w3 w4 hs hRt
    rw [← hk, ← hN] at hof
    by_cases hl : D.life = 0
    · have hbr : D.barrier = (3, D) := by unfold DS.barrier; rw [if_pos hl]
      rw [hbr, if_pos (by simp)]
      exact ⟨fun _ => .inl (hold0 D hsf), fun e => by simp at e⟩
    · have hbr : D.barrier = (0, { D with pend := [], life := aged D.life }) := by unfold DS.barrier; rw [if_neg hl]
      rw [hbr, if_neg (by simp)]
      simp only
      obtain ⟨D1, hD1⟩ : ∃ D1 : DS, D1 = { D with pend := [], life := aged D.life } := ⟨_, rfl⟩
      have s1 : Safe d (FreeS x) D1 := by rw [hD1]; exact ⟨hsf.n, hsf.sec, fun y hy => by cases hy⟩
      have e1 : D1.sec = D.sec ∧ D1.pend = [] := by rw [hD1]; exact ⟨rfl, rfl⟩
      rw [← hD1]
      unfold DS.keep
      by_cases hwr : (D1.write (k : Int) (byF N) 32).1 = 0
      · rw [if_neg (by simp [hwr])]
        obtain ⟨e2, _⟩ := write_sec hwr
        obtain ⟨D2, hD2⟩ : ∃ D2 : DS, D2 = (D1.write (k : Int) (byF N) 32).2 := ⟨_, rfl⟩
        rw [← hD2] at e2 ⊢
        have q1 : D2.sec = upd D.sec k (byF N) := by rw [e2, ← e1.1]
        have q2 : D2.pend = [⟨k, D.sec k, byF N⟩] := by rw [e2]; show D1.pend ++ _ = _; rw [e1.2, e1.1]; rfl
        by_cases hl2 : D2.life = 0
        · have hbr2 : D2.barrier = (3, D2) := by unfold DS.barrier; rw [if_pos hl2]
          rw [hbr2]
          refine ⟨fun _ => ?_, fun e => by simp at e⟩
          simp only
          have hDk : D.sec k = d.sec k := hsf.sec k (by rw [hk]; exact hns)
          have hDo : ∀ i, ¬ FreeS x i → D.sec i = d.sec i := hsf.sec
          rcases crash_one D2 k D.sec (byF N) q1 q2 ks torn cut hc with e | ⟨c, e⟩
          · left
            refine ⟨hold_safe hw (fun i _ hf => by rw [e]; exact hDo i hf) h, ?_⟩
            unfold Low
            rw [e, ← hk, hDk, hk]
            exact ho.low
          · have hN2 : secN (byF N) = N := secN_byF N hNl
            have hgB : Byt (D.sec k) := by rw [hDk]; exact hbd.sec k
            have hfB : Byt (byF N) := byF_byt (by rw [hN]; exact rootB_lt _ _ _)
            have tF : Twin (secN (byF N)) := by rw [hN2, hN]; exact root_twin _ _ _
            have tG : Twin (secN (D.sec k)) := by rw [hDk, hk]; exact ho.1
            have ht0 : (tbs x).getD 0 0 < 4294967296 := by
              have hs := hw.size
              cases e : tbs x with
              | nil => simp
              | cons a r => have := ((next_wf hw hfit).tabs.2 a (by show a ∈ tbs x; rw [e]; exact List.mem_cons_self ..)).2; have e9 : x.next.size = x.size := rfl; simp; omega
            have htl : (tbs x).length < 4294967296 := by have := (next_wf hw hfit).tabs.1; have e9 : x.next.tabs = tbs x := rfl; rw [e9] at this; omega
            have hEf : rtE (secN (byF N)) = x.epoch + 1 := by rw [hN2, hN]; exact (root_says _ _ _ hep ht0 htl).1
            have hEg : rtE (secN (D.sec k)) < x.epoch := by rw [hDk, hk]; exact ho.2
            have hkk : (D2.crash ks torn cut).2.sec k = mix c (byF N) (D.sec k) := by rw [e, upd_at, if_pos rfl]
            have hkn : ∀ i, i ≠ k → (D2.crash ks torn cut).2.sec i = D.sec i := fun i hi => by rw [e, upd_at, if_neg hi]
            have hHx : Hold x (D2.crash ks torn cut).2 := hold_safe hw (fun i hi hf => by rw [hkn i (by rw [hk]; exact hi)]; exact hDo i hf) h
            rcases torn_root hfB hgB tF tG (by omega) c with t | t | t
            · left
              refine ⟨hHx, fun hh => ?_⟩
              rw [← hk, hkk, t] at hh
              cases hh
            · left
              refine ⟨hHx, fun _ => ?_⟩
              rw [← hk, hkk, t]
              exact hEg
            · right
              have := hof (D2.crash ks torn cut).2 hkn (by rw [hkk, t, hN2])
              exact ⟨this.1, this.2.low⟩
        · have hbr2 : D2.barrier = (0, { D2 with pend := [], life := aged D2.life }) := by unfold DS.barrier; rw [if_neg hl2]
          rw [hbr2]
          refine ⟨fun e => absurd rfl e, fun _ => ?_⟩
          simp only
          have ec := crash_nil { D2 with pend := [], life := aged D2.life } rfl ks torn cut hc
          have := hof ((⟨D2.n, D2.sec, [], aged D2.life⟩ : DS).crash ks torn cut).2 (fun i hi => by rw [ec]; show D2.sec i = _; rw [q1, upd_at, if_neg hi]) (by rw [ec]; show secN (D2.sec k) = N; rw [q1, upd_at, if_pos rfl, secN_byF N hNl])
          exact ⟨this.1, this.2.low⟩
      · rw [if_pos hwr]
        have e3 := write_fail hwr
        refine ⟨fun _ => .inl ?_, fun e => absurd e hwr⟩
        rw [e3]
        exact hold0 D1 s1
  · rw [if_pos h0]
    exact ⟨fun _ => .inl (hold0 R.2 hsf), fun e => absurd e h0⟩
end Go.Proofs.YtpoakkdkibameaaGreat
