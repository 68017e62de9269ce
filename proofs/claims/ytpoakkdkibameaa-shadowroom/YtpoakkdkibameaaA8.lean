/- On a disk that never dies a commit's writes are all carried out; a store with its disk. -/
import Derived.Test.YtpoakkdkibameaaA7
namespace Go.Proofs.Ytpoakkdkibameaa
open Go.RowKit Go.Maps Go.Shelf
set_option linter.unusedSimpArgs false
set_option linter.unusedVariables false

theorem write_live {d : DS} (h : d.life = -1) (k : Nat) (hk : k < d.n) (f : Nat → Int) : d.write (k : Int) f 32 = (0, { d with sec := upd d.sec k f, pend := d.pend ++ [⟨k, d.sec k, f⟩], life := -1 }) := by
  unfold DS.write
  rw [if_neg (by simp), if_neg (by omega), if_neg (by omega)]
  simp [h, aged]
theorem wr4_live {d : DS} (h : d.life = -1) (P : Nat) (hP : 4 * P + 4 ≤ d.n) (Z : List Nat) : ∀ k, k ≤ 4 → (d.wr4 P Z k).1 = 0 ∧ (d.wr4 P Z k).2.life = -1 ∧ (d.wr4 P Z k).2.n = d.n
  | 0, _ => ⟨rfl, h, rfl⟩
  | k + 1, hk => by
    obtain ⟨h1, h2, h3⟩ := wr4_live h P hP Z k (by omega)
    simp only [DS.wr4]
    rw [if_pos h1, write_live h2 (4 * P + k) (by omega)]
    exact ⟨rfl, rfl, h3⟩
theorem wpage_live {d : DS} (h : d.life = -1) (P : Nat) (hP : P < d.n / 4) (id : Nat) (D : List Nat) (hD : D.length ≤ 116) : (d.wpage (P : Int) id D).1 = 0 ∧ (d.wpage (P : Int) id D).2.life = -1 ∧ (d.wpage (P : Int) id D).2.n = d.n := by
  unfold DS.wpage
  rw [if_neg (by omega), if_neg (by omega), Int.toNat_natCast]
  exact wr4_live h P (by omega) _ 4 (Nat.le_refl _)
theorem wf_live (L : Pgs) : ∀ (l : List Nat) (r : Int × DS), r.1 = 0 → r.2.life = -1 → (∀ i ∈ l, ((pgAt L i).getD (0, [])).1 < r.2.n / 4 ∧ ((pgAt L i).getD (0, [])).2.length ≤ 116) → (l.foldl (wfStep L) r).1 = 0 ∧ (l.foldl (wfStep L) r).2.life = -1 ∧ (l.foldl (wfStep L) r).2.n = r.2.n
  | [], r, h1, h2, _ => ⟨h1, h2, rfl⟩
  | i :: l, r, h1, h2, hL => by
    obtain ⟨q1, q2⟩ := hL i (List.mem_cons_self ..)
    obtain ⟨k1, k2, k3⟩ := wpage_live h2 _ q1 (3 + 256 * i) _ q2
    have e : wfStep L r i = r.2.wpage ((((pgAt L i).getD (0, [])).1 : Nat) : Int) (3 + 256 * i) ((pgAt L i).getD (0, [])).2 := by
      unfold wfStep
      rw [if_neg (by simp [h1])]
    rw [List.foldl_cons, e]
    have ih := wf_live L l _ k1 k2 (fun j hj => by rw [k3]; exact hL j (List.mem_cons_of_mem _ hj))
    exact ⟨ih.1, ih.2.1, ih.2.2.trans k3⟩
theorem wt_live (tab at_ : List Nat) : ∀ (l : List Nat) (r : Nat × Int × DS), r.2.1 = 0 → r.2.2.life = -1 → (∀ k, at_.getD k 0 < r.2.2.n / 4) → (l.foldl (wtStep tab at_) r).2.1 = 0 ∧ (l.foldl (wtStep tab at_) r).2.2.life = -1 ∧ (l.foldl (wtStep tab at_) r).2.2.n = r.2.2.n
  | [], r, h1, h2, _ => ⟨h1, h2, rfl⟩
  | k :: l, r, h1, h2, hL => by
    obtain ⟨k1, k2, k3⟩ := wpage_live h2 _ (hL r.1) 2 (layB (at_.getD (r.1 + 1) 0) 4 ++ (tab.drop (112 * k)).take 112) (by simp [layB_length]; omega)
    have e : (wtStep tab at_ r k).2 = r.2.2.wpage ((at_.getD r.1 0 : Nat) : Int) 2 (layB (at_.getD (r.1 + 1) 0) 4 ++ (tab.drop (112 * k)).take 112) := by
      unfold wtStep
      rw [if_neg (by simp [h1])]
    rw [List.foldl_cons]
    have ih := wt_live tab at_ l (wtStep tab at_ r k) (by rw [e]; exact k1) (by rw [e]; exact k2) (fun j => by rw [e, k3]; exact hL j)
    rw [e] at ih
    exact ⟨ih.1, ih.2.1, ih.2.2.trans k3⟩
theorem byF_byt {zs : List Nat} (h : ∀ z ∈ zs, z < 256) : Byt (byF zs) := by
  intro j
  unfold byF
  simp only [List.getD]
  cases e : zs[j]? with
  | none => simp
  | some z =>
    have := h z (List.mem_of_getElem? e)
    simp
    omega
theorem keep_lives {d : DS} (h : d.life = -1) (k : Nat) (hk : k < d.n) (f : Nat → Int) : d.keep (k : Int) f = (0, ⟨d.n, upd d.sec k f, [], -1⟩) := by
  unfold DS.keep
  rw [write_live h k hk]
  simp [DS.barrier, aged]
/-- A commit on a disk that never dies. -/
theorem cm_live {x : SS} {d : DS} (hw : x.Wf) (hfit : needN x ≤ freeN x x.size) (h : d.life = -1) (hn : d.n / 4 = x.size) (hb : ByteD d) (hg : Good d) (hr : Rise x.now) (hby : ∀ p ∈ x.now, ∀ z ∈ p.2.2, z < 256) :
    (cmX x d).1 = 0 ∧ (cmX x d).2.life = -1 ∧ (cmX x d).2.n = d.n ∧ (cmX x d).2.pend = [] ∧ ByteD (cmX x d).2 := by
  have hnw := next_wf hw hfit
  have hLr : Rise (laid x) := layP_rise hr _
  have hLm : ∀ i, (((pgAt (laid x) i).getD (0, [])).1 < d.n / 4 ∧ ((pgAt (laid x) i).getD (0, [])).2.length ≤ 116) := fun i => by
    have h0 := hw.size
    unfold pgAt
    cases e : getL (laid x) i with
    | none => simp; omega
    | some y =>
      have := hnw.com (i, y) ((getL_mem hLr i y).1 e)
      have e9 : x.next.size = x.size := rfl
      simp only [Option.getD_some]
      exact ⟨by rw [hn]; have := this.2.1.2; simp only at this; omega, this.2.2⟩
  have hLz : ∀ i y, getL (laid x) i = some y → ∀ z ∈ y.2, z < 256 := fun i y e z hz => by
    have hm := (getL_mem hLr i y).1 e
    have : (i, y.2) ∈ (laid x).map (fun p => (p.1, p.2.2)) := List.mem_map.2 ⟨_, hm, rfl⟩
    unfold laid layP at this
    rw [layK_data] at this
    obtain ⟨q, hq, e2⟩ := List.mem_map.1 this
    injection e2 with _ e2
    rw [← e2] at hz
    exact hby q hq z hz
  obtain ⟨a1, a2, a3⟩ := wf_live (laid x) (freshN x.now) (0, d) rfl h (fun i _ => hLm i)
  obtain ⟨b1, b2, _, _⟩ := wf_facts (laid x) hLz (freshN x.now) (0, d) hb hg
  have e1 : (freshN x.now).foldl (wfStep (laid x)) (0, d) = wfR (laid x) d (freshN x.now) := rfl
  rw [e1] at a1 a2 a3 b1 b2
  have hat : ∀ k, (tbs x).getD k 0 < (wfR (laid x) d (freshN x.now)).2.n / 4 := fun k => by
    rw [a3, hn]
    simp only [List.getD]
    cases e : (tbs x)[k]? with
    | none => have := hw.size; simp; omega
    | some t => exact (hnw.tabs.2 t (List.mem_of_getElem? e)).2
  obtain ⟨c1, c2, c3⟩ := wt_live (tabB (laid x)) (tbs x) (List.range (tabN (tabB (laid x)).length)) (0, 0, (wfR (laid x) d (freshN x.now)).2) rfl a2 hat
  obtain ⟨d1, d2, _⟩ := wtF_facts (tabB (laid x)) (tbs x) (tabB_byte _) (List.range (tabN (tabB (laid x)).length)) (0, 0, (wfR (laid x) d (freshN x.now)).2) b1 b2
  have e2 : (List.range (tabN (tabB (laid x)).length)).foldl (wtStep (tabB (laid x)) (tbs x)) (0, 0, (wfR (laid x) d (freshN x.now)).2) = wtR (tabB (laid x)) (tbs x) (wfR (laid x) d (freshN x.now)).2 (List.range (tabN (tabB (laid x)).length)) := rfl
  rw [e2] at c1 c2 c3 d1 d2
  obtain ⟨D, hD⟩ : ∃ D, D = (wtR (tabB (laid x)) (tbs x) (wfR (laid x) d (freshN x.now)).2 (List.range (tabN (tabB (laid x)).length))).2.2 := ⟨_, rfl⟩
  have hbar : D.barrier = (0, { D with pend := [], life := -1 }) := by
    unfold DS.barrier
    rw [← hD] at c2
    rw [if_neg (by rw [c2]; simp), c2]
    rfl
  have hDn : D.n = d.n := by rw [hD, c3]; exact a3
  have hcm : cmX x d = (0, ⟨D.n, upd D.sec (4 - x.sector) (byF (rootB ((x.epoch + 1) % 18446744073709551616) ((tbs x).getD 0 0) (tbs x).length)), [], -1⟩) := by
    unfold cmX cmR
    rw [if_neg (by simp [a1]), if_neg (by simp [c1]), ← hD, hbar, if_neg (by simp)]
    have := hw.size
    exact keep_lives (d := { D with pend := [], life := -1 }) rfl (4 - x.sector) (by show 4 - x.sector < D.n; rw [hDn]; omega) _
  rw [hcm]
  refine ⟨rfl, rfl, hDn, rfl, ⟨byt_upd (by rw [hD]; exact d1.sec) _ _ (byF_byt (rootB_lt _ _ _)), by simp, by simp⟩⟩

/-- A store with its disk, which never dies; all of it lies from block B0 on. -/
structure PairAt (w : World) (B0 s p S : Nat) (x : SS) (d : DS) : Prop where
  all : ∃ pv mc mn tv B, DiskAt w B p S pv d ∧ B ≤ w.heap.size ∧ StAt w (diskB p S pv) s p mc mn tv x ∧ ∀ k, mutB (diskB p S pv) s mc mn k → B0 ≤ k
  byte : ByteD d
  good : Good d
  pend : d.pend = []
  life : d.life = -1
  size : d.n / 4 = x.size
theorem PairAt.still {w w' : World} {B0 s p S : Nat} {x : SS} {d : DS} (h : PairAt w B0 s p S x d) (ho : Only (fun _ => False) w w') : PairAt w' B0 s p S x d := by
  obtain ⟨pv, mc, mn, tv, B, h1, h2, h3, h4⟩ := h.all
  exact { h with all := ⟨pv, mc, mn, tv, B, h1.frame ho (fun _ _ e => e), Nat.le_trans h2 ho.size, h3.still ho, h4⟩ }
theorem PairAt.bytes {w : World} {B0 s p S : Nat} {x : SS} {d : DS} (h : PairAt w B0 s p S x d) : ∀ q ∈ x.now, ∀ z ∈ q.2.2, z < 256 := by
  obtain ⟨pv, mc, mn, tv, B, h1, h2, h3, h4⟩ := h.all
  obtain ⟨sl, _, hb⟩ := h3.now
  exact fun q hq => (hb q hq).1.2.2
/-- What a call on the store leaves. -/
def Left (w : World) (B0 s p S : Nat) (x' : SS) (d' : DS) (w' : World) : Prop := PairAt w' B0 s p S x' d' ∧ Only (fun k => B0 ≤ k) w w'
section
variable {w : World} {B0 s p S : Nat} {x : SS} {d : DS}
theorem Left.still (h : PairAt w B0 s p S x d) {w' : World} (ho : Only (fun _ => False) w w') : Left w B0 s p S x d w' := ⟨h.still ho, ho.mono (fun _ _ e => e.elim)⟩
/-- Put, whatever it is handed. -/
theorem pair_put (h : PairAt w B0 s p S x d) (i : Int) (v : Value) (zs : List Nat) (hv : BytesAt w v zs) :
    Calls Try.prog 16 #[.pointer (some ⟨s, 0, none⟩), .int .i64 i, v] w fun e w' =>
      (¬ (0 ≤ i ∧ i < 728) ∧ e = .returned (.int .i64 4) ∧ Left w B0 s p S x d w') ∨ ((0 ≤ i ∧ i < 728) ∧ 116 < zs.length ∧ e = .returned (.int .i64 11) ∧ Left w B0 s p S x d w') ∨
      ((0 ≤ i ∧ i < 728) ∧ zs.length ≤ 116 ∧ e = .returned (.int .i64 0) ∧ Left w B0 s p S { x with now := putL x.now i (0, zs) } d w') := by
  obtain ⟨pv, mc, mn, tv, B, h1, h2, h3, h4⟩ := h.all
  by_cases hi : 0 ≤ i ∧ i < 728
  · by_cases hl : zs.length ≤ 116
    · refine (put_ok h3 (fun k hk => (h1.lt k hk).2) i hi v zs hv hl).mono ?_
      rintro e w' ⟨rfl, q1, q2⟩
      refine .inr (.inr ⟨hi, hl, rfl, { h with all := ⟨pv, mc, mn, tv, B, h1.frame q2 (fun k e e' => h3.k3 (e' ▸ e)), Nat.le_trans h2 q2.size, q1, h4⟩ }, q2.mono (fun k _ e => h4 k (.inr (.inr (.inl e))))⟩)
    · obtain ⟨a, c, rfl, _⟩ := hv.form
      refine (put_large h3 i hi a _ c (by omega)).mono ?_
      rintro e w' ⟨rfl, rfl⟩
      exact .inr (.inl ⟨hi, by omega, rfl, Left.still h (Only.refl _ _)⟩)
  · refine (put_out h3 i (by omega) v).mono ?_
    rintro e w' ⟨rfl, rfl⟩
    exact .inl ⟨hi, rfl, Left.still h (Only.refl _ _)⟩
/-- Drop. -/
theorem pair_drop (h : PairAt w B0 s p S x d) (i : Int) :
    Calls Try.prog 19 #[.pointer (some ⟨s, 0, none⟩), .int .i64 i] w fun e w' =>
      (¬ (0 ≤ i ∧ i < 728) ∧ e = .returned (.int .i64 4) ∧ Left w B0 s p S x d w') ∨ ((0 ≤ i ∧ i < 728) ∧ pgAt x.now i = none ∧ e = .returned (.int .i64 6) ∧ Left w B0 s p S x d w') ∨
      ((0 ≤ i ∧ i < 728) ∧ (∃ y, pgAt x.now i = some y) ∧ e = .returned (.int .i64 0) ∧ Left w B0 s p S { x with now := delL x.now i } d w') := by
  obtain ⟨pv, mc, mn, tv, B, h1, h2, h3, h4⟩ := h.all
  by_cases hi : 0 ≤ i ∧ i < 728
  · cases hg : pgAt x.now i with
    | some y =>
      refine (drop_ok h3 i hi hg).mono ?_
      rintro e w' ⟨rfl, q1, q2⟩
      exact .inr (.inr ⟨hi, ⟨y, rfl⟩, rfl, { h with all := ⟨pv, mc, mn, tv, B, h1.frame q2 (fun k e e' => h3.k3 (e' ▸ e)), Nat.le_trans h2 q2.size, q1, h4⟩ }, q2.mono (fun k _ e => h4 k (.inr (.inr (.inl e))))⟩)
    | none =>
      refine (drop_none h3 i hi hg).mono ?_
      rintro e w' ⟨rfl, q2⟩
      exact .inr (.inl ⟨hi, rfl, rfl, Left.still h q2⟩)
  · refine (drop_out h3 i (by omega)).mono ?_
    rintro e w' ⟨rfl, rfl⟩
    exact .inl ⟨hi, rfl, Left.still h (Only.refl _ _)⟩
/-- Rollback. -/
theorem pair_roll (h : PairAt w B0 s p S x d) (hB0 : B0 ≤ w.heap.size) :
    Calls Try.prog 23 #[.pointer (some ⟨s, 0, none⟩)] w fun e w' => e = .returned (.int .i64 0) ∧ Left w B0 s p S { x with now := x.com } d w' := by
  obtain ⟨pv, mc, mn, tv, B, h1, h2, h3, h4⟩ := h.all
  refine (rollback_ok h3 (fun k hk => (h1.lt k hk).2)).mono ?_
  rintro e w' ⟨mn', rfl, hh⟩
  obtain ⟨q1, q2, q3⟩ := hh.out
  refine ⟨rfl, { h with all := ⟨pv, mc, mn', tv, B, h1.frame q2 (fun k e e' => h3.k1 (e' ▸ e)), Nat.le_trans h2 q2.size, q1, ?_⟩ }, q2.mono (fun k _ e => h4 k (.inl e))⟩
  rintro k (e | e | e | e)
  · exact h4 k (.inl e)
  · exact h4 k (.inr (.inl e))
  · omega
  · exact h4 k (.inr (.inr (.inr e)))
/-- Commit. -/
theorem pair_commit (h : PairAt w B0 s p S x d) (hB0 : B0 ≤ w.heap.size) :
    Calls Try.prog 12 #[.pointer (some ⟨s, 0, none⟩)] w fun e w' =>
      (freeN x x.size < needN x ∧ e = .returned (.int .i64 7) ∧ Left w B0 s p S x d w') ∨
      (needN x ≤ freeN x x.size ∧ e = .returned (.int .i64 0) ∧ Left w B0 s p S x.next (cmX x d).2 w') := by
  obtain ⟨pv, mc, mn, tv, B, h1, h2, h3, h4⟩ := h.all
  refine (commit_any h3 h1 h2 h.byte h.good (by rw [h.pend]; simp)).mono ?_
  rintro e w' hh
  rcases hh.out with ⟨q1, rfl, q2⟩ | ⟨q1, q2, _⟩ | ⟨q1, q2, rfl, pv', mc', mn', tv', q3, q4, q5, q6, q7, q8⟩
  · exact .inl ⟨q1, rfl, Left.still h q2⟩
  · exact absurd (cm_live h3.wf q1 h.life h.size h.byte h.good h3.now.rise h.bytes).1 q2
  · obtain ⟨_, r2, r3, r4, r5⟩ := cm_live h3.wf q1 h.life h.size h.byte h.good h3.now.rise h.bytes
    refine .inr ⟨q1, rfl, { all := ⟨pv', mc', mn', tv', B, q3, Nat.le_trans h2 q5.size, q4, ?_⟩, byte := r5, good := ?_, pend := r4, life := r2, size := by rw [r3]; exact h.size }, q5.mono (fun k _ e => ?_)⟩
    · rintro k (e | e | e | e)
      · exact h4 k (.inl e)
      · omega
      · omega
      · rcases e with e | e | e
        · exact h4 k (.inr (.inr (.inr (.inl e))))
        · exact h4 k (.inr (.inr (.inr (.inr (.inl e)))))
        · rcases q6 k e with e | e
          · exact h4 k (.inr (.inr (.inr (.inr (.inr e)))))
          · omega
    · unfold Good
      rw [r4]
      rfl
    · rcases e with e | e
      · exact h4 k (.inr (.inr (.inr e)))
      · exact h4 k (.inl e)
end
end Go.Proofs.Ytpoakkdkibameaa
