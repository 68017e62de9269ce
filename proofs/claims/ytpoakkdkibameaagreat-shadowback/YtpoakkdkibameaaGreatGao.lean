/- A store with its disk, in blocks of a given kind. What work does: a script's puts, drops, commits and rollbacks. What work does, its calls counted. What grown makes. -/
import Derived.Test.YtpoakkdkibameaaGreatGan
namespace Go.Proofs.YtpoakkdkibameaaGreat
open Go.RowKit Go.Maps Go.Shelf
set_option linter.unusedSimpArgs false
set_option linter.unusedVariables false

/-- A store with its disk, which never dies; all of it lies in blocks of K. -/
structure PairK (w : World) (K : Nat → Prop) (s p S : Nat) (x : SS) (d : DS) : Prop where
  all : ∃ pv mc mn tv B, DiskAt w B p S pv d ∧ B ≤ w.heap.size ∧ StAt w (diskB p S pv) s p mc mn tv x ∧ ∀ k, mutB (diskB p S pv) s mc mn k → K k
  byte : ByteD d
  good : Good d
  pend : d.pend = []
  life : d.life = -1
  size : d.n / 4 = x.size
theorem PairK.still {w w' : World} {K : Nat → Prop} {s p S : Nat} {x : SS} {d : DS} (h : PairK w K s p S x d) (ho : Only (fun _ => False) w w') : PairK w' K s p S x d := by
  obtain ⟨pv, mc, mn, tv, B, h1, h2, h3, h4⟩ := h.all
  exact { h with all := ⟨pv, mc, mn, tv, B, h1.frame ho (fun _ _ e => e), Nat.le_trans h2 ho.size, h3.still ho, h4⟩ }
theorem PairK.bytes {w : World} {K : Nat → Prop} {s p S : Nat} {x : SS} {d : DS} (h : PairK w K s p S x d) : ∀ q ∈ x.now, ∀ z ∈ q.2.2, z < 256 := by
  obtain ⟨pv, mc, mn, tv, B, h1, h2, h3, h4⟩ := h.all
  obtain ⟨sl, _, hb⟩ := h3.now
  exact fun q hq => (hb q hq).1.2.2
/-- What a call on the store leaves. -/
def LeftK (w : World) (K : Nat → Prop) (s p S : Nat) (x' : SS) (d' : DS) (w' : World) : Prop := PairK w' K s p S x' d' ∧ Only K w w'
section
variable {w : World} {K : Nat → Prop} {s p S : Nat} {x : SS} {d : DS}
theorem LeftK.still (h : PairK w K s p S x d) {w' : World} (ho : Only (fun _ => False) w w') : LeftK w K s p S x d w' := ⟨h.still ho, ho.mono (fun _ _ e => e.elim)⟩
/-- Put, whatever it is handed. -/
theorem pairk_put (h : PairK w K s p S x d) (i : Int) (v : Value) (zs : List Nat) (hv : BytesAt w v zs) :
    Calls Tryz.prog 25 #[.pointer (some ⟨s, 0, none⟩), .int .i64 i, v] w fun e w' =>
      (¬ (0 ≤ i ∧ i < 728) ∧ e = .returned (.int .i64 4) ∧ LeftK w K s p S x d w') ∨ ((0 ≤ i ∧ i < 728) ∧ 116 < zs.length ∧ e = .returned (.int .i64 11) ∧ LeftK w K s p S x d w') ∨
      ((0 ≤ i ∧ i < 728) ∧ zs.length ≤ 116 ∧ e = .returned (.int .i64 0) ∧ LeftK w K s p S { x with now := putL x.now i (0, zs) } d w') := by
  obtain ⟨pv, mc, mn, tv, B, h1, h2, h3, h4⟩ := h.all
  by_cases hi : 0 ≤ i ∧ i < 728
  · by_cases hl : zs.length ≤ 116
    · refine (put_ok h3 (fun k hk => (h1.lt k hk).2) i hi v zs hv hl).mono ?_
      rintro e w' ⟨rfl, q1, q2⟩
      refine .inr (.inr ⟨hi, hl, rfl, { h with all := ⟨pv, mc, mn, tv, B, h1.frame q2 (fun k e e' => h3.k3 (e' ▸ e)), Nat.le_trans h2 q2.size, q1, h4⟩ }, q2.mono (fun k _ e => h4 k (.inr (.inr (.inl e))))⟩)
    · obtain ⟨a, c, rfl, _⟩ := hv.form
      refine (put_large h3 i hi a _ c (by omega)).mono ?_
      rintro e w' ⟨rfl, rfl⟩
      exact .inr (.inl ⟨hi, by omega, rfl, LeftK.still h (Only.refl _ _)⟩)
  · refine (put_out h3 i (by omega) v).mono ?_
    rintro e w' ⟨rfl, rfl⟩
    exact .inl ⟨hi, rfl, LeftK.still h (Only.refl _ _)⟩
/-- Drop. -/
theorem pairk_drop (h : PairK w K s p S x d) (i : Int) :
    Calls Tryz.prog 30 #[.pointer (some ⟨s, 0, none⟩), .int .i64 i] w fun e w' =>
      (¬ (0 ≤ i ∧ i < 728) ∧ e = .returned (.int .i64 4) ∧ LeftK w K s p S x d w') ∨ ((0 ≤ i ∧ i < 728) ∧ pgAt x.now i = none ∧ e = .returned (.int .i64 6) ∧ LeftK w K s p S x d w') ∨
      ((0 ≤ i ∧ i < 728) ∧ (∃ y, pgAt x.now i = some y) ∧ e = .returned (.int .i64 0) ∧ LeftK w K s p S { x with now := delL x.now i } d w') := by
  obtain ⟨pv, mc, mn, tv, B, h1, h2, h3, h4⟩ := h.all
  by_cases hi : 0 ≤ i ∧ i < 728
  · cases hg : pgAt x.now i with
    | some y =>
      refine (drop_ok h3 i hi hg).mono ?_
      rintro e w' ⟨rfl, q1, q2⟩
      exact .inr (.inr ⟨hi, ⟨y, rfl⟩, rfl, { h with all := ⟨pv, mc, mn, tv, B, h1.frame q2 (fun k e e' => h3.k3 (e' ▸ e)), Nat.le_trans h2 q2.size, q1, h4⟩ }, q2.mono (fun k _ e => h4 k (.inr (.inr (.inl e))))⟩)
    | none =>
      refine (drop_none h3 i hi hg).mono ?_
      rintro e w' ⟨rfl, q2⟩
      exact .inr (.inl ⟨hi, rfl, rfl, LeftK.still h q2⟩)
  · refine (drop_out h3 i (by omega)).mono ?_
    rintro e w' ⟨rfl, rfl⟩
    exact .inl ⟨hi, rfl, LeftK.still h (Only.refl _ _)⟩
/-- Rollback. -/
theorem pairk_roll (h : PairK w K s p S x d) (hK : ∀ k, w.heap.size ≤ k → K k) :
    Calls Tryz.prog 23 #[.pointer (some ⟨s, 0, none⟩)] w fun e w' => e = .returned (.int .i64 0) ∧ LeftK w K s p S { x with now := x.com } d w' := by
  obtain ⟨pv, mc, mn, tv, B, h1, h2, h3, h4⟩ := h.all
  refine (rollback_ok h3 (fun k hk => (h1.lt k hk).2)).mono ?_
  rintro e w' ⟨mn', rfl, hh⟩
  obtain ⟨q1, q2, q3⟩ := hh.out
  refine ⟨rfl, { h with all := ⟨pv, mc, mn', tv, B, h1.frame q2 (fun k e e' => h3.k1 (e' ▸ e)), Nat.le_trans h2 q2.size, q1, ?_⟩ }, q2.mono (fun k _ e => h4 k (.inl e))⟩
  rintro k (e | e | e | e)
  · exact h4 k (.inl e)
  · exact h4 k (.inr (.inl e))
  · exact hK _ (by omega)
  · exact h4 k (.inr (.inr (.inr e)))
/-- Commit. -/
theorem pairk_commit (h : PairK w K s p S x d) (hK : ∀ k, w.heap.size ≤ k → K k) :
    Calls Tryz.prog 18 #[.pointer (some ⟨s, 0, none⟩)] w fun e w' =>
      (freeN x x.size < needN x ∧ e = .returned (.int .i64 7) ∧ LeftK w K s p S x d w') ∨
      (needN x ≤ freeN x x.size ∧ e = .returned (.int .i64 0) ∧ LeftK w K s p S x.next (cmX x d).2 w') := by
  obtain ⟨pv, mc, mn, tv, B, h1, h2, h3, h4⟩ := h.all
  refine (commit_any h3 h1 h2 h.byte h.good (by rw [h.pend]; simp)).mono ?_
  rintro e w' hh
  rcases hh.out with ⟨q1, rfl, q2⟩ | ⟨q1, q2, _⟩ | ⟨q1, q2, rfl, pv', mc', mn', tv', q3, q4, q5, q6, q7, q8⟩
  · exact .inl ⟨q1, rfl, LeftK.still h q2⟩
  · exact absurd (cm_live h3.wf q1 h.life h.size h.byte h.good h3.now.rise h.bytes).1 q2
  · obtain ⟨_, r2, r3, r4, r5⟩ := cm_live h3.wf q1 h.life h.size h.byte h.good h3.now.rise h.bytes
    refine .inr ⟨q1, rfl, { all := ⟨pv', mc', mn', tv', B, q3, Nat.le_trans h2 q5.size, q4, ?_⟩, byte := r5, good := ?_, pend := r4, life := r2, size := by rw [r3]; exact h.size }, q5.mono (fun k _ e => ?_)⟩
    · rintro k (e | e | e | e)
      · exact h4 k (.inl e)
      · exact hK _ (by omega)
      · exact hK _ (by omega)
      · rcases e with e | e | e
        · exact h4 k (.inr (.inr (.inr (.inl e))))
        · exact h4 k (.inr (.inr (.inr (.inr (.inl e)))))
        · rcases q6 k e with e | e
          · exact h4 k (.inr (.inr (.inr (.inr (.inr e)))))
          · exact hK _ (by omega)
    · unfold Good
      rw [r4]
      rfl
    · rcases e with e | e
      · exact h4 k (.inr (.inr (.inr e)))
      · exact h4 k (.inl e)
theorem cm_nk (h : PairK w K s p S x d) (hf : needN x ≤ freeN x x.size) : (cmX x d).2.n = d.n := by
  obtain ⟨pv, mc, mn, tv, B, h1, h2, h3, h4⟩ := h.all
  exact (cm_live h3.wf hf h.life h.size h.byte h.good h3.now.rise h.bytes).2.2.1
end
/-- The same, said of other blocks. -/
theorem PairK.mono {w : World} {K K' : Nat → Prop} {s p S : Nat} {x : SS} {d : DS} (h : PairK w K s p S x d) (hk : ∀ k, k < w.heap.size → K k → K' k) : PairK w K' s p S x d := by
  obtain ⟨pv, mc, mn, tv, B, h1, h2, h3, h4⟩ := h.all
  refine { h with all := ⟨pv, mc, mn, tv, B, h1, h2, h3, fun k e => hk k ?_ (h4 k e)⟩ }
  rcases e with e | e | e | e
  · rw [e]; exact h3.lt
  · rw [e]; exact h3.com.lt
  · rw [e]; exact h3.now.lt
  · exact (h1.lt k e).2
theorem PairK.st {w : World} {K : Nat → Prop} {s p S : Nat} {x : SS} {d : DS} (h : PairK w K s p S x d) : ∃ dk mc mn tv, StAt w dk s p mc mn tv x ∧ ∀ k, dk k → k < w.heap.size := by
  obtain ⟨pv, mc, mn, tv, B, h1, h2, h3, h4⟩ := h.all
  exact ⟨_, mc, mn, tv, h3, fun k hk => (h1.lt k hk).2⟩
end Go.Proofs.YtpoakkdkibameaaGreat
namespace Go.Proofs.YtpoakkdkibameaaGreat
open Go.RowKit Go.Maps Go.Shelf
set_option linter.unusedSimpArgs false
set_option linter.unusedVariables false

/-- What puts, drops, rollbacks and commits keep. -/
structure Stable (J : SS → DS → Prop) : Prop where
  put : ∀ {w B0 s p S x d}, PairAt w B0 s p S x d → ∀ (i : Int) (zs : List Nat), 0 ≤ i ∧ i < 728 → zs.length ≤ 116 → J x d → J { x with now := putL x.now i (0, zs) } d
  drop : ∀ {w B0 s p S x d}, PairAt w B0 s p S x d → ∀ (i : Int), J x d → J { x with now := delL x.now i } d
  roll : ∀ {w B0 s p S x d}, PairAt w B0 s p S x d → J x d → J { x with now := x.com } d
  next : ∀ {w B0 s p S x d}, PairAt w B0 s p S x d → needN x ≤ freeN x x.size → J x d → J x.next (cmX x d).2
/-- Put leaves all blocks that were made since w0 as they are. -/
theorem pair_put2 {J : SS → DS → Prop} (hJ : Stable J) {w0 w : World} {B0 s p S : Nat} {x : SS} {d : DS} (hx : J x d) (h : PairAt w0 B0 s p S x d) (ho : Only (fun _ => False) w0 w) (i : Int) (v : Value) (zs : List Nat) (hv : BytesAt w v zs) :
    Calls Tryz.prog 25 #[.pointer (some ⟨s, 0, none⟩), .int .i64 i, v] w fun e w' => ∃ r x', e = .returned (.int .i64 r) ∧ Hid (Left w B0 s p S x' d w' ∧ J x' d) ∧ Hid (∀ R, w0.heap.size ≤ R → R < w.heap.size → w'.heap[R]? = w.heap[R]?) := by
  obtain ⟨pv, mc, mn, tv, B, h1, h2, h3, h4⟩ := h.all
  have hmn := h3.now.lt
  have h' := h.still ho
  have h3' := h3.still ho
  have h1' : DiskAt w B p S pv d := h1.frame ho (fun _ _ e => e)
  by_cases hi : 0 ≤ i ∧ i < 728
  · by_cases hl : zs.length ≤ 116
    · refine (put_ok h3' (fun k hk => (h1'.lt k hk).2) i hi v zs hv hl).mono ?_
      rintro e w' ⟨rfl, q1, q2⟩
      refine ⟨0, { x with now := putL x.now i (0, zs) }, rfl, ⟨⟨{ h' with all := ⟨pv, mc, mn, tv, B, h1'.frame q2 (fun k e e' => h3.k3 (e' ▸ e)), Nat.le_trans h2 (Nat.le_trans ho.size q2.size), q1, h4⟩ }, q2.mono (fun k _ e => h4 k (.inr (.inr (.inl e))))⟩, hJ.put h i zs hi hl hx⟩, fun R r1 r2 => q2.block R r2 (by omega)⟩
    · obtain ⟨a, c, rfl, _⟩ := hv.form
      refine (put_large h3' i hi a _ c (by omega)).mono ?_
      rintro e w' ⟨rfl, rfl⟩
      exact ⟨_, x, rfl, ⟨Left.still h' (Only.refl _ _), hx⟩, fun _ _ _ => rfl⟩
  · refine (put_out h3' i (by omega) v).mono ?_
    rintro e w' ⟨rfl, rfl⟩
    exact ⟨_, x, rfl, ⟨Left.still h' (Only.refl _ _), hx⟩, fun _ _ _ => rfl⟩
theorem RowAt.older {W W' : World} {v : Value} {k size : Nat} {f : Nat → Value} (h : RowAt W v k size f) (ho : Only (fun b => W.heap.size ≤ b) W W') : RowAt W' v k size f := by
  rcases h with h | ⟨ad, c, hv, hkc, hc⟩
  · exact .inl h
  · exact .inr ⟨ad, c, hv, hkc, fun j hj => ho.cell (hc j hj) (by have := World.block_lt_of_cell? W _ (hc j hj); omega)⟩
theorem BytesAt.older {W W' : World} {v : Value} {zs : List Nat} (h : BytesAt W v zs) (ho : Only (fun b => W.heap.size ≤ b) W W') : BytesAt W' v zs := ⟨h.1.older ho, h.2⟩
/-- A store with its disk, and what it was made over. -/
def WkI (J : SS → DS → Prop) (w : World) (B0 s p S n : Nat) (W : World) : Prop := ∃ x d, PairAt W B0 s p S x d ∧ J x d ∧ d.n = n ∧ Only (fun k => B0 ≤ k) w W
theorem WkI.step {J : SS → DS → Prop} {w : World} {B0 s p S n : Nat} {W W' : World} {x' : SS} {d' : DS} (ho : Only (fun k => B0 ≤ k) w W) (h : Left W B0 s p S x' d' W') (hj : J x' d') (hn : d'.n = n) : WkI J w B0 s p S n W' := ⟨x', d', h.1, hj, hn, ho.trans h.2 (fun _ _ e => e)⟩
theorem cm_n {w : World} {B0 s p S : Nat} {x : SS} {d : DS} (h : PairAt w B0 s p S x d) (hf : needN x ≤ freeN x x.size) : (cmX x d).2.n = d.n := by
  obtain ⟨pv, mc, mn, tv, B, h1, h2, h3, h4⟩ := h.all
  exact (cm_live h3.wf hf h.life h.size h.byte h.good h3.now.rise h.bytes).2.2.1

theorem drop_wk {J : SS → DS → Prop} (hJ : Stable J) {w W : World} {B0 s p S n : Nat} {x : SS} {d : DS} (hx : J x d) (h : PairAt W B0 s p S x d) (hn : d.n = n) (ho : Only (fun k => B0 ≤ k) w W) (i : Int) : Calls Tryz.prog 30 #[.pointer (some ⟨s, 0, none⟩), .int .i64 i] W fun e w' => ∃ r, e = .returned (.int .i64 r) ∧ Hid (WkI J w B0 s p S n w') := by
  refine (pair_drop h i).mono ?_
  rintro e w' (⟨_, rfl, q⟩ | ⟨_, _, rfl, q⟩ | ⟨_, _, rfl, q⟩)
  · exact ⟨_, rfl, WkI.step ho q hx hn⟩
  · exact ⟨_, rfl, WkI.step ho q hx hn⟩
  · exact ⟨_, rfl, WkI.step ho q (hJ.drop h i hx) hn⟩
theorem commit_wk {J : SS → DS → Prop} (hJ : Stable J) {w W : World} {B0 s p S n : Nat} {x : SS} {d : DS} (hx : J x d) (h : PairAt W B0 s p S x d) (hB : B0 ≤ W.heap.size) (hn : d.n = n) (ho : Only (fun k => B0 ≤ k) w W) : Calls Tryz.prog 18 #[.pointer (some ⟨s, 0, none⟩)] W fun e w' => ∃ r, e = .returned (.int .i64 r) ∧ Hid (WkI J w B0 s p S n w') := by
  refine (pair_commit h hB).mono ?_
  rintro e w' (⟨_, rfl, q⟩ | ⟨hf, rfl, q⟩)
  · exact ⟨_, rfl, WkI.step ho q hx hn⟩
  · exact ⟨_, rfl, WkI.step ho q (hJ.next h hf hx) (by rw [cm_n h hf]; exact hn)⟩
theorem roll_wk {J : SS → DS → Prop} (hJ : Stable J) {w W : World} {B0 s p S n : Nat} {x : SS} {d : DS} (hx : J x d) (h : PairAt W B0 s p S x d) (hB : B0 ≤ W.heap.size) (hn : d.n = n) (ho : Only (fun k => B0 ≤ k) w W) : Calls Tryz.prog 23 #[.pointer (some ⟨s, 0, none⟩)] W fun e w' => ∃ r, e = .returned (.int .i64 r) ∧ Hid (WkI J w B0 s p S n w') := by
  refine (pair_roll h hB).mono ?_
  rintro e w' ⟨rfl, q⟩
  exact ⟨_, rfl, WkI.step ho q (hJ.roll h hx) hn⟩
set_option maxRecDepth 100000 in
set_option maxHeartbeats 2000000 in
theorem work_any {J : SS → DS → Prop} (hJ : Stable J) {w : World} {B0 s p S n : Nat} (v : Value) (os : List OpS) (W0 : World) (hsc : ScriptAt W0 v os) (hB0 : B0 = W0.heap.size) (h0 : Only (fun k => B0 ≤ k) W0 w) (h : WkI J w B0 s p S n w) :
    Calls Tryz.prog 15 #[.pointer (some ⟨s, 0, none⟩), v] w fun e w' => e = .returned (.tuple #[]) ∧ WkI J w B0 s p S n w' := by
  obtain ⟨a, c, rfl⟩ := hsc.form
  have hsz := h0.size
  have hos := hsc.2.1
  have HSC : Hid (ScriptAt W0 (.slice a os.length c) os) := hsc
  obtain ⟨m, hm⟩ : ∃ m, m = os.length := ⟨_, rfl⟩
  have HM : Hid (m = os.length) := hm
  rw [← hm] at hos ⊢
  have HW : Hid (WkI J w B0 s p S n w) := h
  clear h hsc hm
  go_enter Tryz.func15, Tryz.ntmps15
  go_wp2
  go_loopw [4] (fun t W => ∃ k : Nat, k ≤ m ∧ t = .int .i64 k ∧ WkI J w B0 s p S n W) (fun t _ => m - (intOf t).toNat)
  case atStart => exact ⟨0, Nat.zero_le _, rfl, HW.out⟩
  case round =>
    clear HW
    obtain ⟨k, hk, rfl, hI⟩ := hrel
    obtain ⟨W, rfl⟩ : ∃ W, W = wr := ⟨_, rfl⟩
    by_cases hlt : k < m
    · obtain ⟨x, d, hp, hx, hn, ho⟩ := hI
      have hkl : k < os.length := by have := HM.out; omega
      obtain ⟨g, o, c', hv, hrg, _⟩ := HSC.out.get k hkl
      injection hv with hv hv1 hv2
      clear hv1 hv2
      obtain ⟨ok, hok⟩ : ∃ ok, ok = os[k] := ⟨_, rfl⟩
      have hokk : ok.ok W0 := by rw [hok]; exact HSC.out.2.2 _ (List.getElem_mem hkl)
      rw [← hok] at hrg
      obtain ⟨kd, oi, on, oc, zz, ob, ov⟩ := ok
      subst hv
      have hgl : g < B0 := by
        have := World.block_lt_of_cell? W0 _ (hrg 0 _ rfl)
        simp only at this
        omega
      have oW : Only (fun k => B0 ≤ k) W0 W := h0.trans ho (fun _ _ e => e)
      have y0 : W.cell? ⟨g, o + k * 6, none⟩ = some (.int .i64 kd) := oW.cell (hrg 0 _ rfl) (by simp; omega)
      have y1 : W.cell? ⟨g, o + k * 6 + 1, none⟩ = some (.int .i64 oi) := oW.cell (hrg 1 _ rfl) (by simp; omega)
      have y2 : W.cell? ⟨g, o + k * 6 + 2, none⟩ = some (.int .i64 on) := oW.cell (hrg 2 _ rfl) (by simp; omega)
      have y3 : W.cell? ⟨g, o + k * 6 + 3, none⟩ = some (.int .i64 oc) := oW.cell (hrg 3 _ rfl) (by simp; omega)
      have y4 : W.cell? ⟨g, o + k * 6 + 4, none⟩ = some ob := oW.cell (hrg 4 _ rfl) (by simp; omega)
      have y5 : W.cell? ⟨g, o + k * 6 + 5, none⟩ = some ov := oW.cell (hrg 5 _ rfl) (by simp; omega)
      have k0 : (0 : Int) ≤ (k : Int) := by omega
      have k1 : (k : Int) < (m : Int) := by omega
      obtain ⟨hokb, av, nv, cv, hov⟩ := hokk
      obtain ⟨ab, cb, hob, _⟩ := BytesAt.form hokb
      simp only at hov hob hokb
      subst hov
      rw [hob] at y4 hokb
      obtain ⟨nb, hnb⟩ : ∃ nb, nb = zz.length := ⟨_, rfl⟩
      rw [← hnb] at y4 hokb
      obtain ⟨wq, hwq⟩ : ∃ q, q = W.alloc (.cells #[.int .i64 kd, .int .i64 oi, .int .i64 on, .int .i64 oc, .slice ab nb cb, .slice av nv cv] 40) := ⟨_, rfl⟩
      have HWQ : Hid (wq = W.alloc (.cells #[.int .i64 kd, .int .i64 oi, .int .i64 on, .int .i64 oc, .slice ab nb cb, .slice av nv cv] 40)) := hwq
      have oq : Only (fun _ => False) W wq := by rw [hwq]; exact (Only.refl _ W).alloc _
      have bq : wq.heap[W.heap.size]? = some (.cells #[.int .i64 kd, .int .i64 oi, .int .i64 on, .int .i64 oc, .slice ab nb cb, .slice av nv cv] 40 (0, 0)) := by rw [hwq]; exact heap_alloc_new W _
      have HBQ : Hid _ := bq
      have hpq : PairAt wq B0 s p S x d := hp.still oq
      have hB : B0 ≤ wq.heap.size := by have := oW.size; have := oq.size; omega
      have hWB : B0 ≤ W.heap.size := by have := oW.size; omega
      have hbq : BytesAt wq (.slice ab nb cb) zz := by
        rw [hB0] at oW
        exact (hokb.older oW).keep oq (fun _ _ e => e)
      have HP0 : Hid (PairAt W B0 s p S x d) := hp
      have HX : Hid (J x d) := hx
      clear hwq bq hp hrg hok hob hnb
      by_cases hk2 : kd = 2
      · subst hk2
        have HD : Hid (Calls Tryz.prog 30 _ _ _) := drop_wk hJ hx hpq hn (ho.trans oq (fun _ _ e => e.elim)) oi
        clear hpq oq ho hokb hx
        go_wp2_with fail
        rw [← HWQ.out]
        refine (show Calls Tryz.prog 30 _ _ _ from HD.out).mono ?_
        rintro e w2 ⟨r, rfl, HW2⟩
        clear HD
        go_wp2
        go_roundw
        case rel => exact ⟨k + 1, by omega, by go_num, HW2.out⟩
        case measure => simp [intOf]; omega
      by_cases hk3 : kd = 3
      · subst hk3
        have HD : Hid (Calls Tryz.prog 18 _ _ _) := commit_wk hJ hx hpq hB hn (ho.trans oq (fun _ _ e => e.elim))
        clear hpq oq ho hokb hx
        go_wp2_with fail
        rw [← HWQ.out]
        refine (show Calls Tryz.prog 18 _ _ _ from HD.out).mono ?_
        rintro e w2 ⟨r, rfl, HW2⟩
        clear HD
        go_wp2
        go_roundw
        case rel => exact ⟨k + 1, by omega, by go_num, HW2.out⟩
        case measure => simp [intOf]; omega
      by_cases hk4 : kd = 4
      · subst hk4
        have HD : Hid (Calls Tryz.prog 23 _ _ _) := roll_wk hJ hx hpq hB hn (ho.trans oq (fun _ _ e => e.elim))
        clear hpq oq ho hokb hx
        go_wp2_with fail
        rw [← HWQ.out]
        refine (show Calls Tryz.prog 23 _ _ _ from HD.out).mono ?_
        rintro e w2 ⟨r, rfl, HW2⟩
        clear HD
        go_wp2
        go_roundw
        case rel => exact ⟨k + 1, by omega, by go_num, HW2.out⟩
        case measure => simp [intOf]; omega
      by_cases hk1 : kd = 1
      · subst hk1
        have HW2 : Hid (WkI J w B0 s p S n wq) := ⟨x, d, hpq, hx, hn, ho.trans oq (fun _ _ e => e.elim)⟩
        clear hpq oq ho hokb hx
        go_wp2
        rw [← HWQ.out]
        go_roundw
        case rel => exact ⟨k + 1, by omega, by go_num, HW2.out⟩
        case measure => simp [intOf]; omega
      by_cases hk5 : kd = 5
      · subst hk5
        have HW2 : Hid (WkI J w B0 s p S n wq) := ⟨x, d, hpq, hx, hn, ho.trans oq (fun _ _ e => e.elim)⟩
        clear hpq oq ho hokb hx
        go_wp2
        rw [← HWQ.out]
        go_roundw
        case rel => exact ⟨k + 1, by omega, by go_num, HW2.out⟩
        case measure => simp [intOf]; omega
      by_cases hk6 : kd = 6
      · subst hk6
        have HW2 : Hid (WkI J w B0 s p S n wq) := ⟨x, d, hpq, hx, hn, ho.trans oq (fun _ _ e => e.elim)⟩
        clear hpq oq ho hokb hx
        go_wp2
        rw [← HWQ.out]
        go_roundw
        case rel => exact ⟨k + 1, by omega, by go_num, HW2.out⟩
        case measure => simp [intOf]; omega
      by_cases hk7 : kd = 7
      · subst hk7
        have HW2 : Hid (WkI J w B0 s p S n wq) := ⟨x, d, hpq, hx, hn, ho.trans oq (fun _ _ e => e.elim)⟩
        clear hpq oq ho hokb hx
        go_wp2
        rw [← HWQ.out]
        go_roundw
        case rel => exact ⟨k + 1, by omega, by go_num, HW2.out⟩
        case measure => simp [intOf]; omega
      by_cases hk8 : kd = 8
      · subst hk8
        have HW2 : Hid (WkI J w B0 s p S n wq) := ⟨x, d, hpq, hx, hn, ho.trans oq (fun _ _ e => e.elim)⟩
        clear hpq oq ho hokb hx
        go_wp2
        rw [← HWQ.out]
        go_roundw
        case rel => exact ⟨k + 1, by omega, by go_num, HW2.out⟩
        case measure => simp [intOf]; omega
      by_cases hk9 : kd = 9
      · subst hk9
        have HW2 : Hid (WkI J w B0 s p S n wq) := ⟨x, d, hpq, hx, hn, ho.trans oq (fun _ _ e => e.elim)⟩
        clear hpq oq ho hokb hx
        go_wp2
        rw [← HWQ.out]
        go_roundw
        case rel => exact ⟨k + 1, by omega, by go_num, HW2.out⟩
        case measure => simp [intOf]; omega
      have e1 : (kd == 1) = false := by simpa using hk1
      have e2 : (kd == 2) = false := by simpa using hk2
      have e3 : (kd == 3) = false := by simpa using hk3
      have e4 : (kd == 4) = false := by simpa using hk4
      have e5 : (kd == 5) = false := by simpa using hk5
      have e6 : (kd == 6) = false := by simpa using hk6
      have e7 : (kd == 7) = false := by simpa using hk7
      have e8 : (kd == 8) = false := by simpa using hk8
      have e9 : (kd == 9) = false := by simpa using hk9
      have HOQ : Hid (Only (fun _ => False) W wq ∧ Only (fun k => B0 ≤ k) w wq ∧ d.n = n) := ⟨oq, ho.trans oq (fun _ _ e => e.elim), hn⟩
      have HSS : Hid (∀ (w2 : World), w2.heap[W.heap.size]? = wq.heap[W.heap.size]? → w2.cell? ⟨W.heap.size, 1, none⟩ = some (.int .i64 oi) ∧ w2.cell? ⟨W.heap.size, 4, none⟩ = some (.slice ab nb cb)) := fun w2 h2 => by
        rw [HBQ.out] at h2
        exact ⟨by rw [cell_of_row _ _ _ _ _ _ h2]; rfl, by rw [cell_of_row _ _ _ _ _ _ h2]; rfl⟩
      have HOw : Hid (Calls Tryz.prog 35 #[.slice ab nb cb] wq.drew fun e w2 => ∃ u, e = .returned u ∧ Hid (BytesAt w2 u zz ∧ Only (fun _ => False) wq w2)) := by
        have od : Only (fun _ => False) wq wq.drew := (Only.refl _ wq).drew
        refine (own_any (.slice ab nb cb) zz wq.drew (hbq.frame od)).mono ?_
        rintro e w2 ⟨u, rfl, q1, q2⟩
        exact ⟨u, rfl, q1.bytes, od.trans q2 (fun _ _ e => e)⟩
      have hRl : W.heap.size < wq.heap.size := (Array.getElem?_eq_some_iff.1 HBQ.out).1
      clear hpq oq ho hokb hx hbq hk1 hk2 hk3 hk4 hk5 hk6 hk7 hk8 hk9 oW
      go_wp2_with fail
      rw [← HWQ.out]
      refine wp_region_held_drew (S := fun w2 => w2.cell? ⟨W.heap.size, 1, none⟩ = some (.int .i64 oi) ∧ w2.cell? ⟨W.heap.size, 4, none⟩ = some (.slice ab nb cb)) (by kernel_rfl) (HSS.out wq.drew rfl) (fun hHeld => ?_)
      refine wpAnyH_take (i := 0) (v := .pointer (some ⟨s, 0, none⟩)) rfl (by kernel_rfl) (by kernel_rfl) (by kernel_rfl) (fun _ _ _ h => h) (Or.inl ⟨by rfl, fun wx hSw => by go_simp⟩) hHeld ?_
      simp only [Act.put, List.setIfInBounds_toArray, List.set_cons_zero, List.set_cons_succ, List.getElem_toArray, List.getElem_cons_zero, List.getElem_cons_succ]
      refine wpAnyH_take (i := 1) (v := .pointer (some ⟨W.heap.size, 1, none⟩)) rfl (by kernel_rfl) (by kernel_rfl) (by kernel_rfl) (fun _ _ _ h => h) (Or.inl ⟨by rfl, fun wx hSw => by go_simp⟩) hHeld ?_
      simp only [Act.put, List.setIfInBounds_toArray, List.set_cons_zero, List.set_cons_succ, List.getElem_toArray, List.getElem_cons_zero, List.getElem_cons_succ]
      refine wpAnyH_take (i := 2) (v := .int .i64 oi) rfl (by kernel_rfl) (by kernel_rfl) (by kernel_rfl) (fun _ _ _ h => h) (Or.inl ⟨by rfl, fun wx hSw => by go_simp⟩) hHeld ?_
      simp only [Act.put, List.setIfInBounds_toArray, List.set_cons_zero, List.set_cons_succ, List.getElem_toArray, List.getElem_cons_zero, List.getElem_cons_succ]
      refine wpAnyH_take (i := 3) (v := .pointer (some ⟨W.heap.size, 4, none⟩)) rfl (by kernel_rfl) (by kernel_rfl) (by kernel_rfl) (fun _ _ _ h => h) (Or.inl ⟨by rfl, fun wx hSw => by go_simp⟩) hHeld ?_
      simp only [Act.put, List.setIfInBounds_toArray, List.set_cons_zero, List.set_cons_succ, List.getElem_toArray, List.getElem_cons_zero, List.getElem_cons_succ]
      refine wpAnyH_take (i := 4) (v := .slice ab nb cb) rfl (by kernel_rfl) (by kernel_rfl) (by kernel_rfl) (fun _ _ _ h => h) (Or.inl ⟨by rfl, fun wx hSw => by go_simp⟩) hHeld ?_
      simp only [Act.put, List.setIfInBounds_toArray, List.set_cons_zero, List.set_cons_succ, List.getElem_toArray, List.getElem_cons_zero, List.getElem_cons_succ]
      refine wpAnyH_ready (rs := [5]) (by kernel_rfl) (by simp) ?_
      refine AllReadyH.cons rfl (fun K hK => ?_) AllReadyH.nil
      rw [if_pos (by rfl)]
      refine wp_call_func #[.tmp 22] #[37] rfl #[.slice ab nb cb] (by simp [Act.eval]) (enters_of Tryz.func35 (by kernel_rfl) rfl) (show Calls Tryz.prog 35 _ _ _ from HOw.out) (fun e w2 he => ?_)
      obtain ⟨u, rfl, HU2⟩ := he
      refine ⟨_, rfl, hK _ _ (HSS.out w2 (HU2.out.2.block _ hRl (fun e => e))) (fun hHeld => ?_)⟩
      clear hK K HOw
      simp only [Act.put, List.setIfInBounds_toArray, List.set_cons_zero, List.set_cons_succ, List.getElem_toArray, List.getElem_cons_zero, List.getElem_cons_succ]
      have HPt : Hid (Calls Tryz.prog 25 _ _ _) := pair_put2 hJ HX.out HP0.out (HOQ.out.1.trans HU2.out.2 (fun _ _ e => e)) oi u zz HU2.out.1
      refine wpAnyH_ready (rs := [6]) (by kernel_rfl) (by simp) ?_
      refine AllReadyH.cons rfl (fun K hK => ?_) AllReadyH.nil
      rw [if_pos (by rfl)]
      refine wp_call_func #[.tmp 18, .tmp 20, .tmp 23] #[32, 3, 37] rfl #[.pointer (some ⟨s, 0, none⟩), .int .i64 oi, u] (by simp [Act.eval]) (enters_of Tryz.func25 (by kernel_rfl) rfl) (show Calls Tryz.prog 25 _ _ _ from HPt.out) (fun e w3 he => ?_)
      obtain ⟨r, x', rfl, HL3, HR3⟩ := he
      have s2 := HU2.out.2.size
      refine ⟨_, rfl, hK _ _ (HSS.out w3 ((HR3.out _ (Nat.le_refl _) (by omega)).trans (HU2.out.2.block _ hRl (fun e => e)))) (fun hHeld => ?_)⟩
      clear hK K HPt
      simp only [Act.put, List.setIfInBounds_toArray, List.set_cons_zero, List.set_cons_succ, List.getElem_toArray, List.getElem_cons_zero, List.getElem_cons_succ]
      refine wpAnyH_done (by kernel_rfl) ?_ _
      have HW2 : Hid (WkI J w B0 s p S n w3) := WkI.step (HOQ.out.2.1.trans HU2.out.2 (fun _ _ e => e.elim)) HL3.out.1 HL3.out.2 HOQ.out.2.2
      clear hHeld HSS HU2 HL3 HR3
      go_wp2
      go_roundw
      case rel => exact ⟨k + 1, by omega, by go_num, HW2.out⟩
      case measure => simp [intOf]; omega
    · have HI : Hid _ := hI
      clear hI
      go_wp2
      go_end0
      exact ⟨rfl, HI.out⟩
end Go.Proofs.YtpoakkdkibameaaGreat
namespace Go.Proofs.YtpoakkdkibameaaGreat
open Go.RowKit Go.Maps Go.Shelf
set_option linter.unusedSimpArgs false
set_option linter.unusedVariables false

/-- What puts, drops, rollbacks and commits keep, call by call. -/
structure StableN (cm : Prop) (J : Nat → SS → DS → Prop) : Prop where
  put : ∀ {k w K s p S x d}, PairK w K s p S x d → ∀ (i : Int) (zs : List Nat), 0 ≤ i ∧ i < 728 → zs.length ≤ 116 → J k x d → J (k + 1) { x with now := putL x.now i (0, zs) } d
  drop : ∀ {k w K s p S x d}, PairK w K s p S x d → ∀ (i : Int), J k x d → J (k + 1) { x with now := delL x.now i } d
  roll : ∀ {k w K s p S x d}, PairK w K s p S x d → J k x d → J (k + 1) { x with now := x.com } d
  next : ∀ {k w K s p S x d}, cm → k < 9223372036854775808 → PairK w K s p S x d → needN x ≤ freeN x x.size → J k x d → J (k + 1) x.next (cmX x d).2
  idle : ∀ {k x d}, J k x d → J (k + 1) x d
/-- Put leaves all blocks that were made since w0 as they are. -/
theorem pair_put3 {cm : Prop} {J : Nat → SS → DS → Prop} (hJ : StableN cm J) {k : Nat} {w0 w : World} {K : Nat → Prop} {s p S : Nat} {x : SS} {d : DS} (hx : J k x d) (h : PairK w0 K s p S x d) (ho : Only (fun _ => False) w0 w) (i : Int) (v : Value) (zs : List Nat) (hv : BytesAt w v zs) :
    Calls Tryz.prog 25 #[.pointer (some ⟨s, 0, none⟩), .int .i64 i, v] w fun e w' => ∃ r x', e = .returned (.int .i64 r) ∧ Hid (LeftK w K s p S x' d w' ∧ J (k + 1) x' d) ∧ Hid (∀ R, w0.heap.size ≤ R → R < w.heap.size → w'.heap[R]? = w.heap[R]?) := by
  obtain ⟨pv, mc, mn, tv, B, h1, h2, h3, h4⟩ := h.all
  have hmn := h3.now.lt
  have h' := h.still ho
  have h3' := h3.still ho
  have h1' : DiskAt w B p S pv d := h1.frame ho (fun _ _ e => e)
  by_cases hi : 0 ≤ i ∧ i < 728
  · by_cases hl : zs.length ≤ 116
    · refine (put_ok h3' (fun k hk => (h1'.lt k hk).2) i hi v zs hv hl).mono ?_
      rintro e w' ⟨rfl, q1, q2⟩
      refine ⟨0, { x with now := putL x.now i (0, zs) }, rfl, ⟨⟨{ h' with all := ⟨pv, mc, mn, tv, B, h1'.frame q2 (fun k e e' => h3.k3 (e' ▸ e)), Nat.le_trans h2 (Nat.le_trans ho.size q2.size), q1, h4⟩ }, q2.mono (fun k _ e => h4 k (.inr (.inr (.inl e))))⟩, hJ.put h i zs hi hl hx⟩, fun R r1 r2 => q2.block R r2 (by omega)⟩
    · obtain ⟨a, c, rfl, _⟩ := hv.form
      refine (put_large h3' i hi a _ c (by omega)).mono ?_
      rintro e w' ⟨rfl, rfl⟩
      exact ⟨_, x, rfl, ⟨LeftK.still h' (Only.refl _ _), hJ.idle hx⟩, fun _ _ _ => rfl⟩
  · refine (put_out h3' i (by omega) v).mono ?_
    rintro e w' ⟨rfl, rfl⟩
    exact ⟨_, x, rfl, ⟨LeftK.still h' (Only.refl _ _), hJ.idle hx⟩, fun _ _ _ => rfl⟩
/-- A store with its disk, behind a commit or a rollback. -/
def WkE (J : Nat → SS → DS → Prop) (k : Nat) (w : World) (K : Nat → Prop) (s p S n : Nat) (W : World) : Prop := ∃ x d, PairK W K s p S x d ∧ J k x d ∧ d.n = n ∧ Only K w W ∧ x.now = x.com
/-- A store with its disk, and what it was made over. -/
def WkN (J : Nat → SS → DS → Prop) (k : Nat) (w : World) (K : Nat → Prop) (s p S n : Nat) (W : World) : Prop := ∃ x d, PairK W K s p S x d ∧ J k x d ∧ d.n = n ∧ Only K w W
theorem WkN.step {J : Nat → SS → DS → Prop} {k : Nat} {w : World} {K : Nat → Prop} {s p S n : Nat} {W W' : World} {x' : SS} {d' : DS} (ho : Only K w W) (h : LeftK W K s p S x' d' W') (hj : J k x' d') (hn : d'.n = n) : WkN J k w K s p S n W' := ⟨x', d', h.1, hj, hn, ho.trans h.2 (fun _ _ e => e)⟩
theorem drop_wn {cm : Prop} {J : Nat → SS → DS → Prop} (hJ : StableN cm J) {k : Nat} {w W : World} {K : Nat → Prop} {s p S n : Nat} {x : SS} {d : DS} (hx : J k x d) (h : PairK W K s p S x d) (hn : d.n = n) (ho : Only K w W) (i : Int) : Calls Tryz.prog 30 #[.pointer (some ⟨s, 0, none⟩), .int .i64 i] W fun e w' => ∃ r, e = .returned (.int .i64 r) ∧ Hid (WkN J (k + 1) w K s p S n w') := by
  refine (pairk_drop h i).mono ?_
  rintro e w' (⟨_, rfl, q⟩ | ⟨_, _, rfl, q⟩ | ⟨_, _, rfl, q⟩)
  · exact ⟨_, rfl, WkN.step ho q (hJ.idle hx) hn⟩
  · exact ⟨_, rfl, WkN.step ho q (hJ.idle hx) hn⟩
  · exact ⟨_, rfl, WkN.step ho q (hJ.drop h i hx) hn⟩
theorem commit_wn {cm : Prop} {J : Nat → SS → DS → Prop} (hJ : StableN cm J) {k : Nat} {w W : World} {K : Nat → Prop} {s p S n : Nat} {x : SS} {d : DS} (hx : J k x d) (hcm : cm) (hk : k < 9223372036854775808) (h : PairK W K s p S x d) (hB : ∀ k, W.heap.size ≤ k → K k) (hn : d.n = n) (ho : Only K w W) : Calls Tryz.prog 18 #[.pointer (some ⟨s, 0, none⟩)] W fun e w' => ∃ r, e = .returned (.int .i64 r) ∧ Hid (WkN J (k + 1) w K s p S n w') := by
  refine (pairk_commit h hB).mono ?_
  rintro e w' (⟨_, rfl, q⟩ | ⟨hf, rfl, q⟩)
  · exact ⟨_, rfl, WkN.step ho q (hJ.idle hx) hn⟩
  · exact ⟨_, rfl, WkN.step ho q (hJ.next hcm hk h hf hx) (by rw [cm_nk h hf]; exact hn)⟩
theorem roll_wn {cm : Prop} {J : Nat → SS → DS → Prop} (hJ : StableN cm J) {k : Nat} {w W : World} {K : Nat → Prop} {s p S n : Nat} {x : SS} {d : DS} (hx : J k x d) (h : PairK W K s p S x d) (hB : ∀ k, W.heap.size ≤ k → K k) (hn : d.n = n) (ho : Only K w W) : Calls Tryz.prog 23 #[.pointer (some ⟨s, 0, none⟩)] W fun e w' => ∃ r, e = .returned (.int .i64 r) ∧ Hid (WkN J (k + 1) w K s p S n w') := by
  refine (pairk_roll h hB).mono ?_
  rintro e w' ⟨rfl, q⟩
  exact ⟨_, rfl, WkN.step ho q (hJ.roll h hx) hn⟩
theorem commit_we {cm : Prop} {J : Nat → SS → DS → Prop} (hJ : StableN cm J) {k : Nat} {w W : World} {K : Nat → Prop} {s p S n : Nat} {x : SS} {d : DS} (hx : J k x d) (hcm : cm) (hk : k < 9223372036854775808) (h : PairK W K s p S x d) (hB : ∀ k, W.heap.size ≤ k → K k) (hn : d.n = n) (ho : Only K w W) : Calls Tryz.prog 18 #[.pointer (some ⟨s, 0, none⟩)] W fun e w' => ∃ r, e = .returned (.int .i64 r) ∧ Hid (WkN J (k + 1) w K s p S n w' ∧ (r = 0 → WkE J (k + 1) w K s p S n w')) := by
  refine (pairk_commit h hB).mono ?_
  rintro e w' (⟨_, rfl, q⟩ | ⟨hf, rfl, q⟩)
  · exact ⟨_, rfl, WkN.step ho q (hJ.idle hx) hn, fun e => by omega⟩
  · have hnn : (cmX x d).2.n = n := by rw [cm_nk h hf]; exact hn
    exact ⟨_, rfl, WkN.step ho q (hJ.next hcm hk h hf hx) hnn, fun _ => ⟨_, _, q.1, hJ.next hcm hk h hf hx, hnn, ho.trans q.2 (fun _ _ e => e), rfl⟩⟩
theorem roll_we {cm : Prop} {J : Nat → SS → DS → Prop} (hJ : StableN cm J) {k : Nat} {w W : World} {K : Nat → Prop} {s p S n : Nat} {x : SS} {d : DS} (hx : J k x d) (h : PairK W K s p S x d) (hB : ∀ k, W.heap.size ≤ k → K k) (hn : d.n = n) (ho : Only K w W) : Calls Tryz.prog 23 #[.pointer (some ⟨s, 0, none⟩)] W fun e w' => ∃ r, e = .returned (.int .i64 r) ∧ Hid (WkE J (k + 1) w K s p S n w') := by
  refine (pairk_roll h hB).mono ?_
  rintro e w' ⟨rfl, q⟩
  exact ⟨_, rfl, _, _, q.1, hJ.roll h hx, hn, ho.trans q.2 (fun _ _ e => e), rfl⟩
set_option maxRecDepth 100000 in
set_option maxHeartbeats 2000000 in
theorem workN_any {cm : Prop} {J : Nat → SS → DS → Prop} (hJ : StableN cm J) {cn : Nat} {w : World} {K : Nat → Prop} {s p S n : Nat} (v : Value) (os : List OpS) (W0 : World) (hsc : ScriptAt W0 v os) (hB0 : ∀ k, k < W0.heap.size → ¬ K k) (hB1 : ∀ k, w.heap.size ≤ k → K k) (h0 : Only K W0 w) (h : WkN J cn w K s p S n w) (hcn : cn + os.length < 9223372036854775808) (hkd : ∀ o ∈ os, o.kind = 3 → cm) :
    Calls Tryz.prog 15 #[.pointer (some ⟨s, 0, none⟩), v] w fun e w' => e = .returned (.tuple #[]) ∧ WkN J (cn + os.length) w K s p S n w' := by
  obtain ⟨a, c, rfl⟩ := hsc.form
  have hsz := h0.size
  have hos := hsc.2.1
  have HB0 : Hid (∀ k, k < W0.heap.size → ¬ K k) := hB0
  have HB1 : Hid (∀ k, w.heap.size ≤ k → K k) := hB1
  have HKD : Hid (∀ o ∈ os, o.kind = 3 → cm) := hkd
  clear hB0 hB1 hkd
  have HSC : Hid (ScriptAt W0 (.slice a os.length c) os) := hsc
  obtain ⟨m, hm⟩ : ∃ m, m = os.length := ⟨_, rfl⟩
  have HM : Hid (m = os.length) := hm
  rw [← hm] at hos hcn ⊢
  have HW : Hid (WkN J cn w K s p S n w) := h
  clear h hsc hm
  go_enter Tryz.func15, Tryz.ntmps15
  go_wp2
  go_loopw [4] (fun t W => ∃ k : Nat, k ≤ m ∧ t = .int .i64 k ∧ WkN J (cn + k) w K s p S n W) (fun t _ => m - (intOf t).toNat)
  case atStart => exact ⟨0, Nat.zero_le _, rfl, HW.out⟩
  case round =>
    clear HW
    obtain ⟨k, hk, rfl, hI⟩ := hrel
    obtain ⟨W, rfl⟩ : ∃ W, W = wr := ⟨_, rfl⟩
    by_cases hlt : k < m
    · obtain ⟨x, d, hp, hx, hn, ho⟩ := hI
      have hkl : k < os.length := by have := HM.out; omega
      obtain ⟨g, o, c', hv, hrg, _⟩ := HSC.out.get k hkl
      injection hv with hv hv1 hv2
      clear hv1 hv2
      obtain ⟨ok, hok⟩ : ∃ ok, ok = os[k] := ⟨_, rfl⟩
      have hokk : ok.ok W0 := by rw [hok]; exact HSC.out.2.2 _ (List.getElem_mem hkl)
      have hkc : ok.kind = 3 → cm := by rw [hok]; exact HKD.out _ (List.getElem_mem hkl)
      rw [← hok] at hrg
      obtain ⟨kd, oi, on, oc, zz, ob, ov⟩ := ok
      subst hv
      have hgl : ¬ K g := HB0.out g (by
        have := World.block_lt_of_cell? W0 _ (hrg 0 _ rfl)
        simpa using this)
      have oW : Only K W0 W := h0.trans ho (fun _ _ e => e)
      have y0 : W.cell? ⟨g, o + k * 6, none⟩ = some (.int .i64 kd) := oW.cell (hrg 0 _ rfl) (by simpa using hgl)
      have y1 : W.cell? ⟨g, o + k * 6 + 1, none⟩ = some (.int .i64 oi) := oW.cell (hrg 1 _ rfl) (by simpa using hgl)
      have y2 : W.cell? ⟨g, o + k * 6 + 2, none⟩ = some (.int .i64 on) := oW.cell (hrg 2 _ rfl) (by simpa using hgl)
      have y3 : W.cell? ⟨g, o + k * 6 + 3, none⟩ = some (.int .i64 oc) := oW.cell (hrg 3 _ rfl) (by simpa using hgl)
      have y4 : W.cell? ⟨g, o + k * 6 + 4, none⟩ = some ob := oW.cell (hrg 4 _ rfl) (by simpa using hgl)
      have y5 : W.cell? ⟨g, o + k * 6 + 5, none⟩ = some ov := oW.cell (hrg 5 _ rfl) (by simpa using hgl)
      have k0 : (0 : Int) ≤ (k : Int) := by omega
      have k1 : (k : Int) < (m : Int) := by omega
      obtain ⟨hokb, av, nv, cv, hov⟩ := hokk
      obtain ⟨ab, cb, hob, _⟩ := BytesAt.form hokb
      simp only at hov hob hokb
      subst hov
      rw [hob] at y4 hokb
      obtain ⟨nb, hnb⟩ : ∃ nb, nb = zz.length := ⟨_, rfl⟩
      rw [← hnb] at y4 hokb
      obtain ⟨wq, hwq⟩ : ∃ q, q = W.alloc (.cells #[.int .i64 kd, .int .i64 oi, .int .i64 on, .int .i64 oc, .slice ab nb cb, .slice av nv cv] 40) := ⟨_, rfl⟩
      have HWQ : Hid (wq = W.alloc (.cells #[.int .i64 kd, .int .i64 oi, .int .i64 on, .int .i64 oc, .slice ab nb cb, .slice av nv cv] 40)) := hwq
      have oq : Only (fun _ => False) W wq := by rw [hwq]; exact (Only.refl _ W).alloc _
      have bq : wq.heap[W.heap.size]? = some (.cells #[.int .i64 kd, .int .i64 oi, .int .i64 on, .int .i64 oc, .slice ab nb cb, .slice av nv cv] 40 (0, 0)) := by rw [hwq]; exact heap_alloc_new W _
      have HBQ : Hid _ := bq
      have hpq : PairK wq K s p S x d := hp.still oq
      have hWB : ∀ k, W.heap.size ≤ k → K k := fun k hk => HB1.out k (Nat.le_trans ho.size hk)
      have hB : ∀ k, wq.heap.size ≤ k → K k := fun k hk => hWB k (Nat.le_trans oq.size hk)
      have hbq : BytesAt wq (.slice ab nb cb) zz := by
        exact (hokb.older (oW.mono (fun k _ e => Nat.le_of_not_lt (fun hk => HB0.out k hk e)))).keep oq (fun _ _ e => e)
      have HP0 : Hid (PairK W K s p S x d) := hp
      have HX : Hid (J (cn + k) x d) := hx
      clear hwq bq hp hrg hok hob hnb
      have HKC : Hid (kd = 3 → cm) := hkc
      clear hkc
      by_cases hk2 : kd = 2
      · subst hk2
        have HD : Hid (Calls Tryz.prog 30 _ _ _) := drop_wn hJ hx hpq hn (ho.trans oq (fun _ _ e => e.elim)) oi
        clear hpq oq ho hokb hx
        go_wp2_with fail
        rw [← HWQ.out]
        refine (show Calls Tryz.prog 30 _ _ _ from HD.out).mono ?_
        rintro e w2 ⟨r, rfl, HW2⟩
        clear HD
        go_wp2
        go_roundw
        case rel => exact ⟨k + 1, by omega, by go_num, HW2.out⟩
        case measure => simp [intOf]; omega
      by_cases hk3 : kd = 3
      · subst hk3
        have HD : Hid (Calls Tryz.prog 18 _ _ _) := commit_wn hJ hx (HKC.out rfl) (by omega) hpq hB hn (ho.trans oq (fun _ _ e => e.elim))
        clear hpq oq ho hokb hx
        go_wp2_with fail
        rw [← HWQ.out]
        refine (show Calls Tryz.prog 18 _ _ _ from HD.out).mono ?_
        rintro e w2 ⟨r, rfl, HW2⟩
        clear HD
        go_wp2
        go_roundw
        case rel => exact ⟨k + 1, by omega, by go_num, HW2.out⟩
        case measure => simp [intOf]; omega
      by_cases hk4 : kd = 4
      · subst hk4
        have HD : Hid (Calls Tryz.prog 23 _ _ _) := roll_wn hJ hx hpq hB hn (ho.trans oq (fun _ _ e => e.elim))
        clear hpq oq ho hokb hx
        go_wp2_with fail
        rw [← HWQ.out]
        refine (show Calls Tryz.prog 23 _ _ _ from HD.out).mono ?_
        rintro e w2 ⟨r, rfl, HW2⟩
        clear HD
        go_wp2
        go_roundw
        case rel => exact ⟨k + 1, by omega, by go_num, HW2.out⟩
        case measure => simp [intOf]; omega
      by_cases hk1 : kd = 1
      · subst hk1
        have HW2 : Hid (WkN J (cn + k + 1) w K s p S n wq) := ⟨x, d, hpq, hJ.idle hx, hn, ho.trans oq (fun _ _ e => e.elim)⟩
        clear hpq oq ho hokb hx
        go_wp2
        rw [← HWQ.out]
        go_roundw
        case rel => exact ⟨k + 1, by omega, by go_num, HW2.out⟩
        case measure => simp [intOf]; omega
      by_cases hk5 : kd = 5
      · subst hk5
        have HW2 : Hid (WkN J (cn + k + 1) w K s p S n wq) := ⟨x, d, hpq, hJ.idle hx, hn, ho.trans oq (fun _ _ e => e.elim)⟩
        clear hpq oq ho hokb hx
        go_wp2
        rw [← HWQ.out]
        go_roundw
        case rel => exact ⟨k + 1, by omega, by go_num, HW2.out⟩
        case measure => simp [intOf]; omega
      by_cases hk6 : kd = 6
      · subst hk6
        have HW2 : Hid (WkN J (cn + k + 1) w K s p S n wq) := ⟨x, d, hpq, hJ.idle hx, hn, ho.trans oq (fun _ _ e => e.elim)⟩
        clear hpq oq ho hokb hx
        go_wp2
        rw [← HWQ.out]
        go_roundw
        case rel => exact ⟨k + 1, by omega, by go_num, HW2.out⟩
        case measure => simp [intOf]; omega
      by_cases hk7 : kd = 7
      · subst hk7
        have HW2 : Hid (WkN J (cn + k + 1) w K s p S n wq) := ⟨x, d, hpq, hJ.idle hx, hn, ho.trans oq (fun _ _ e => e.elim)⟩
        clear hpq oq ho hokb hx
        go_wp2
        rw [← HWQ.out]
        go_roundw
        case rel => exact ⟨k + 1, by omega, by go_num, HW2.out⟩
        case measure => simp [intOf]; omega
      by_cases hk8 : kd = 8
      · subst hk8
        have HW2 : Hid (WkN J (cn + k + 1) w K s p S n wq) := ⟨x, d, hpq, hJ.idle hx, hn, ho.trans oq (fun _ _ e => e.elim)⟩
        clear hpq oq ho hokb hx
        go_wp2
        rw [← HWQ.out]
        go_roundw
        case rel => exact ⟨k + 1, by omega, by go_num, HW2.out⟩
        case measure => simp [intOf]; omega
      by_cases hk9 : kd = 9
      · subst hk9
        have HW2 : Hid (WkN J (cn + k + 1) w K s p S n wq) := ⟨x, d, hpq, hJ.idle hx, hn, ho.trans oq (fun _ _ e => e.elim)⟩
        clear hpq oq ho hokb hx
        go_wp2
        rw [← HWQ.out]
        go_roundw
        case rel => exact ⟨k + 1, by omega, by go_num, HW2.out⟩
        case measure => simp [intOf]; omega
      have e1 : (kd == 1) = false := by simpa using hk1
      have e2 : (kd == 2) = false := by simpa using hk2
      have e3 : (kd == 3) = false := by simpa using hk3
      have e4 : (kd == 4) = false := by simpa using hk4
      have e5 : (kd == 5) = false := by simpa using hk5
      have e6 : (kd == 6) = false := by simpa using hk6
      have e7 : (kd == 7) = false := by simpa using hk7
      have e8 : (kd == 8) = false := by simpa using hk8
      have e9 : (kd == 9) = false := by simpa using hk9
      have HOQ : Hid (Only (fun _ => False) W wq ∧ Only K w wq ∧ d.n = n) := ⟨oq, ho.trans oq (fun _ _ e => e.elim), hn⟩
      have HSS : Hid (∀ (w2 : World), w2.heap[W.heap.size]? = wq.heap[W.heap.size]? → w2.cell? ⟨W.heap.size, 1, none⟩ = some (.int .i64 oi) ∧ w2.cell? ⟨W.heap.size, 4, none⟩ = some (.slice ab nb cb)) := fun w2 h2 => by
        rw [HBQ.out] at h2
        exact ⟨by rw [cell_of_row _ _ _ _ _ _ h2]; rfl, by rw [cell_of_row _ _ _ _ _ _ h2]; rfl⟩
      have HOw : Hid (Calls Tryz.prog 35 #[.slice ab nb cb] wq.drew fun e w2 => ∃ u, e = .returned u ∧ Hid (BytesAt w2 u zz ∧ Only (fun _ => False) wq w2)) := by
        have od : Only (fun _ => False) wq wq.drew := (Only.refl _ wq).drew
        refine (own_any (.slice ab nb cb) zz wq.drew (hbq.frame od)).mono ?_
        rintro e w2 ⟨u, rfl, q1, q2⟩
        exact ⟨u, rfl, q1.bytes, od.trans q2 (fun _ _ e => e)⟩
      have hRl : W.heap.size < wq.heap.size := (Array.getElem?_eq_some_iff.1 HBQ.out).1
      clear hpq oq ho hokb hx hbq hk1 hk2 hk3 hk4 hk5 hk6 hk7 hk8 hk9 oW
      go_wp2_with fail
      rw [← HWQ.out]
      refine wp_region_held_drew (S := fun w2 => w2.cell? ⟨W.heap.size, 1, none⟩ = some (.int .i64 oi) ∧ w2.cell? ⟨W.heap.size, 4, none⟩ = some (.slice ab nb cb)) (by kernel_rfl) (HSS.out wq.drew rfl) (fun hHeld => ?_)
      refine wpAnyH_take (i := 0) (v := .pointer (some ⟨s, 0, none⟩)) rfl (by kernel_rfl) (by kernel_rfl) (by kernel_rfl) (fun _ _ _ h => h) (Or.inl ⟨by rfl, fun wx hSw => by go_simp⟩) hHeld ?_
      simp only [Act.put, List.setIfInBounds_toArray, List.set_cons_zero, List.set_cons_succ, List.getElem_toArray, List.getElem_cons_zero, List.getElem_cons_succ]
      refine wpAnyH_take (i := 1) (v := .pointer (some ⟨W.heap.size, 1, none⟩)) rfl (by kernel_rfl) (by kernel_rfl) (by kernel_rfl) (fun _ _ _ h => h) (Or.inl ⟨by rfl, fun wx hSw => by go_simp⟩) hHeld ?_
      simp only [Act.put, List.setIfInBounds_toArray, List.set_cons_zero, List.set_cons_succ, List.getElem_toArray, List.getElem_cons_zero, List.getElem_cons_succ]
      refine wpAnyH_take (i := 2) (v := .int .i64 oi) rfl (by kernel_rfl) (by kernel_rfl) (by kernel_rfl) (fun _ _ _ h => h) (Or.inl ⟨by rfl, fun wx hSw => by go_simp⟩) hHeld ?_
      simp only [Act.put, List.setIfInBounds_toArray, List.set_cons_zero, List.set_cons_succ, List.getElem_toArray, List.getElem_cons_zero, List.getElem_cons_succ]
      refine wpAnyH_take (i := 3) (v := .pointer (some ⟨W.heap.size, 4, none⟩)) rfl (by kernel_rfl) (by kernel_rfl) (by kernel_rfl) (fun _ _ _ h => h) (Or.inl ⟨by rfl, fun wx hSw => by go_simp⟩) hHeld ?_
      simp only [Act.put, List.setIfInBounds_toArray, List.set_cons_zero, List.set_cons_succ, List.getElem_toArray, List.getElem_cons_zero, List.getElem_cons_succ]
      refine wpAnyH_take (i := 4) (v := .slice ab nb cb) rfl (by kernel_rfl) (by kernel_rfl) (by kernel_rfl) (fun _ _ _ h => h) (Or.inl ⟨by rfl, fun wx hSw => by go_simp⟩) hHeld ?_
      simp only [Act.put, List.setIfInBounds_toArray, List.set_cons_zero, List.set_cons_succ, List.getElem_toArray, List.getElem_cons_zero, List.getElem_cons_succ]
      refine wpAnyH_ready (rs := [5]) (by kernel_rfl) (by simp) ?_
      refine AllReadyH.cons rfl (fun K hK => ?_) AllReadyH.nil
      rw [if_pos (by rfl)]
      refine wp_call_func #[.tmp 22] #[37] rfl #[.slice ab nb cb] (by simp [Act.eval]) (enters_of Tryz.func35 (by kernel_rfl) rfl) (show Calls Tryz.prog 35 _ _ _ from HOw.out) (fun e w2 he => ?_)
      obtain ⟨u, rfl, HU2⟩ := he
      refine ⟨_, rfl, hK _ _ (HSS.out w2 (HU2.out.2.block _ hRl (fun e => e))) (fun hHeld => ?_)⟩
      clear hK K HOw
      simp only [Act.put, List.setIfInBounds_toArray, List.set_cons_zero, List.set_cons_succ, List.getElem_toArray, List.getElem_cons_zero, List.getElem_cons_succ]
      have HPt : Hid (Calls Tryz.prog 25 _ _ _) := pair_put3 hJ HX.out HP0.out (HOQ.out.1.trans HU2.out.2 (fun _ _ e => e)) oi u zz HU2.out.1
      refine wpAnyH_ready (rs := [6]) (by kernel_rfl) (by simp) ?_
      refine AllReadyH.cons rfl (fun K hK => ?_) AllReadyH.nil
      rw [if_pos (by rfl)]
      refine wp_call_func #[.tmp 18, .tmp 20, .tmp 23] #[32, 3, 37] rfl #[.pointer (some ⟨s, 0, none⟩), .int .i64 oi, u] (by simp [Act.eval]) (enters_of Tryz.func25 (by kernel_rfl) rfl) (show Calls Tryz.prog 25 _ _ _ from HPt.out) (fun e w3 he => ?_)
      obtain ⟨r, x', rfl, HL3, HR3⟩ := he
      have s2 := HU2.out.2.size
      refine ⟨_, rfl, hK _ _ (HSS.out w3 ((HR3.out _ (Nat.le_refl _) (by omega)).trans (HU2.out.2.block _ hRl (fun e => e)))) (fun hHeld => ?_)⟩
      clear hK K HPt
      simp only [Act.put, List.setIfInBounds_toArray, List.set_cons_zero, List.set_cons_succ, List.getElem_toArray, List.getElem_cons_zero, List.getElem_cons_succ]
      refine wpAnyH_done (by kernel_rfl) ?_ _
      have HW2 : Hid (WkN J (cn + k + 1) w K s p S n w3) := WkN.step (HOQ.out.2.1.trans HU2.out.2 (fun _ _ e => e.elim)) HL3.out.1 HL3.out.2 HOQ.out.2.2
      clear hHeld HSS HU2 HL3 HR3
      go_wp2
      go_roundw
      case rel => exact ⟨k + 1, by omega, by go_num, HW2.out⟩
      case measure => simp [intOf]; omega
    · have e : m = k := by omega
      subst e
      have HI : Hid _ := hI
      clear hI
      go_wp2
      go_end0
      exact ⟨rfl, HI.out⟩
end Go.Proofs.YtpoakkdkibameaaGreat
namespace Go.Proofs.YtpoakkdkibameaaGreat
open Go.RowKit Go.Maps Go.Shelf
set_option linter.unusedSimpArgs false
set_option linter.unusedVariables false

/-- A disk that Format made a store of. -/
def fmtD (N : Nat) : DS := (((⟨N, fun _ _ => 0, [], -1⟩ : DS).keep 4 (byF zeros32)).2.keep 0 (byF (rootB 1 0 0))).2
theorem fmtD_eq (N : Nat) (h : 12 ≤ N) : ((⟨N, fun _ _ => 0, [], -1⟩ : DS).keep 4 (byF zeros32)).1 = 0 ∧ (((⟨N, fun _ _ => 0, [], -1⟩ : DS).keep 4 (byF zeros32)).2.keep 0 (byF (rootB 1 0 0))).1 = 0 ∧ fmtD N = ⟨N, upd (upd (fun _ _ => 0) 4 (byF zeros32)) 0 (byF (rootB 1 0 0)), [], -1⟩ := by
  have k1 := keep_lives (d := ⟨N, fun _ _ => 0, [], -1⟩) rfl 4 (by show 4 < N; omega) (byF zeros32)
  have k2 := keep_lives (d := ⟨N, upd (fun _ _ => 0) 4 (byF zeros32), [], -1⟩) rfl 0 (by show 0 < N; omega) (byF (rootB 1 0 0))
  have e4 : ((4 : Nat) : Int) = 4 := rfl
  have e0 : ((0 : Nat) : Int) = 0 := rfl
  rw [e4] at k1
  rw [e0] at k2
  unfold fmtD
  rw [k1]
  refine ⟨rfl, ?_, ?_⟩
  · rw [k2]
  · rw [k2]
theorem zeros32_lt : ∀ z ∈ zeros32, z < 256 := by
  intro z hz
  unfold zeros32 at hz
  rw [List.eq_of_mem_replicate hz]
  omega
/-- How many sectors there are. -/
def secsN (n : Int) : Nat := if n < 12 ∨ 400 < n then 80 else n.toNat
theorem secsN_ge (n : Int) : 12 ≤ secsN n ∧ secsN n ≤ 400 := by
  unfold secsN
  split <;> omega
set_option maxRecDepth 100000 in
set_option maxHeartbeats 2000000 in
theorem grown_core {J : SS → DS → Prop} (hJ : Stable J) (N : Nat) (hN : 12 ≤ N ∧ N ≤ 400) (hJ0 : J (SS.new (N / 4)) (fmtD N)) (n : Int) (hn : secsN n = N) (v : Value) (os : List OpS) (w : World) (hsc : ScriptAt w v os) :
    Calls Tryz.prog 13 #[.int .i64 n, v] w fun e w' => ∃ p s S, e = .returned (.tuple #[.pointer (some ⟨p, 0, none⟩), .pointer (some ⟨s, 0, none⟩)]) ∧ Hid (WkI J w w.heap.size s p S N w' ∧ w.heap.size ≤ s) := by
  have hnw := new_ok N w (by omega) (by omega)
  obtain ⟨k1, k2, k3⟩ := fmtD_eq N hN.1
  have HF : Hid (∀ w1, DiskAt w1 w.heap.size (w.heap.size + 1) w.heap.size (.slice none 0 0) ⟨N, fun _ _ => 0, [], -1⟩ → Only (fun _ => False) w w1 → w1.heap.size = w.heap.size + 2 → Calls Tryz.prog 24 #[.pointer (some ⟨w.heap.size + 1, 0, none⟩)] w1 fun e w2 => ∃ s, e = .returned (.tuple #[.pointer (some ⟨s, 0, none⟩), .int .i64 0]) ∧ Hid (WkI J w w.heap.size s (w.heap.size + 1) w.heap.size N w2 ∧ w.heap.size ≤ s)) := by
    intro w1 hd ho hs
    refine (format_ok (w.heap.size + 1) w.heap.size w.heap.size (.slice none 0 0) _ w1 hd (by omega) (by simp) (by show 3 ≤ N / 4; omega) k1 k2).mono ?_
    rintro e w2 ⟨s, mc, mn, pv', rfl, hh⟩
    obtain ⟨q1, q2, q3, q4, q5, q6, q7⟩ := hh.out
    have q3s := q3.size
    refine ⟨s, rfl, ⟨SS.new (N / 4), fmtD N, { all := ⟨pv', mc, mn, .slice none 0 0, w.heap.size, q1, by omega, q2, ?_⟩, byte := ?_, good := ?_, pend := ?_, life := ?_, size := ?_ }, hJ0, by rw [k3], (ho.mono (fun _ _ e => e.elim)).trans q3 (fun k hk e => ?_)⟩, by omega⟩
    · rintro k (e | e | e | e | e | e)
      · omega
      · omega
      · omega
      · omega
      · omega
      · rcases q4 k e with e | e
        · cases e
        · omega
    · rw [k3]
      exact ⟨byt_upd (byt_upd (fun _ _ => ⟨by simp, by simp⟩) _ _ (byF_byt zeros32_lt)) _ _ (byF_byt (rootB_lt _ _ _)), by simp, by simp⟩
    · rw [k3]; exact Good.nil _ _ _
    · rw [k3]
    · rw [k3]
    · rw [k3]; rfl
    · rcases e with e | e | e
      · omega
      · omega
      · cases e
  have HWk : Hid (∀ s p S w1, WkI J w w.heap.size s p S N w1 → Calls Tryz.prog 15 #[.pointer (some ⟨s, 0, none⟩), v] w1 fun e w2 => e = .returned (.tuple #[]) ∧ Hid (WkI J w w.heap.size s p S N w2)) := by
    intro s p S w1 h1
    obtain ⟨x, d, hp, hx, hn', ho⟩ := h1
    refine (work_any hJ v os w hsc rfl ho ⟨x, d, hp, hx, hn', Only.refl _ _⟩).mono ?_
    rintro e w2 ⟨rfl, x2, d2, hp2, hx2, hn2, ho2⟩
    exact ⟨rfl, x2, d2, hp2, hx2, hn2, ho.trans ho2 (fun _ _ e => e)⟩
  have HNw : Hid (Calls Tryz.prog 7 _ _ _) := hnw
  obtain ⟨B0, hB0⟩ : ∃ B0, B0 = w.heap.size := ⟨_, rfl⟩
  rw [← hB0] at HF HWk HNw ⊢
  have HB : Hid (B0 = w.heap.size) := hB0
  have HSC : Hid (∃ a c, v = .slice a os.length c) := hsc.form
  clear hnw hB0 hsc k1 k2 k3
  obtain ⟨a, c, rfl⟩ := HSC.out
  clear HSC
  by_cases hc : n < 12 ∨ 400 < n
  · have e80 : N = 80 := by rw [← hn]; unfold secsN; rw [if_pos hc]
    subst e80
    rcases hc with hc | hc
    · go_enter Tryz.func13, Tryz.ntmps13
      go_wp2_with fail
      refine (show Calls Tryz.prog 7 _ _ _ from HNw.out).mono ?_
      rintro e w1 ⟨rfl, hd1, ho1, hs1⟩
      clear HNw
      have HFm : Hid (Calls Tryz.prog 24 _ _ _) := HF.out w1 hd1 ho1 hs1
      clear hd1 ho1 hs1 HF
      go_wp2_with fail
      refine (show Calls Tryz.prog 24 _ _ _ from HFm.out).mono ?_
      rintro e w2 ⟨s, rfl, HW2⟩
      clear HFm
      have HWo : Hid (Calls Tryz.prog 15 _ _ _) := HWk.out s _ _ w2 HW2.out.1
      have hs0 := HW2.out.2
      clear HWk HW2
      go_wp2_with fail
      refine (show Calls Tryz.prog 15 _ _ _ from HWo.out).mono ?_
      rintro e w3 ⟨rfl, HW3⟩
      clear HWo
      have HCm : Hid (Calls Tryz.prog 18 #[.pointer (some ⟨s, 0, none⟩)] w3 fun e w4 => ∃ r, e = .returned (.int .i64 r) ∧ Hid (WkI J w B0 s (B0 + 1) B0 80 w4)) := by
        obtain ⟨x, d, hp, hx, hn', ho⟩ := HW3.out
        exact commit_wk hJ hx hp (by have := ho.size; have := HB.out; omega) hn' ho
      clear HW3
      go_wp2_with fail
      refine (show Calls Tryz.prog 18 _ _ _ from HCm.out).mono ?_
      rintro e w4 ⟨r, rfl, HW4⟩
      clear HCm
      by_cases hr : r = 0
      · subst hr
        go_wp2
        go_ret2
        exact ⟨_, s, B0, rfl, HW4.out, hs0⟩
      · have hr' : (r == 0) = false := by simpa using hr
        have HRo : Hid (Calls Tryz.prog 23 #[.pointer (some ⟨s, 0, none⟩)] w4 fun e w5 => ∃ r, e = .returned (.int .i64 r) ∧ Hid (WkI J w B0 s (B0 + 1) B0 80 w5)) := by
          obtain ⟨x, d, hp, hx, hn', ho⟩ := HW4.out
          exact roll_wk hJ hx hp (by have := ho.size; have := HB.out; omega) hn' ho
        clear HW4
        go_wp2_with fail
        refine (show Calls Tryz.prog 23 _ _ _ from HRo.out).mono ?_
        rintro e w5 ⟨r5, rfl, HW5⟩
        clear HRo
        go_wp2
        go_ret2
        exact ⟨_, s, B0, rfl, HW5.out, hs0⟩
    · have hc0 : ¬ n < 12 := by omega
      go_enter Tryz.func13, Tryz.ntmps13
      go_wp2_with fail
      refine (show Calls Tryz.prog 7 _ _ _ from HNw.out).mono ?_
      rintro e w1 ⟨rfl, hd1, ho1, hs1⟩
      clear HNw
      have HFm : Hid (Calls Tryz.prog 24 _ _ _) := HF.out w1 hd1 ho1 hs1
      clear hd1 ho1 hs1 HF
      go_wp2_with fail
      refine (show Calls Tryz.prog 24 _ _ _ from HFm.out).mono ?_
      rintro e w2 ⟨s, rfl, HW2⟩
      clear HFm
      have HWo : Hid (Calls Tryz.prog 15 _ _ _) := HWk.out s _ _ w2 HW2.out.1
      have hs0 := HW2.out.2
      clear HWk HW2
      go_wp2_with fail
      refine (show Calls Tryz.prog 15 _ _ _ from HWo.out).mono ?_
      rintro e w3 ⟨rfl, HW3⟩
      clear HWo
      have HCm : Hid (Calls Tryz.prog 18 #[.pointer (some ⟨s, 0, none⟩)] w3 fun e w4 => ∃ r, e = .returned (.int .i64 r) ∧ Hid (WkI J w B0 s (B0 + 1) B0 80 w4)) := by
        obtain ⟨x, d, hp, hx, hn', ho⟩ := HW3.out
        exact commit_wk hJ hx hp (by have := ho.size; have := HB.out; omega) hn' ho
      clear HW3
      go_wp2_with fail
      refine (show Calls Tryz.prog 18 _ _ _ from HCm.out).mono ?_
      rintro e w4 ⟨r, rfl, HW4⟩
      clear HCm
      by_cases hr : r = 0
      · subst hr
        go_wp2
        go_ret2
        exact ⟨_, s, B0, rfl, HW4.out, hs0⟩
      · have hr' : (r == 0) = false := by simpa using hr
        have HRo : Hid (Calls Tryz.prog 23 #[.pointer (some ⟨s, 0, none⟩)] w4 fun e w5 => ∃ r, e = .returned (.int .i64 r) ∧ Hid (WkI J w B0 s (B0 + 1) B0 80 w5)) := by
          obtain ⟨x, d, hp, hx, hn', ho⟩ := HW4.out
          exact roll_wk hJ hx hp (by have := ho.size; have := HB.out; omega) hn' ho
        clear HW4
        go_wp2_with fail
        refine (show Calls Tryz.prog 23 _ _ _ from HRo.out).mono ?_
        rintro e w5 ⟨r5, rfl, HW5⟩
        clear HRo
        go_wp2
        go_ret2
        exact ⟨_, s, B0, rfl, HW5.out, hs0⟩
  · have hc1 : ¬ n < 12 := by omega
    have hc2 : ¬ 400 < n := by omega
    have en : n = (N : Int) := by rw [← hn]; unfold secsN; rw [if_neg hc]; omega
    subst en
    clear hc hn
    go_enter Tryz.func13, Tryz.ntmps13
    go_wp2_with fail
    refine (show Calls Tryz.prog 7 _ _ _ from HNw.out).mono ?_
    rintro e w1 ⟨rfl, hd1, ho1, hs1⟩
    clear HNw
    have HFm : Hid (Calls Tryz.prog 24 _ _ _) := HF.out w1 hd1 ho1 hs1
    clear hd1 ho1 hs1 HF
    go_wp2_with fail
    refine (show Calls Tryz.prog 24 _ _ _ from HFm.out).mono ?_
    rintro e w2 ⟨s, rfl, HW2⟩
    clear HFm
    have HWo : Hid (Calls Tryz.prog 15 _ _ _) := HWk.out s _ _ w2 HW2.out.1
    have hs0 := HW2.out.2
    clear HWk HW2
    go_wp2_with fail
    refine (show Calls Tryz.prog 15 _ _ _ from HWo.out).mono ?_
    rintro e w3 ⟨rfl, HW3⟩
    clear HWo
    have HCm : Hid (Calls Tryz.prog 18 #[.pointer (some ⟨s, 0, none⟩)] w3 fun e w4 => ∃ r, e = .returned (.int .i64 r) ∧ Hid (WkI J w B0 s (B0 + 1) B0 N w4)) := by
      obtain ⟨x, d, hp, hx, hn', ho⟩ := HW3.out
      exact commit_wk hJ hx hp (by have := ho.size; have := HB.out; omega) hn' ho
    clear HW3
    go_wp2_with fail
    refine (show Calls Tryz.prog 18 _ _ _ from HCm.out).mono ?_
    rintro e w4 ⟨r, rfl, HW4⟩
    clear HCm
    by_cases hr : r = 0
    · subst hr
      go_wp2
      go_ret2
      exact ⟨_, s, B0, rfl, HW4.out, hs0⟩
    · have hr' : (r == 0) = false := by simpa using hr
      have HRo : Hid (Calls Tryz.prog 23 #[.pointer (some ⟨s, 0, none⟩)] w4 fun e w5 => ∃ r, e = .returned (.int .i64 r) ∧ Hid (WkI J w B0 s (B0 + 1) B0 N w5)) := by
        obtain ⟨x, d, hp, hx, hn', ho⟩ := HW4.out
        exact roll_wk hJ hx hp (by have := ho.size; have := HB.out; omega) hn' ho
      clear HW4
      go_wp2_with fail
      refine (show Calls Tryz.prog 23 _ _ _ from HRo.out).mono ?_
      rintro e w5 ⟨r5, rfl, HW5⟩
      clear HRo
      go_wp2
      go_ret2
      exact ⟨_, s, B0, rfl, HW5.out, hs0⟩
end Go.Proofs.YtpoakkdkibameaaGreat
