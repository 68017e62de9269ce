/- Two texts, one behind the other: what they are read as. A row behind a row; how great what is read is. The place of a fault is no great number; awake. ManifestJoins: the walk. -/
import Derived.Test.YtmmggnmgimgdfaaDoorGao
import Derived.Test.YtmmggnmgimgdfaaDoorGap
namespace Go.Proofs.YtmmggnmgimgdfaaDoor
open Go.RowKit
set_option linter.unusedSimpArgs false
set_option linter.unusedVariables false
theorem linS_app : ∀ (r a : List UInt8) (n : Nat) (t : List UInt8), (linS r a n).2.2 = true → linS (r ++ 10 :: t) a n = ((linS r a n).1 ++ (linS t [] (linS r a n).2.1).1, (linS t [] (linS r a n).2.1).2)
  | [], a, n, t, h => by
    have ha : a = [] := by simpa [linS] using h
    subst ha
    simp [linS]
  | c :: r, a, n, t, h => by
    by_cases h1 : c = 10
    · subst h1
      by_cases h2 : a = []
      · subst h2
        simp only [linS, if_true, List.cons_append] at h ⊢
        exact linS_app r [] (n + 1) t h
      · simp only [linS, if_true, if_neg h2, List.cons_append] at h ⊢
        rw [linS_app r [] (n + 1) t h]
    · simp only [linS, if_neg h1, List.cons_append] at h ⊢
      exact linS_app r (a ++ [c]) n t h
/-- numbers d further on -/
def shQ (d : Nat) (q : List (Nat × List UInt8)) : List (Nat × List UInt8) := q.map fun x => (x.1 + d, x.2)
theorem linS_shift (d : Nat) : ∀ (r a : List UInt8) (n : Nat), linS r a (n + d) = (shQ d (linS r a n).1, (linS r a n).2.1 + d, (linS r a n).2.2)
  | [], a, n => by simp [linS, shQ]; omega
  | c :: r, a, n => by
    by_cases h1 : c = 10
    · subst h1
      have h3 := linS_shift d r [] (n + 1)
      rw [show n + 1 + d = n + d + 1 by omega] at h3
      by_cases h2 : a = []
      · subst h2
        simp only [linS, if_true]
        exact h3
      · simp only [linS, if_true, if_neg h2, h3]
        simp [shQ]
        omega
    · simp only [linS, if_neg h1]
      exact linS_shift d r (a ++ [c]) n
/-- how many lines end -/
def lfN : List UInt8 → Nat
  | [] => 0
  | c :: r => if c = 10 then lfN r + 1 else lfN r
theorem linS_z : ∀ (r a : List UInt8) (n : Nat), (linS r a n).2.1 = n + 1 + lfN r
  | [], a, n => by simp [linS, lfN]
  | c :: r, a, n => by
    by_cases h1 : c = 10
    · subst h1
      have h3 := linS_z r [] (n + 1)
      by_cases h2 : a = []
      · subst h2
        simp only [linS, if_true, lfN]
        omega
      · simp only [linS, if_true, if_neg h2, lfN]
        omega
    · simp only [linS, if_neg h1, lfN]
      exact linS_z r (a ++ [c]) n
theorem mpD_app (z z' : Nat) (Q : List (Nat × List UInt8)) : ∀ (q : List (Nat × List UInt8)) (acc ds : List Fm) (q' : List (Nat × List UInt8)), mpD z q acc = .ok (ds, q') → mpD z' (q ++ Q) acc = .ok (ds, q' ++ Q)
  | [], acc, ds, q', h => by cases h
  | (n, t) :: q, acc, ds, q', h => by
    unfold mpD at h
    rw [List.cons_append]
    unfold mpD
    split at h
    · rename_i he
      rw [if_pos he]
      simp only [Except.ok.injEq, Prod.mk.injEq] at h
      obtain ⟨rfl, rfl⟩ := h
      rfl
    · rename_i he
      rw [if_neg he]
      cases hd : defO (bt t) with
      | none => rw [hd] at h; cases h
      | some d =>
        rw [hd] at h
        exact mpD_app z z' Q q _ _ _ h
theorem mkU_of {us : List ByteArray} {ds : List Fm} {q' : List (Nat × List UInt8)} : mkU us (.ok (ds, q')) = .ok (us, ds, q') := rfl
theorem mpU_app (z z' : Nat) (Q : List (Nat × List UInt8)) {q : List (Nat × List UInt8)} {us : List ByteArray} {ds : List Fm} {q' : List (Nat × List UInt8)} (h : mpU z q = .ok (us, ds, q')) : mpU z' (q ++ Q) = .ok (us, ds, q' ++ Q) := by
  cases q with
  | nil => cases h
  | cons c q =>
    obtain ⟨n, t⟩ := c
    simp only [mpU, List.cons_append] at h ⊢
    cases ho : nmO (bt t) useB with
    | none =>
      rw [ho] at h
      obtain ⟨rfl, h2⟩ := mkU_ok h
      have := mpD_app z z' Q _ _ _ _ h2
      simp only [List.cons_append] at this
      simp only [this]
      rfl
    | some vs =>
      rw [ho] at h
      obtain ⟨rfl, h2⟩ := mkU_ok h
      have := mpD_app z z' Q _ _ _ _ h2
      simp only [this]
      rfl
theorem mpR_app (z z' n : Nat) (t : List UInt8) (Q : List (Nat × List UInt8)) {q : List (Nat × List UInt8)} {m : Mf} {q' : List (Nat × List UInt8)} (h : mpR z n t q = .ok (m, q')) : mpR z' n t (q ++ Q) = .ok (m, q' ++ Q) := by
  unfold mpR at h ⊢
  split at h
  · rename_i nm hn
    obtain ⟨h1, h2⟩ := mkM_ok h
    have h3 := mpU_app z z' Q h2
    rw [h3]
    subst h1
    rfl
  · cases h
theorem mpA_fuel (z : Nat) (b : Bool) : ∀ (f g : Nat) (q : List (Nat × List UInt8)), q.length ≤ f → q.length ≤ g → mpA z b f q = mpA z b g q
  | f, g, [], _, _ => by rw [mpA_nil, mpA_nil]
  | 0, _, _ :: _, h, _ => by simp at h
  | _, 0, _ :: _, _, h => by simp at h
  | f + 1, g + 1, (n, t) :: q, h1, h2 => by
    simp only [mpA]
    cases hr : mpR z n t q with
    | error k => rfl
    | ok p =>
      obtain ⟨m, q'⟩ := p
      have := (mpR_len hr).1
      simp only [List.length_cons] at h1 h2
      simp only
      rw [mpA_fuel z b f g q' (by omega) (by omega)]
theorem consM_ok {m : Mf} {X : Except Nat (List Mf)} {l : List Mf} (h : consM m X = .ok l) : ∃ l', l = m :: l' ∧ X = .ok l' := by
  cases X with
  | error k => cases h
  | ok l' =>
    simp only [consM, Except.ok.injEq] at h
    exact ⟨l', h.symm, rfl⟩
theorem mpA_true {z : Nat} {b : Bool} : ∀ (f : Nat) (q : List (Nat × List UInt8)) (l : List Mf), mpA z b f q = .ok l → b = true
  | f, [], l, h => by
    rw [mpA_nil] at h
    cases b
    · cases h
    · rfl
  | 0, _ :: _, l, h => by cases h
  | f + 1, (n, t) :: q, l, h => by
    simp only [mpA] at h
    cases hr : mpR z n t q with
    | error k => rw [hr] at h; cases h
    | ok p =>
      obtain ⟨m, q'⟩ := p
      rw [hr] at h
      obtain ⟨l', _, h2⟩ := consM_ok h
      exact mpA_true f q' l' h2
theorem mpA_app (z z' : Nat) (b b' : Bool) (Q : List (Nat × List UInt8)) : ∀ (f : Nat) (q : List (Nat × List UInt8)) (l : List Mf) (F : Nat), mpA z b f q = .ok l → q.length + Q.length ≤ F → mpA z' b' F (q ++ Q) = preM l (mpA z' b' Q.length Q)
  | f, [], l, F, h, hF => by
    rw [mpA_nil] at h
    cases b
    · cases h
    · simp only [if_true, Except.ok.injEq] at h
      subst h
      rw [List.nil_append, mpA_fuel z' b' F Q.length Q (by simpa using hF) (Nat.le_refl _)]
      cases mpA z' b' Q.length Q <;> rfl
  | 0, _ :: _, l, F, h, _ => by cases h
  | f + 1, (n, t) :: q, l, F, h, hF => by
    simp only [mpA] at h
    cases hr : mpR z n t q with
    | error k => rw [hr] at h; cases h
    | ok p =>
      obtain ⟨m, q'⟩ := p
      rw [hr] at h
      obtain ⟨l', rfl, h2⟩ := consM_ok h
      have h3 := (mpR_len hr).1
      simp only [List.length_cons] at hF
      obtain ⟨G, rfl⟩ : ∃ G, F = G + 1 := ⟨F - 1, by omega⟩
      have h4 := mpA_app z z' b b' Q f q' l' G h2 (by omega)
      simp only [List.cons_append, mpA, mpR_app z z' n t Q hr, h4]
      cases mpA z' b' Q.length Q <;> rfl
/-- what is read, numbers d further on -/
def shE (d : Nat) {α : Type} : Except Nat (α × List (Nat × List UInt8)) → Except Nat (α × List (Nat × List UInt8))
  | .error k => .error (k + d)
  | .ok (x, q') => .ok (x, shQ d q')
theorem shQ_cons (d n : Nat) (t : List UInt8) (q : List (Nat × List UInt8)) : shQ d ((n, t) :: q) = (n + d, t) :: shQ d q := rfl
theorem mpD_shift (z d : Nat) : ∀ (q : List (Nat × List UInt8)) (acc : List Fm), mpD (z + d) (shQ d q) acc = shE d (mpD z q acc)
  | [], acc => rfl
  | (n, t) :: q, acc => by
    rw [shQ_cons]
    unfold mpD
    split
    · rfl
    · cases defO (bt t) with
      | none => rfl
      | some fm => exact mpD_shift z d q _
/-- the like, three things -/
def shU (d : Nat) : Except Nat (List ByteArray × List Fm × List (Nat × List UInt8)) → Except Nat (List ByteArray × List Fm × List (Nat × List UInt8))
  | .error k => .error (k + d)
  | .ok (us, ds, q') => .ok (us, ds, shQ d q')
theorem mkU_sh (d : Nat) (us : List ByteArray) (X : Except Nat (List Fm × List (Nat × List UInt8))) : mkU us (shE d X) = shU d (mkU us X) := by
  cases X with
  | error k => rfl
  | ok p => rfl
theorem mkM_sh (d : Nat) (nm : ByteArray) (X : Except Nat (List ByteArray × List Fm × List (Nat × List UInt8))) : mkM nm (shU d X) = shE d (mkM nm X) := by
  cases X with
  | error k => rfl
  | ok p => rfl
theorem mpU_shift (z d : Nat) (q : List (Nat × List UInt8)) : mpU (z + d) (shQ d q) = shU d (mpU z q) := by
  cases q with
  | nil => rfl
  | cons c q =>
    obtain ⟨n, t⟩ := c
    rw [shQ_cons]
    simp only [mpU]
    cases nmO (bt t) useB with
    | none =>
      simp only
      rw [← shQ_cons, mpD_shift, mkU_sh]
    | some us =>
      simp only
      rw [mpD_shift, mkU_sh]
theorem mpR_shift (z n d : Nat) (t : List UInt8) (q : List (Nat × List UInt8)) : mpR (z + d) (n + d) t (shQ d q) = shE d (mpR z n t q) := by
  unfold mpR
  split
  · rw [mpU_shift, mkM_sh]
  · rfl
theorem shQ_len (d : Nat) (q : List (Nat × List UInt8)) : (shQ d q).length = q.length := by simp [shQ]
/-- the like, vocabularies -/
def shA (d : Nat) : Except Nat (List Mf) → Except Nat (List Mf)
  | .error k => .error (k + d)
  | .ok l => .ok l
theorem mpA_shift (z d : Nat) (b : Bool) : ∀ (f : Nat) (q : List (Nat × List UInt8)), q.length ≤ f → mpA (z + d) b f (shQ d q) = shA d (mpA z b f q)
  | f, [], _ => by
    show mpA (z + d) b f [] = _
    rw [mpA_nil, mpA_nil]
    cases b <;> rfl
  | 0, _ :: _, h => by simp at h
  | f + 1, (n, t) :: q, h => by
    rw [shQ_cons]
    simp only [mpA, mpR_shift]
    cases hr : mpR z n t q with
    | error k => rfl
    | ok p =>
      obtain ⟨m, q'⟩ := p
      have := (mpR_len hr).1
      simp only [List.length_cons] at h
      simp only [shE]
      rw [mpA_shift z d b f q' (by omega)]
      cases mpA z b f q' <;> rfl
/-- a text, a line's end, a text -/
def joinB (s t : ByteArray) : ByteArray := s ++ ⟨#[10]⟩ ++ t
theorem joinB_list (s t : ByteArray) : (joinB s t).data.toList = s.data.toList ++ 10 :: t.data.toList := by simp [joinB]
theorem joinB_size (s t : ByteArray) : (joinB s t).size = s.size + 1 + t.size := by simp [joinB, ByteArray.size_append]; rfl
theorem mpS_err (s : ByteArray) : (mpS s).2.2 = 0 ∨ ((mpS s).1 = []) := by
  unfold mpS
  split
  · exact .inr rfl
  · cases mpA _ _ _ _ with
    | error k => exact .inr rfl
    | ok l => exact .inl rfl
theorem mpS_join (s t : ByteArray) (h0 : (mpS s).2.2 = 0) (hl : s.size + t.size < 65536) : mpS (joinB s t) = if (mpS t).2.2 = 0 then ((mpS s).1 ++ (mpS t).1, 0, 0) else ([], (mpS t).2.1 + (lfN s.data.toList + 1), (mpS t).2.2) := by
  have es : mpS s = endM (mpA (linS s.data.toList [] 0).2.1 (linS s.data.toList [] 0).2.2 (linS s.data.toList [] 0).1.length (linS s.data.toList [] 0).1) := by unfold mpS; rw [if_neg (by omega)]
  have et : mpS t = endM (mpA (linS t.data.toList [] 0).2.1 (linS t.data.toList [] 0).2.2 (linS t.data.toList [] 0).1.length (linS t.data.toList [] 0).1) := by unfold mpS; rw [if_neg (by omega)]
  have ej : mpS (joinB s t) = endM (mpA (linS (joinB s t).data.toList [] 0).2.1 (linS (joinB s t).data.toList [] 0).2.2 (linS (joinB s t).data.toList [] 0).1.length (linS (joinB s t).data.toList [] 0).1) := by unfold mpS; rw [if_neg (by rw [joinB_size]; omega)]
  cases hA : mpA (linS s.data.toList [] 0).2.1 (linS s.data.toList [] 0).2.2 (linS s.data.toList [] 0).1.length (linS s.data.toList [] 0).1 with
  | error k => rw [es, hA] at h0; cases h0
  | ok l =>
    have hb := mpA_true _ _ _ hA
    have hj := linS_app s.data.toList [] 0 t.data.toList hb
    have hz := linS_z s.data.toList [] 0
    rw [← joinB_list] at hj
    have hsh := linS_shift (linS s.data.toList [] 0).2.1 t.data.toList [] 0
    rw [Nat.zero_add] at hsh
    rw [hsh] at hj
    rw [ej, hj, es, hA]
    simp only
    rw [mpA_app _ _ _ _ _ _ _ l _ hA (by simp), shQ_len, mpA_shift _ _ _ _ _ (Nat.le_refl _), et]
    cases mpA (linS t.data.toList [] 0).2.1 (linS t.data.toList [] 0).2.2 (linS t.data.toList [] 0).1.length (linS t.data.toList [] 0).1 with
    | error k =>
      rw [hz]
      simp [shA, preM, endM]
      omega
    | ok l2 => simp [shA, preM, endM]
end Go.Proofs.YtmmggnmgimgdfaaDoor
namespace Go.Proofs.YtmmggnmgimgdfaaDoor
open Go.RowKit
set_option linter.unusedSimpArgs false
set_option linter.unusedVariables false
set_option maxRecDepth 100000 in
theorem gr_rows {α : Type} {K : World → Nat → Prop} {z : Nat} {P : World → (Nat → Prop) → α → List Value → Prop} (hK : Bk K) (hP : El z P) {T sT : TypeId} {by' : Nat} (hI : ∃ i zz, Tryd.prog.info? T = some i ∧ i.zero = some zz ∧ i.size = z ∧ i.bytes = by' ∧ zz.cells.size = z) (hT : Tryd.prog.underlying sT = some (.slice T)) (hz : 0 < z) (hby : by' ≤ 1000) {w : World} {B C : Nat} {v v2 : Value} {l l2 : List α} (hf : GrAt K T z P w B v l) (hf2 : GrAt K T z P w C v2 l2) (hC : B ≤ C) (hv : ∀ k, v.ownBlock = some k → k < C) (hB : B ≤ w.heap.size) (hl : l.length + l2.length ≤ 1000000) :
    ∃ v' w', (∀ ty, (Builtin.append_ #[sT, sT] ty #[v, v2]).run Tryd.prog w = .ok v' w') ∧ GrAt K T z P w' B v' (l ++ l2) ∧ Only (fun k => B ≤ k) w w' := by
  obtain ⟨i0, z0, hi, hz0, hz1, hz2, hz3⟩ := hI
  obtain ⟨us, S, ho, ht, hS⟩ := id hf
  obtain ⟨us2, S2, ho2, ht2, hS2⟩ := hf2
  rcases ho2.2 with ⟨rfl, h0⟩ | ⟨g, cap, cur, hv2, hCg, hg, hn, hcm, hcs, htk⟩
  · obtain rfl : l2 = [] := List.eq_nil_of_length_eq_zero h0
    refine ⟨v, w, fun ty => run_append_owned_none _ B sT ty T i0 z hT hi _ l.length us ho, by simpa using hf, Only.refl _ _⟩
  · have hone : ∀ u ∈ us2, u.oneCell' = true := by
      intro u hu
      obtain ⟨p, hp⟩ := List.getElem?_of_mem hu
      have hpl : p < us2.length := (List.getElem?_eq_some_iff.1 hp).1
      have hl2 := ho2.1
      have hj : p / z < l2.length := by rw [Nat.div_lt_iff_lt_mul hz]; omega
      obtain ⟨x, hx⟩ : ∃ x, l2[p / z]? = some x := ⟨l2[p / z]'hj, List.getElem?_eq_getElem hj⟩
      obtain ⟨cs, c0, c1⟩ := ht2 _ x hx
      have hi9 : p % z < cs.length := by rw [hP.len c1]; exact Nat.mod_lt _ hz
      have hc := c0 (p % z) _ (List.getElem?_eq_getElem hi9)
      rw [show p / z * z + p % z = p by rw [Nat.mul_comm]; exact Nat.div_add_mod p z, hp] at hc
      injection hc with hc
      rw [hc]
      exact hP.one c1 _ (List.getElem_mem hi9)
    have key := fun ty => run_append_own_at (P := Tryd.prog) w B sT ty T i0 z0 z by' hT hi hz0 hz1 hz2 hz3 hz v l.length us ho ⟨g, 0, none⟩ l2.length cap us2 ho2.1 (by
      intro j u hj
      exact ho2.cells (g := g) (by rw [hv2]; rfl) j u hj) hone (by unfold maxLen; omega) (by
      have : (l.length + l2.length) * by' ≤ 1000000 * 1000 := Nat.mul_le_mul hl hby
      omega) hB
    obtain ⟨v', w', hr, own', hgr, _, hat⟩ := key 0
    have oo : Only (fun k => v.ownBlock = some k) w w' := (Only.refl _ w).grown hgr (fun k e _ => e)
    have a1 : ∀ b, S b → ¬ v.ownBlock = some b := fun b h => (hS b h).2.2
    have a2 : ∀ b, S2 b → ¬ v.ownBlock = some b := fun b h e => by have := hv b e; have := (hS2 b h).1; omega
    have hl1 : us.length = l.length * z := ho.1
    refine ⟨v', w', fun ty => ?_, ⟨us ++ us2, fun b => S b ∨ S2 b, by simpa using own', fun j x hx => ?_, fun b hb => ?_⟩, oo.mono (fun k hk e => (ho.lt k e).1)⟩
    · rw [hv2, ← hr]
      rfl
    · by_cases hj : j < l.length
      · rw [List.getElem?_append_left hj] at hx
        obtain ⟨cs, h0, h1⟩ := ht j x hx
        refine ⟨cs, fun i u hu => ?_, hP.step (fun _ g => .inl g) (fun a y hs hc => oo.cell hc (a1 _ hs)) h1⟩
        have := h0 i u hu
        rw [List.getElem?_append_left (List.getElem?_eq_some_iff.1 this).1]
        exact this
      · rw [List.getElem?_append_right (by omega)] at hx
        obtain ⟨cs, h0, h1⟩ := ht2 _ x hx
        refine ⟨cs, fun i u hu => ?_, hP.step (fun _ g => .inr g) (fun a y hs hc => oo.cell hc (a2 _ hs)) h1⟩
        have := h0 i u hu
        have hjz : l.length * z ≤ j * z := Nat.mul_le_mul_right z (by omega)
        rw [List.getElem?_append_right (by omega), show j * z + i - us.length = (j - l.length) * z + i by rw [Nat.sub_mul]; omega]
        exact this
    · have h1 : B ≤ b ∧ K w b ∧ v.ownBlock ≠ some b := by
        rcases hb with h | h
        · exact hS b h
        · exact ⟨Nat.le_trans hC (hS2 b h).1, (hS2 b h).2.1, a2 b h⟩
      refine ⟨h1.1, hK.only h1.2.1 oo h1.2.2, ?_⟩
      rcases hat with e | e <;> rw [e]
      · exact h1.2.2
      · intro e2
        injection e2 with e2
        have := hK.lt h1.2.1
        omega
/-- what is read is not great, and its definitions are sound -/
def MfW (m : Mf) : Prop := m.us.length ≤ 1000000 ∧ m.ds.length ≤ 1000000 ∧ ∀ fm ∈ m.ds, Wff fm
theorem mpD_wf {z : Nat} : ∀ (q : List (Nat × List UInt8)) (acc ds : List Fm) (q' : List (Nat × List UInt8)), (∀ fm ∈ acc, Wff fm) → mpD z q acc = .ok (ds, q') → ∀ fm ∈ ds, Wff fm
  | [], _, _, _, _, h => by cases h
  | (n, t) :: q, acc, ds, q', ha, h => by
    unfold mpD at h
    split at h
    · simp only [Except.ok.injEq, Prod.mk.injEq] at h
      obtain ⟨rfl, _⟩ := h
      exact ha
    · cases hd : defO (bt t) with
      | none => rw [hd] at h; cases h
      | some d =>
        rw [hd] at h
        refine mpD_wf q _ _ _ (fun fm hf => ?_) h
        rcases List.mem_append.1 hf with g | g
        · exact ha fm g
        · rw [List.mem_singleton.1 g]
          exact defO_wf hd
theorem nmO_len {T p : ByteArray} {us : List ByteArray} (h : nmO T p = some us) : us.length ≤ T.size + 1 := by
  unfold nmO at h
  split at h
  · split at h
    · simp only [Option.some.injEq] at h
      subst h
      rw [pcs_len]
      have h2 : Lib.countB (T.extract p.size T.size) ⟨#[32]⟩ ≤ (T.extract p.size T.size).size := Lib.countB_le ⟨#[32]⟩ (by decide) _ _ (Nat.le_refl _)
      rw [ByteArray.size_extract] at h2
      omega
    · cases h
  · cases h
theorem mpR_wf {z n : Nat} {t : List UInt8} {q : List (Nat × List UInt8)} {m : Mf} {q' : List (Nat × List UInt8)} (hq : q.length ≤ 65536) (ht : ∀ x ∈ q, x.2.length ≤ 65536) (h : mpR z n t q = .ok (m, q')) : MfW m := by
  have hln := (mpR_len h).2
  unfold mpR at h
  split at h
  · obtain ⟨rfl, h2⟩ := mkM_ok h
    unfold mpU at h2
    split at h2
    · cases h2
    · rename_i k u q1
      split at h2
      · rename_i us hu
        obtain ⟨e1, h3⟩ := mkU_ok h2
        refine ⟨?_, by omega, mpD_wf _ _ _ _ (fun _ g => by simp at g) h3⟩
        rw [e1]
        have := nmO_len hu
        rw [bt_size] at this
        have := ht (k, u) (List.mem_cons_self ..)
        simp only at this
        omega
      · obtain ⟨e1, h3⟩ := mkU_ok h2
        refine ⟨?_, by omega, mpD_wf _ _ _ _ (fun _ g => by simp at g) h3⟩
        rw [e1]
        simp
  · cases h
theorem mpA_wf {z : Nat} {b : Bool} : ∀ (f : Nat) (q : List (Nat × List UInt8)) (l : List Mf), q.length ≤ 65536 → (∀ x ∈ q, x.2.length ≤ 65536) → mpA z b f q = .ok l → l.length ≤ q.length ∧ ∀ m ∈ l, MfW m
  | f, [], l, _, _, h => by
    rw [mpA_nil] at h
    cases b
    · cases h
    · simp only [if_true, Except.ok.injEq] at h
      subst h
      simp
  | 0, _ :: _, l, _, _, h => by cases h
  | f + 1, (n, t) :: q, l, hq, ht, h => by
    simp only [mpA] at h
    cases hr : mpR z n t q with
    | error k => rw [hr] at h; cases h
    | ok p =>
      obtain ⟨m, q'⟩ := p
      rw [hr] at h
      simp only [List.length_cons] at hq
      have hln := (mpR_len hr).1
      obtain ⟨l', rfl, hX⟩ := consM_ok h
      have := mpA_wf f q' l' (by omega) (fun x hx => ht x (List.mem_cons_of_mem _ (mpR_sub hr x hx))) hX
      refine ⟨by simp only [List.length_cons]; omega, fun m' hm => ?_⟩
      rcases List.mem_cons.1 hm with rfl | hm
      · exact mpR_wf (by omega) (fun x hx => ht x (List.mem_cons_of_mem _ hx)) hr
      · exact this.2 m' hm
theorem mpS_wf (s : ByteArray) : (mpS s).1.length ≤ 65536 ∧ ∀ m ∈ (mpS s).1, MfW m := by
  unfold mpS
  split
  · simp
  · have h1 := linS_cnt s.data.toList [] 0
    have h2 := linS_len s.data.toList [] 0
    have h3 : s.data.toList.length = s.size := Array.length_toList
    cases hA : mpA (linS s.data.toList [] 0).2.1 (linS s.data.toList [] 0).2.2 (linS s.data.toList [] 0).1.length (linS s.data.toList [] 0).1 with
    | error k => simp [endM]
    | ok l =>
      have := mpA_wf _ _ l (by omega) (fun x hx => by have := h2 x hx; simp at this; omega) hA
      exact ⟨by show l.length ≤ 65536; omega, this.2⟩
end Go.Proofs.YtmmggnmgimgdfaaDoor
namespace Go.Proofs.YtmmggnmgimgdfaaDoor
open Go.RowKit
set_option linter.unusedSimpArgs false
set_option linter.unusedVariables false
theorem linS_le : ∀ (r a : List UInt8) (n : Nat), (∀ x ∈ (linS r a n).1, x.1 ≤ n + r.length) ∧ (linS r a n).2.1 ≤ n + 1 + r.length
  | [], a, n => by simp [linS]
  | c :: r, a, n => by
    unfold linS
    split
    · have := linS_le r [] (n + 1)
      split
      · exact ⟨fun x hx => by have := this.1 x hx; simp only [List.length_cons]; omega, by simp only [List.length_cons]; omega⟩
      · refine ⟨fun x hx => ?_, by simp only [List.length_cons]; omega⟩
        rcases List.mem_cons.1 hx with rfl | hx
        · simp only [List.length_cons]; omega
        · have := this.1 x hx; simp only [List.length_cons]; omega
    · have := linS_le r (a ++ [c]) n
      exact ⟨fun x hx => by have := this.1 x hx; simp only [List.length_cons]; omega, by simp only [List.length_cons]; omega⟩
theorem mpD_le {z M : Nat} (hz : z ≤ M) : ∀ (q : List (Nat × List UInt8)) (acc : List Fm) (k : Nat), (∀ x ∈ q, x.1 ≤ M) → mpD z q acc = .error k → k ≤ M
  | [], _, k, _, h => by simp only [mpD, Except.error.injEq] at h; omega
  | (n, t) :: q, acc, k, hq, h => by
    unfold mpD at h
    split at h
    · cases h
    · split at h
      · simp only [Except.error.injEq] at h
        have := hq (n, t) (List.mem_cons_self ..)
        simp only at this
        omega
      · exact mpD_le hz q _ k (fun x hx => hq x (List.mem_cons_of_mem _ hx)) h
theorem mpU_le {z M : Nat} (hz : z ≤ M) {q : List (Nat × List UInt8)} {k : Nat} (hq : ∀ x ∈ q, x.1 ≤ M) (h : mpU z q = .error k) : k ≤ M := by
  unfold mpU at h
  split at h
  · simp only [Except.error.injEq] at h; omega
  · split at h
    · exact mpD_le hz _ _ k (fun x hx => hq x (List.mem_cons_of_mem _ hx)) (mkU_err h)
    · exact mpD_le hz _ _ k hq (mkU_err h)
theorem mpR_le {z n M : Nat} (hz : z ≤ M) (hn : n ≤ M) {t : List UInt8} {q : List (Nat × List UInt8)} {k : Nat} (hq : ∀ x ∈ q, x.1 ≤ M) (h : mpR z n t q = .error k) : k ≤ M := by
  unfold mpR at h
  split at h
  · exact mpU_le hz hq (mkM_err h)
  · simp only [Except.error.injEq] at h; omega
theorem mpA_le {z M : Nat} {b : Bool} (hz : z ≤ M) : ∀ (f : Nat) (q : List (Nat × List UInt8)) (k : Nat), (∀ x ∈ q, x.1 ≤ M) → mpA z b f q = .error k → k ≤ M
  | f, [], k, _, h => by
    rw [mpA_nil] at h
    cases b
    · simp only [Bool.false_eq_true, if_false, Except.error.injEq] at h; omega
    · cases h
  | 0, _ :: _, k, _, h => by simp only [mpA, Except.error.injEq] at h; omega
  | f + 1, (n, t) :: q, k, hq, h => by
    simp only [mpA] at h
    have hq' : ∀ x ∈ q, x.1 ≤ M := fun x hx => hq x (List.mem_cons_of_mem _ hx)
    have hn : n ≤ M := hq (n, t) (List.mem_cons_self ..)
    cases hr : mpR z n t q with
    | error k' =>
      rw [hr] at h
      simp only [Except.error.injEq] at h
      have := mpR_le hz hn hq' hr
      omega
    | ok p =>
      obtain ⟨m, q'⟩ := p
      rw [hr] at h
      cases hX : mpA z b f q' with
      | error k' =>
        have := mpA_le hz f q' k' (fun x hx => hq' x (mpR_sub hr x hx)) hX
        simp only [hX, consM, Except.error.injEq] at h
        omega
      | ok l => simp only [hX, consM] at h; cases h
theorem mpS_le (s : ByteArray) : (mpS s).2.1 ≤ 65537 ∧ (mpS s).2.2 ≤ 11 := by
  unfold mpS
  split
  · simp
  · have h1 := linS_le s.data.toList [] 0
    have h3 : s.data.toList.length = s.size := Array.length_toList
    cases hA : mpA (linS s.data.toList [] 0).2.1 (linS s.data.toList [] 0).2.2 (linS s.data.toList [] 0).1.length (linS s.data.toList [] 0).1 with
    | error k =>
      have := mpA_le (M := 65537) (by omega) _ _ k (fun x hx => by have := h1.1 x hx; omega) hA
      exact ⟨this, by show 9 ≤ 11; omega⟩
    | ok l => exact ⟨by show 0 ≤ 65537; omega, by show 0 ≤ 11; omega⟩
theorem lfN_le : ∀ r : List UInt8, lfN r ≤ r.length
  | [] => Nat.le_refl _
  | c :: r => by
    have := lfN_le r
    unfold lfN
    split <;> simp only [List.length_cons] <;> omega
theorem lfN_snoc : ∀ (r : List UInt8) (c : UInt8), lfN (r ++ [c]) = lfN r + (if c = 10 then 1 else 0)
  | [], c => by simp [lfN]
  | d :: r, c => by
    have := lfN_snoc r c
    simp only [List.cons_append, lfN]
    split <;> omega
set_option maxRecDepth 100000 in
theorem awk_lit : mpS ⟨#[118, 111, 99, 97, 98, 32, 97, 10, 101, 110, 100, 10]⟩ = ([⟨⟨#[97]⟩, [], []⟩], 0, 0) := by kernel_rfl
set_option maxRecDepth 100000 in
theorem mawake_any (w : World) (hE : Evd w) : Calls Tryd.prog 4 #[] w fun e w' => e = .returned (.bool true) ∧ Only (fun _ => False) w w' := by
  have HP : Hid (Calls Tryd.prog 5 #[.string ⟨#[118, 111, 99, 97, 98, 32, 97, 10, 101, 110, 100, 10]⟩] w fun e w' => ∃ g cap, e = .returned (.tuple #[.slice (some ⟨g, 0, none⟩) 1 cap, .int .i64 0, .int .i64 0]) ∧ w'.cell? ⟨g, 0, none⟩ = some (.string ⟨#[97]⟩) ∧ Only (fun _ => False) w w') := by
    refine (mparse_any _ w hE).mono fun e w' g => ?_
    obtain ⟨ao, cap, he, g⟩ := g
    rw [awk_lit] at he g
    obtain ⟨S, h1, _⟩ := g.out.1.read bk_liv el_mc
    obtain ⟨ao', cap', hv, _, hel⟩ := h1
    simp only [Value.slice.injEq] at hv
    obtain ⟨rfl, _, rfl⟩ := hv
    obtain ⟨g1, cs, rfl, _, e2, uv, dv, rfl, _, _⟩ := hel 0 _ rfl
    exact ⟨g1, cap, he, e2 0 _ rfl, g.out.2⟩
  clear hE
  go_enter Tryd.func4, Tryd.ntmps4
  go_wp2_with fail
  refine (show Calls Tryd.prog 5 _ _ _ from HP.out).mono ?_
  rintro e w1 ⟨g, cap, rfl, c0, o1⟩
  have O1 : Hid (Only (fun _ => False) w w1) := o1
  clear HP o1
  go_wp2
  go_ret
  exact ⟨rfl, O1.out⟩
end Go.Proofs.YtmmggnmgimgdfaaDoor
namespace Go.Proofs.YtmmggnmgimgdfaaDoor
open Go.RowKit
set_option linter.unusedSimpArgs false
set_option linter.unusedVariables false
theorem add_str2 {S t S2 : ByteArray} (W : World) (h : S ++ t = S2) (h1 : S.size ≤ 1000000) (h2 : t.size ≤ 1000000) : (Op.stringOp .add S t).run Tryd.prog W = .ok (.string S2) W := add_str _ W h h1 h2
theorem wpList_append_runG {P : Program} {op : Oper} {a : Act} {w w' : World} {Q : Exit → Act → World → Prop} {ops : Array Oper} {rest : List Oper} (s x : Operand) (t : TypeId) (ho : op.op = .call { callee := .builtin .append, args := #[s, x], argTypes := #[t, t] }) (hw : Region.wanted op (yielded ops a.tmps) = true) (v1 v2 v' : Value) (hs : a.eval s = v1) (hx : a.eval x = v2)
    (hr : ∀ ty, (Builtin.append_ #[t, t] ty #[v1, v2]).run P w = .ok v' w') (h : wpList P ops Q rest (a.put op.dst v') w') : wpList P ops Q (op :: rest) a w :=
  wpList_step fun _ hK => by rw [if_pos hw]; exact wp_append_run s x t ho v1 v2 v' hs hx (hr _) (hK _ _ h)
set_option maxRecDepth 100000 in
set_option maxHeartbeats 8000000 in
theorem mjoins_bad (s t : ByteArray) (w : World) (hE : Evd w) (hs : s.size ≤ 140737488355328) (ht : t.size ≤ 140737488355328) (h1 : (mpS s).2.2 ≠ 0 ∨ 65536 ≤ s.size + t.size) : Calls Tryd.prog 3 #[.string s, .string t] w fun e w' => e = .returned (.bool true) ∧ Only (fun _ => False) w w' := by
  have HA : Hid (Calls Tryd.prog 4 #[] w fun e w' => e = .returned (.bool true) ∧ Only (fun _ => False) w w') := mawake_any w hE
  have HP : Hid (∀ S w1, Only (fun _ => False) w w1 → Calls Tryd.prog 5 #[.string S] w1 (MpP S w1)) := fun S w1 o1 => mparse_any S w1 (hE.keep o1 (fun g => g) (fun g => g))
  clear hE
  obtain ⟨p1, hp1⟩ : ∃ p, p = (mpS s).2.1 := ⟨_, rfl⟩
  obtain ⟨p2, hp2⟩ : ∃ p, p = (mpS t).2.1 := ⟨_, rfl⟩
  obtain ⟨L1, hL1⟩ : ∃ p, p = (mpS s).1.length := ⟨_, rfl⟩
  obtain ⟨L2, hL2⟩ : ∃ p, p = (mpS t).1.length := ⟨_, rfl⟩
  obtain ⟨e1, he1⟩ : ∃ p, p = (mpS s).2.2 := ⟨_, rfl⟩
  obtain ⟨e2, he2⟩ : ∃ p, p = (mpS t).2.2 := ⟨_, rfl⟩
  have HP1 : Hid (∀ w1, Only (fun _ => False) w w1 → Calls Tryd.prog 5 #[.string s] w1 fun x w' => ∃ ao cap, x = .returned (.tuple #[.slice ao L1 cap, .int .i64 (p1 : Int), .int .i64 (e1 : Int)]) ∧ Only (fun _ => False) w1 w') := fun w1 o1 => (HP.out s w1 o1).mono fun x w' g => by
    obtain ⟨ao, cap, he, g⟩ := g
    rw [← he1, ← hp1, ← hL1] at he
    exact ⟨ao, cap, he, g.out.2⟩
  have HP2 : Hid (∀ w1, Only (fun _ => False) w w1 → Calls Tryd.prog 5 #[.string t] w1 fun x w' => ∃ ao cap, x = .returned (.tuple #[.slice ao L2 cap, .int .i64 (p2 : Int), .int .i64 (e2 : Int)]) ∧ Only (fun _ => False) w1 w') := fun w1 o1 => (HP.out t w1 o1).mono fun x w' g => by
    obtain ⟨ao, cap, he, g⟩ := g
    rw [← he2, ← hp2, ← hL2] at he
    exact ⟨ao, cap, he, g.out.2⟩
  have h0 : e1 = 0 ∨ L1 = 0 := by
    rcases mpS_err s with g | g
    · exact .inl (by omega)
    · exact .inr (by rw [hL1, g]; rfl)
  rw [← he1] at h1
  have h9 := (mpS_le s).2
  rw [← he1] at h9
  clear hp1 hp2 hL1 hL2 he1 he2 HP
  by_cases hz : e1 = 0
  · subst hz
    have i1 : (65536 : Int) ≤ (s.size : Int) + (t.size : Int) := by omega
    have HI : Hid ((65536 : Int) ≤ (s.size : Int) + (t.size : Int)) := i1
    clear h0 h1 h9
    go_enter Tryd.func3, Tryd.ntmps3
    go_wp2_with fail
    refine (show Calls Tryd.prog 4 _ _ _ from HA.out).mono ?_
    rintro e w1 ⟨rfl, o1⟩
    have O1 : Hid (Only (fun _ => False) w w1) := o1
    clear HA o1
    go_wp2_with fail
    refine (show Calls Tryd.prog 5 _ _ _ from HP1.out _ O1.out).mono ?_
    rintro e w2 ⟨ao1, cap1, rfl, g2⟩
    have O2 : Hid (Only (fun _ => False) w w2) := O1.out.trans g2 (fun _ _ g => g)
    clear HP1 O1 g2
    go_wp2_with fail
    refine (show Calls Tryd.prog 5 _ _ _ from HP2.out _ O2.out).mono ?_
    rintro e w3 ⟨ao2, cap2, rfl, g3⟩
    have O3 : Hid (Only (fun _ => False) w w3) := O2.out.trans g3 (fun _ _ g => g)
    clear HP2 O2 g3
    go_wp2
    all_goals
      go_ret
      exact ⟨by simp [*], O3.out⟩
  · have hL0 : L1 = 0 := by omega
    subst hL0
    have b2 : ((e1 : Int) == 0) = false := by simp [hz]
    have b3 : ((e1 : Int) != 0) = true := by simp [hz]
    have i1 : (0 : Int) ≤ (p1 : Int) := by omega
    clear h0 h1
    go_enter Tryd.func3, Tryd.ntmps3
    go_wp2_with fail
    refine (show Calls Tryd.prog 4 _ _ _ from HA.out).mono ?_
    rintro e w1 ⟨rfl, o1⟩
    have O1 : Hid (Only (fun _ => False) w w1) := o1
    clear HA o1
    go_wp2_with fail
    refine (show Calls Tryd.prog 5 _ _ _ from HP1.out _ O1.out).mono ?_
    rintro e w2 ⟨ao1, cap1, rfl, g2⟩
    have O2 : Hid (Only (fun _ => False) w w2) := O1.out.trans g2 (fun _ _ g => g)
    clear HP1 O1 g2
    go_wp2_with fail
    refine (show Calls Tryd.prog 5 _ _ _ from HP2.out _ O2.out).mono ?_
    rintro e w3 ⟨ao2, cap2, rfl, g3⟩
    have O3 : Hid (Only (fun _ => False) w w3) := O2.out.trans g3 (fun _ _ g => g)
    clear HP2 O2 g3
    go_wp2
    all_goals
      go_ret
      exact ⟨by simp [*], O3.out⟩
theorem lf_step (s : ByteArray) (c : Nat) (h : c < s.size) : lfN (s.data.toList.take (c + 1)) = lfN (s.data.toList.take c) + (if (((s[c]'h).toNat : Int) == 10) = true then 1 else 0) := by
  have hl : c < s.data.toList.length := by rw [Array.length_toList]; exact h
  have e : s.data.toList.take (c + 1) = s.data.toList.take c ++ [s[c]'h] := by
    rw [List.take_add_one, List.getElem?_eq_getElem hl]
    rfl
  rw [e, lfN_snoc]
  have hb : (((s[c]'h).toNat : Int) == 10) = true ↔ s[c]'h = 10 := by
    constructor
    · intro g
      have g2 : (s[c]'h).toNat = 10 := by have := eq_of_beq g; omega
      exact UInt8.toNat_inj.1 (by rw [g2]; rfl)
    · intro g
      rw [g]
      rfl
  simp only [hb]
set_option maxRecDepth 100000 in
set_option maxHeartbeats 8000000 in
theorem mjoins_good (s t : ByteArray) (w : World) (hE : Evd w) (h0 : (mpS s).2.2 = 0) (hsz : s.size + t.size < 65536) : Calls Tryd.prog 3 #[.string s, .string t] w fun e w' => e = .returned (.bool true) ∧ Only (fun _ => False) w w' := by
  have HA : Hid (Calls Tryd.prog 4 #[] w fun e w' => e = .returned (.bool true) ∧ Only (fun _ => False) w w') := mawake_any w hE
  have HP : Hid (∀ S w1, Only (fun _ => False) w w1 → Calls Tryd.prog 5 #[.string S] w1 (MpP S w1)) := fun S w1 o1 => mparse_any S w1 (hE.keep o1 (fun g => g) (fun g => g))
  clear hE
  have hj := mpS_join s t h0 hsz
  obtain ⟨J, hJ⟩ : ∃ J, J = joinB s t := ⟨_, rfl⟩
  rw [← hJ] at hj
  obtain ⟨S1, hS1⟩ : ∃ S1, S1 = s ++ ⟨#[10]⟩ := ⟨_, rfl⟩
  have hzS : S1.size = s.size + 1 := by rw [hS1, ByteArray.size_append]; rfl
  have a1 : ∀ W : World, (Op.stringOp .add s ⟨#[10]⟩).run Tryd.prog W = .ok (.string S1) W := fun W => add_str2 W hS1.symm (by omega) (by show 1 ≤ 1000000; omega)
  have a2 : ∀ W : World, (Op.stringOp .add S1 t).run Tryd.prog W = .ok (.string J) W := fun W => add_str2 W (by rw [hJ, hS1]; rfl) (by omega) (by omega)
  obtain ⟨p1, hp1⟩ : ∃ p, p = (mpS s).2.1 := ⟨_, rfl⟩
  obtain ⟨p2, hp2⟩ : ∃ p, p = (mpS t).2.1 := ⟨_, rfl⟩
  obtain ⟨p3, hp3⟩ : ∃ p, p = (mpS J).2.1 := ⟨_, rfl⟩
  obtain ⟨L1, hL1⟩ : ∃ p, p = (mpS s).1.length := ⟨_, rfl⟩
  obtain ⟨L2, hL2⟩ : ∃ p, p = (mpS t).1.length := ⟨_, rfl⟩
  obtain ⟨L3, hL3⟩ : ∃ p, p = (mpS J).1.length := ⟨_, rfl⟩
  obtain ⟨e2, he2⟩ : ∃ p, p = (mpS t).2.2 := ⟨_, rfl⟩
  obtain ⟨e3, he3⟩ : ∃ p, p = (mpS J).2.2 := ⟨_, rfl⟩
  have HP1 : Hid (∀ w1, Only (fun _ => False) w w1 → Calls Tryd.prog 5 #[.string s] w1 fun x w' => ∃ ao cap, x = .returned (.tuple #[.slice ao L1 cap, .int .i64 (p1 : Int), .int .i64 0]) ∧ Hid (GrAt Liv 34 3 McP w' w1.heap.size (.slice ao L1 cap) (mpS s).1 ∧ Only (fun _ => False) w1 w')) := fun w1 o1 => (HP.out s w1 o1).mono fun x w' g => by
    obtain ⟨ao, cap, he, g⟩ := g
    rw [h0, ← hp1, ← hL1] at he
    rw [← hL1] at g
    exact ⟨ao, cap, he, g⟩
  have HP2 : Hid (∀ w1, Only (fun _ => False) w w1 → Calls Tryd.prog 5 #[.string t] w1 fun x w' => ∃ ao cap, x = .returned (.tuple #[.slice ao L2 cap, .int .i64 (p2 : Int), .int .i64 (e2 : Int)]) ∧ Hid (GrAt Liv 34 3 McP w' w1.heap.size (.slice ao L2 cap) (mpS t).1 ∧ Only (fun _ => False) w1 w')) := fun w1 o1 => (HP.out t w1 o1).mono fun x w' g => by
    obtain ⟨ao, cap, he, g⟩ := g
    rw [← he2, ← hp2, ← hL2] at he
    rw [← hL2] at g
    exact ⟨ao, cap, he, g⟩
  have HP3 : Hid (∀ w1, Only (fun _ => False) w w1 → Calls Tryd.prog 5 #[.string J] w1 fun x w' => ∃ ao cap, x = .returned (.tuple #[.slice ao L3 cap, .int .i64 (p3 : Int), .int .i64 (e3 : Int)]) ∧ Hid (GrAt Liv 34 3 McP w' w1.heap.size (.slice ao L3 cap) (mpS J).1 ∧ Only (fun _ => False) w1 w')) := fun w1 o1 => (HP.out J w1 o1).mono fun x w' g => by
    obtain ⟨ao, cap, he, g⟩ := g
    rw [← he3, ← hp3, ← hL3] at he
    rw [← hL3] at g
    exact ⟨ao, cap, he, g⟩
  have hle := mpS_le t
  rw [← hp2, ← he2] at hle
  have HJ : Hid (mpS J = if e2 = 0 then ((mpS s).1 ++ (mpS t).1, 0, 0) else ([], p2 + (lfN s.data.toList + 1), e2)) := by
    rw [hp2, he2]
    exact hj
  have HLL : Hid (L1 = (mpS s).1.length ∧ L2 = (mpS t).1.length ∧ L3 = (mpS J).1.length ∧ p3 = (mpS J).2.1 ∧ e3 = (mpS J).2.2 ∧ p2 ≤ 65537 ∧ e2 ≤ 11) := ⟨hL1, hL2, hL3, hp3, he3, hle⟩
  have i1 : decide ((65536 : Int) ≤ (s.size : Int) + (t.size : Int)) = false := decide_eq_false (by omega)
  have hs : s.size ≤ 140737488355328 := by omega
  have ht : t.size ≤ 140737488355328 := by omega
  have i2 : s.size ≤ 65535 := by omega
  have HZ : Hid (s.size ≤ 65535) := i2
  have i3 : t.size ≤ 65535 := by omega
  have HT : Hid (t.size ≤ 65535) := i3
  clear hj hJ hS1 hzS hp1 hp2 hp3 hL1 hL2 hL3 he2 he3 HP h0 hsz hle i2 i3
  go_enter Tryd.func3, Tryd.ntmps3
  go_wp2_with fail
  refine (show Calls Tryd.prog 4 _ _ _ from HA.out).mono ?_
  rintro e w1 ⟨rfl, o1⟩
  have O1 : Hid (Only (fun _ => False) w w1) := o1
  clear HA o1
  go_wp2_with fail
  refine (show Calls Tryd.prog 5 _ _ _ from HP1.out _ O1.out).mono ?_
  rintro e w2 ⟨ao1, cap1, rfl, g2⟩
  have O2 : Hid (Only (fun _ => False) w w2) := O1.out.trans g2.out.2 (fun _ _ g => g)
  have F2 : Hid (∃ B, GrAt Liv 34 3 McP w2 B (.slice ao1 L1 cap1) (mpS s).1) := ⟨_, g2.out.1⟩
  clear HP1 O1 g2
  go_wp2_with fail
  refine (show Calls Tryd.prog 5 _ _ _ from HP2.out _ O2.out).mono ?_
  rintro e w3 ⟨ao2, cap2, rfl, g3⟩
  have O3 : Hid (Only (fun _ => False) w w3) := O2.out.trans g3.out.2 (fun _ _ g => g)
  have F3 : Hid ((∃ B, GrAt Liv 34 3 McP w3 B (.slice ao1 L1 cap1) (mpS s).1) ∧ ∃ B, GrAt Liv 34 3 McP w3 B (.slice ao2 L2 cap2) (mpS t).1) := ⟨by obtain ⟨B, hB⟩ := F2.out; exact ⟨B, hB.only bk_liv el_mc g3.out.2 (fun _ _ _ h => h)⟩, ⟨_, g3.out.1⟩⟩
  clear HP2 O2 F2 g3
  go_wp2_with fail
  refine (show Calls Tryd.prog 5 _ _ _ from HP3.out _ O3.out).mono ?_
  rintro e w4 ⟨ao3, cap3, rfl, g4⟩
  have O4 : Hid (Only (fun _ => False) w w4) := O3.out.trans g4.out.2 (fun _ _ g => g)
  have F4 : Hid ((∃ B, GrAt Liv 34 3 McP w4 B (.slice ao1 L1 cap1) (mpS s).1) ∧ (∃ B, GrAt Liv 34 3 McP w4 B (.slice ao2 L2 cap2) (mpS t).1) ∧ ∃ B, GrAt Liv 34 3 McP w4 B (.slice ao3 L3 cap3) (mpS J).1) := by
    obtain ⟨⟨B, hB⟩, ⟨C, hC⟩⟩ := F3.out
    exact ⟨⟨B, hB.only bk_liv el_mc g4.out.2 (fun _ _ _ h => h)⟩, ⟨C, hC.only bk_liv el_mc g4.out.2 (fun _ _ _ h => h)⟩, ⟨_, g4.out.1⟩⟩
  clear HP3 O3 F3 g4 a1 a2
  go_wp2
  go_loopw [14, 15] (fun r14 r15 wr => ∃ c : Nat, r14 = .int .i64 ((lfN (s.data.toList.take c) + 1 : Nat) : Int) ∧ r15 = .int .i64 (c : Int) ∧ c ≤ s.size ∧ Hid (Only (fun _ => False) w4 wr)) (fun _ r15 _ => s.size - mnU r15)
  case atStart => exact ⟨0, rfl, rfl, Nat.zero_le _, Only.refl _ _⟩
  case round =>
    obtain ⟨c, rfl, rfl, hc, HC⟩ := hrel
    obtain ⟨w5, hw5⟩ : ∃ w5, w5 = wr := ⟨_, rfl⟩
    rw [← hw5] at HC ⊢
    clear hw5
    by_cases hcs : c < s.size
    · have i5 : (c : Int) < (s.size : Int) := by omega
      have i6 : (0 : Int) ≤ (c : Int) := by omega
      have hst := lf_step s c hcs
      have hlf : lfN (s.data.toList.take c) ≤ 65535 := by
        have h1 := lfN_le (s.data.toList.take c)
        have h2 := HZ.out
        rw [List.length_take] at h1
        omega
      obtain ⟨N, hN⟩ : ∃ N, N = lfN (s.data.toList.take c) := ⟨_, rfl⟩
      rw [← hN] at hst hlf ⊢
      have HST : Hid (c + 1 ≤ s.size ∧ c < s.size) := ⟨hcs, hcs⟩
      obtain ⟨bb, hbb⟩ : ∃ bb, bb = (((s[c]'hcs).toNat : Int) == 10) := ⟨_, rfl⟩
      have hbb2 := hbb.symm
      rw [← hbb] at hst
      cases bb with
      | true =>
        have HN2 : Hid (lfN (s.data.toList.take (c + 1)) = N + 1) := by show _ = _; rw [hst]; rfl
        clear hst hN hbb HJ HLL F4 O4
        go_wp2_with fail
        refine ⟨⟨c + 1, ?_, by go_num, HST.out.1, HC⟩, ?_⟩
        · rw [HN2.out]
          go_num
        · simp only [mnU]; have := HST.out.2; omega
      | false =>
        have HN2 : Hid (lfN (s.data.toList.take (c + 1)) = N) := by show _ = _; rw [hst]; rfl
        clear hst hN hbb HJ HLL F4 O4
        go_wp2_with fail
        refine ⟨⟨c + 1, ?_, by go_num, HST.out.1, HC⟩, ?_⟩
        · rw [HN2.out]
        · simp only [mnU]; have := HST.out.2; omega
    · obtain rfl : c = s.size := by omega
      have i5 : ¬ (s.size : Int) < (s.size : Int) := by omega
      have hlf : lfN s.data.toList ≤ 65535 := by
        have h1 := lfN_le s.data.toList
        have h2 := HZ.out
        rw [Array.length_toList] at h1
        have h3 : s.data.size = s.size := rfl
        omega
      have htk : s.data.toList.take s.size = s.data.toList := List.take_of_length_le (by rw [Array.length_toList]; exact Nat.le_refl _)
      rw [htk]
      obtain ⟨N, hN⟩ : ∃ N, N = lfN s.data.toList := ⟨_, rfl⟩
      rw [← hN] at hlf HJ ⊢
      obtain ⟨hL1, hL2, hL3, hp3, he3, hp2, he2⟩ := HLL.out
      clear hN htk hc hcs
      by_cases h2 : e2 = 0
      · have hj : mpS J = ((mpS s).1 ++ (mpS t).1, 0, 0) := by rw [HJ.out, if_pos h2]
        rw [hj] at hp3 he3
        simp only at hp3 he3
        subst hp3
        subst he3
        subst h2
        have HJ1 : Hid ((mpS J).1 = (mpS s).1 ++ (mpS t).1) := by show _ = _; rw [hj]
        clear hj
        have O5 : Hid (Only (fun _ => False) w w5) := O4.out.trans HC.out (fun _ _ g => g)
        have HOf : Hid (∀ (X : ByteArray) (ao : Option Addr) (L cap : Nat) w6, L = (mpS X).1.length → (∃ B, GrAt Liv 34 3 McP w4 B (.slice ao L cap) (mpS X).1) → Only (fun _ => False) w5 w6 → Calls Tryd.prog 7 #[.slice ao L cap] w6 fun e w' => ∃ a c, e = .returned (.slice a L c) ∧ Hid (GrAt Ltb 43 3 RmP w' w6.heap.size (.slice a L c) (mpS X).1 ∧ Only (fun _ => False) w6 w')) := fun X ao L cap w6 hL ⟨B, hB⟩ o6 => by
          subst hL
          obtain ⟨S, h1, h2⟩ := (hB.only bk_liv el_mc (HC.out.trans o6 (fun _ _ g => g)) (fun _ _ _ h => h)).read bk_liv el_mc
          have hwf := mpS_wf X
          exact of_any h1 (fun b hb => (h2 b hb).2.1) (by omega) hwf.2
        have HF1 : Hid (∀ w6, Only (fun _ => False) w5 w6 → Calls Tryd.prog 7 #[.slice ao1 L1 cap1] w6 fun e w' => ∃ a c, e = .returned (.slice a L1 c) ∧ Hid (GrAt Ltb 43 3 RmP w' w6.heap.size (.slice a L1 c) (mpS s).1 ∧ Only (fun _ => False) w6 w')) := fun w6 o6 => HOf.out s ao1 L1 cap1 w6 hL1 F4.out.1 o6
        have HF2 : Hid (∀ w6, Only (fun _ => False) w5 w6 → Calls Tryd.prog 7 #[.slice ao2 L2 cap2] w6 fun e w' => ∃ a c, e = .returned (.slice a L2 c) ∧ Hid (GrAt Ltb 43 3 RmP w' w6.heap.size (.slice a L2 c) (mpS t).1 ∧ Only (fun _ => False) w6 w')) := fun w6 o6 => HOf.out t ao2 L2 cap2 w6 hL2 F4.out.2.1 o6
        have HF3 : Hid (∀ w6, Only (fun _ => False) w5 w6 → Calls Tryd.prog 7 #[.slice ao3 L3 cap3] w6 fun e w' => ∃ a c, e = .returned (.slice a L3 c) ∧ Hid (GrAt Ltb 43 3 RmP w' w6.heap.size (.slice a L3 c) (mpS J).1 ∧ Only (fun _ => False) w6 w')) := fun w6 o6 => HOf.out J ao3 L3 cap3 w6 hL3 F4.out.2.2 o6
        have R5 : Hid (Only (fun _ => False) w5 w5) := Only.refl _ _
        clear HOf F4 HC HJ HLL hL1 hL2 hL3 O4 HZ HT hp2 he2
        go_wp2_with fail
        refine (show Calls Tryd.prog 7 _ _ _ from HF3.out _ R5.out).mono ?_
        rintro e w6 ⟨ao4, cap4, rfl, g6⟩
        have G6 : Hid (GrAt Ltb 43 3 RmP w6 w5.heap.size (.slice ao4 L3 cap4) (mpS J).1 ∧ Only (fun _ => False) w5 w6) := g6.out
        have HO56 : Hid (Only (fun _ => False) w5 w6) := g6.out.2
        clear g6 HF3
        go_wp2_with fail
        refine (show Calls Tryd.prog 7 _ _ _ from HF1.out _ G6.out.2).mono ?_
        rintro e w7 ⟨ao5, cap5, rfl, g7⟩
        have G7 : Hid (GrAt Ltb 43 3 RmP w7 w5.heap.size (.slice ao4 L3 cap4) (mpS J).1 ∧ GrAt Ltb 43 3 RmP w7 w6.heap.size (.slice ao5 L1 cap5) (mpS s).1 ∧ Only (fun _ => False) w5 w7 ∧ w6.heap.size ≤ w7.heap.size) := ⟨G6.out.1.only bk_lt el_rm g7.out.2 (fun _ _ _ h => h), g7.out.1, G6.out.2.trans g7.out.2 (fun _ _ g => g), g7.out.2.size⟩
        have HB7 : Hid ((∃ S, GvAt 3 RmP w6 S (.slice ao4 L3 cap4) (mpS J).1 ∧ ∀ b, S b → b < w6.heap.size)) := by
          obtain ⟨S, h1, h2⟩ := G6.out.1.read bk_lt el_rm
          exact ⟨S, h1, fun b hb => (h2 b hb).2⟩
        have O67 : Hid (Only (fun _ => False) w6 w7) := g7.out.2
        clear g7 HF1 G6
        go_wp2_with fail
        refine (show Calls Tryd.prog 7 _ _ _ from HF2.out _ G7.out.2.2.1).mono ?_
        rintro e w8 ⟨ao6, cap6, rfl, g8⟩
        have V1 := G7.out.2.1.only bk_lt el_rm g8.out.2 (fun _ _ _ h => h)
        have o68 : Only (fun _ => False) w6 w8 := O67.out.trans g8.out.2 (fun _ _ g => g)
        have wa := mpS_wf s
        have wb := mpS_wf t
        obtain ⟨v', w9, hr, hf, ho⟩ := gr_rows bk_lt el_rm rm_info Tryd.underlying28 (by decide) (by decide) V1 g8.out.1 G7.out.2.2.2 (fun k hk => (G7.out.2.1.lt k hk).2) o68.size (by omega)
        obtain ⟨ao7, cap7, hv⟩ := hf.form
        subst hv
        rw [← HJ1.out] at hr hf
        obtain ⟨L4, hL4⟩ : ∃ L, L = (mpS J).1.length := ⟨_, rfl⟩
        rw [← hL4] at hr hf
        have HSF : Hid (Calls Tryd.prog 6 #[.slice ao4 L3 cap4, .slice ao7 L4 cap7] w9 fun e w' => e = .returned (.bool true) ∧ Only (fun _ => False) w9 w') := by
          obtain ⟨S, hA, hAb⟩ := HB7.out
          obtain ⟨S', hB, _⟩ := hf.read bk_lt el_rm
          have o69 : Only (fun k => w6.heap.size ≤ k) w6 w9 := (o68.mono (fun _ _ g => g.elim)).trans ho (fun _ _ g => g)
          have hwf := mpS_wf J
          exact samemf_any (GvAt.only el_rm hA o69 (fun b hb e => by have := hAb b hb; omega)) hB (by omega) (fun m hm => ⟨(hwf.2 m hm).1, (hwf.2 m hm).2.1, fun fm hfm => ((hwf.2 m hm).2.2 fm hfm).2.1⟩)
        have O9 : Hid (Only (fun _ => False) w w9) := (O5.out.trans (G7.out.2.2.1.trans g8.out.2 (fun _ _ g => g)) (fun _ _ g => g)).trans ho (fun k hk e => by
          have h1 := (O5.out.trans G7.out.2.2.1 (fun _ _ g => g)).size
          have h2 := o68.size
          have h3 := O5.out.size
          have h4 : w5.heap.size ≤ w6.heap.size := HO56.out.size
          omega)
        clear G7 HB7 O67 g8 V1 o68 wa wb hf ho HF2 hL4 HJ1 R5 O5
        go_wp2_with (at_builtin; refine wpList_append_runG _ _ 28 (by rfl) (by rfl) _ _ (.slice ao7 L4 cap7) (by rfl) (by rfl) hr ?_)
        clear hr
        refine (show Calls Tryd.prog 6 _ _ _ from HSF.out).mono ?_
        rintro e w10 ⟨rfl, o10⟩
        have O10 : Hid (Only (fun _ => False) w w10) := O9.out.trans o10 (fun _ _ g => g)
        clear o10 O9 HSF
        go_wp2
        go_ret
        exact ⟨rfl, O10.out⟩
      · have hj : mpS J = ([], p2 + (N + 1), e2) := by rw [HJ.out, if_neg h2]
        rw [hj] at hp3 he3
        simp only at hp3 he3
        subst hp3
        subst he3
        have b2 : ((e3 : Int) == 0) = false := by simp [h2]
        have b3 : ((e3 : Int) != 0) = true := by simp [h2]
        have O5 : Hid (Only (fun _ => False) w w5) := O4.out.trans HC.out (fun _ _ g => g)
        have b4 : (((p2 + (N + 1) : Nat) : Int) == (p2 : Int) + ((N + 1 : Nat) : Int)) = true := by simp
        clear hj HJ HLL F4 O4 HC HZ HT hL1 hL2 hL3 h2
        go_wp2
        all_goals
          go_ret
          refine ⟨?_, O5.out⟩
          simp
theorem mjoins_walk (s t : ByteArray) (hs : s.size ≤ 140737488355328) (ht : t.size ≤ 140737488355328) (w : World) (hE : Evd w) : Calls Tryd.prog 3 #[.string s, .string t] w fun e w' => e = .returned (.bool true) ∧ Below w.heap.size w w' := by
  by_cases h : (mpS s).2.2 ≠ 0 ∨ 65536 ≤ s.size + t.size
  · exact (mjoins_bad s t w hE hs ht h).mono fun e w' g => ⟨g.1, only_below g.2⟩
  · exact (mjoins_good s t w hE (by omega) (by omega)).mono fun e w' g => ⟨g.1, only_below g.2⟩
end Go.Proofs.YtmmggnmgimgdfaaDoor
