/- Trees of the document in memory. Values as trees: Tree, ItemTree. Many values as trees: Trees, ItemTrees. A definition as the document has it: DefTree. Forms as the document has them: FormTrees. -/
import Derived.Test.YtmmggnmgimgdfaaDoorGaj
namespace Go.Proofs.YtmmggnmgimgdfaaDoor
open Go.RowKit
set_option linter.unusedSimpArgs false
set_option linter.unusedVariables false
/-- the number and the text of the document's tree -/
def vn (t : Tre) : Int := if t.k = 1 then t.n else if t.k = 3 then (if t.n != 0 then 1 else 0) else 0
def vs (t : Tre) : ByteArray := if t.k = 2 ∨ t.k = 7 then t.s else ⟨#[]⟩
/-- lists of at most 4096 parts -/
def WfT : Nat → Tre → Prop
  | 0, _ => False
  | d + 1, t => t.l.length ≤ 4096 ∧ ∀ x ∈ t.l, WfT d x
theorem WfT.mono : ∀ {d d' : Nat} {t : Tre}, d ≤ d' → WfT d t → WfT d' t
  | 0, _, _, _, h => h.elim
  | d + 1, 0, t, hd, h => by omega
  | d + 1, e + 1, t, hd, h => ⟨h.1, fun x hx => (h.2 x hx).mono (by omega)⟩
theorem prs_wf (n : Int) : ∀ f m q o z l r z', prs n f m q o z = .ok (l, r, z') → z ≤ 1024 → q.length ≤ 4096 → ∀ x ∈ l, WfT f x := by
  intro f
  induction f with
  | zero => intro m q o z l r z' h; simp [prs] at h
  | succ f ih =>
    intro m q o z l r z' h hz hq
    match m with
    | 0 =>
      simp only [prs] at h
      cases q with
      | nil => simp at h
      | cons t q =>
        simp only [List.length_cons] at hq
        simp only at h
        repeat' split at h
        all_goals first
          | (simp at h; done)
          | (simp only [Except.ok.injEq, Prod.mk.injEq] at h; obtain ⟨rfl, rfl, rfl⟩ := h; intro x hx; simp only [List.mem_cons, List.not_mem_nil, or_false] at hx; subst hx; exact ⟨Nat.zero_le _, fun x hx => by simp at hx⟩)
          | skip
        all_goals
          rename_i hp
          simp only [Except.ok.injEq, Prod.mk.injEq] at h; obtain ⟨rfl, rfl, rfl⟩ := h
          have h1 := prs_ok n _ _ _ _ _ _ _ _ hp (by omega)
          have h2 := ih _ _ _ _ _ _ _ hp (by omega) (by omega)
          intro x hx
          simp only [List.mem_cons, List.not_mem_nil, or_false] at hx
          subst hx
          exact ⟨by dsimp only; omega, h2⟩
    | 1 =>
      simp only [prs] at h
      cases q with
      | nil => simp at h
      | cons t q =>
        simp only at h
        repeat' split at h
        · simp at h
        · simp only [Except.ok.injEq, Prod.mk.injEq] at h; obtain ⟨rfl, rfl, rfl⟩ := h; intro x hx; simp only [List.mem_cons, List.not_mem_nil, or_false] at hx; subst hx; exact ⟨Nat.zero_le _, fun x hx => by simp at hx⟩
        · exact fun x hx => (ih _ _ _ _ _ _ _ h hz hq x hx).mono (by omega)
    | m + 2 =>
      simp only [prs] at h
      cases q with
      | nil => simp at h
      | cons t q =>
        simp only at h
        repeat' split at h
        · simp only [Except.ok.injEq, Prod.mk.injEq] at h; obtain ⟨rfl, rfl, rfl⟩ := h; intro x hx; simp at hx
        · simp at h
        · simp at h
        · rename_i l1 r1 z1 hp _ l2 r2 z2 hp2
          simp only [Except.ok.injEq, Prod.mk.injEq] at h; obtain ⟨rfl, rfl, rfl⟩ := h
          obtain ⟨h1, h2, h3, h4, h5⟩ := prs_ok n _ _ _ _ _ _ _ _ hp hz
          intro x hx
          rw [List.mem_append] at hx
          rcases hx with hx | hx
          · exact (ih _ _ _ _ _ _ _ hp hz hq x hx).mono (by omega)
          · exact (ih _ _ _ _ _ _ _ hp2 h3 (by omega) x hx).mono (by omega)
/-- the slice lv holds the parts of the tree t as the document has them -/
def VtAt (w : World) (S : Nat → Prop) : Nat → Tre → Value → Prop
  | 0, _, _ => False
  | d + 1, t, lv => ∃ ao cap, lv = .slice ao t.l.length cap ∧ t.l.length ≤ cap ∧ ∀ (i : Nat) (x : Tre), t.l[i]? = some x → ∃ g k lx, ao = some ⟨g, k, none⟩ ∧ S g ∧ (w.cell? ⟨g, k + i * 4, none⟩ = some (.int .i64 (x.k : Int)) ∧ w.cell? ⟨g, k + i * 4 + 1, none⟩ = some (.int .i64 (vn x)) ∧ w.cell? ⟨g, k + i * 4 + 2, none⟩ = some (.string (vs x)) ∧ w.cell? ⟨g, k + i * 4 + 3, none⟩ = some lx) ∧ VtAt w S d x lx
theorem VtAt.step {w w' : World} {S S' : Nat → Prop} (hS : ∀ b, S b → S' b) (hk : ∀ (a : Addr) u, S a.block → w.cell? a = some u → w'.cell? a = some u) : ∀ {d d' : Nat} {t : Tre} {v : Value}, d ≤ d' → VtAt w S d t v → VtAt w' S' d' t v := by
  intro d
  induction d with
  | zero => intro d' t v _ h; exact h.elim
  | succ d ih =>
    intro d' t v hd h
    obtain ⟨e, rfl⟩ : ∃ e, d' = e + 1 := ⟨d' - 1, by omega⟩
    obtain ⟨ao, cap, hv, hc, hl⟩ := h
    refine ⟨ao, cap, hv, hc, fun i x hx => ?_⟩
    obtain ⟨g, k, lx, ha, hg, ⟨c0, c1, c2, c3⟩, ht⟩ := hl i x hx
    exact ⟨g, k, lx, ha, hS g hg, ⟨hk _ _ hg c0, hk _ _ hg c1, hk _ _ hg c2, hk _ _ hg c3⟩, ih (by omega) ht⟩
def NvAt (w : World) (B d : Nat) (t : Tre) (lv : Value) : Prop := ∃ S, VtAt w S d t lv ∧ ∀ b, S b → B ≤ b ∧ b < w.heap.size
theorem NvAt.only {w w' : World} {B d : Nat} {t : Tre} {lv : Value} {bs : Nat → Prop} (h : NvAt w B d t lv) (o : Only bs w w') (hb : ∀ b, B ≤ b → ¬ bs b) : NvAt w' B d t lv := by
  obtain ⟨S, ht, hS⟩ := h
  exact ⟨S, ht.step (fun _ g => g) (fun a u hs hc => o.cell hc (hb _ (hS _ hs).1)) (Nat.le_refl _), fun b hbS => ⟨(hS b hbS).1, Nat.lt_of_lt_of_le (hS b hbS).2 o.size⟩⟩
theorem NvAt.lower {w : World} {B C d : Nat} {t : Tre} {lv : Value} (h : NvAt w B d t lv) (hC : C ≤ B) : NvAt w C d t lv := by
  obtain ⟨S, ht, hS⟩ := h
  exact ⟨S, ht, fun b hbS => ⟨Nat.le_trans hC (hS b hbS).1, (hS b hbS).2⟩⟩
theorem NvAt.deep {w : World} {B d d' : Nat} {t : Tre} {lv : Value} (h : NvAt w B d t lv) (hd : d ≤ d') : NvAt w B d' t lv := by
  obtain ⟨S, ht, hS⟩ := h
  exact ⟨S, ht.step (fun _ g => g) (fun _ _ _ g => g) hd, hS⟩
theorem nv_nil {w : World} {B d : Nat} {t : Tre} (h : t.l = []) : NvAt w B (d + 1) t (.slice none 0 0) :=
  ⟨fun _ => False, ⟨none, 0, by rw [h]; rfl, by rw [h]; exact Nat.zero_le _, fun i x hx => by rw [h] at hx; simp at hx⟩, fun b h => h.elim⟩
theorem NvAt.form {w : World} {B d : Nat} {t : Tre} {lv : Value} (h : NvAt w B d t lv) : ∃ ao cap, lv = .slice ao t.l.length cap := by
  obtain ⟨S, ht, _⟩ := h
  cases d with
  | zero => exact ht.elim
  | succ d => obtain ⟨ao, cap, hv, _⟩ := ht; exact ⟨ao, cap, hv⟩
/-- a row of the document's trees that was made since block B -/
def VrAt (w : World) (B d : Nat) (v : Value) (l : List Tre) : Prop :=
  ∃ us S, w.ownsRow B 77 4 v l.length us ∧ (∀ (j : Nat) (x : Tre), l[j]? = some x → ∃ lx, (us[j * 4]? = some (.int .i64 (x.k : Int)) ∧ us[j * 4 + 1]? = some (.int .i64 (vn x)) ∧ us[j * 4 + 2]? = some (.string (vs x)) ∧ us[j * 4 + 3]? = some lx) ∧ VtAt w S d x lx) ∧ ∀ b, S b → B ≤ b ∧ b < w.heap.size ∧ v.ownBlock ≠ some b
theorem vr_nil (w : World) (B d : Nat) : VrAt w B d (.slice none 0 0) [] :=
  ⟨[], fun _ => False, ⟨rfl, .inl ⟨rfl, rfl⟩⟩, fun j x h => by simp at h, fun b h => h.elim⟩
theorem VrAt.form {w : World} {B d : Nat} {v : Value} {l : List Tre} (h : VrAt w B d v l) : ∃ ao cap, v = .slice ao l.length cap := by
  obtain ⟨us, S, ho, _⟩ := h
  rcases ho.2 with ⟨h1, h2⟩ | ⟨g, cap, cur, h1, _⟩
  · exact ⟨_, _, by rw [h1, h2]⟩
  · exact ⟨_, _, h1⟩
theorem VrAt.only {w w' : World} {B d : Nat} {v : Value} {l : List Tre} {bs : Nat → Prop} (h : VrAt w B d v l) (o : Only bs w w') (hb : ∀ b, B ≤ b → ¬ bs b) : VrAt w' B d v l := by
  obtain ⟨us, S, ho, ht, hS⟩ := h
  refine ⟨us, S, o.owns ho (fun k hk => hb k (ho.lt k hk).1), fun j x hx => ?_, fun b hbS => ?_⟩
  · obtain ⟨lx, hu, h2⟩ := ht j x hx
    exact ⟨lx, hu, h2.step (fun _ g => g) (fun a u hs hc => o.cell hc (hb _ (hS _ hs).1)) (Nat.le_refl _)⟩
  · obtain ⟨h1, h2, h3⟩ := hS b hbS
    exact ⟨h1, Nat.lt_of_lt_of_le h2 o.size, h3⟩
theorem VrAt.snoc {w w' : World} {B C d : Nat} {v v' : Value} {l : List Tre} {t : Tre} {lv : Value} {us : List Value} {S : Nat → Prop} (hg : w.grownBy w' v.ownBlock) (ho : w.ownsRow B 77 4 v l.length us) (ht : ∀ (j : Nat) (x : Tre), l[j]? = some x → ∃ lx, (us[j * 4]? = some (.int .i64 (x.k : Int)) ∧ us[j * 4 + 1]? = some (.int .i64 (vn x)) ∧ us[j * 4 + 2]? = some (.string (vs x)) ∧ us[j * 4 + 3]? = some lx) ∧ VtAt w S d x lx) (hS : ∀ b, S b → B ≤ b ∧ b < w.heap.size ∧ v.ownBlock ≠ some b)
    (hn : NvAt w C d t lv) (hC : B ≤ C) (hv : ∀ k, v.ownBlock = some k → k < C) (ho' : w'.ownsRow B 77 4 v' (l.length + 1) (us ++ [.int .i64 (t.k : Int), .int .i64 (vn t), .string (vs t), lv])) (hat : v'.ownBlock = v.ownBlock ∨ v'.ownBlock = some w.heap.size) : VrAt w' B d v' (l ++ [t]) := by
  obtain ⟨S1, t1, s1⟩ := hn
  have oo : Only (fun k => v.ownBlock = some k) w w' := (Only.refl _ w).grown hg (fun k e _ => e)
  have a1 : ∀ b, S b → ¬ v.ownBlock = some b := fun b h => (hS b h).2.2
  have a2 : ∀ b, S1 b → ¬ v.ownBlock = some b := fun b h e => by have := hv b e; have := (s1 b h).1; omega
  have hl : us.length = l.length * 4 := ho.1
  refine ⟨_, fun b => S b ∨ S1 b, by simpa using ho', fun j x hx => ?_, fun b hb => ?_⟩
  · by_cases hj : j < l.length
    · rw [List.getElem?_append_left hj] at hx
      obtain ⟨lx, ⟨h0, h1, h2, h3⟩, h6⟩ := ht j x hx
      have ap : ∀ i u, us[i]? = some u → (us ++ [.int .i64 (t.k : Int), .int .i64 (vn t), .string (vs t), lv])[i]? = some u := fun i u hu => by
        rw [List.getElem?_append_left (List.getElem?_eq_some_iff.1 hu).1]; exact hu
      exact ⟨lx, ⟨ap _ _ h0, ap _ _ h1, ap _ _ h2, ap _ _ h3⟩, h6.step (fun _ g => .inl g) (fun a y hs hc => oo.cell hc (a1 _ hs)) (Nat.le_refl _)⟩
    · have hj2 : j < (l ++ [t]).length := (List.getElem?_eq_some_iff.1 hx).1
      have hj3 : j = l.length := by simp at hj2; omega
      subst hj3
      simp at hx
      subst hx
      have ap : ∀ i, (us ++ [.int .i64 (t.k : Int), .int .i64 (vn t), .string (vs t), lv])[l.length * 4 + i]? = ([.int .i64 (t.k : Int), .int .i64 (vn t), .string (vs t), lv] : List Value)[i]? := fun i => by
        rw [List.getElem?_append_right (by omega)]
        congr 1
        omega
      exact ⟨lv, ⟨ap 0, ap 1, ap 2, ap 3⟩, t1.step (fun _ g => .inr g) (fun a y hs hc => oo.cell hc (a2 _ hs)) (Nat.le_refl _)⟩
  · have h1 : B ≤ b ∧ b < w.heap.size ∧ v.ownBlock ≠ some b := by
      rcases hb with h | h
      · exact hS b h
      · exact ⟨Nat.le_trans hC (s1 b h).1, (s1 b h).2, a2 b h⟩
    refine ⟨h1.1, Nat.lt_of_lt_of_le h1.2.1 oo.size, ?_⟩
    rcases hat with e | e <;> rw [e]
    · exact h1.2.2
    · intro e2
      injection e2 with e2
      have := h1.2.1
      omega
/-- a row as the parts of a tree -/
theorem VrAt.tree {w : World} {B d : Nat} {v : Value} {l : List Tre} {t : Tre} (h : VrAt w B d v l) (e : t.l = l) : NvAt w B (d + 1) t v := by
  subst e
  obtain ⟨us, S, ho, ht, hS⟩ := h
  refine ⟨fun b => S b ∨ v.ownBlock = some b, ?_, fun b hb => ?_⟩
  · rcases ho.2 with ⟨rfl, h2⟩ | ⟨g, cap, cur, hv, hB, hg, hn, hcm, hcs, htk⟩
    · exact ⟨none, 0, by rw [h2], by omega, fun i x hx => by have := (List.getElem?_eq_some_iff.1 hx).1; omega⟩
    · refine ⟨some ⟨g, 0, none⟩, cap, hv, hn, fun i x hx => ?_⟩
      obtain ⟨lx, ⟨h0, h1, h2, h3⟩, h4⟩ := ht i x hx
      have hc : ∀ j u, us[j]? = some u → w.cell? ⟨g, 0 + j, none⟩ = some u := fun j u hu => by
        have := ho.cells (g := g) (by rw [hv]; rfl) j u hu
        rwa [addr_ad, ← Nat.zero_add j] at this
      exact ⟨g, 0, lx, rfl, .inr (by rw [hv]; rfl), ⟨hc _ _ h0, hc _ _ h1, hc _ _ h2, hc _ _ h3⟩, h4.step (fun _ g => .inl g) (fun _ _ _ g => g) (Nat.le_refl _)⟩
  · rcases hb with h | h
    · exact ⟨(hS b h).1, (hS b h).2.1⟩
    · exact ho.lt b h
/-- what a type assertion with two values answers -/
theorem as_hit (T xt : TypeId) (D : TypeDesc) (hD : Tryd.prog.underlying T = some D) (hn : ∀ m, D ≠ .interface m) (x : Value) (W : World) : (Instr.typeAssert (.iface T x) xt T true).run Tryd.prog W = .ok (.tuple #[x, .bool true]) W := by
  simp only [Instr.typeAssert, Sem.run_bind, run_underlying hD, Result.andThen_ok]
  cases D <;> simp_all
theorem as_miss (T U xt : TypeId) (D : TypeDesc) (hD : Tryd.prog.underlying U = some D) (hn : ∀ m, D ≠ .interface m) (hT : T ≠ U) (z : Value) (hz : ∀ W : World, (zeroValue U).run Tryd.prog W = .ok z W) (x : Value) (W : World) : (Instr.typeAssert (.iface T x) xt U true).run Tryd.prog W = .ok (.tuple #[z, .bool false]) W := by
  simp only [Instr.typeAssert, Sem.run_bind, run_underlying hD, Result.andThen_ok]
  cases D <;> simp_all
end Go.Proofs.YtmmggnmgimgdfaaDoor
namespace Go.Proofs.YtmmggnmgimgdfaaDoor
open Go.RowKit
set_option linter.unusedSimpArgs false
set_option linter.unusedVariables false
/-- what the trees of many are -/
def TsC (d F : Nat) (i : Bool) : Prop := ∀ (v : Value) (l : List Tre) (w : World) (S : Nat → Prop), SqAt w S d i v l → l.length ≤ 4096 → (∀ x ∈ l, ∃ e, WfT e x) → Calls Tryd.prog F #[v] w fun e w' => ∃ ao cap, e = .returned (.slice ao l.length cap) ∧ Hid (VrAt w' w.heap.size d (.slice ao l.length cap) l ∧ Only (fun _ => False) w w')
/-- what the tree of one is -/
def TeC (d F : Nat) (i : Bool) : Prop := ∀ (v : Value) (t : Tre) (w : World) (S : Nat → Prop), TrAt w S d i t v → (∃ e, WfT e t) → Calls Tryd.prog F #[v] w fun e w' => ∃ lv, e = .returned (.agg #[.int .i64 (t.k : Int), .int .i64 (vn t), .string (vs t), lv]) ∧ Hid (NvAt w' w.heap.size d t lv ∧ Only (fun _ => False) w w')
theorem results_v {fn : Func} {u : Tmp} (h : fn.results = #[.cell u 77]) (tmps : Array Value) (w : World) (B : Nat) {x y z r : Value} (h0 : w.cell? ⟨B, 0, none⟩ = some x) (h1 : w.cell? ⟨B, 1, none⟩ = some y) (h2 : w.cell? ⟨B, 2, none⟩ = some z) (h3 : w.cell? ⟨B, 3, none⟩ = some r) (ha : tmps.getD u undef = .pointer (some ⟨B, 0, none⟩)) :
    (results fn tmps).run Tryd.prog w = .ok (.agg #[x, y, z, r]) w := by
  have ha' : tmps[u]?.getD undef = .pointer (some ⟨B, 0, none⟩) := by simpa using ha
  simp [results, h, ha', asAddr, go_sem, loadVar, isAgg, Tryd.underlying77, h0, h1, h2, h3]
def vO : Obj := .cells #[.int .i64 0, .int .i64 0, .string ⟨#[]⟩, .slice none 0 0] 77
theorem only4 {w : World} {B : Nat} (x0 x1 x2 x3 : Value) : Only (fun b => b = B) w ((((w.setCell ⟨B, 0, none⟩ x0).setCell ⟨B, 1, none⟩ x1).setCell ⟨B, 2, none⟩ x2).setCell ⟨B, 3, none⟩ x3) :=
  ((((Only.refl (fun b => b = B) w).setCell ⟨B, 0, none⟩ _ (fun _ => rfl)).setCell ⟨B, 1, none⟩ _ (fun _ => rfl)).setCell ⟨B, 2, none⟩ _ (fun _ => rfl)).setCell ⟨B, 3, none⟩ _ (fun _ => rfl)
set_option maxRecDepth 100000 in
theorem zero_Int (W : World) : (zeroValue 116).run Tryd.prog W = .ok (.agg #[.int .i64 0]) W := by rfl
set_option maxRecDepth 100000 in
theorem zero_Str (W : World) : (zeroValue 118).run Tryd.prog W = .ok (.agg #[.string ⟨#[]⟩]) W := by rfl
set_option maxRecDepth 100000 in
theorem zero_Bool (W : World) : (zeroValue 120).run Tryd.prog W = .ok (.agg #[.bool false]) W := by rfl
set_option maxRecDepth 100000 in
theorem zero_List (W : World) : (zeroValue 123).run Tryd.prog W = .ok (.agg #[.slice none 0 0]) W := by rfl
set_option maxRecDepth 100000 in
theorem zero_Quot (W : World) : (zeroValue 126).run Tryd.prog W = .ok (.agg #[.slice none 0 0]) W := by rfl
set_option maxRecDepth 100000 in
theorem zero_Push (W : World) : (zeroValue 90).run Tryd.prog W = .ok (.agg #[.nilIface]) W := by rfl
set_option maxRecDepth 100000 in
theorem zero_Call (W : World) : (zeroValue 93).run Tryd.prog W = .ok (.agg #[.string ⟨#[]⟩]) W := by rfl
set_option maxRecDepth 100000 in
theorem tree_int (n : Int) (w : World) : Calls Tryd.prog 35 #[.iface 116 (.agg #[.int .i64 n])] w fun e w' => e = .returned (.agg #[.int .i64 1, .int .i64 n, .string ⟨#[]⟩, .slice none 0 0]) ∧ Only (fun _ => False) w w' := by
  have hInt := as_hit 116 88 _ Tryd.underlying116 (by intro m h; cases h)
  have O0 : Hid (Only (fun _ => False) w w) := Only.refl _ _
  go_enter Tryd.func35, Tryd.ntmps35
  go_wp2
  refine bodyPost_ret (results_v rfl _ _ w.heap.size (x := _) (y := _) (z := _) (r := _) ?_ ?_ ?_ ?_ rfl) rfl ⟨rfl, ?_⟩
  · simp [go_sem]
  · simp [go_sem]
  · simp [go_sem]
  · simp [go_sem]
  · first
      | exact ((O0.out.alloc _).alloc _)
      | exact (((((O0.out.alloc _).alloc _).setCell _ _ (fun h => absurd h (by simp))).setCell _ _ (fun h => absurd h (by simp))).setCell _ _ (fun h => absurd h (by simp))).setCell _ _ (fun h => absurd h (by simp))
set_option maxRecDepth 100000 in
theorem tree_str (x : ByteArray) (w : World) : Calls Tryd.prog 35 #[.iface 118 (.agg #[.string x])] w fun e w' => e = .returned (.agg #[.int .i64 2, .int .i64 0, .string x, .slice none 0 0]) ∧ Only (fun _ => False) w w' := by
  have mInt := as_miss 118 116 88 _ Tryd.underlying116 (by intro m h; cases h) (by decide) _ zero_Int
  have hStr := as_hit 118 88 _ Tryd.underlying118 (by intro m h; cases h)
  have O0 : Hid (Only (fun _ => False) w w) := Only.refl _ _
  go_enter Tryd.func35, Tryd.ntmps35
  go_wp2
  refine bodyPost_ret (results_v rfl _ _ w.heap.size (x := _) (y := _) (z := _) (r := _) ?_ ?_ ?_ ?_ rfl) rfl ⟨rfl, ?_⟩
  · simp [go_sem]
  · simp [go_sem]
  · simp [go_sem]
  · simp [go_sem]
  · first
      | exact ((O0.out.alloc _).alloc _)
      | exact (((((O0.out.alloc _).alloc _).setCell _ _ (fun h => absurd h (by simp))).setCell _ _ (fun h => absurd h (by simp))).setCell _ _ (fun h => absurd h (by simp))).setCell _ _ (fun h => absurd h (by simp))
set_option maxRecDepth 100000 in
theorem tree_yes  (w : World) : Calls Tryd.prog 35 #[.iface 120 (.agg #[.bool true])] w fun e w' => e = .returned (.agg #[.int .i64 3, .int .i64 1, .string ⟨#[]⟩, .slice none 0 0]) ∧ Only (fun _ => False) w w' := by
  have mInt := as_miss 120 116 88 _ Tryd.underlying116 (by intro m h; cases h) (by decide) _ zero_Int
  have mStr := as_miss 120 118 88 _ Tryd.underlying118 (by intro m h; cases h) (by decide) _ zero_Str
  have hBool := as_hit 120 88 _ Tryd.underlying120 (by intro m h; cases h)
  have O0 : Hid (Only (fun _ => False) w w) := Only.refl _ _
  go_enter Tryd.func35, Tryd.ntmps35
  go_wp2
  refine bodyPost_ret (results_v rfl _ _ w.heap.size (x := _) (y := _) (z := _) (r := _) ?_ ?_ ?_ ?_ rfl) rfl ⟨rfl, ?_⟩
  · simp [go_sem]
  · simp [go_sem]
  · simp [go_sem]
  · simp [go_sem]
  · first
      | exact ((O0.out.alloc _).alloc _)
      | exact (((((O0.out.alloc _).alloc _).setCell _ _ (fun h => absurd h (by simp))).setCell _ _ (fun h => absurd h (by simp))).setCell _ _ (fun h => absurd h (by simp))).setCell _ _ (fun h => absurd h (by simp))
set_option maxRecDepth 100000 in
theorem tree_no  (w : World) : Calls Tryd.prog 35 #[.iface 120 (.agg #[.bool false])] w fun e w' => e = .returned (.agg #[.int .i64 3, .int .i64 0, .string ⟨#[]⟩, .slice none 0 0]) ∧ Only (fun _ => False) w w' := by
  have mInt := as_miss 120 116 88 _ Tryd.underlying116 (by intro m h; cases h) (by decide) _ zero_Int
  have mStr := as_miss 120 118 88 _ Tryd.underlying118 (by intro m h; cases h) (by decide) _ zero_Str
  have hBool := as_hit 120 88 _ Tryd.underlying120 (by intro m h; cases h)
  have O0 : Hid (Only (fun _ => False) w w) := Only.refl _ _
  go_enter Tryd.func35, Tryd.ntmps35
  go_wp2
  refine bodyPost_ret (results_v rfl _ _ w.heap.size (x := _) (y := _) (z := _) (r := _) ?_ ?_ ?_ ?_ rfl) rfl ⟨rfl, ?_⟩
  · simp [go_sem]
  · simp [go_sem]
  · simp [go_sem]
  · simp [go_sem]
  · first
      | exact ((O0.out.alloc _).alloc _)
      | exact (((((O0.out.alloc _).alloc _).setCell _ _ (fun h => absurd h (by simp))).setCell _ _ (fun h => absurd h (by simp))).setCell _ _ (fun h => absurd h (by simp))).setCell _ _ (fun h => absurd h (by simp))
set_option maxRecDepth 100000 in
theorem tree_call (x : ByteArray) (w : World) : Calls Tryd.prog 26 #[.iface 93 (.agg #[.string x])] w fun e w' => e = .returned (.agg #[.int .i64 7, .int .i64 0, .string x, .slice none 0 0]) ∧ Only (fun _ => False) w w' := by
  have mPush := as_miss 93 90 72 _ Tryd.underlying90 (by intro m h; cases h) (by decide) _ zero_Push
  have hCall := as_hit 93 72 _ Tryd.underlying93 (by intro m h; cases h)
  have O0 : Hid (Only (fun _ => False) w w) := Only.refl _ _
  go_enter Tryd.func26, Tryd.ntmps26
  go_wp2
  refine bodyPost_ret (results_v rfl _ _ w.heap.size (x := _) (y := _) (z := _) (r := _) ?_ ?_ ?_ ?_ rfl) rfl ⟨rfl, ?_⟩
  · simp [go_sem]
  · simp [go_sem]
  · simp [go_sem]
  · simp [go_sem]
  · first
      | exact ((O0.out.alloc _).alloc _)
      | exact (((((O0.out.alloc _).alloc _).setCell _ _ (fun h => absurd h (by simp))).setCell _ _ (fun h => absurd h (by simp))).setCell _ _ (fun h => absurd h (by simp))).setCell _ _ (fun h => absurd h (by simp))
set_option maxRecDepth 100000 in
theorem tree_list (d : Nat) (l : List Tre) (ao : Option Addr) (cap : Nat) (w : World) (S : Nat → Prop) (HT : TsC d 53 false) (h : SqAt w S d false (.slice ao l.length cap) l) (hl : l.length ≤ 4096) (hw : ∀ x ∈ l, ∃ e, WfT e x) : Calls Tryd.prog 35 #[.iface 123 (.agg #[.slice ao l.length cap])] w fun e w' => ∃ ao' cap', e = .returned (.agg #[.int .i64 4, .int .i64 0, .string ⟨#[]⟩, .slice ao' l.length cap']) ∧ Hid (VrAt w' w.heap.size d (.slice ao' l.length cap') l ∧ Only (fun _ => False) w w') := by
  have HC : Hid (∀ w1, Only (fun _ => False) w w1 → Calls Tryd.prog 53 #[.slice ao l.length cap] w1 fun e w' => ∃ ao cap, e = .returned (.slice ao l.length cap) ∧ Hid (VrAt w' w1.heap.size d (.slice ao l.length cap) l ∧ Only (fun _ => False) w1 w')) := fun w1 o1 => HT _ _ _ S (h.step (fun _ g => g) (fun a u _ hc => o1.cell hc (fun g => g)) (Nat.le_refl _)) hl hw
  have mInt := as_miss 123 116 88 _ Tryd.underlying116 (by intro m h; cases h) (by decide) _ zero_Int
  have mStr := as_miss 123 118 88 _ Tryd.underlying118 (by intro m h; cases h) (by decide) _ zero_Str
  have mBool := as_miss 123 120 88 _ Tryd.underlying120 (by intro m h; cases h) (by decide) _ zero_Bool
  have hList := as_hit 123 88 _ Tryd.underlying123 (by intro m h; cases h)
  have O0 : Hid (Only (fun _ => False) w w) := Only.refl _ _
  clear HT h hl hw
  obtain ⟨L, hL⟩ : ∃ L, L = l.length := ⟨_, rfl⟩
  have HL : Hid (L = l.length) := hL
  rw [← hL] at HC
  rw [← hL]
  clear hL
  go_enter Tryd.func35, Tryd.ntmps35
  go_wp2_with fail
  refine (show Calls Tryd.prog 53 _ _ _ from HC.out _ ((O0.out.alloc _).alloc _)).mono ?_
  rintro e w1 ⟨ao', cap', rfl, g1⟩
  have R3 : w1.heap[w.heap.size]? = some (.cells #[.int .i64 0, .int .i64 0, .string ⟨#[]⟩, .slice none 0 0] 77) := (g1.out.2.block w.heap.size (by simp; omega) (fun h => h)).trans ((((Only.refl (fun _ => False) (w.alloc (.cells #[.int .i64 0, .int .i64 0, .string ⟨#[]⟩, .slice none 0 0] 77))).alloc _).block w.heap.size (by simp) (fun h => h)).trans (alloc_at _ _ _ rfl))
  have G1 : Hid (VrAt w1 (w.heap.size + 1) d (.slice ao' L cap') l ∧ Only (fun _ => False) w w1) := by
    obtain ⟨us, SS, ho, ht, hS⟩ := g1.out.1
    have e1 : L = l.length := HL.out
    refine ⟨⟨us, SS, ⟨ho.1, ?_⟩, ht, fun b hb => ⟨by have := (hS b hb).1; simp at this; omega, (hS b hb).2⟩⟩, ((O0.out.alloc _).alloc _).trans g1.out.2 (fun _ _ g => g)⟩
    rcases ho.2 with g | ⟨g, cc, cur, h1, h2, h3⟩
    · exact .inl g
    · exact .inr ⟨g, cc, cur, h1, by simp at h2; omega, h3⟩
  clear g1 HC O0
  obtain ⟨B, hBe⟩ : ∃ B, B = w.heap.size := ⟨_, rfl⟩
  have HE : Hid (B = w.heap.size) := hBe
  rw [← hBe] at R3 ⊢
  have c0 := blk_cells R3 0
  have c1 := blk_cells R3 1
  have c2 := blk_cells R3 2
  have c3 := blk_cells R3 3
  have z0 := blk_froz R3 0
  have z1 := blk_froz R3 1
  have z2 := blk_froz R3 2
  have z3 := blk_froz R3 3
  have HR3 : Hid (w1.heap[B]? = some (.cells #[.int .i64 0, .int .i64 0, .string ⟨#[]⟩, .slice none 0 0] 77)) := R3
  simp only [List.getElem?_toArray, List.getElem?_cons_zero, List.getElem?_cons_succ] at c0 c1 c2 c3
  clear R3 hBe
  go_wp2
  obtain ⟨p0, p1, p2, p3⟩ := set4 HR3.out rfl (.int .i64 4) (.int .i64 0) (.string ⟨#[]⟩) (.slice ao' L cap')
  have e1 : L = l.length := HL.out
  have hBe : B = w.heap.size := HE.out
  have OB := @only4 w1 B (.int .i64 4) (.int .i64 0) (.string ⟨#[]⟩) (.slice ao' L cap')
  refine bodyPost_ret (results_v rfl _ _ B p0 p1 p2 p3 rfl) rfl ⟨ao', cap', rfl, ?_, G1.out.2.trans OB (fun b h e => by omega)⟩
  obtain ⟨us, SS, ho, ht, hS⟩ := G1.out.1.only OB (fun b h e => by omega)
  refine ⟨us, SS, ⟨ho.1, ?_⟩, ht, fun b hb => ⟨by have := (hS b hb).1; omega, (hS b hb).2⟩⟩
  rcases ho.2 with g | ⟨g, cc, cur, h1, h2, h3⟩
  · exact .inl g
  · exact .inr ⟨g, cc, cur, h1, by omega, h3⟩
set_option maxRecDepth 100000 in
theorem tree_quot (d : Nat) (l : List Tre) (ao : Option Addr) (cap : Nat) (w : World) (S : Nat → Prop) (HT : TsC d 18 true) (h : SqAt w S d true (.slice ao l.length cap) l) (hl : l.length ≤ 4096) (hw : ∀ x ∈ l, ∃ e, WfT e x) : Calls Tryd.prog 35 #[.iface 126 (.agg #[.slice ao l.length cap])] w fun e w' => ∃ ao' cap', e = .returned (.agg #[.int .i64 5, .int .i64 0, .string ⟨#[]⟩, .slice ao' l.length cap']) ∧ Hid (VrAt w' w.heap.size d (.slice ao' l.length cap') l ∧ Only (fun _ => False) w w') := by
  have HC : Hid (∀ w1, Only (fun _ => False) w w1 → Calls Tryd.prog 18 #[.slice ao l.length cap] w1 fun e w' => ∃ ao cap, e = .returned (.slice ao l.length cap) ∧ Hid (VrAt w' w1.heap.size d (.slice ao l.length cap) l ∧ Only (fun _ => False) w1 w')) := fun w1 o1 => HT _ _ _ S (h.step (fun _ g => g) (fun a u _ hc => o1.cell hc (fun g => g)) (Nat.le_refl _)) hl hw
  have mInt := as_miss 126 116 88 _ Tryd.underlying116 (by intro m h; cases h) (by decide) _ zero_Int
  have mStr := as_miss 126 118 88 _ Tryd.underlying118 (by intro m h; cases h) (by decide) _ zero_Str
  have mBool := as_miss 126 120 88 _ Tryd.underlying120 (by intro m h; cases h) (by decide) _ zero_Bool
  have mList := as_miss 126 123 88 _ Tryd.underlying123 (by intro m h; cases h) (by decide) _ zero_List
  have hQuot := as_hit 126 88 _ Tryd.underlying126 (by intro m h; cases h)
  have O0 : Hid (Only (fun _ => False) w w) := Only.refl _ _
  clear HT h hl hw
  obtain ⟨L, hL⟩ : ∃ L, L = l.length := ⟨_, rfl⟩
  have HL : Hid (L = l.length) := hL
  rw [← hL] at HC
  rw [← hL]
  clear hL
  go_enter Tryd.func35, Tryd.ntmps35
  go_wp2_with fail
  refine (show Calls Tryd.prog 18 _ _ _ from HC.out _ ((O0.out.alloc _).alloc _)).mono ?_
  rintro e w1 ⟨ao', cap', rfl, g1⟩
  have R3 : w1.heap[w.heap.size]? = some (.cells #[.int .i64 0, .int .i64 0, .string ⟨#[]⟩, .slice none 0 0] 77) := (g1.out.2.block w.heap.size (by simp; omega) (fun h => h)).trans ((((Only.refl (fun _ => False) (w.alloc (.cells #[.int .i64 0, .int .i64 0, .string ⟨#[]⟩, .slice none 0 0] 77))).alloc _).block w.heap.size (by simp) (fun h => h)).trans (alloc_at _ _ _ rfl))
  have G1 : Hid (VrAt w1 (w.heap.size + 1) d (.slice ao' L cap') l ∧ Only (fun _ => False) w w1) := by
    obtain ⟨us, SS, ho, ht, hS⟩ := g1.out.1
    have e1 : L = l.length := HL.out
    refine ⟨⟨us, SS, ⟨ho.1, ?_⟩, ht, fun b hb => ⟨by have := (hS b hb).1; simp at this; omega, (hS b hb).2⟩⟩, ((O0.out.alloc _).alloc _).trans g1.out.2 (fun _ _ g => g)⟩
    rcases ho.2 with g | ⟨g, cc, cur, h1, h2, h3⟩
    · exact .inl g
    · exact .inr ⟨g, cc, cur, h1, by simp at h2; omega, h3⟩
  clear g1 HC O0
  obtain ⟨B, hBe⟩ : ∃ B, B = w.heap.size := ⟨_, rfl⟩
  have HE : Hid (B = w.heap.size) := hBe
  rw [← hBe] at R3 ⊢
  have c0 := blk_cells R3 0
  have c1 := blk_cells R3 1
  have c2 := blk_cells R3 2
  have c3 := blk_cells R3 3
  have z0 := blk_froz R3 0
  have z1 := blk_froz R3 1
  have z2 := blk_froz R3 2
  have z3 := blk_froz R3 3
  have HR3 : Hid (w1.heap[B]? = some (.cells #[.int .i64 0, .int .i64 0, .string ⟨#[]⟩, .slice none 0 0] 77)) := R3
  simp only [List.getElem?_toArray, List.getElem?_cons_zero, List.getElem?_cons_succ] at c0 c1 c2 c3
  clear R3 hBe
  go_wp2
  obtain ⟨p0, p1, p2, p3⟩ := set4 HR3.out rfl (.int .i64 5) (.int .i64 0) (.string ⟨#[]⟩) (.slice ao' L cap')
  have e1 : L = l.length := HL.out
  have hBe : B = w.heap.size := HE.out
  have OB := @only4 w1 B (.int .i64 5) (.int .i64 0) (.string ⟨#[]⟩) (.slice ao' L cap')
  refine bodyPost_ret (results_v rfl _ _ B p0 p1 p2 p3 rfl) rfl ⟨ao', cap', rfl, ?_, G1.out.2.trans OB (fun b h e => by omega)⟩
  obtain ⟨us, SS, ho, ht, hS⟩ := G1.out.1.only OB (fun b h e => by omega)
  refine ⟨us, SS, ⟨ho.1, ?_⟩, ht, fun b hb => ⟨by have := (hS b hb).1; omega, (hS b hb).2⟩⟩
  rcases ho.2 with g | ⟨g, cc, cur, h1, h2, h3⟩
  · exact .inl g
  · exact .inr ⟨g, cc, cur, h1, by omega, h3⟩
theorem tree_of (d : Nat) (H1 : TsC d 53 false) (H2 : TsC d 18 true) : TeC (d + 1) 35 false := by
  intro v t w S h hw
  obtain ⟨k, n, s, l⟩ := t
  rcases h with ⟨h1, h2, h3⟩ | ⟨h1, h2, h3⟩ | ⟨h1, h2, h3⟩ | ⟨h1, ao, cap, hv, hc, hl⟩
  · dsimp only at h1 h2 h3
    subst h1 h3
    exact (tree_int n w).mono fun e w' g => ⟨_, g.1, nv_nil h2, g.2⟩
  · dsimp only at h1 h2 h3
    subst h1 h3
    exact (tree_str s w).mono fun e w' g => ⟨_, g.1, nv_nil h2, g.2⟩
  · dsimp only at h1 h2 h3
    subst h1 h3
    by_cases hn : n = 0
    · subst hn
      exact (tree_no w).mono fun e w' g => ⟨_, g.1, nv_nil h2, g.2⟩
    · have e1 : (n != 0) = true := by simp [hn]
      have e2 : vn ⟨3, n, s, l⟩ = 1 := by simp [vn, hn]
      rw [e1, e2]
      exact (tree_yes w).mono fun e w' g => ⟨_, g.1, nv_nil h2, g.2⟩
  · dsimp only at h1 hv hc hl
    obtain ⟨e, hw⟩ := hw
    cases e with
    | zero => exact hw.elim
    | succ e =>
      obtain ⟨hw1, hw2⟩ := hw
      dsimp only at hw1 hw2
      rcases h1 with h1 | h1
      · subst h1
        rw [if_pos rfl] at hv
        subst hv
        exact (tree_list d l ao cap w S H1 ⟨ao, cap, rfl, hc, hl⟩ hw1 (fun x hx => ⟨e, hw2 x hx⟩)).mono fun e w' g => by
          obtain ⟨ao', cap', he, g⟩ := g
          exact ⟨_, he, g.out.1.tree rfl, g.out.2⟩
      · subst h1
        rw [if_neg (by omega)] at hv
        subst hv
        exact (tree_quot d l ao cap w S H2 ⟨ao, cap, rfl, hc, hl⟩ hw1 (fun x hx => ⟨e, hw2 x hx⟩)).mono fun e w' g => by
          obtain ⟨ao', cap', he, g⟩ := g
          exact ⟨_, he, g.out.1.tree rfl, g.out.2⟩
set_option maxRecDepth 100000 in
theorem itree_push (u : Value) (hu : ∃ T y, u = .iface T y) (x0 x1 : Int) (x2 : ByteArray) (Q : Value → World → Prop) (w : World)
    (HC0 : ∀ w1, w.heap.size < w1.heap.size → Only (fun _ => False) w w1 → Calls Tryd.prog 35 #[u] w1 fun e w' => ∃ lv, e = .returned (.agg #[.int .i64 x0, .int .i64 x1, .string x2, lv]) ∧ (∃ ao n cap, lv = .slice ao n cap) ∧ Hid ((∀ w2, Only (fun b => b = w.heap.size) w' w2 → Q lv w2) ∧ Only (fun _ => False) w1 w')) :
    Calls Tryd.prog 26 #[.iface 90 (.agg #[u])] w fun e w' => ∃ lv, e = .returned (.agg #[.int .i64 x0, .int .i64 x1, .string x2, lv]) ∧ Hid (Q lv w' ∧ Only (fun _ => False) w w') := by
  have HC : Hid (∀ w1, w.heap.size < w1.heap.size → Only (fun _ => False) w w1 → Calls Tryd.prog 35 #[u] w1 fun e w' => ∃ lv, e = .returned (.agg #[.int .i64 x0, .int .i64 x1, .string x2, lv]) ∧ (∃ ao n cap, lv = .slice ao n cap) ∧ Hid ((∀ w2, Only (fun b => b = w.heap.size) w' w2 → Q lv w2) ∧ Only (fun _ => False) w1 w')) := HC0
  obtain ⟨T, y, rfl⟩ := hu
  have hPush := as_hit 90 72 _ Tryd.underlying90 (by intro m h; cases h)
  have O0 : Hid (Only (fun _ => False) w w) := Only.refl _ _
  clear HC0
  go_enter Tryd.func26, Tryd.ntmps26
  go_wp2_with fail
  refine (show Calls Tryd.prog 35 _ _ _ from HC.out _ (by simp; omega) ((O0.out.alloc _).alloc _)).mono ?_
  rintro e w1 ⟨lv, rfl, ⟨ao, nn, cap, rfl⟩, g1⟩
  have R3 : w1.heap[w.heap.size]? = some (.cells #[.int .i64 0, .int .i64 0, .string ⟨#[]⟩, .slice none 0 0] 77) := (g1.out.2.block w.heap.size (by simp; omega) (fun h => h)).trans ((((Only.refl (fun _ => False) (w.alloc (.cells #[.int .i64 0, .int .i64 0, .string ⟨#[]⟩, .slice none 0 0] 77))).alloc _).block w.heap.size (by simp) (fun h => h)).trans (alloc_at _ _ _ rfl))
  have G1 : Hid ((∀ w2, Only (fun b => b = w.heap.size) w1 w2 → Q (.slice ao nn cap) w2) ∧ Only (fun _ => False) w w1) := ⟨g1.out.1, ((O0.out.alloc _).alloc _).trans g1.out.2 (fun _ _ g => g)⟩
  clear g1 HC O0
  obtain ⟨B, hBe⟩ : ∃ B, B = w.heap.size := ⟨_, rfl⟩
  have HE : Hid (B = w.heap.size) := hBe
  rw [← hBe] at R3 ⊢
  have c0 := blk_cells R3 0
  have c1 := blk_cells R3 1
  have c2 := blk_cells R3 2
  have c3 := blk_cells R3 3
  have z0 := blk_froz R3 0
  have z1 := blk_froz R3 1
  have z2 := blk_froz R3 2
  have z3 := blk_froz R3 3
  have HR3 : Hid (w1.heap[B]? = some (.cells #[.int .i64 0, .int .i64 0, .string ⟨#[]⟩, .slice none 0 0] 77)) := R3
  simp only [List.getElem?_toArray, List.getElem?_cons_zero, List.getElem?_cons_succ] at c0 c1 c2 c3
  clear R3 hBe
  go_wp2
  obtain ⟨p0, p1, p2, p3⟩ := set4 HR3.out rfl (.int .i64 x0) (.int .i64 x1) (.string x2) (.slice ao nn cap)
  have hBe : B = w.heap.size := HE.out
  have OB := @only4 w1 B (.int .i64 x0) (.int .i64 x1) (.string x2) (.slice ao nn cap)
  refine bodyPost_ret (results_v rfl _ _ B p0 p1 p2 p3 rfl) rfl ⟨_, rfl, G1.out.1 _ (by rw [← hBe]; exact OB), G1.out.2.trans OB (fun b h e => by omega)⟩
theorem itree_of (d : Nat) (H : TeC d 35 false) : TeC (d + 1) 26 true := by
  intro v t w S h hw
  rcases h with ⟨h1, h2, h3⟩ | ⟨h1, u, h3, h4⟩
  · obtain ⟨k, n, s, l⟩ := t
    dsimp only at h1 h2 h3
    subst h1 h3
    exact (tree_call s w).mono fun e w' g => ⟨_, g.1, nv_nil h2, g.2⟩
  · subst h3
    refine (itree_push u h4.form (t.k : Int) (vn t) (vs t) (fun lv w' => NvAt w' w.heap.size (d + 1) t lv) w fun w1 hlt o1 => ?_).mono fun e w' g => g
    have h5 : TrAt w1 S d false t u := h4.step (fun _ g => g) (fun a u _ hc => o1.cell hc (fun g => g)) (Nat.le_refl _)
    refine (H u t w1 S h5 hw).mono fun e w' g => ?_
    obtain ⟨lv, he, g⟩ := g
    obtain ⟨ao, cap, hf⟩ := g.out.1.form
    exact ⟨lv, he, ⟨ao, _, cap, hf⟩, fun w2 o2 => ((g.out.1.only o2 (fun b hb e => by omega)).lower (by omega)).deep (by omega), g.out.2⟩
end Go.Proofs.YtmmggnmgimgdfaaDoor
namespace Go.Proofs.YtmmggnmgimgdfaaDoor
open Go.RowKit
set_option linter.unusedSimpArgs false
set_option linter.unusedVariables false
set_option maxRecDepth 100000 in
theorem v_info : ∃ i z, Tryd.prog.info? 77 = some i ∧ i.zero = some z ∧ i.size = 4 ∧ i.bytes = 56 ∧ z.cells.size = 4 := ⟨_, _, rfl, rfl, rfl, rfl, rfl⟩
set_option maxRecDepth 100000 in
set_option maxHeartbeats 4000000 in
theorem trees_of (d : Nat) (H : TeC d 35 false) : TsC d 53 false := by
  intro v l w S hq hl hw
  obtain ⟨av, cv, rfl, hcv, hel⟩ := hq
  have HE : Hid (∀ (j : Nat) (x : Tre), l[j]? = some x → ∃ g k u, av = some ⟨g, k, none⟩ ∧ w.cell? ⟨g, k + j, none⟩ = some u ∧ ∀ w1, Only (fun _ => False) w w1 → Calls Tryd.prog 35 #[u] w1 fun e w' => ∃ lv, e = .returned (.agg #[.int .i64 (x.k : Int), .int .i64 (vn x), .string (vs x), lv]) ∧ Hid (NvAt w' w1.heap.size d x lv ∧ Only (fun _ => False) w1 w')) := by
    intro j x hx
    obtain ⟨g, k, u, ha, hg, hc, ht⟩ := hel j x hx
    exact ⟨g, k, u, ha, hc, fun w1 o1 => H u x w1 S (ht.step (fun _ g => g) (fun a u _ hc => o1.cell hc (fun g => g)) (Nat.le_refl _)) (hw x (List.mem_of_getElem? hx))⟩
  have HLB : Hid (l.length ≤ 4096) := hl
  clear hcv hel hl hw H
  obtain ⟨N, hN⟩ : ∃ N, N = l.length := ⟨_, rfl⟩
  have HNN : Hid (N = l.length) := hN
  rw [← hN]
  clear hN
  go_enter Tryd.func53, Tryd.ntmps53
  go_wp2
  go_loopw [3, 4] (fun r3 r4 wr => ∃ (i : Nat) (ao : Option Addr) (cap : Nat), r3 = .slice ao i cap ∧ r4 = .int .i64 (i : Int) ∧ i ≤ N ∧ Hid (VrAt wr w.heap.size d (.slice ao i cap) (l.take i) ∧ Only (fun _ => False) w wr)) (fun _ r4 _ => N - uOf r4)
  case atStart => exact ⟨0, none, 0, rfl, rfl, Nat.zero_le _, vr_nil _ _ _, Only.refl _ _⟩
  case round =>
    obtain ⟨i, ao, cap, rfl, rfl, hi, HI⟩ := hrel
    obtain ⟨w1, rfl⟩ : ∃ w1, w1 = wr := ⟨_, rfl⟩
    have hNl : N = l.length := HNN.out
    have hN4 : l.length ≤ 4096 := HLB.out
    by_cases hiN : i < N
    · obtain ⟨x, hx⟩ : ∃ x, l[i]? = some x := ⟨l[i]'(by omega), List.getElem?_eq_getElem (by omega)⟩
      obtain ⟨g, k, u, rfl, hc, hcall⟩ := HE.out i x hx
      have hc1 : w1.cell? ⟨g, k + i, none⟩ = some u := HI.out.2.cell hc (fun g => g)
      have HC : Hid (Calls Tryd.prog 35 #[u] w1 fun e w' => ∃ lv, e = .returned (.agg #[.int .i64 (x.k : Int), .int .i64 (vn x), .string (vs x), lv]) ∧ Hid (NvAt w' w1.heap.size d x lv ∧ Only (fun _ => False) w1 w')) := hcall w1 HI.out.2
      have HX : Hid (l.take i ++ [x] = l.take (i + 1) ∧ (l.take i).length = i) := by
        have hil : i < l.length := by omega
        refine ⟨?_, by simp; omega⟩
        rw [List.take_add_one, hx]
        rfl
      have HB : Hid (i < N ∧ N ≤ 4096) := ⟨hiN, by omega⟩
      have i1 : (i : Int) < (N : Int) := by omega
      have i0 : (0 : Int) ≤ (i : Int) := by omega
      clear hc hcall HE hNl hN4 hx
      obtain ⟨x0, hx0⟩ : ∃ x0, x0 = (x.k : Int) := ⟨_, rfl⟩
      obtain ⟨x1, hx1⟩ : ∃ x1, x1 = vn x := ⟨_, rfl⟩
      obtain ⟨x2, hx2⟩ : ∃ x2, x2 = vs x := ⟨_, rfl⟩
      have HXX : Hid (x0 = (x.k : Int) ∧ x1 = vn x ∧ x2 = vs x) := ⟨hx0, hx1, hx2⟩
      rw [← hx0, ← hx1, ← hx2] at HC
      clear hx0 hx1 hx2
      go_wp2_with fail
      refine (show Calls Tryd.prog 35 _ _ _ from HC.out).mono ?_
      rintro e w2 ⟨lv, rfl, g2⟩
      obtain ⟨al, cl, hlv⟩ := g2.out.1.form
      have W4 : VrAt (w2.alloc (.cells #[.int .i64 x0, .int .i64 x1, .string x2, lv] 77)) w.heap.size d (.slice ao i cap) (l.take i) := (HI.out.1.only g2.out.2 (fun _ _ h => h)).only ((Only.refl (fun _ => False) w2).alloc _) (fun _ _ h => h)
      have N4 : NvAt (w2.alloc (.cells #[.int .i64 x0, .int .i64 x1, .string x2, lv] 77)) w1.heap.size d x lv := g2.out.1.only ((Only.refl (fun _ => False) w2).alloc _) (fun _ _ h => h)
      have O4 : Only (fun _ => False) w (w2.alloc (.cells #[.int .i64 x0, .int .i64 x1, .string x2, lv] 77)) := (HI.out.2.trans g2.out.2 (fun _ _ g => g)).alloc _
      have hlt : ∀ k, (Value.slice ao i cap).ownBlock = some k → k < w1.heap.size := fun k hk => by
        obtain ⟨us, S', hr, _⟩ := HI.out.1
        exact (hr.lt k hk).2
      have hsz1 : w.heap.size ≤ w1.heap.size := HI.out.2.size
      have hsz2 : w1.heap.size ≤ w2.heap.size := g2.out.2.size
      obtain ⟨us, SS, hown, htr, hSS⟩ := W4
      rw [HX.out.2] at hown
      have HOW : Hid ((w2.alloc (.cells #[.int .i64 x0, .int .i64 x1, .string x2, lv] 77)).ownsRow w.heap.size 77 4 (.slice ao i cap) i us) := hown
      have HAL : Hid (_ ∧ _ ∧ NvAt (w2.alloc (.cells #[.int .i64 x0, .int .i64 x1, .string x2, lv] 77)) w1.heap.size d x lv ∧ Only (fun _ => False) w (w2.alloc (.cells #[.int .i64 x0, .int .i64 x1, .string x2, lv] 77)) ∧ w.heap.size ≤ w1.heap.size ∧ (∀ k, (Value.slice ao i cap).ownBlock = some k → k < w1.heap.size)) := ⟨htr, hSS, N4, O4, hsz1, hlt⟩
      subst hlv
      obtain ⟨i0', z0, hi', hz0, hz1, hz2, hz3⟩ := v_info
      obtain ⟨xl, hxl⟩ : ∃ xl, xl = x.l.length := ⟨_, rfl⟩
      rw [← hxl] at HOW HAL
      rw [← hxl]
      clear N4 O4 hown htr hSS hlt g2 HI HC hxl
      go_wp2_with (at_builtin; refine wpList_append_own_at _ rfl _ _ 46 rfl w.heap.size 77 i0' z0 4 56 Tryd.underlying46 hi' hz0 hz1 hz2 hz3 (by decide) _ i us rfl HOW.out ⟨w2.heap.size, 0, none⟩ 1 1 [.int .i64 x0, .int .i64 x1, .string x2, .slice al xl cl] rfl rfl ?c1 ?c2 ?c3 ?c4 ?c5 ?_)
      case c1 =>
        intro j u hj
        rcases j with _ | _ | _ | _ | j <;> simp at hj <;> subst hj <;> simp [Addr.add]
      case c2 =>
        intro u hu
        simp only [List.mem_cons, List.not_mem_nil, or_false] at hu
        rcases hu with rfl | rfl | rfl | rfl <;> rfl
      case c3 => have := HB.out; unfold maxLen; omega
      case c4 => have := HB.out; omega
      case c5 => simp; omega
      intro v' w4 hown' hgrow _ hat
      obtain ⟨a1, a2, a3, a4, a5, a6⟩ := HAL.out
      obtain ⟨e0, e1, e2⟩ := HXX.out
      have W5 : VrAt w4 w.heap.size d v' (l.take i ++ [x]) := VrAt.snoc hgrow (by rw [HX.out.2]; exact HOW.out) a1 a2 a3 a5 a6 (by rw [HX.out.2, ← e0, ← e1, ← e2]; exact hown') (by simpa using hat)
      rw [HX.out.1] at W5
      have og : Only (fun k => (Value.slice ao i cap).ownBlock = some k) (w2.alloc (.cells #[.int .i64 x0, .int .i64 x1, .string x2, .slice al xl cl] 77)) w4 := (Only.refl _ _).grown hgrow (fun k e _ => e)
      have O5 : Only (fun _ => False) w w4 := a4.trans og (fun k hk e => by have := (HOW.out.lt k e).1; omega)
      obtain ⟨ao', cap', hv'⟩ := W5.form
      have hlen : (l.take (i + 1)).length = i + 1 := by have : N = l.length := HNN.out; have := HB.out; simp; omega
      rw [hlen] at hv'
      subst hv'
      have HK5 : Hid (VrAt w4 w.heap.size d (.slice ao' (i + 1) cap') (l.take (i + 1)) ∧ Only (fun _ => False) w w4) := ⟨W5, O5⟩
      clear W5 O5 og HAL HOW hown' hgrow hat a1 a2 a3 a4 a5 a6 hi' hz0 hz1 hz2 hz3 hsz1 hsz2 e0 e1 e2 HXX hlen
      have hi4 : i ≤ 4096 := by have := HB.out; omega
      go_wp2
      go_roundw
      case rel => exact ⟨i + 1, ao', cap', rfl, by go_num, by omega, HK5⟩
      case measure => simp only [uOf]; have := HB.out; omega
    · obtain rfl : i = N := by omega
      have i1 : ¬ (i : Int) < (i : Int) := by omega
      have HK : Hid (VrAt w1 w.heap.size d (.slice ao i cap) l ∧ Only (fun _ => False) w w1) := by
        have := HI.out
        rw [hNl, List.take_length, ← hNl] at this
        exact this
      clear HI hNl hN4
      go_wp2
      go_ret
      exact ⟨ao, cap, rfl, HK⟩
set_option maxRecDepth 100000 in
set_option maxHeartbeats 4000000 in
theorem itrees_of (d : Nat) (H : TeC d 26 true) : TsC d 18 true := by
  intro v l w S hq hl hw
  obtain ⟨av, cv, rfl, hcv, hel⟩ := hq
  have HE : Hid (∀ (j : Nat) (x : Tre), l[j]? = some x → ∃ g k u, av = some ⟨g, k, none⟩ ∧ w.cell? ⟨g, k + j, none⟩ = some u ∧ ∀ w1, Only (fun _ => False) w w1 → Calls Tryd.prog 26 #[u] w1 fun e w' => ∃ lv, e = .returned (.agg #[.int .i64 (x.k : Int), .int .i64 (vn x), .string (vs x), lv]) ∧ Hid (NvAt w' w1.heap.size d x lv ∧ Only (fun _ => False) w1 w')) := by
    intro j x hx
    obtain ⟨g, k, u, ha, hg, hc, ht⟩ := hel j x hx
    exact ⟨g, k, u, ha, hc, fun w1 o1 => H u x w1 S (ht.step (fun _ g => g) (fun a u _ hc => o1.cell hc (fun g => g)) (Nat.le_refl _)) (hw x (List.mem_of_getElem? hx))⟩
  have HLB : Hid (l.length ≤ 4096) := hl
  clear hcv hel hl hw H
  obtain ⟨N, hN⟩ : ∃ N, N = l.length := ⟨_, rfl⟩
  have HNN : Hid (N = l.length) := hN
  rw [← hN]
  clear hN
  go_enter Tryd.func18, Tryd.ntmps18
  go_wp2
  go_loopw [3, 4] (fun r3 r4 wr => ∃ (i : Nat) (ao : Option Addr) (cap : Nat), r3 = .slice ao i cap ∧ r4 = .int .i64 (i : Int) ∧ i ≤ N ∧ Hid (VrAt wr w.heap.size d (.slice ao i cap) (l.take i) ∧ Only (fun _ => False) w wr)) (fun _ r4 _ => N - uOf r4)
  case atStart => exact ⟨0, none, 0, rfl, rfl, Nat.zero_le _, vr_nil _ _ _, Only.refl _ _⟩
  case round =>
    obtain ⟨i, ao, cap, rfl, rfl, hi, HI⟩ := hrel
    obtain ⟨w1, rfl⟩ : ∃ w1, w1 = wr := ⟨_, rfl⟩
    have hNl : N = l.length := HNN.out
    have hN4 : l.length ≤ 4096 := HLB.out
    by_cases hiN : i < N
    · obtain ⟨x, hx⟩ : ∃ x, l[i]? = some x := ⟨l[i]'(by omega), List.getElem?_eq_getElem (by omega)⟩
      obtain ⟨g, k, u, rfl, hc, hcall⟩ := HE.out i x hx
      have hc1 : w1.cell? ⟨g, k + i, none⟩ = some u := HI.out.2.cell hc (fun g => g)
      have HC : Hid (Calls Tryd.prog 26 #[u] w1 fun e w' => ∃ lv, e = .returned (.agg #[.int .i64 (x.k : Int), .int .i64 (vn x), .string (vs x), lv]) ∧ Hid (NvAt w' w1.heap.size d x lv ∧ Only (fun _ => False) w1 w')) := hcall w1 HI.out.2
      have HX : Hid (l.take i ++ [x] = l.take (i + 1) ∧ (l.take i).length = i) := by
        have hil : i < l.length := by omega
        refine ⟨?_, by simp; omega⟩
        rw [List.take_add_one, hx]
        rfl
      have HB : Hid (i < N ∧ N ≤ 4096) := ⟨hiN, by omega⟩
      have i1 : (i : Int) < (N : Int) := by omega
      have i0 : (0 : Int) ≤ (i : Int) := by omega
      clear hc hcall HE hNl hN4 hx
      obtain ⟨x0, hx0⟩ : ∃ x0, x0 = (x.k : Int) := ⟨_, rfl⟩
      obtain ⟨x1, hx1⟩ : ∃ x1, x1 = vn x := ⟨_, rfl⟩
      obtain ⟨x2, hx2⟩ : ∃ x2, x2 = vs x := ⟨_, rfl⟩
      have HXX : Hid (x0 = (x.k : Int) ∧ x1 = vn x ∧ x2 = vs x) := ⟨hx0, hx1, hx2⟩
      rw [← hx0, ← hx1, ← hx2] at HC
      clear hx0 hx1 hx2
      go_wp2_with fail
      refine (show Calls Tryd.prog 26 _ _ _ from HC.out).mono ?_
      rintro e w2 ⟨lv, rfl, g2⟩
      obtain ⟨al, cl, hlv⟩ := g2.out.1.form
      have W4 : VrAt (w2.alloc (.cells #[.int .i64 x0, .int .i64 x1, .string x2, lv] 77)) w.heap.size d (.slice ao i cap) (l.take i) := (HI.out.1.only g2.out.2 (fun _ _ h => h)).only ((Only.refl (fun _ => False) w2).alloc _) (fun _ _ h => h)
      have N4 : NvAt (w2.alloc (.cells #[.int .i64 x0, .int .i64 x1, .string x2, lv] 77)) w1.heap.size d x lv := g2.out.1.only ((Only.refl (fun _ => False) w2).alloc _) (fun _ _ h => h)
      have O4 : Only (fun _ => False) w (w2.alloc (.cells #[.int .i64 x0, .int .i64 x1, .string x2, lv] 77)) := (HI.out.2.trans g2.out.2 (fun _ _ g => g)).alloc _
      have hlt : ∀ k, (Value.slice ao i cap).ownBlock = some k → k < w1.heap.size := fun k hk => by
        obtain ⟨us, S', hr, _⟩ := HI.out.1
        exact (hr.lt k hk).2
      have hsz1 : w.heap.size ≤ w1.heap.size := HI.out.2.size
      have hsz2 : w1.heap.size ≤ w2.heap.size := g2.out.2.size
      obtain ⟨us, SS, hown, htr, hSS⟩ := W4
      rw [HX.out.2] at hown
      have HOW : Hid ((w2.alloc (.cells #[.int .i64 x0, .int .i64 x1, .string x2, lv] 77)).ownsRow w.heap.size 77 4 (.slice ao i cap) i us) := hown
      have HAL : Hid (_ ∧ _ ∧ NvAt (w2.alloc (.cells #[.int .i64 x0, .int .i64 x1, .string x2, lv] 77)) w1.heap.size d x lv ∧ Only (fun _ => False) w (w2.alloc (.cells #[.int .i64 x0, .int .i64 x1, .string x2, lv] 77)) ∧ w.heap.size ≤ w1.heap.size ∧ (∀ k, (Value.slice ao i cap).ownBlock = some k → k < w1.heap.size)) := ⟨htr, hSS, N4, O4, hsz1, hlt⟩
      subst hlv
      obtain ⟨i0', z0, hi', hz0, hz1, hz2, hz3⟩ := v_info
      obtain ⟨xl, hxl⟩ : ∃ xl, xl = x.l.length := ⟨_, rfl⟩
      rw [← hxl] at HOW HAL
      rw [← hxl]
      clear N4 O4 hown htr hSS hlt g2 HI HC hxl
      go_wp2_with (at_builtin; refine wpList_append_own_at _ rfl _ _ 46 rfl w.heap.size 77 i0' z0 4 56 Tryd.underlying46 hi' hz0 hz1 hz2 hz3 (by decide) _ i us rfl HOW.out ⟨w2.heap.size, 0, none⟩ 1 1 [.int .i64 x0, .int .i64 x1, .string x2, .slice al xl cl] rfl rfl ?c1 ?c2 ?c3 ?c4 ?c5 ?_)
      case c1 =>
        intro j u hj
        rcases j with _ | _ | _ | _ | j <;> simp at hj <;> subst hj <;> simp [Addr.add]
      case c2 =>
        intro u hu
        simp only [List.mem_cons, List.not_mem_nil, or_false] at hu
        rcases hu with rfl | rfl | rfl | rfl <;> rfl
      case c3 => have := HB.out; unfold maxLen; omega
      case c4 => have := HB.out; omega
      case c5 => simp; omega
      intro v' w4 hown' hgrow _ hat
      obtain ⟨a1, a2, a3, a4, a5, a6⟩ := HAL.out
      obtain ⟨e0, e1, e2⟩ := HXX.out
      have W5 : VrAt w4 w.heap.size d v' (l.take i ++ [x]) := VrAt.snoc hgrow (by rw [HX.out.2]; exact HOW.out) a1 a2 a3 a5 a6 (by rw [HX.out.2, ← e0, ← e1, ← e2]; exact hown') (by simpa using hat)
      rw [HX.out.1] at W5
      have og : Only (fun k => (Value.slice ao i cap).ownBlock = some k) (w2.alloc (.cells #[.int .i64 x0, .int .i64 x1, .string x2, .slice al xl cl] 77)) w4 := (Only.refl _ _).grown hgrow (fun k e _ => e)
      have O5 : Only (fun _ => False) w w4 := a4.trans og (fun k hk e => by have := (HOW.out.lt k e).1; omega)
      obtain ⟨ao', cap', hv'⟩ := W5.form
      have hlen : (l.take (i + 1)).length = i + 1 := by have : N = l.length := HNN.out; have := HB.out; simp; omega
      rw [hlen] at hv'
      subst hv'
      have HK5 : Hid (VrAt w4 w.heap.size d (.slice ao' (i + 1) cap') (l.take (i + 1)) ∧ Only (fun _ => False) w w4) := ⟨W5, O5⟩
      clear W5 O5 og HAL HOW hown' hgrow hat a1 a2 a3 a4 a5 a6 hi' hz0 hz1 hz2 hz3 hsz1 hsz2 e0 e1 e2 HXX hlen
      have hi4 : i ≤ 4096 := by have := HB.out; omega
      go_wp2
      go_roundw
      case rel => exact ⟨i + 1, ao', cap', rfl, by go_num, by omega, HK5⟩
      case measure => simp only [uOf]; have := HB.out; omega
    · obtain rfl : i = N := by omega
      have i1 : ¬ (i : Int) < (i : Int) := by omega
      have HK : Hid (VrAt w1 w.heap.size d (.slice ao i cap) l ∧ Only (fun _ => False) w w1) := by
        have := HI.out
        rw [hNl, List.take_length, ← hNl] at this
        exact this
      clear HI hNl hN4
      go_wp2
      go_ret
      exact ⟨ao, cap, rfl, HK⟩
theorem trees_any : ∀ (d d' : Nat), d' < d → TeC d' 35 false ∧ TeC d' 26 true
  | 0, d', h => by omega
  | d + 1, d', h => by
    have ih := trees_any d
    by_cases hd : d' < d
    · exact ih d' hd
    · obtain rfl : d' = d := by omega
      cases d' with
      | zero => exact ⟨fun v t w S h => h.elim, fun v t w S h => h.elim⟩
      | succ e => exact ⟨tree_of e (trees_of e (ih e (by omega)).1) (itrees_of e (ih e (by omega)).2), itree_of e (ih e (by omega)).1⟩
theorem itrees_any (d : Nat) : TsC d 18 true := itrees_of d (trees_any (d + 1) d (by omega)).2
end Go.Proofs.YtmmggnmgimgdfaaDoor
namespace Go.Proofs.YtmmggnmgimgdfaaDoor
open Go.RowKit
set_option linter.unusedSimpArgs false
set_option linter.unusedVariables false
theorem results_dd {fn : Func} {u : Tmp} (h : fn.results = #[.cell u 48]) (tmps : Array Value) (w : World) (B : Nat) {x y z r : Value} (h0 : w.cell? ⟨B, 0, none⟩ = some x) (h1 : w.cell? ⟨B, 1, none⟩ = some y) (h2 : w.cell? ⟨B, 2, none⟩ = some z) (h3 : w.cell? ⟨B, 3, none⟩ = some r) (ha : tmps.getD u undef = .pointer (some ⟨B, 0, none⟩)) :
    (results fn tmps).run Tryd.prog w = .ok (.agg #[x, y, z, r]) w := by
  have ha' : tmps[u]?.getD undef = .pointer (some ⟨B, 0, none⟩) := by simpa using ha
  simp [results, h, ha', asAddr, go_sem, loadVar, isAgg, Tryd.underlying48, h0, h1, h2, h3]
theorem VrAt.lower {w : World} {B C d : Nat} {v : Value} {l : List Tre} (h : VrAt w B d v l) (hC : C ≤ B) : VrAt w C d v l := by
  obtain ⟨us, SS, ho, ht, hS⟩ := h
  refine ⟨us, SS, ⟨ho.1, ?_⟩, ht, fun b hb => ⟨Nat.le_trans hC (hS b hb).1, (hS b hb).2⟩⟩
  rcases ho.2 with g | ⟨g, cc, cur, h1, h2, h3⟩
  · exact .inl g
  · exact .inr ⟨g, cc, cur, h1, by omega, h3⟩
set_option maxRecDepth 100000 in
set_option maxHeartbeats 4000000 in
theorem deftree_any (d : Nat) (nm : ByteArray) (x y : Int) (l : List Tre) (ao : Option Addr) (cap : Nat) (w : World) (S : Nat → Prop) (h : SqAt w S d true (.slice ao l.length cap) l) (hl : l.length ≤ 4096) (hw : ∀ t ∈ l, ∃ e, WfT e t) :
    Calls Tryd.prog 12 #[.agg #[.string nm, .int .i64 x, .int .i64 y, .slice ao l.length cap]] w fun e w' => ∃ ao' cap', e = .returned (.agg #[.string nm, .int .i64 x, .int .i64 y, .slice ao' l.length cap']) ∧ Hid (VrAt w' w.heap.size d (.slice ao' l.length cap') l ∧ Only (fun _ => False) w w') := by
  have HC : Hid (∀ w1, Only (fun _ => False) w w1 → Calls Tryd.prog 18 #[.slice ao l.length cap] w1 fun e w' => ∃ ao cap, e = .returned (.slice ao l.length cap) ∧ Hid (VrAt w' w1.heap.size d (.slice ao l.length cap) l ∧ Only (fun _ => False) w1 w')) := fun w1 o1 => itrees_any d _ _ _ S (h.step (fun _ g => g) (fun a u _ hc => o1.cell hc (fun g => g)) (Nat.le_refl _)) hl hw
  have O0 : Hid (Only (fun _ => False) w w) := Only.refl _ _
  clear h hl hw
  obtain ⟨L, hL⟩ : ∃ L, L = l.length := ⟨_, rfl⟩
  have HL : Hid (L = l.length) := hL
  rw [← hL] at HC
  rw [← hL]
  clear hL
  go_enter Tryd.func12, Tryd.ntmps12
  go_wp2_with fail
  obtain ⟨W, hW⟩ : ∃ W, W = (w.alloc (.cells #[.string nm, .int .i64 x, .int .i64 y, .slice ao L cap] 54)).alloc (.cells #[.string ⟨#[]⟩, .int .i64 0, .int .i64 0, .slice none 0 0] 48) := ⟨_, rfl⟩
  have OW : Hid (Only (fun _ => False) w W) := by show Only _ _ _; rw [hW]; exact (O0.out.alloc _).alloc _
  have hP : W.heap[w.heap.size]? = some (.cells #[.string nm, .int .i64 x, .int .i64 y, .slice ao L cap] 54) := by
    rw [hW]
    exact (((Only.refl (fun _ => False) _).alloc _).block w.heap.size (by simp) (fun h => h)).trans (alloc_at _ _ _ rfl)
  have hQ : W.heap[w.heap.size + 1]? = some (.cells #[.string ⟨#[]⟩, .int .i64 0, .int .i64 0, .slice none 0 0] 48) := by
    rw [hW]
    exact alloc_at _ _ _ (by simp)
  obtain ⟨B, hB⟩ : ∃ B, B = w.heap.size := ⟨_, rfl⟩
  have HB : Hid (B = w.heap.size) := hB
  rw [← hB] at hP hQ
  rw [← hW, ← hB]
  have HP : Hid (W.heap[B]? = some (.cells #[.string nm, .int .i64 x, .int .i64 y, .slice ao L cap] 54) ∧ W.heap[B + 1]? = some (.cells #[.string ⟨#[]⟩, .int .i64 0, .int .i64 0, .slice none 0 0] 48)) := ⟨hP, hQ⟩
  have p0 := blk_cells hP 0
  have p1 := blk_cells hP 1
  have p2 := blk_cells hP 2
  have p3 := blk_cells hP 3
  simp only [List.getElem?_toArray, List.getElem?_cons_zero, List.getElem?_cons_succ] at p0 p1 p2 p3
  clear hW hB hP hQ O0
  have HG : Hid (∀ w1, Only (fun _ => False) W.drew w1 → w1.heap[B]? = some (.cells #[.string nm, .int .i64 x, .int .i64 y, .slice ao L cap] 54) ∧ w1.heap[B + 1]? = some (.cells #[.string ⟨#[]⟩, .int .i64 0, .int .i64 0, .slice none 0 0] 48)) := by
    intro w1 o1
    exact ⟨(o1.block B (Array.getElem?_eq_some_iff.1 HP.out.1).1 (fun h => h)).trans HP.out.1, (o1.block (B + 1) (Array.getElem?_eq_some_iff.1 HP.out.2).1 (fun h => h)).trans HP.out.2⟩
  go_region_held3 (fun w' => w'.cell? ⟨B, 0, none⟩ = some (.string nm) ∧ w'.cell? ⟨B, 1, none⟩ = some (.int .i64 x) ∧ w'.cell? ⟨B, 2, none⟩ = some (.int .i64 y) ∧ w'.cell? ⟨B, 3, none⟩ = some (.slice ao L cap))
    (first | exact ⟨p0, p1, p2, p3⟩ | exact ⟨q0, q1, q2, q3⟩ | go_keep)
    (first | (go_at_call 18; refine (show Calls Tryd.prog 18 _ _ _ from HC.out _ (OW.out.drew)).mono ?_; rintro ex w1 ⟨ao', cap', rfl, g1⟩; obtain ⟨b1, b2⟩ := HG.out w1 g1.out.2; have q0 := blk_cells b1 0; have q1 := blk_cells b1 1; have q2 := blk_cells b1 2; have q3 := blk_cells b1 3; have c0 := blk_cells b2 0; have c1 := blk_cells b2 1; have c2 := blk_cells b2 2; have c3 := blk_cells b2 3; have z0 := blk_froz b2 0; have z1 := blk_froz b2 1; have z2 := blk_froz b2 2; have z3 := blk_froz b2 3; simp only [List.getElem?_toArray, List.getElem?_cons_zero, List.getElem?_cons_succ] at q0 q1 q2 q3 c0 c1 c2 c3))
  have hBe : B = w.heap.size := HB.out
  have hWs : B + 1 < W.heap.size := (Array.getElem?_eq_some_iff.1 HP.out.2).1
  have e1 : L = l.length := HL.out
  have HF : Hid (w1.heap[B + 1]? = some (.cells #[.string ⟨#[]⟩, .int .i64 0, .int .i64 0, .slice none 0 0] 48) ∧ VrAt w1 (B + 2) d (.slice ao' L cap') l ∧ Only (fun _ => False) w w1) := ⟨b2, g1.out.1.lower (show B + 2 ≤ W.heap.size by omega), OW.out.drew.trans g1.out.2 (fun _ _ g => g)⟩
  clear HC HG HP OW g1 b1 b2 q0 q1 q2 q3 c0 c1 c2 c3 z0 z1 z2 z3 p0 p1 p2 p3 hWs
  have HBe : Hid (B = w.heap.size ∧ L = l.length) := ⟨hBe, e1⟩
  clear hBe e1
  go_wp2
  obtain ⟨r0, r1, r2, r3⟩ := set4 HF.out.1 rfl (.string nm) (.int .i64 x) (.int .i64 y) (.slice ao' L cap')
  have OB := @only4 w1 (B + 1) (.string nm) (.int .i64 x) (.int .i64 y) (.slice ao' L cap')
  have hBe := HBe.out.1
  refine bodyPost_ret (results_dd rfl _ _ (B + 1) r0 r1 r2 r3 rfl) rfl ⟨ao', cap', rfl, (HF.out.2.1.only OB (fun b h e => by omega)).lower (by omega), HF.out.2.2.trans OB (fun b h e => by omega)⟩
end Go.Proofs.YtmmggnmgimgdfaaDoor
namespace Go.Proofs.YtmmggnmgimgdfaaDoor
open Go.RowKit
set_option linter.unusedSimpArgs false
set_option linter.unusedVariables false
/-- a form whose parts are lists of at most 4096 -/
def Wfm (fm : Fm) : Prop := fm.b.length ≤ 4096 ∧ (∀ x ∈ fm.b, ∃ e, WfT e x) ∧ (fm.d = false → ∃ e, WfT e fm.it)
/-- a slice of forms that can be read -/
def FrAt (w : World) (S : Nat → Prop) (d : Nat) (v : Value) (l : List Fm) : Prop :=
  ∃ ao cap, v = .slice ao l.length cap ∧ ∀ (j : Nat) (fm : Fm), l[j]? = some fm → ∃ g bv iv, ao = some ⟨g, 0, none⟩ ∧ (w.cell? ⟨g, j * 6, none⟩ = some (.bool fm.d) ∧ w.cell? ⟨g, j * 6 + 1, none⟩ = some (.string fm.nm) ∧ w.cell? ⟨g, j * 6 + 2, none⟩ = some (.int .i64 (fm.i : Int)) ∧ w.cell? ⟨g, j * 6 + 3, none⟩ = some (.int .i64 (fm.j : Int)) ∧ w.cell? ⟨g, j * 6 + 4, none⟩ = some bv ∧ w.cell? ⟨g, j * 6 + 5, none⟩ = some iv) ∧ FmAt w S d fm bv iv
theorem FsAt.read {w : World} {B d : Nat} {v : Value} {l : List Fm} (h : FsAt w B d v l) : ∃ S, FrAt w S d v l := by
  obtain ⟨us, S, ho, ht, hS⟩ := h
  refine ⟨S, ?_⟩
  rcases ho.2 with ⟨rfl, h2⟩ | ⟨g, cap, cur, hv, hB, hg, hn, hcm, hcs, htk⟩
  · have : l = [] := List.eq_nil_of_length_eq_zero h2
    subst this
    exact ⟨none, 0, rfl, fun j fm hj => by simp at hj⟩
  · refine ⟨some ⟨g, 0, none⟩, cap, hv, fun j fm hj => ?_⟩
    obtain ⟨bv, iv, ⟨h0, h1, h2, h3, h4, h5⟩, h6⟩ := ht j fm hj
    have hc : ∀ j u, us[j]? = some u → w.cell? ⟨g, j, none⟩ = some u := fun j u hu => by
      have := ho.cells (g := g) (by rw [hv]; rfl) j u hu
      rwa [addr_ad] at this
    exact ⟨g, bv, iv, rfl, ⟨hc _ _ h0, hc _ _ h1, hc _ _ h2, hc _ _ h3, hc _ _ h4, hc _ _ h5⟩, h6⟩
theorem FrAt.only {w w' : World} {S : Nat → Prop} {d : Nat} {v : Value} {l : List Fm} (h : FrAt w S d v l) (o : Only (fun _ => False) w w') : FrAt w' S d v l := by
  obtain ⟨ao, cap, hv, hl⟩ := h
  refine ⟨ao, cap, hv, fun j fm hj => ?_⟩
  obtain ⟨g, bv, iv, ha, ⟨h0, h1, h2, h3, h4, h5⟩, h6⟩ := hl j fm hj
  exact ⟨g, bv, iv, ha, ⟨o.cell h0 (fun g => g), o.cell h1 (fun g => g), o.cell h2 (fun g => g), o.cell h3 (fun g => g), o.cell h4 (fun g => g), o.cell h5 (fun g => g)⟩, h6.step (fun _ g => g) (fun a u _ hc => o.cell hc (fun g => g)) (Nat.le_refl _)⟩
def bdT (fm : Fm) : Tre := ⟨5, 0, ⟨#[]⟩, fm.b⟩
def fC (fm : Fm) (bl il : Value) : List Value := [.bool fm.d, .string fm.nm, .int .i64 (fm.i : Int), .int .i64 (fm.j : Int), bl, .int .i64 (fm.it.k : Int), .int .i64 (vn fm.it), .string (vs fm.it), il]
end Go.Proofs.YtmmggnmgimgdfaaDoor
