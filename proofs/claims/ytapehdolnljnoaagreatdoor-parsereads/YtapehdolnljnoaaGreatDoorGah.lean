/- A form. readAll's deferred function, where the reader has not given up. readAll's deferred function, where the reader has given up. All forms of a source: readAll. readAll: the walk. readAll: the loop. readAll's deferred function, of items. -/
import Derived.Test.YtapehdolnljnoaaGreatDoorGag
import Derived.Test.YtapehdolnljnoaaGreatDoorGaf
import Derived.Defers
import Derived.Recover
import Derived.Test.YtapehdolnljnoaaGreatDoorGad
namespace Go.Proofs.YtapehdolnljnoaaGreatDoor
open Go.RowKit
set_option linter.unusedSimpArgs false
set_option linter.unusedVariables false
/-- the slice v holds the trees l, within the blocks S -/
def SqAt (w : World) (S : Nat → Prop) (d : Nat) (i : Bool) (v : Value) (l : List Tre) : Prop :=
  ∃ ao cap, v = .slice ao l.length cap ∧ l.length ≤ cap ∧ ∀ (j : Nat) (x : Tre), l[j]? = some x → ∃ g k u, ao = some ⟨g, k, none⟩ ∧ S g ∧ w.cell? ⟨g, k + j, none⟩ = some u ∧ TrAt w S d i x u
theorem SqAt.step {w w' : World} {S S' : Nat → Prop} (hS : ∀ b, S b → S' b) (hk : ∀ (a : Addr) u, S a.block → w.cell? a = some u → w'.cell? a = some u) {d d' : Nat} {i : Bool} {l : List Tre} {v : Value} (hd : d ≤ d') (h : SqAt w S d i v l) : SqAt w' S' d' i v l := by
  obtain ⟨ao, cap, hv, hc, hl⟩ := h
  refine ⟨ao, cap, hv, hc, fun j x hx => ?_⟩
  obtain ⟨g, k, u, ha, hg, hu, ht⟩ := hl j x hx
  exact ⟨g, k, u, ha, hS g hg, hk _ _ hg hu, ht.step hS hk hd⟩
theorem RwAt.seq {w : World} {B : Nat} {T : TypeId} {d : Nat} {i : Bool} {v : Value} {l : List Tre} (h : RwAt w B T d i v l) : ∃ S, SqAt w S d i v l ∧ ∀ b, S b → B ≤ b ∧ b < w.heap.size := by
  obtain ⟨us, S, ho, ht, hS⟩ := h
  refine ⟨fun b => S b ∨ v.ownBlock = some b, ?_, fun b hb => ?_⟩
  · rcases ho.2 with ⟨rfl, h2⟩ | ⟨g, cap, cur, hv, hB, hg, hn, hcm, hcs, htk⟩
    · have hl : l = [] := List.eq_nil_of_length_eq_zero h2
      subst hl
      exact ⟨none, 0, rfl, Nat.zero_le _, fun i x hx => by simp at hx⟩
    · refine ⟨some ⟨g, 0, none⟩, cap, hv, hn, fun i x hx => ?_⟩
      obtain ⟨u, h1, h2⟩ := ht i x hx
      have hc := ho.cells (g := g) (by rw [hv]; rfl) i u h1
      rw [addr_ad] at hc
      exact ⟨g, 0, u, rfl, .inr (by rw [hv]; rfl), by simpa using hc, h2.step (fun _ g => .inl g) (fun _ _ _ g => g) (Nat.le_refl _)⟩
  · rcases hb with h | h
    · exact ⟨(hS b h).1, (hS b h).2.1⟩
    · exact ho.lt b h
/-- the cells bv and iv are a form's body and item -/
def FmAt (w : World) (S : Nat → Prop) (d : Nat) (fm : Fm) (bv iv : Value) : Prop :=
  (fm.d = true ∧ fm.it = noT ∧ SqAt w S d true bv fm.b ∧ iv = .nilIface) ∨ (fm.d = false ∧ fm.nm = ⟨#[]⟩ ∧ fm.i = 0 ∧ fm.j = 0 ∧ fm.b = [] ∧ bv = .slice none 0 0 ∧ TrAt w S d true fm.it iv)
theorem FmAt.step {w w' : World} {S S' : Nat → Prop} (hS : ∀ b, S b → S' b) (hk : ∀ (a : Addr) u, S a.block → w.cell? a = some u → w'.cell? a = some u) {d d' : Nat} {fm : Fm} {bv iv : Value} (hd : d ≤ d') (h : FmAt w S d fm bv iv) : FmAt w' S' d' fm bv iv := by
  rcases h with ⟨h1, h4, h2, h3⟩ | ⟨h1, h2, h3, h4, h5, h6, h7⟩
  · exact .inl ⟨h1, h4, h2.step hS hk hd, h3⟩
  · exact .inr ⟨h1, h2, h3, h4, h5, h6, h7.step hS hk hd⟩
/-- a form that was made since block B -/
def NfAt (w : World) (B d : Nat) (fm : Fm) (bv iv : Value) : Prop := ∃ S, FmAt w S d fm bv iv ∧ ∀ b, S b → B ≤ b ∧ b < w.heap.size
theorem NfAt.only {w w' : World} {B d : Nat} {fm : Fm} {bv iv : Value} {bs : Nat → Prop} (h : NfAt w B d fm bv iv) (o : Only bs w w') (hb : ∀ b, B ≤ b → ¬ bs b) : NfAt w' B d fm bv iv := by
  obtain ⟨S, ht, hS⟩ := h
  exact ⟨S, ht.step (fun _ g => g) (fun a u hs hc => o.cell hc (hb _ (hS _ hs).1)) (Nat.le_refl _), fun b hbS => ⟨(hS b hbS).1, Nat.lt_of_lt_of_le (hS b hbS).2 o.size⟩⟩
theorem NfAt.lower {w : World} {B C d : Nat} {fm : Fm} {bv iv : Value} (h : NfAt w B d fm bv iv) (hC : C ≤ B) : NfAt w C d fm bv iv := by
  obtain ⟨S, ht, hS⟩ := h
  exact ⟨S, ht, fun b hbS => ⟨Nat.le_trans hC (hS b hbS).1, (hS b hbS).2⟩⟩
def fmV (fm : Fm) (bv iv : Value) : Value := .agg #[.bool fm.d, .string fm.nm, .int .i64 (fm.i : Int), .int .i64 (fm.j : Int), bv, iv]
/-- what a form is read as -/
def fmR (n : Int) (f : Nat) (q : List Tok) (o z : Int) : Except (Int × Int) (Fm × List Tok × Int) :=
  match q with
  | [] => .error (n, 9)
  | t :: r =>
    if isB t ⟨#[58]⟩ then dfR n f (t :: r) o z else
    match prs n f 1 (t :: r) o z with
    | .error e => .error e
    | .ok (l, q', z') => .ok (⟨false, ⟨#[]⟩, 0, 0, [], l.headD noT⟩, q', z')
/-- what form answers -/
def fmP (R f : Nat) (n o : Int) (w : World) (r : Except (Int × Int) (Fm × List Tok × Int)) (x : Ending) (w' : World) : Prop :=
  match r with
  | .error (a, e) => x = gup a e ∧ Only (fun b => b = R) w w'
  | .ok (fm, q, z) => ∃ bv iv, x = .returned (fmV fm bv iv) ∧ Hid (NfAt w' w.heap.size f fm bv iv ∧ RdAt w' R q n o z ∧ Only (fun b => b = R) w w')
theorem set6 {w : World} {B : Nat} {a b c d e f : Value} {t : TypeId} (h : w.heap[B]? = some (.cells #[a, b, c, d, e, f] t)) (x0 x1 x2 x3 x4 x5 : Value) :
    ((((((w.setCell ⟨B, 0, none⟩ x0).setCell ⟨B, 1, none⟩ x1).setCell ⟨B, 2, none⟩ x2).setCell ⟨B, 3, none⟩ x3).setCell ⟨B, 4, none⟩ x4).setCell ⟨B, 5, none⟩ x5).heap[B]? = some (.cells #[x0, x1, x2, x3, x4, x5] t) := by
  have g1 := heap_setCell_same _ B 0 _ _ x0 h
  have g2 := heap_setCell_same _ B 1 _ _ x1 g1
  have g3 := heap_setCell_same _ B 2 _ _ x2 g2
  have g4 := heap_setCell_same _ B 3 _ _ x3 g3
  have g5 := heap_setCell_same _ B 4 _ _ x4 g4
  have g6 := heap_setCell_same _ B 5 _ _ x5 g5
  exact g6
theorem results_fm {fn : Func} {u : Tmp} (h : fn.results = #[.cell u 56]) (tmps : Array Value) (w : World) (B : Nat) {x0 x1 x2 x3 x4 x5 : Value} (hb : w.heap[B]? = some (.cells #[x0, x1, x2, x3, x4, x5] 56)) (ha : tmps.getD u undef = .pointer (some ⟨B, 0, none⟩)) :
    (results fn tmps).run Tryz.prog w = .ok (.agg #[x0, x1, x2, x3, x4, x5]) w := by
  have ha' : tmps[u]?.getD undef = .pointer (some ⟨B, 0, none⟩) := by simpa using ha
  have c0 := blk_cells hb 0
  have c1 := blk_cells hb 1
  have c2 := blk_cells hb 2
  have c3 := blk_cells hb 3
  have c4 := blk_cells hb 4
  have c5 := blk_cells hb 5
  simp only [List.getElem?_toArray, List.getElem?_cons_zero, List.getElem?_cons_succ] at c0 c1 c2 c3 c4 c5
  simp [results, h, ha', asAddr, go_sem, loadVar, isAgg, Tryz.underlying56, c0, c1, c2, c3, c4, c5]
def fmO : Obj := .cells #[.bool false, .string ⟨#[]⟩, .int .i64 0, .int .i64 0, .slice none 0 0, .nilIface] 56
theorem only6 {w : World} {B : Nat} (x0 x1 x2 x3 x4 x5 : Value) : Only (fun b => b = B) w ((((((w.setCell ⟨B, 0, none⟩ x0).setCell ⟨B, 1, none⟩ x1).setCell ⟨B, 2, none⟩ x2).setCell ⟨B, 3, none⟩ x3).setCell ⟨B, 4, none⟩ x4).setCell ⟨B, 5, none⟩ x5) :=
  ((((((Only.refl (fun b => b = B) w).setCell ⟨B, 0, none⟩ _ (fun _ => rfl)).setCell ⟨B, 1, none⟩ _ (fun _ => rfl)).setCell ⟨B, 2, none⟩ _ (fun _ => rfl)).setCell ⟨B, 3, none⟩ _ (fun _ => rfl)).setCell ⟨B, 4, none⟩ _ (fun _ => rfl)).setCell ⟨B, 5, none⟩ _ (fun _ => rfl)
theorem dfR_d {n : Int} {f : Nat} {q : List Tok} {o z : Int} {fm : Fm} {r : List Tok} {z' : Int} (h : dfR n f q o z = .ok (fm, r, z')) : fm.d = true ∧ fm.it = noT := by
  unfold dfR dfN dfQ dfA dfB dfC at h
  repeat' split at h
  all_goals first
    | (simp at h; done)
    | (simp only [Except.ok.injEq, Prod.mk.injEq] at h; obtain ⟨rfl, _, _⟩ := h; exact ⟨rfl, rfl⟩)
set_option maxRecDepth 100000 in
set_option maxHeartbeats 8000000 in
theorem form_any (R f : Nat) (q : List Tok) (n o z : Int) (w : World) (ho : 0 ≤ o) (ho1 : o ≤ 32) (hz : 0 ≤ z) (hz1 : z ≤ 1024) (hl : 3 * q.length + 3 ≤ f) (hl2 : q.length ≤ 4096) (h : RdAt w R q n o z) :
    Calls Tryz.prog 24 #[.pointer (some ⟨R, 0, none⟩)] w (fmP R f n o w (fmR n f q o z)) := by
  obtain ⟨Z, hZ⟩ : ∃ Z, Z = fmR n f q o z := ⟨_, rfl⟩
  rw [← hZ]
  have HZ : Hid (Z = fmR n f q o z) := hZ
  have HP : Hid (∀ a e w', Z = .error (a, e) → Only (fun b => b = R) w w' → fmP R f n o w Z (gup a e) w') := by
    intro a e w' h1 h2
    rw [h1]
    exact show _ ∧ _ from ⟨rfl, h2⟩
  have K0 : Hid (DfK w (w.alloc fmO) R q n o z fmO) := DfK.start h fmO
  have HB : Hid (0 ≤ o ∧ o ≤ 32 ∧ 0 ≤ z ∧ z ≤ 1024 ∧ 3 * q.length + 3 ≤ f ∧ q.length ≤ 4096) := ⟨ho, ho1, hz, hz1, hl, hl2⟩
  clear hZ h ho ho1 hz hz1 hl hl2
  cases q with
  | nil =>
    go_enter Tryz.func24, Tryz.ntmps24
    go_wp2_with fail
    refine (show Calls Tryz.prog 52 _ _ _ from is_nil R n o z _ _ K0.out.rd).mono ?_
    rintro e w1 ⟨rfl, o1⟩
    have HX : Hid (fmP R f n o w Z (gup n 9) w1) := HP.out _ _ _ HZ.out (K0.out.still o1).on
    clear HZ HP K0 o1 HB
    unfold gup at HX ⊢
    go_wp2
    exact ⟨rfl, HX.out⟩
  | cons t r =>
    have HS : Hid (∀ w1, RdAt w1 R (t :: r) n o z → Calls Tryz.prog 52 #[.pointer (some ⟨R, 0, none⟩), .string ⟨#[58]⟩] w1 fun x w' => x = .returned (.bool (isB t ⟨#[58]⟩)) ∧ Only (fun _ => False) w1 w') := fun w1 hw => is_cons R t r n o z _ w1 hw
    cases hn : isB t ⟨#[58]⟩ with
    | true =>
      rw [hn] at HS
      have HZ2 : Hid (Z = dfR n f (t :: r) o z) := by show Z = _; rw [HZ.out]; simp only [fmR]; rw [if_pos hn]
      have HD : Hid (∀ w1, RdAt w1 R (t :: r) n o z → Calls Tryz.prog 53 #[.pointer (some ⟨R, 0, none⟩)] w1 (dfP R f n o w1 (dfR n f (t :: r) o z))) := by
        intro w1 hw
        have b := HB.out
        simp only [List.length_cons] at b
        exact definition_any R f t r n o z w1 b.1 b.2.1 b.2.2.1 b.2.2.2.1 (by omega) (by omega) hw
      have HDD : Hid (∀ fm q z', dfR n f (t :: r) o z = .ok (fm, q, z') → fm.d = true ∧ fm.it = noT) := fun fm q z' h => dfR_d h
      clear HZ hn
      obtain ⟨X, hX⟩ : ∃ X, X = dfR n f (t :: r) o z := ⟨_, rfl⟩
      rw [← hX] at HZ2 HD HDD
      clear hX
      go_enter Tryz.func24, Tryz.ntmps24
      go_wp2_with fail
      refine (show Calls Tryz.prog 52 _ _ _ from HS.out _ K0.out.rd).mono ?_
      rintro e w1 ⟨rfl, o1⟩
      have K1 : Hid (DfK w w1 R (t :: r) n o z fmO) := K0.out.still o1
      clear o1 K0 HS
      go_wp2_with fail
      refine (show Calls Tryz.prog 53 _ _ _ from HD.out _ K1.out.rd).mono ?_
      intro e w2 g2
      clear HD
      cases X with
      | error p =>
        obtain ⟨a, er⟩ := p
        obtain ⟨he, o2⟩ := g2
        subst he
        have HX : Hid (fmP R f n o w Z (gup a er) w2) := HP.out _ _ _ HZ2.out (K1.out.on.trans o2 (fun _ _ g => g))
        clear HZ2 HP K1 o2 HB
        unfold gup at HX ⊢
        go_wp2
        exact ⟨rfl, HX.out⟩
      | ok p =>
        obtain ⟨⟨fd, fn, fi, fj, fb, ft⟩, q6, z'⟩ := p
        obtain ⟨ao, cap, he, g2⟩ := g2
        obtain ⟨hd1, hd2⟩ := HDD.out _ _ _ rfl
        dsimp only at hd1 hd2 he g2
        subst hd1
        subst hd2
        subst he
        have K2 : DfK w w2 R q6 n o z' fmO := K1.out.go g2.out.2.2 g2.out.2.1
        have hbig : w.heap.size < w1.heap.size := (Array.getElem?_eq_some_iff.1 K1.out.bl).1
        have HW : Hid (RwAt w2 (w.heap.size + 1) 54 f true (.slice ao fb.length cap) fb ∧ DfK w w2 R q6 n o z' fmO) := ⟨g2.out.1.lower hbig, K2⟩
        have R3 := K2.bl
        unfold fmO at R3
        obtain ⟨B, hBe⟩ : ∃ B, B = w.heap.size := ⟨_, rfl⟩
        have HE : Hid (B = w.heap.size) := hBe
        rw [← hBe] at R3 ⊢
        have c0 := blk_cells R3 0
        have c1 := blk_cells R3 1
        have c2 := blk_cells R3 2
        have c3 := blk_cells R3 3
        have c4 := blk_cells R3 4
        have c5 := blk_cells R3 5
        have z0 := blk_froz R3 0
        have z1 := blk_froz R3 1
        have z2 := blk_froz R3 2
        have z3 := blk_froz R3 3
        have z4 := blk_froz R3 4
        have z5 := blk_froz R3 5
        have HR3 : Hid (w2.heap[B]? = some (.cells #[.bool false, .string ⟨#[]⟩, .int .i64 0, .int .i64 0, .slice none 0 0, .nilIface] 56)) := R3
        simp only [List.getElem?_toArray, List.getElem?_cons_zero, List.getElem?_cons_succ] at c0 c1 c2 c3 c4 c5
        clear g2 K1 K2 hbig R3 hBe HP HDD
        obtain ⟨L, hL⟩ : ∃ L, L = fb.length := ⟨_, rfl⟩
        have HLL : Hid (L = fb.length) := hL
        rw [← hL] at HW
        rw [← hL]
        clear hL
        go_wp2
        refine bodyPost_ret (results_fm rfl _ _ B (set6 HR3.out _ _ _ _ _ _) rfl) rfl ?_
        rw [show Z = _ from HZ2.out]
        have e1 : L = fb.length := HLL.out
        have hBe : B = w.heap.size := HE.out
        have OB := @only6 w2 B (.bool true) (.string fn) (.int .i64 (fi : Int)) (.int .i64 (fj : Int)) (.slice ao L cap) .nilIface
        have hR := HW.out.2.lt
        refine show ∃ bv iv, _ ∧ Hid _ from ⟨.slice ao L cap, .nilIface, rfl, ?_⟩
        refine ⟨?_, HW.out.2.rd.other (fun b h e => by omega) OB, HW.out.2.on.trans OB (fun b h e => by omega)⟩
        obtain ⟨S, hS, hb⟩ := ((HW.out.1.only OB (fun b hb e => by omega)).lower (show w.heap.size ≤ w.heap.size + 1 by omega)).seq
        exact ⟨S, .inl ⟨rfl, rfl, hS, rfl⟩, hb⟩
    | false =>
      rw [hn] at HS
      have HZ2 : Hid (Z = match prs n f 1 (t :: r) o z with
          | .error e => .error e
          | .ok (l, q', z') => .ok (⟨false, ⟨#[]⟩, 0, 0, [], l.headD noT⟩, q', z')) := by show Z = _; rw [HZ.out]; simp only [fmR]; rw [if_neg (by rw [hn]; simp)]; try rfl
      have HD : Hid (∀ w1, RdAt w1 R (t :: r) n o z → Calls Tryz.prog 32 #[.pointer (some ⟨R, 0, none⟩)] w1 (ptP R f true n o w1 (prs n f 1 (t :: r) o z))) := by
        intro w1 hw
        have b := HB.out
        exact (parts_any R n (f + 1) f (by omega)).2.1 (t :: r) o z w1 (by omega) b.2.2.2.2.2 b.1 b.2.1 b.2.2.1 b.2.2.2.1 hw
      clear HZ hn
      obtain ⟨X, hX⟩ : ∃ X, X = prs n f 1 (t :: r) o z := ⟨_, rfl⟩
      rw [← hX] at HZ2 HD
      clear hX
      go_enter Tryz.func24, Tryz.ntmps24
      go_wp2_with fail
      refine (show Calls Tryz.prog 52 _ _ _ from HS.out _ K0.out.rd).mono ?_
      rintro e w1 ⟨rfl, o1⟩
      have K1 : Hid (DfK w w1 R (t :: r) n o z fmO) := K0.out.still o1
      clear o1 K0 HS
      go_wp2_with fail
      refine (show Calls Tryz.prog 32 _ _ _ from HD.out _ K1.out.rd).mono ?_
      intro e w2 g2
      clear HD
      cases X with
      | error p =>
        obtain ⟨a, er⟩ := p
        obtain ⟨he, o2⟩ := g2
        subst he
        have HX : Hid (fmP R f n o w Z (gup a er) w2) := HP.out _ _ _ HZ2.out (K1.out.on.trans o2 (fun _ _ g => g))
        clear HZ2 HP K1 o2 HB
        unfold gup at HX ⊢
        go_wp2
        exact ⟨rfl, HX.out⟩
      | ok p =>
        obtain ⟨l, q6, z'⟩ := p
        obtain ⟨t1, v, hl, he, g2⟩ := g2
        subst hl
        subst he
        have K2 : DfK w w2 R q6 n o z' fmO := K1.out.go g2.out.2.2 g2.out.2.1
        have hbig : w.heap.size < w1.heap.size := (Array.getElem?_eq_some_iff.1 K1.out.bl).1
        have HW : Hid (NwAt w2 (w.heap.size + 1) f true t1 v ∧ DfK w w2 R q6 n o z' fmO) := ⟨g2.out.1.lower hbig, K2⟩
        obtain ⟨T, y, hv⟩ := g2.out.1.form
        subst hv
        have R3 := K2.bl
        unfold fmO at R3
        obtain ⟨B, hBe⟩ : ∃ B, B = w.heap.size := ⟨_, rfl⟩
        have HE : Hid (B = w.heap.size) := hBe
        rw [← hBe] at R3 ⊢
        have c0 := blk_cells R3 0
        have c1 := blk_cells R3 1
        have c2 := blk_cells R3 2
        have c3 := blk_cells R3 3
        have c4 := blk_cells R3 4
        have c5 := blk_cells R3 5
        have z0 := blk_froz R3 0
        have z1 := blk_froz R3 1
        have z2 := blk_froz R3 2
        have z3 := blk_froz R3 3
        have z4 := blk_froz R3 4
        have z5 := blk_froz R3 5
        have HR3 : Hid (w2.heap[B]? = some (.cells #[.bool false, .string ⟨#[]⟩, .int .i64 0, .int .i64 0, .slice none 0 0, .nilIface] 56)) := R3
        simp only [List.getElem?_toArray, List.getElem?_cons_zero, List.getElem?_cons_succ] at c0 c1 c2 c3 c4 c5
        clear g2 K1 K2 hbig R3 hBe HP
        go_wp2
        refine bodyPost_ret (results_fm rfl _ _ B (set6 HR3.out _ _ _ _ _ _) rfl) rfl ?_
        rw [show Z = _ from HZ2.out]
        have hBe : B = w.heap.size := HE.out
        have OB := @only6 w2 B (.bool false) (.string ⟨#[]⟩) (.int .i64 0) (.int .i64 0) (.slice none 0 0) (.iface T y)
        have hR := HW.out.2.lt
        refine show ∃ bv iv, _ ∧ Hid _ from ⟨.slice none 0 0, .iface T y, rfl, ?_⟩
        refine ⟨?_, HW.out.2.rd.other (fun b h e => by omega) OB, HW.out.2.on.trans OB (fun b h e => by omega)⟩
        obtain ⟨S, hS, hb⟩ := (HW.out.1.only OB (fun b hb e => by omega)).lower (show w.heap.size ≤ w.heap.size + 1 by omega)
        exact ⟨S, .inr ⟨rfl, rfl, rfl, rfl, rfl, rfl, hS⟩, hb⟩
end Go.Proofs.YtapehdolnljnoaaGreatDoor
namespace Go.Proofs.YtapehdolnljnoaaGreatDoor
open Go.RowKit
set_option linter.unusedSimpArgs false
set_option linter.unusedVariables false
set_option maxRecDepth 100000 in
theorem caught_idle (x y z : Addr) (w : World) :
    CallsD Tryz.prog 51 #[.pointer (some x), .pointer (some y), .pointer (some z)] .returning w fun e u' w' => e = .returned (.tuple #[]) ∧ u' = .returning ∧ w' = w := by
  refine callsD_of_wpS Tryz.func51 rfl fun c₀ cs hu => ?_
  apply wpS_seq
  apply wpS_region
  simp [wpOpsS, go_sem, recoverD, hu, Tryz.ntmps51, Exit.thenS]
  apply wpS_seq
  apply wpS_seq
  apply wpS_region
  simp [wpOpsS, go_sem, recoverD, hu, Tryz.ntmps51, Exit.thenS]
  refine wpS_cond (t := true) (by simp [Act.eval, Array.replicate]) ?_
  simp only [if_true]
  refine wpS_of_wp (wp_ret ?_)
  cases c₀
  simp_all [Exit.thenS, bodyPostS, results, Tryz.results51]
end Go.Proofs.YtapehdolnljnoaaGreatDoor
namespace Go.Proofs.YtapehdolnljnoaaGreatDoor
open Go.RowKit
set_option linter.unusedSimpArgs false
set_option linter.unusedVariables false
theorem flt_as (v : Value) (W : World) : (Instr.typeAssert (.iface 121 v) 20 121 true).run Tryz.prog W = .ok (.tuple #[v, .bool true]) W := by
  simp [Instr.typeAssert, run_underlying Tryz.underlying121]
set_option maxRecDepth 100000 in
set_option maxHeartbeats 4000000 in
theorem caught_own (X Y Z : Nat) (vx vy vz : Value) (tx ty tz : TypeId) (a e : Int) (older : List PanicEntry) (w : World) (hx : w.heap[X]? = some (.cells #[vx] tx)) (hy : w.heap[Y]? = some (.cells #[vy] ty)) (hz : w.heap[Z]? = some (.cells #[vz] tz)) (hxy : X ≠ Y) (hxz : X ≠ Z) (hyz : Y ≠ Z) :
    CallsD Tryz.prog 51 #[.pointer (some ⟨X, 0, none⟩), .pointer (some ⟨Y, 0, none⟩), .pointer (some ⟨Z, 0, none⟩)] (.panicking ({ v := .iface 121 (.agg #[.int .i64 a, .int .i64 e]), recovered := false } :: older)) w fun en u' w' => en = .returned (.tuple #[]) ∧ u' = .panicking ({ v := .iface 121 (.agg #[.int .i64 a, .int .i64 e]), recovered := true } :: older) ∧ Hid (w'.cell? ⟨X, 0, none⟩ = some (.slice none 0 0) ∧ w'.cell? ⟨Y, 0, none⟩ = some (.int .i64 a) ∧ w'.cell? ⟨Z, 0, none⟩ = some (.int .i64 e) ∧ Only (fun b => b = X ∨ b = Y ∨ b = Z) w w') := by
  have al : ∀ (ob : Obj) (b : Nat) (o : Obj), w.heap[b]? = some o → (w.alloc ob).heap[b]? = some o := fun ob b o hb => (((Only.refl (fun _ => False) w).alloc ob).block b (Array.getElem?_eq_some_iff.1 hb).1 (fun h => h)).trans hb
  have cx : ∀ ob, (w.alloc ob).cell? ⟨X, 0, none⟩ = some vx := fun ob => by rw [blk_cells (al ob X _ hx)]; rfl
  have cy : ∀ ob, (w.alloc ob).cell? ⟨Y, 0, none⟩ = some vy := fun ob => by rw [blk_cells (al ob Y _ hy)]; rfl
  have cz : ∀ ob, (w.alloc ob).cell? ⟨Z, 0, none⟩ = some vz := fun ob => by rw [blk_cells (al ob Z _ hz)]; rfl
  have fx : ∀ ob, (w.alloc ob).frozen? ⟨X, 0, none⟩ = false := fun ob => blk_froz (al ob X _ hx) 0
  have fy : ∀ ob, (w.alloc ob).frozen? ⟨Y, 0, none⟩ = false := fun ob => blk_froz (al ob Y _ hy) 0
  have fz : ∀ ob, (w.alloc ob).frozen? ⟨Z, 0, none⟩ = false := fun ob => blk_froz (al ob Z _ hz) 0
  have lx : X < w.heap.size := (Array.getElem?_eq_some_iff.1 hx).1
  have ly : Y < w.heap.size := (Array.getElem?_eq_some_iff.1 hy).1
  have lz : Z < w.heap.size := (Array.getElem?_eq_some_iff.1 hz).1
  clear al hx hy hz
  refine callsD_of_wpS Tryz.func51 rfl fun c₀ cs hu => ?_
  apply wpS_seq
  apply wpS_region
  simp [wpOpsS, go_sem, recoverD, hu, Tryz.ntmps51, Exit.thenS]
  apply wpS_seq
  apply wpS_seq
  apply wpS_region
  simp [wpOpsS, go_sem, recoverD, hu, Tryz.ntmps51, Exit.thenS]
  refine wpS_cond (t := false) (by simp [Act.eval, Array.replicate]) ?_
  simp only [Bool.false_eq_true, if_false]
  refine wpS_of_wp (wp_skip ?_)
  simp only [Exit.thenS]
  refine wpS_of_wp (a := { tmps := #[.pointer (some ⟨X, 0, none⟩), .pointer (some ⟨Y, 0, none⟩), .pointer (some ⟨Z, 0, none⟩), .iface 121 (.agg #[.int .i64 a, .int .i64 e]), undef, undef, .iface 121 (.agg #[.int .i64 a, .int .i64 e]), .iface 121 (.agg #[.int .i64 a, .int .i64 e]), .bool false, undef, undef, undef, undef, undef, undef, undef, undef, undef, undef, undef, undef], defers := [] }) ?_
  have hta := flt_as
  go_wp2_with fail
  obtain ⟨W, hW⟩ : ∃ W, W = w.alloc (.cells #[.int .i64 a, .int .i64 e] 121) := ⟨_, rfl⟩
  have HW : Hid (W = w.alloc (.cells #[.int .i64 a, .int .i64 e] 121)) := hW
  obtain ⟨B, hB⟩ : ∃ B, B = w.heap.size := ⟨_, rfl⟩
  have b0 : W.cell? ⟨B, 0, none⟩ = some (.int .i64 a) := by rw [hW, hB]; simp
  have b1 : W.cell? ⟨B, 1, none⟩ = some (.int .i64 e) := by rw [hW, hB]; simp
  have dx := cx (.cells #[.int .i64 a, .int .i64 e] 121)
  have dy := cy (.cells #[.int .i64 a, .int .i64 e] 121)
  have dz := cz (.cells #[.int .i64 a, .int .i64 e] 121)
  have gx := fx (.cells #[.int .i64 a, .int .i64 e] 121)
  have gy := fy (.cells #[.int .i64 a, .int .i64 e] 121)
  have gz := fz (.cells #[.int .i64 a, .int .i64 e] 121)
  rw [← hW] at dx dy dz gx gy gz
  rw [← hW, ← hB]
  have nx : ¬ X = B := by omega
  have ny : ¬ Y = B := by omega
  have nz : ¬ Z = B := by omega
  have nx' : ¬ B = X := by omega
  have ny' : ¬ B = Y := by omega
  have nz' : ¬ B = Z := by omega
  have nyx : ¬ Y = X := fun h => hxy h.symm
  have nzx : ¬ Z = X := fun h => hxz h.symm
  have nzy : ¬ Z = Y := fun h => hyz h.symm
  clear cx cy cz fx fy fz hW hB lx ly lz
  have hx2 : ((((W.setCell ⟨X, 0, none⟩ (.slice none 0 0)).setCell ⟨Y, 0, none⟩ (.int .i64 a)).setCell ⟨Z, 0, none⟩ (.int .i64 e)).drew).cell? ⟨X, 0, none⟩ = some (.slice none 0 0) := by
    show (((W.setCell ⟨X, 0, none⟩ (.slice none 0 0)).setCell ⟨Y, 0, none⟩ (.int .i64 a)).setCell ⟨Z, 0, none⟩ (.int .i64 e)).cell? ⟨X, 0, none⟩ = _
    rw [World.cell?_setCell_other _ _ _ _ (by intro h; injection h with h; exact nzx h), World.cell?_setCell_other _ _ _ _ (by intro h; injection h with h; exact nyx h)]
    exact World.cell?_setCell_same' _ _ _ (by rw [dx]; rfl)
  have hy2 : ((((W.setCell ⟨X, 0, none⟩ (.slice none 0 0)).setCell ⟨Y, 0, none⟩ (.int .i64 a)).setCell ⟨Z, 0, none⟩ (.int .i64 e)).drew).cell? ⟨Y, 0, none⟩ = some (.int .i64 a) := by
    show (((W.setCell ⟨X, 0, none⟩ (.slice none 0 0)).setCell ⟨Y, 0, none⟩ (.int .i64 a)).setCell ⟨Z, 0, none⟩ (.int .i64 e)).cell? ⟨Y, 0, none⟩ = _
    rw [World.cell?_setCell_other _ _ _ _ (by intro h; injection h with h; exact nzy h)]
    exact World.cell?_setCell_same' _ _ _ (by rw [World.cell?_setCell_other _ _ _ _ (by intro h; injection h with h; exact hxy h), dy]; rfl)
  have hz2 : ((((W.setCell ⟨X, 0, none⟩ (.slice none 0 0)).setCell ⟨Y, 0, none⟩ (.int .i64 a)).setCell ⟨Z, 0, none⟩ (.int .i64 e)).drew).cell? ⟨Z, 0, none⟩ = some (.int .i64 e) := by
    show (((W.setCell ⟨X, 0, none⟩ (.slice none 0 0)).setCell ⟨Y, 0, none⟩ (.int .i64 a)).setCell ⟨Z, 0, none⟩ (.int .i64 e)).cell? ⟨Z, 0, none⟩ = _
    exact World.cell?_setCell_same' _ _ _ (by rw [World.cell?_setCell_other _ _ _ _ (by intro h; injection h with h; exact hyz h), World.cell?_setCell_other _ _ _ _ (by intro h; injection h with h; exact hxz h), dz]; rfl)
  have ho2 : Only (fun b => b = X ∨ b = Y ∨ b = Z) w ((((W.setCell ⟨X, 0, none⟩ (.slice none 0 0)).setCell ⟨Y, 0, none⟩ (.int .i64 a)).setCell ⟨Z, 0, none⟩ (.int .i64 e)).drew) := by
    rw [HW.out]
    exact (((((Only.refl _ w).alloc _).setCell ⟨X, 0, none⟩ _ (fun _ => .inl rfl)).setCell ⟨Y, 0, none⟩ _ (fun _ => .inr (.inl rfl))).setCell ⟨Z, 0, none⟩ _ (fun _ => .inr (.inr rfl))).drew
  have HH : Hid (((((W.setCell ⟨X, 0, none⟩ (.slice none 0 0)).setCell ⟨Y, 0, none⟩ (.int .i64 a)).setCell ⟨Z, 0, none⟩ (.int .i64 e)).drew).cell? ⟨X, 0, none⟩ = some (.slice none 0 0) ∧ ((((W.setCell ⟨X, 0, none⟩ (.slice none 0 0)).setCell ⟨Y, 0, none⟩ (.int .i64 a)).setCell ⟨Z, 0, none⟩ (.int .i64 e)).drew).cell? ⟨Y, 0, none⟩ = some (.int .i64 a) ∧ ((((W.setCell ⟨X, 0, none⟩ (.slice none 0 0)).setCell ⟨Y, 0, none⟩ (.int .i64 a)).setCell ⟨Z, 0, none⟩ (.int .i64 e)).drew).cell? ⟨Z, 0, none⟩ = some (.int .i64 e) ∧ Only (fun b => b = X ∨ b = Y ∨ b = Z) w ((((W.setCell ⟨X, 0, none⟩ (.slice none 0 0)).setCell ⟨Y, 0, none⟩ (.int .i64 a)).setCell ⟨Z, 0, none⟩ (.int .i64 e)).drew)) := ⟨hx2, hy2, hz2, ho2⟩
  clear hx2 hy2 hz2 ho2 HW
  go_region
  exact ⟨rfl, _, rfl, .tuple #[], by simp [results, Tryz.results51], rfl, rfl, HH⟩
end Go.Proofs.YtapehdolnljnoaaGreatDoor
namespace Go.Proofs.YtapehdolnljnoaaGreatDoor
open Go.RowKit
set_option linter.unusedSimpArgs false
set_option linter.unusedVariables false
/-- a row of forms that was made since block B -/
def FsAt (w : World) (B d : Nat) (v : Value) (l : List Fm) : Prop :=
  ∃ us S, w.ownsRow B 56 6 v l.length us ∧ (∀ (j : Nat) (fm : Fm), l[j]? = some fm → ∃ bv iv, (us[j * 6]? = some (.bool fm.d) ∧ us[j * 6 + 1]? = some (.string fm.nm) ∧ us[j * 6 + 2]? = some (.int .i64 (fm.i : Int)) ∧ us[j * 6 + 3]? = some (.int .i64 (fm.j : Int)) ∧ us[j * 6 + 4]? = some bv ∧ us[j * 6 + 5]? = some iv) ∧ FmAt w S d fm bv iv) ∧ ∀ b, S b → B ≤ b ∧ b < w.heap.size ∧ v.ownBlock ≠ some b
theorem fs_nil (w : World) (B d : Nat) : FsAt w B d (.slice none 0 0) [] :=
  ⟨[], fun _ => False, ⟨rfl, .inl ⟨rfl, rfl⟩⟩, fun j x h => by simp at h, fun b h => h.elim⟩
theorem FsAt.form {w : World} {B d : Nat} {v : Value} {l : List Fm} (h : FsAt w B d v l) : ∃ ao cap, v = .slice ao l.length cap := by
  obtain ⟨us, S, ho, _⟩ := h
  rcases ho.2 with ⟨h1, h2⟩ | ⟨g, cap, cur, h1, _⟩
  · exact ⟨_, _, by rw [h1, h2]⟩
  · exact ⟨_, _, h1⟩
theorem FsAt.only {w w' : World} {B d : Nat} {v : Value} {l : List Fm} {bs : Nat → Prop} (h : FsAt w B d v l) (o : Only bs w w') (hb : ∀ b, B ≤ b → ¬ bs b) : FsAt w' B d v l := by
  obtain ⟨us, S, ho, ht, hS⟩ := h
  refine ⟨us, S, o.owns ho (fun k hk => hb k (ho.lt k hk).1), fun j x hx => ?_, fun b hbS => ?_⟩
  · obtain ⟨bv, iv, hu, h2⟩ := ht j x hx
    exact ⟨bv, iv, hu, h2.step (fun _ g => g) (fun a u hs hc => o.cell hc (hb _ (hS _ hs).1)) (Nat.le_refl _)⟩
  · obtain ⟨h1, h2, h3⟩ := hS b hbS
    exact ⟨h1, Nat.lt_of_lt_of_le h2 o.size, h3⟩
theorem FsAt.lower {w : World} {B C d : Nat} {v : Value} {l : List Fm} (h : FsAt w B d v l) (hC : C ≤ B) : FsAt w C d v l := by
  obtain ⟨us, S, ho, ht, hS⟩ := h
  refine ⟨us, S, ⟨ho.1, ?_⟩, ht, fun b hb => ⟨Nat.le_trans hC (hS b hb).1, (hS b hb).2⟩⟩
  rcases ho.2 with g | ⟨g, cap, cur, h1, h2, h3⟩
  · exact .inl g
  · exact .inr ⟨g, cap, cur, h1, by omega, h3⟩
theorem FsAt.snoc {w w' : World} {B C d : Nat} {v v' : Value} {l : List Fm} {fm : Fm} {bv iv : Value} {us : List Value} {S : Nat → Prop} (hg : w.grownBy w' v.ownBlock) (ho : w.ownsRow B 56 6 v l.length us) (ht : ∀ (j : Nat) (fm : Fm), l[j]? = some fm → ∃ bv iv, (us[j * 6]? = some (.bool fm.d) ∧ us[j * 6 + 1]? = some (.string fm.nm) ∧ us[j * 6 + 2]? = some (.int .i64 (fm.i : Int)) ∧ us[j * 6 + 3]? = some (.int .i64 (fm.j : Int)) ∧ us[j * 6 + 4]? = some bv ∧ us[j * 6 + 5]? = some iv) ∧ FmAt w S d fm bv iv) (hS : ∀ b, S b → B ≤ b ∧ b < w.heap.size ∧ v.ownBlock ≠ some b)
    (hn : NfAt w C d fm bv iv) (hC : B ≤ C) (hv : ∀ k, v.ownBlock = some k → k < C) (ho' : w'.ownsRow B 56 6 v' (l.length + 1) (us ++ [.bool fm.d, .string fm.nm, .int .i64 (fm.i : Int), .int .i64 (fm.j : Int), bv, iv])) (hat : v'.ownBlock = v.ownBlock ∨ v'.ownBlock = some w.heap.size) : FsAt w' B d v' (l ++ [fm]) := by
  obtain ⟨S1, t1, s1⟩ := hn
  have oo : Only (fun k => v.ownBlock = some k) w w' := (Only.refl _ w).grown hg (fun k e _ => e)
  have a1 : ∀ b, S b → ¬ v.ownBlock = some b := fun b h => (hS b h).2.2
  have a2 : ∀ b, S1 b → ¬ v.ownBlock = some b := fun b h e => by have := hv b e; have := (s1 b h).1; omega
  have hl : us.length = l.length * 6 := ho.1
  refine ⟨_, fun b => S b ∨ S1 b, by simpa using ho', fun j x hx => ?_, fun b hb => ?_⟩
  · by_cases hj : j < l.length
    · rw [List.getElem?_append_left hj] at hx
      obtain ⟨bv', iv', ⟨h0, h1, h2, h3, h4, h5⟩, h6⟩ := ht j x hx
      have ap : ∀ i u, us[i]? = some u → (us ++ [.bool fm.d, .string fm.nm, .int .i64 (fm.i : Int), .int .i64 (fm.j : Int), bv, iv])[i]? = some u := fun i u hu => by
        rw [List.getElem?_append_left (List.getElem?_eq_some_iff.1 hu).1]; exact hu
      exact ⟨bv', iv', ⟨ap _ _ h0, ap _ _ h1, ap _ _ h2, ap _ _ h3, ap _ _ h4, ap _ _ h5⟩, h6.step (fun _ g => .inl g) (fun a y hs hc => oo.cell hc (a1 _ hs)) (Nat.le_refl _)⟩
    · have hj2 : j < (l ++ [fm]).length := (List.getElem?_eq_some_iff.1 hx).1
      have hj3 : j = l.length := by simp at hj2; omega
      subst hj3
      simp at hx
      subst hx
      have ap : ∀ i, (us ++ [.bool fm.d, .string fm.nm, .int .i64 (fm.i : Int), .int .i64 (fm.j : Int), bv, iv])[l.length * 6 + i]? = ([.bool fm.d, .string fm.nm, .int .i64 (fm.i : Int), .int .i64 (fm.j : Int), bv, iv] : List Value)[i]? := fun i => by
        rw [List.getElem?_append_right (by omega)]
        congr 1
        omega
      exact ⟨bv, iv, ⟨ap 0, ap 1, ap 2, ap 3, ap 4, ap 5⟩, t1.step (fun _ g => .inr g) (fun a y hs hc => oo.cell hc (a2 _ hs)) (Nat.le_refl _)⟩
  · have h1 : B ≤ b ∧ b < w.heap.size ∧ v.ownBlock ≠ some b := by
      rcases hb with h | h
      · exact hS b h
      · exact ⟨Nat.le_trans hC (s1 b h).1, (s1 b h).2, a2 b h⟩
    refine ⟨h1.1, Nat.lt_of_lt_of_le h1.2.1 oo.size, ?_⟩
    rcases hat with e | e <;> rw [e]
    · exact h1.2.2
    · intro e2
      injection e2 with e2
      have := h1.2.1
      omega
/-- all forms -/
def alR (n : Int) (F : Nat) : Nat → List Tok → Except (Int × Int) (List Fm)
  | 0, _ => .error (0, 0)
  | g + 1, [] => .ok []
  | g + 1, t :: r =>
    match fmR n F (t :: r) 0 0 with
    | .error e => .error e
    | .ok (fm, q, _) =>
      match alR n F g q with
      | .error e => .error e
      | .ok l => .ok (fm :: l)
theorem dfR_len {n : Int} {f : Nat} {q : List Tok} {o z : Int} {fm : Fm} {r : List Tok} {z' : Int} (hz : z ≤ 1024) (h : dfR n f q o z = .ok (fm, r, z')) : r.length < q.length := by
  cases q with
  | nil => simp [dfR] at h
  | cons t0 q1 =>
    simp only [dfR] at h
    split at h
    · simp at h
    · rename_i hf
      cases q1 with
      | nil => simp [dfN] at h
      | cons t1 q2 =>
        simp only [dfN] at h
        split at h
        · simp at h
        · cases q2 with
          | nil => simp [dfQ] at h
          | cons t2 q3 =>
            simp only [dfQ] at h
            split at h
            · simp at h
            · unfold dfA at h
              split at h
              · simp at h
              · rename_i i q4 h4
                unfold dfB at h
                split at h
                · simp at h
                · rename_i j q5 h5
                  unfold dfC at h
                  split at h
                  · simp at h
                  · rename_i l q6 z6 h6
                    simp only [Except.ok.injEq, Prod.mk.injEq] at h
                    obtain ⟨_, rfl, _⟩ := h
                    have a4 := (sdR_len n _ _ _ _ _ h4).1
                    have a5 := (sdR_len n _ _ _ _ _ h5).1
                    have a6 := (prs_ok n _ _ _ _ _ _ _ _ h6 (by omega)).1
                    simp only [List.length_cons]
                    omega
theorem fmR_len {n : Int} {f : Nat} {q : List Tok} {o z : Int} {fm : Fm} {r : List Tok} {z' : Int} (hz : z ≤ 1024) (h : fmR n f q o z = .ok (fm, r, z')) : r.length < q.length := by
  cases q with
  | nil => simp [fmR] at h
  | cons t q =>
    simp only [fmR] at h
    split at h
    · exact dfR_len hz h
    · split at h
      · simp at h
      · rename_i l q' z'' hp
        simp only [Except.ok.injEq, Prod.mk.injEq] at h
        obtain ⟨_, rfl, _⟩ := h
        exact (prs_ok n _ _ _ _ _ _ _ _ hp hz).1
/-- what stands ahead of an answer -/
def preF (acc : List Fm) (r : Except (Int × Int) (List Fm)) : Except (Int × Int) (List Fm) :=
  match r with
  | .error e => .error e
  | .ok l => .ok (acc ++ l)
theorem alR_go (n : Int) (F g : Nat) (t : Tok) (r : List Tok) (acc : List Fm) : preF acc (alR n F (g + 1) (t :: r)) =
    match fmR n F (t :: r) 0 0 with
    | .error e => .error e
    | .ok (fm, q, _) => preF (acc ++ [fm]) (alR n F g q) := by
  simp only [alR]
  cases fmR n F (t :: r) 0 0 with
  | error e => rfl
  | ok p =>
    obtain ⟨fm, q, z⟩ := p
    dsimp only
    cases alR n F g q with
    | error e => rfl
    | ok l => simp [preF]
/-- what a source is read as -/
def parR (s : ByteArray) : List Fm × Int × Int :=
  if (tokR s).2.2 = 0 then
    match alR (s.size : Int) 12400 ((tokR s).1.length + 1) (tokR s).1 with
    | .error (a, e) => ([], a, e)
    | .ok l => (l, 0, 0)
  else ([], ((tokR s).2.1 : Int), (tokR s).2.2)
theorem results_ra {fn : Func} {t u v : Tmp} (h : fn.results = #[.cell t 23, .cell u 3, .cell v 24]) (tmps : Array Value) (w : World) (X Y Z : Nat) {x y z : Value} (h0 : w.cell? ⟨X, 0, none⟩ = some x) (h1 : w.cell? ⟨Y, 0, none⟩ = some y) (h2 : w.cell? ⟨Z, 0, none⟩ = some z) (ha : tmps.getD t undef = .pointer (some ⟨X, 0, none⟩)) (hb : tmps.getD u undef = .pointer (some ⟨Y, 0, none⟩)) (hc : tmps.getD v undef = .pointer (some ⟨Z, 0, none⟩)) :
    (results fn tmps).run Tryz.prog w = .ok (.tuple #[x, y, z]) w := by
  have ha' : tmps[t]?.getD undef = .pointer (some ⟨X, 0, none⟩) := by simpa using ha
  have hb' : tmps[u]?.getD undef = .pointer (some ⟨Y, 0, none⟩) := by simpa using hb
  have hc' : tmps[v]?.getD undef = .pointer (some ⟨Z, 0, none⟩) := by simpa using hc
  simp [results, h, ha', hb', hc', asAddr, go_sem, loadVar, isAgg, Tryz.underlying23, Tryz.underlying3, Tryz.underlying24, h0, h1, h2]
/-- the three results of readAll in memory -/
structure RaK (N : Nat) (vx : Value) (vy vz : Int) (w : World) : Prop where
  bx : w.heap[N]? = some (.cells #[vx] 23)
  by_ : w.heap[N + 1]? = some (.cells #[.int .i64 vy] 3)
  bz : w.heap[N + 2]? = some (.cells #[.int .i64 vz] 24)
theorem RaK.only {N : Nat} {vx : Value} {vy vz : Int} {w w' : World} {bs : Nat → Prop} (h : RaK N vx vy vz w) (o : Only bs w w') (hb : ∀ b, b ≤ N + 2 → N ≤ b → ¬ bs b) : RaK N vx vy vz w' :=
  ⟨(o.block _ (Array.getElem?_eq_some_iff.1 h.bx).1 (hb _ (by omega) (by omega))).trans h.bx, (o.block _ (Array.getElem?_eq_some_iff.1 h.by_).1 (hb _ (by omega) (by omega))).trans h.by_, (o.block _ (Array.getElem?_eq_some_iff.1 h.bz).1 (hb _ (by omega) (by omega))).trans h.bz⟩
theorem RaK.setY {N : Nat} {vx : Value} {vy vz : Int} {w : World} (h : RaK N vx vy vz w) (y : Int) : RaK N vx y vz (w.setCell ⟨N + 1, 0, none⟩ (.int .i64 y)) :=
  ⟨by rw [heap_setCell_other _ _ _ _ (by simp only; omega)]; exact h.bx, (heap_setCell_same _ _ _ _ _ _ h.by_).trans rfl, by rw [heap_setCell_other _ _ _ _ (by simp only; omega)]; exact h.bz⟩
theorem RaK.setZ {N : Nat} {vx : Value} {vy vz : Int} {w : World} (h : RaK N vx vy vz w) (z : Int) : RaK N vx vy z (w.setCell ⟨N + 2, 0, none⟩ (.int .i64 z)) :=
  ⟨by rw [heap_setCell_other _ _ _ _ (by simp only; omega)]; exact h.bx, by rw [heap_setCell_other _ _ _ _ (by simp only; omega)]; exact h.by_, (heap_setCell_same _ _ _ _ _ _ h.bz).trans rfl⟩
theorem RaK.setX {N : Nat} {vx : Value} {vy vz : Int} {w : World} (h : RaK N vx vy vz w) (x : Value) : RaK N x vy vz (w.setCell ⟨N, 0, none⟩ x) :=
  ⟨(heap_setCell_same _ _ _ _ _ _ h.bx).trans rfl, by rw [heap_setCell_other _ _ _ _ (by simp only; omega)]; exact h.by_, by rw [heap_setCell_other _ _ _ _ (by simp only; omega)]; exact h.bz⟩
theorem RaK.start (w : World) : RaK w.heap.size (.slice none 0 0) 0 0 (((w.alloc (.cells #[.slice none 0 0] 23)).alloc (.cells #[.int .i64 0] 3)).alloc (.cells #[.int .i64 0] 24)) := by
  have h1 := alloc_at w (.cells #[.slice none 0 0] 23) _ rfl
  have h2 := alloc_at (w.alloc (.cells #[.slice none 0 0] 23)) (.cells #[.int .i64 0] 3) (w.heap.size + 1) (by simp)
  have h3 := alloc_at ((w.alloc (.cells #[.slice none 0 0] 23)).alloc (.cells #[.int .i64 0] 3)) (.cells #[.int .i64 0] 24) (w.heap.size + 2) (by simp)
  have al : ∀ (W : World) (ob : Obj) (b : Nat) (o : Obj), W.heap[b]? = some o → (W.alloc ob).heap[b]? = some o := fun W ob b o hb => (((Only.refl (fun _ => False) W).alloc ob).block b (Array.getElem?_eq_some_iff.1 hb).1 (fun h => h)).trans hb
  exact ⟨al _ _ _ _ (al _ _ _ _ h1), al _ _ _ _ h2, h3⟩
end Go.Proofs.YtapehdolnljnoaaGreatDoor
namespace Go.Proofs.YtapehdolnljnoaaGreatDoor
open Go.RowKit
set_option linter.unusedSimpArgs false
set_option linter.unusedVariables false
def raP (s : ByteArray) (w : World) (x : Ending) (w' : World) : Prop := ∃ v, x = .returned (.tuple #[v, .int .i64 (parR s).2.1, .int .i64 (parR s).2.2]) ∧ Hid (FsAt w' w.heap.size 12400 v (parR s).1 ∧ Below w.heap.size w w')
set_option maxRecDepth 100000 in
set_option maxHeartbeats 8000000 in
theorem readAll_bad (s : ByteArray) (w : World) (h : Nog w) (hb : ¬ (tokR s).2.2 = 0) :
    Calls Tryz.prog 23 #[.string s, .func (.func 24) #[] #[]] w (raP s w) := by
  have HT : Hid (∀ w1, Only (fun _ => False) w w1 → Calls Tryz.prog 50 #[.string s] w1 fun e w' => ∃ v, e = .returned (.tuple #[v, .int .i64 ((tokR s).2.1 : Nat), .int .i64 (tokR s).2.2]) ∧ Hid (ToksAt w' w1.heap.size v (tokR s).1 ∧ Below w1.heap.size w1 w')) := fun w1 o1 => tokens_any s w1 (h.frame o1)
  have HP : Hid (∀ w', Below w.heap.size w w' → raP s w (.returned (.tuple #[.slice none 0 0, .int .i64 ((tokR s).2.1 : Nat), .int .i64 (tokR s).2.2])) w') := by
    intro w' hw
    have e1 : parR s = ([], ((tokR s).2.1 : Int), (tokR s).2.2) := by unfold parR; rw [if_neg hb]
    unfold raP
    rw [e1]
    exact ⟨_, rfl, fs_nil _ _ _, hw⟩
  obtain ⟨a, ha⟩ : ∃ a, a = (tokR s).2.1 := ⟨_, rfl⟩
  obtain ⟨e, he⟩ : ∃ e, e = (tokR s).2.2 := ⟨_, rfl⟩
  rw [← ha, ← he] at HT HP
  rw [← he] at hb
  have K0 : Hid (RaK w.heap.size (.slice none 0 0) 0 0 (((w.alloc (.cells #[.slice none 0 0] 23)).alloc (.cells #[.int .i64 0] 3)).alloc (.cells #[.int .i64 0] 24))) := RaK.start w
  have O0 : Hid (Only (fun _ => False) w (((w.alloc (.cells #[.slice none 0 0] 23)).alloc (.cells #[.int .i64 0] 3)).alloc (.cells #[.int .i64 0] 24))) := (((Only.refl _ w).alloc _).alloc _).alloc _
  clear ha he h
  go_enter_defers Tryz.func23, Tryz.ntmps23
  go_wp2_with fail
  refine (show Calls Tryz.prog 50 _ _ _ from HT.out _ O0.out).mono ?_
  rintro ex w1 ⟨v, rfl, g1⟩
  have o1 := below_only g1.out.2
  have K1 := K0.out.only o1 (fun _ _ _ h => h)
  have O1 : Hid (Only (fun _ => False) w w1) := O0.out.trans o1 (fun _ _ g => g)
  have e1 : (((w.alloc (.cells #[.slice none 0 0] 23)).alloc (.cells #[.int .i64 0] 3))).heap.size = w.heap.size + 2 := by simp
  obtain ⟨N, hN⟩ : ∃ N, N = w.heap.size := ⟨_, rfl⟩
  have HN : Hid (N = w.heap.size) := hN
  rw [← hN] at K1
  have HK1 : Hid (RaK N (.slice none 0 0) 0 0 w1) := K1
  have x0 : w1.cell? ⟨N, 0, none⟩ = some (.slice none 0 0) := by rw [blk_cells K1.bx]; rfl
  have y0 : w1.cell? ⟨N + 1, 0, none⟩ = some (.int .i64 0) := by rw [blk_cells K1.by_]; rfl
  have z0 : w1.cell? ⟨N + 2, 0, none⟩ = some (.int .i64 0) := by rw [blk_cells K1.bz]; rfl
  have fx : w1.frozen? ⟨N, 0, none⟩ = false := blk_froz K1.bx 0
  have fy : w1.frozen? ⟨N + 1, 0, none⟩ = false := blk_froz K1.by_ 0
  have fz : w1.frozen? ⟨N + 2, 0, none⟩ = false := blk_froz K1.bz 0
  rw [← hN]
  clear HT O0 K0 o1 g1 hN K1 e1
  go_wp2
  obtain ⟨W, hW⟩ : ∃ W, W = ((w1.setCell ⟨N + 1, 0, none⟩ (.int .i64 (a : Int))).setCell ⟨N + 1 + 1, 0, none⟩ (.int .i64 e)) := ⟨_, rfl⟩
  have K2 : RaK N (.slice none 0 0) (a : Int) e W := by rw [hW]; exact (HK1.out.setY _).setZ _
  have O2 : Hid (Only (fun _ => False) w W) := by
    show Only _ _ _
    have hn : N = w.heap.size := HN.out
    rw [hW]
    exact (O1.out.setCell ⟨N + 1, 0, none⟩ _ (fun h => by simp only at h; omega)).setCell ⟨N + 1 + 1, 0, none⟩ _ (fun h => by simp only at h; omega)
  rw [← hW]
  clear x0 y0 z0 fx fy fz hW HK1 O1
  have HK2 : Hid (RaK N (.slice none 0 0) (a : Int) e W) := K2
  have x0 : W.cell? ⟨N, 0, none⟩ = some (.slice none 0 0) := by rw [blk_cells K2.bx]; rfl
  have y0 : W.cell? ⟨N + 1, 0, none⟩ = some (.int .i64 (a : Int)) := by rw [blk_cells K2.by_]; rfl
  have z0 : W.cell? ⟨N + 1 + 1, 0, none⟩ = some (.int .i64 e) := by rw [blk_cells K2.bz]; rfl
  have fx : W.frozen? ⟨N, 0, none⟩ = false := blk_froz K2.bx 0
  have fy : W.frozen? ⟨N + 1, 0, none⟩ = false := blk_froz K2.by_ 0
  have fz : W.frozen? ⟨N + 1 + 1, 0, none⟩ = false := blk_froz K2.bz 0
  clear K2
  go_region
  obtain ⟨W2, hW2⟩ : ∃ W2, W2 = (((W.setCell ⟨N, 0, none⟩ (.slice none 0 0)).setCell ⟨N + 1, 0, none⟩ (.int .i64 (a : Int))).setCell ⟨N + 1 + 1, 0, none⟩ (.int .i64 e)).drew := ⟨_, rfl⟩
  have K3 : Hid (RaK N (.slice none 0 0) (a : Int) e W2) := by
    show RaK _ _ _ _ _
    rw [hW2]
    have := ((HK2.out.setX (.slice none 0 0)).setY (a : Int)).setZ e
    exact ⟨this.bx, this.by_, this.bz⟩
  have O3 : Hid (Only (fun _ => False) w W2) := by
    show Only _ _ _
    have hn : N = w.heap.size := HN.out
    rw [hW2]
    exact (((O2.out.setCell ⟨N, 0, none⟩ _ (fun h => by simp only at h; omega)).setCell ⟨N + 1, 0, none⟩ _ (fun h => by simp only at h; omega)).setCell ⟨N + 1 + 1, 0, none⟩ _ (fun h => by simp only at h; omega)).drew
  rw [← hW2]
  clear hW2 x0 y0 z0 fx fy fz HK2 O2
  go_wp2
  exact ⟨_, results_ra rfl _ _ N (N + 1) (N + 2) (by rw [blk_cells K3.out.bx]; rfl) (by rw [blk_cells K3.out.by_]; rfl) (by rw [blk_cells K3.out.bz]; rfl) rfl rfl rfl, HP.out _ (only_below O3.out)⟩
end Go.Proofs.YtapehdolnljnoaaGreatDoor
namespace Go.Proofs.YtapehdolnljnoaaGreatDoor
open Go.RowKit
set_option linter.unusedSimpArgs false
set_option linter.unusedVariables false
set_option maxRecDepth 100000 in
theorem fm_info : ∃ i z, Tryz.prog.info? 56 = some i ∧ i.zero = some z ∧ i.size = 6 ∧ i.bytes = 80 ∧ z.cells.size = 6 := ⟨_, _, rfl, rfl, rfl, rfl, rfl⟩
theorem TrAt.form {w : World} {S : Nat → Prop} {d : Nat} {i : Bool} {t : Tre} {v : Value} (ht : TrAt w S d i t v) : ∃ T x, v = .iface T x := by
  cases d with
  | zero => exact ht.elim
  | succ d =>
    cases i with
    | true => rcases ht with h | ⟨_, u, h, _⟩
              · exact ⟨_, _, h.2.2⟩
              · exact ⟨_, _, h⟩
    | false => rcases ht with h | h | h | ⟨_, _, _, h, _⟩
               · exact ⟨_, _, h.2.2⟩
               · exact ⟨_, _, h.2.2⟩
               · exact ⟨_, _, h.2.2⟩
               · exact ⟨_, _, h⟩
theorem FmAt.one {w : World} {S : Nat → Prop} {d : Nat} {fm : Fm} {bv iv : Value} (h : FmAt w S d fm bv iv) : bv.oneCell' = true ∧ iv.oneCell' = true := by
  rcases h with ⟨_, _, ⟨ao, cap, rfl, _⟩, rfl⟩ | ⟨_, _, _, _, _, rfl, h7⟩
  · exact ⟨rfl, rfl⟩
  · obtain ⟨T, x, rfl⟩ := h7.form
    exact ⟨rfl, rfl⟩
/-- a form is put behind a row -/
theorem app_form {w : World} {B C d : Nat} {v : Value} {acc : List Fm} {fm : Fm} {bv iv : Value} (hf : FsAt w B d v acc) (hn : NfAt w C d fm bv iv) (hC : B ≤ C) (hv : ∀ k, v.ownBlock = some k → k < C) (hB : B ≤ w.heap.size) (hl : acc.length ≤ 4096) :
    ∃ v' w', (∀ ty, (Builtin.append_ #[23, 23] ty #[v, .slice (some ⟨w.heap.size, 0, none⟩) 1 1]).run Tryz.prog (w.alloc (.cells #[.bool fm.d, .string fm.nm, .int .i64 (fm.i : Int), .int .i64 (fm.j : Int), bv, iv] 56)) = .ok v' w') ∧ FsAt w' B d v' (acc ++ [fm]) ∧ Only (fun k => B ≤ k) w w' := by
  obtain ⟨i0, z0, hi, hz0, hz1, hz2, hz3⟩ := fm_info
  obtain ⟨W, hW⟩ : ∃ W, W = w.alloc (.cells #[.bool fm.d, .string fm.nm, .int .i64 (fm.i : Int), .int .i64 (fm.j : Int), bv, iv] 56) := ⟨_, rfl⟩
  have oo : Only (fun _ => False) w W := by rw [hW]; exact (Only.refl _ w).alloc _
  have hf2 := hf.only oo (fun _ _ h => h)
  have hn2 := hn.only oo (fun _ _ h => h)
  have hblk : W.heap[w.heap.size]? = some (.cells #[.bool fm.d, .string fm.nm, .int .i64 (fm.i : Int), .int .i64 (fm.j : Int), bv, iv] 56) := by rw [hW]; exact alloc_at _ _ _ rfl
  obtain ⟨us, S, ho, ht, hS⟩ := hf2
  obtain ⟨S1, h1, hs1⟩ := id hn2
  have hone := h1.one
  have key := fun ty => run_append_own_at (P := Tryz.prog) W B 23 ty 56 i0 z0 6 80 Tryz.underlying23 hi hz0 hz1 hz2 hz3 (by omega) v acc.length us ho ⟨w.heap.size, 0, none⟩ 1 1 [.bool fm.d, .string fm.nm, .int .i64 (fm.i : Int), .int .i64 (fm.j : Int), bv, iv] rfl (by
      intro j u hj
      rw [addr_ad, blk_cells hblk]
      simpa using hj) (by
      intro u hu
      simp only [List.mem_cons, List.not_mem_nil, or_false] at hu
      rcases hu with rfl | rfl | rfl | rfl | rfl | rfl
      · rfl
      · rfl
      · rfl
      · rfl
      · exact hone.1
      · exact hone.2) (by unfold maxLen; omega) (by omega) (by have := oo.size; omega)
  obtain ⟨v', w', hr, own', hg, _, hat⟩ := key 0
  refine ⟨v', w', fun ty => ?_, FsAt.snoc hg ho ht hS hn2 hC hv own' hat, oo.mono (bs' := fun k => B ≤ k) (fun _ _ h => h.elim) |>.trans ((Only.refl (fun k => v.ownBlock = some k) W).grown hg (fun k e _ => e)) (fun k hk e => (ho.lt k e).1)⟩
  rw [← hW, ← hr]
  rfl
/-- the reader as it begins -/
theorem rd_start {w1 W : World} {N : Nat} {v : Value} {q : List Tok} {n : Int} (h : ToksAt w1 (N + 3) v q) (o : Only (fun b => b < N + 3) w1 W) (hW : W.heap[w1.heap.size]? = some (.cells #[v, .int .i64 n, .int .i64 0, .int .i64 0] 124)) : RdAt W w1.heap.size q n 0 0 := by
  refine ⟨v, hW, ?_⟩
  obtain ⟨ao, cap, hv⟩ := h.1
  have hc : q.length ≤ cap := by
    rcases h.2.2 with ⟨e, h0⟩ | ⟨g, cap', cur, fz, e, _, _, _, hcap, _⟩
    · omega
    · rw [hv] at e
      injection e with _ _ e3
      omega
  refine ⟨ao, cap, hv, hc, fun i t ht => ?_⟩
  obtain ⟨g, cap', e, hB, hg, c0, c1, c2, c3⟩ := toks_cells h ht
  rw [hv] at e
  injection e with e1
  exact ⟨g, 0, e1, hg, by rw [Nat.zero_add]; exact o.cell c0 (by simp only; omega), by rw [Nat.zero_add]; exact o.cell c1 (by simp only; omega), by rw [Nat.zero_add]; exact o.cell c2 (by simp only; omega), by rw [Nat.zero_add]; exact o.cell c3 (by simp only; omega)⟩
/-- a block of one cell is none of the tokens' -/
theorem RdAt.one {w : World} {R N : Nat} {q : List Tok} {n o z : Int} {vx : Value} {T : TypeId} (h : RdAt w R q n o z) (hN : w.heap[N]? = some (.cells #[vx] T)) (hR : N ≠ R) (y : Value) : RdAt (w.setCell ⟨N, 0, none⟩ y) R q n o z := by
  obtain ⟨v, hv, ao, cap, e, hc, hq⟩ := h
  refine ⟨v, by rw [heap_setCell_other _ _ _ _ (by simp only; omega)]; exact hv, ao, cap, e, hc, fun i t ht => ?_⟩
  obtain ⟨g, k, ha, hg, c0, c1, c2, c3⟩ := hq i t ht
  have hgN : g ≠ N := by
    rintro rfl
    rw [blk_cells hN] at c1
    simp at c1
  have oN : Only (fun b => b = N) w (w.setCell ⟨N, 0, none⟩ y) := (Only.refl (fun b => b = N) w).setCell ⟨N, 0, none⟩ _ (fun _ => rfl)
  exact ⟨g, k, ha, hg, oN.cell c0 hgN, oN.cell c1 hgN, oN.cell c2 hgN, oN.cell c3 hgN⟩
section
variable {P : Program} {op : Oper} {a : Act} {w w' : World} {K : Act → World → Prop} {Q : Exit → Act → World → Prop}
theorem wp_append_run (s x : Operand) (t : TypeId) (ho : op.op = .call { callee := .builtin .append, args := #[s, x], argTypes := #[t, t] }) (v1 v2 v' : Value) (hs : a.eval s = v1) (hx : a.eval x = v2)
    (hr : (Builtin.append_ #[t, t] op.type #[v1, v2]).run P w = .ok v' w') (h : K (a.put op.dst v') w') : op.wp P a w K Q := by
  unfold Oper.wp
  simp [execOp, ho, resolve, invoke, builtin, hs, hx, hr, Result.andThen]
  exact h
theorem step_append_run {ops : Array Oper} {E : Prop} (hgd : op.guard = none) (s x : Operand) (t : TypeId) (ho : op.op = .call { callee := .builtin .append, args := #[s, x], argTypes := #[t, t] }) (v1 v2 v' : Value) (hs : a.eval s = v1) (hx : a.eval x = v2)
    (hr : ∀ ty, (Builtin.append_ #[t, t] ty #[v1, v2]).run P w = .ok v' w') (h : K (a.put op.dst v') w') : if Region.wanted op (yielded ops a.tmps) = true then Oper.wp P op a w K Q else E := by
  have hw : Region.wanted op (yielded ops a.tmps) = true := by simp [Region.wanted, hgd]
  rw [if_pos hw]
  exact wp_append_run s x t ho v1 v2 v' hs hx (hr _) h
end
theorem leaves_same {P : Program} {fn : Func} {R : Ending → World → Prop} {t t' : Array Value} (h : results fn t = results fn t') : ∀ (ds : List Deferred) (u : FrameMode) (w : World), Leaves P fn t R ds u w → Leaves P fn t' R ds u w
  | [], .returning, w, g => by obtain ⟨v, h1, h2⟩ := g; exact ⟨v, by rw [← h]; exact h1, h2⟩
  | [], .panicking c, w, g => g
  | [], .run, w, g => g
  | d :: ds, u, w, g => by
    obtain ⟨h1, fv, cap, f, args, h2, h3, h4⟩ := g
    refine ⟨h1, fv, cap, f, args, h2, h3, h4.mono fun e u' w' g => ?_⟩
    cases e with
    | returned v => exact leaves_same h ds _ _ g
    | panicked c => exact leaves_same h ds _ _ g
    | outgrown => exact g
theorem ra_put {R : Ending → World → Prop} {a : Act} {k : Nat} {v : Value} {c : List PanicEntry} {w : World} (h4 : k ≠ 4) (h5 : k ≠ 5) (h6 : k ≠ 6) (h : bodyPostD Tryz.prog Tryz.f23 R (.panic c) (a.put (some k) v) w) : bodyPostD Tryz.prog Tryz.f23 R (.panic c) a w := by
  refine leaves_same (t := (a.put (some k) v).tmps) ?_ _ _ _ h
  simp [results, Tryz.results23, Act.put, Array.getElem?_setIfInBounds, h4, h5, h6]
set_option maxRecDepth 100000 in
set_option maxHeartbeats 8000000 in
theorem readAll_good (s : ByteArray) (w : World) (h : Nog w) (hb : (tokR s).2.2 = 0) (hlen : (tokR s).1.length ≤ 4096) (hs : s.size ≤ 1000000) :
    Calls Tryz.prog 23 #[.string s, .func (.func 24) #[] #[]] w (raP s w) := by
  have HT : Hid (∀ w1, Only (fun _ => False) w w1 → Calls Tryz.prog 50 #[.string s] w1 fun e w' => ∃ v, e = .returned (.tuple #[v, .int .i64 ((tokR s).2.1 : Nat), .int .i64 0]) ∧ Hid (ToksAt w' w1.heap.size v (tokR s).1 ∧ Below w1.heap.size w1 w')) := fun w1 o1 => by have := tokens_any s w1 (h.frame o1); rw [hb] at this; exact this
  obtain ⟨X, hX⟩ : ∃ X, X = alR (s.size : Int) 12400 ((tokR s).1.length + 1) (tokR s).1 := ⟨_, rfl⟩
  have HP : Hid (∀ w' v a e l, (match X with | .error (a, e) => ([], a, e) | .ok l => (l, 0, 0)) = (l, a, e) → FsAt w' w.heap.size 12400 v l → Below w.heap.size w w' → raP s w (.returned (.tuple #[v, .int .i64 a, .int .i64 e])) w') := by
    intro w' v a e l h1 h2 h3
    have e1 : parR s = (l, a, e) := by unfold parR; rw [if_pos hb, ← hX]; exact h1
    unfold raP
    rw [e1]
    exact ⟨_, rfl, h2, h3⟩
  obtain ⟨a, ha⟩ : ∃ a, a = (tokR s).2.1 := ⟨_, rfl⟩
  obtain ⟨q, hq⟩ : ∃ q, q = (tokR s).1 := ⟨_, rfl⟩
  rw [← ha, ← hq] at HT
  rw [← hq] at hlen hX
  have HX : Hid (X = preF [] (alR (s.size : Int) 12400 (q.length + 1) q) ∧ q.length ≤ 4096) := ⟨by
    rw [hX]
    cases alR (s.size : Int) 12400 (q.length + 1) q <;> rfl, hlen⟩
  have K0 : Hid (RaK w.heap.size (.slice none 0 0) 0 0 (((w.alloc (.cells #[.slice none 0 0] 23)).alloc (.cells #[.int .i64 0] 3)).alloc (.cells #[.int .i64 0] 24))) := RaK.start w
  have O0 : Hid (Only (fun _ => False) w (((w.alloc (.cells #[.slice none 0 0] 23)).alloc (.cells #[.int .i64 0] 3)).alloc (.cells #[.int .i64 0] 24))) := (((Only.refl _ w).alloc _).alloc _).alloc _
  have hmf : ∀ (fn : Fn) (first cap : Array Value) (w : World), (Instr.makeFunc fn first cap).run Tryz.prog w = .ok (.func fn first cap) w := fun _ _ _ _ => rfl
  clear ha hq h hX hlen hb
  go_enter_defers Tryz.func23, Tryz.ntmps23
  go_wp2_with fail
  refine (show Calls Tryz.prog 50 _ _ _ from HT.out _ O0.out).mono ?_
  rintro ex w1 ⟨v, rfl, g1⟩
  have o1 := below_only g1.out.2
  have K1 := K0.out.only o1 (fun _ _ _ h => h)
  have O1 : Hid (Only (fun _ => False) w w1) := O0.out.trans o1 (fun _ _ g => g)
  obtain ⟨N, hN⟩ : ∃ N, N = w.heap.size := ⟨_, rfl⟩
  have HN : Hid (N = w.heap.size) := hN
  have TK : Hid (ToksAt w1 (N + 3) v q) := ⟨g1.out.1.1, by have := g1.out.1.2; rw [hN]; exact owns_lower this (by simp)⟩
  rw [← hN] at K1
  have HK1 : Hid (RaK N (.slice none 0 0) 0 0 w1) := K1
  have y0 : w1.cell? ⟨N + 1, 0, none⟩ = some (.int .i64 0) := by rw [blk_cells K1.by_]; rfl
  have z0 : w1.cell? ⟨N + 1 + 1, 0, none⟩ = some (.int .i64 0) := by rw [blk_cells K1.bz]; rfl
  have fy : w1.frozen? ⟨N + 1, 0, none⟩ = false := blk_froz K1.by_ 0
  have fz : w1.frozen? ⟨N + 1 + 1, 0, none⟩ = false := blk_froz K1.bz 0
  obtain ⟨ao, cap, hv⟩ := g1.out.1.1
  subst hv
  rw [← hN]
  clear HT O0 K0 o1 g1 hN K1
  go_wp2_with fail
  obtain ⟨W, hW⟩ : ∃ W, W = (((w1.setCell ⟨N + 1, 0, none⟩ (.int .i64 (a : Int))).setCell ⟨N + 1 + 1, 0, none⟩ (.int .i64 0)).alloc (.cells #[.slice ao q.length cap, .int .i64 (s.size : Int), .int .i64 0, .int .i64 0] 124)) := ⟨_, rfl⟩
  obtain ⟨R, hR⟩ : ∃ R, R = w1.heap.size := ⟨_, rfl⟩
  have hn : N = w.heap.size := HN.out
  have hNR : N + 2 < R := by rw [hR]; exact (Array.getElem?_eq_some_iff.1 HK1.out.bz).1
  have K2 : Hid (RaK N (.slice none 0 0) (a : Int) 0 W) := by
    show RaK _ _ _ _ _
    rw [hW]
    exact ((HK1.out.setY (a : Int)).setZ 0).only ((Only.refl (fun _ => False) _).alloc _) (fun _ _ _ h => h)
  have O2 : Hid (Only (fun _ => False) w W) := by
    show Only _ _ _
    rw [hW]
    exact ((O1.out.setCell ⟨N + 1, 0, none⟩ _ (fun h => by simp only at h; omega)).setCell ⟨N + 1 + 1, 0, none⟩ _ (fun h => by simp only at h; omega)).alloc _
  have R2 : Hid (RdAt W R q (s.size : Int) 0 0) := by
    show RdAt _ _ _ _ _ _
    rw [hR]
    refine rd_start TK.out ?_ ?_
    · rw [hW]
      exact (((Only.refl (fun b => b < N + 3) w1).setCell ⟨N + 1, 0, none⟩ _ (fun _ => by simp only; omega)).setCell ⟨N + 1 + 1, 0, none⟩ _ (fun _ => by simp only; omega)).alloc _
    · rw [hW]
      exact alloc_at _ _ _ (by simp)
  rw [← hW, ← hR]
  clear hW hR hn TK HK1 O1 y0 z0 fy fz
  have HNR : Hid (N + 2 < R) := hNR
  clear hNR
  go_loopw [] (fun wr => ∃ (g : Nat) (q' : List Tok) (z' : Int) (acc : List Fm) (ao : Option Addr) (cap : Nat), Hid (X = preF acc (alR (s.size : Int) 12400 g q') ∧ q'.length < g ∧ acc.length + q'.length ≤ 4096 ∧ RaK N (.slice ao acc.length cap) (a : Int) 0 wr ∧ FsAt wr (R + 1) 12400 (.slice ao acc.length cap) acc ∧ RdAt wr R q' (s.size : Int) 0 z' ∧ Only (fun _ => False) w wr)) (fun wr => qLen wr R)
  case atStart => exact ⟨q.length + 1, q, 0, [], none, 0, HX.out.1, by omega, by simpa using HX.out.2, K2.out, fs_nil _ _ _, R2.out, O2.out⟩
  case round =>
    obtain ⟨g, q', z', acc, ao, cap, HI⟩ := hrel
    obtain ⟨u, rfl⟩ : ∃ u, u = wr := ⟨_, rfl⟩
    clear K2 O2 R2
    obtain ⟨g0, rfl⟩ : ∃ g0, g = g0 + 1 := ⟨g - 1, by have := HI.out.2.1; omega⟩
    obtain ⟨vv, hRR, av, cv, hvv, hcv, _⟩ := HI.out.2.2.2.2.2.1
    subst hvv
    have r0 : u.cell? ⟨R, 0, none⟩ = some (.slice av q'.length cv) := by rw [blk_cells hRR]; rfl
    have r3 : u.cell? ⟨R, 3, none⟩ = some (.int .i64 z') := by rw [blk_cells hRR]; rfl
    have f3 : u.frozen? ⟨R, 3, none⟩ = false := blk_froz hRR 3
    clear hRR hcv
    have hNR : N + 2 < R := HNR.out
    cases q' with
    | nil =>
      have HE : Hid (X = .ok acc) := by show X = _; rw [HI.out.1]; simp [alR, preF]
      have K2 := HI.out.2.2.2.1
      have x0 : u.cell? ⟨N, 0, none⟩ = some (.slice ao acc.length cap) := by rw [blk_cells K2.bx]; rfl
      have y0 : u.cell? ⟨N + 1, 0, none⟩ = some (.int .i64 (a : Int)) := by rw [blk_cells K2.by_]; rfl
      have z0 : u.cell? ⟨N + 1 + 1, 0, none⟩ = some (.int .i64 0) := by rw [blk_cells K2.bz]; rfl
      have fx : u.frozen? ⟨N, 0, none⟩ = false := blk_froz K2.bx 0
      have fy : u.frozen? ⟨N + 1, 0, none⟩ = false := blk_froz K2.by_ 0
      have fz : u.frozen? ⟨N + 1 + 1, 0, none⟩ = false := blk_froz K2.bz 0
      have HK : Hid (RaK N (.slice ao acc.length cap) (a : Int) 0 u ∧ FsAt u (R + 1) 12400 (.slice ao acc.length cap) acc ∧ Only (fun _ => False) w u) := ⟨K2, HI.out.2.2.2.2.1, HI.out.2.2.2.2.2.2⟩
      clear HI K2
      simp only [List.length_nil] at r0
      obtain ⟨L, hL⟩ : ∃ L, L = acc.length := ⟨_, rfl⟩
      have HL : Hid (L = acc.length) := hL
      rw [← hL] at HK x0
      clear hL
      go_wp2
      obtain ⟨U, hU⟩ : ∃ U, U = ((u.setCell ⟨N, 0, none⟩ (.slice ao L cap)).setCell ⟨N + 1, 0, none⟩ (.int .i64 0)).setCell ⟨N + 1 + 1, 0, none⟩ (.int .i64 0) := ⟨_, rfl⟩
      have hn : N = w.heap.size := HN.out
      have e1 : L = acc.length := HL.out
      have OO : Only (fun b => b ≤ N + 2) u U := by
        rw [hU]
        exact (((Only.refl (fun b => b ≤ N + 2) u).setCell ⟨N, 0, none⟩ _ (fun _ => by simp only; omega)).setCell ⟨N + 1, 0, none⟩ _ (fun _ => by simp only; omega)).setCell ⟨N + 1 + 1, 0, none⟩ _ (fun _ => by simp only; omega)
      have K3 : Hid (RaK N (.slice ao L cap) 0 0 U) := by
        show RaK _ _ _ _ _
        rw [hU]
        exact ((HK.out.1.setX _).setY 0).setZ 0
      have K4 : Hid (FsAt U w.heap.size 12400 (.slice ao L cap) acc ∧ Below w.heap.size w U) := by
        refine ⟨(HK.out.2.1.only OO (fun b h1 e => by omega)).lower (by omega), only_below ?_⟩
        rw [hU]
        exact ((HK.out.2.2.setCell ⟨N, 0, none⟩ _ (fun h => by simp only at h; omega)).setCell ⟨N + 1, 0, none⟩ _ (fun h => by simp only at h; omega)).setCell ⟨N + 1 + 1, 0, none⟩ _ (fun h => by simp only at h; omega)
      rw [← hU]
      clear hU OO HK x0 y0 z0 fx fy fz
      refine leaves_cons (f := 51) (args := #[.pointer (some ⟨N, 0, none⟩), .pointer (some ⟨N + 1, 0, none⟩), .pointer (some ⟨N + 1 + 1, 0, none⟩)]) (by simp) (by simp [go_sem]) ?_
      refine (caught_idle _ _ _ _).mono ?_
      rintro ex u' w'' ⟨rfl, rfl, rfl⟩
      exact ⟨_, results_ra rfl _ _ N (N + 1) (N + 2) (by rw [blk_cells K3.out.bx]; rfl) (by rw [blk_cells K3.out.by_]; rfl) (by rw [blk_cells K3.out.bz]; rfl) rfl rfl rfl, HP.out _ _ _ _ acc (by rw [show X = _ from HE.out]) K4.out.1 K4.out.2⟩
    | cons t r =>
      have HB : Hid ((t :: r).length < g0 + 1 ∧ acc.length + (t :: r).length ≤ 4096 ∧ qLen u R = (t :: r).length) := ⟨HI.out.2.1, HI.out.2.2.1, qLen_of HI.out.2.2.2.2.2.1⟩
      obtain ⟨q1, o1⟩ := HI.out.2.2.2.2.2.1.size 0
      obtain ⟨u1, hu1⟩ : ∃ u1, u1 = u.setCell ⟨R, 3, none⟩ (.int .i64 0) := ⟨_, rfl⟩
      rw [← hu1] at q1 o1
      have K2 := HI.out.2.2.2.1.only o1 (fun b h1 h2 e => by omega)
      have F2 := HI.out.2.2.2.2.1.only o1 (fun b h1 e => by omega)
      have hn : N = w.heap.size := HN.out
      have O2 : Only (fun _ => False) w u1 := HI.out.2.2.2.2.2.2.trans o1 (fun b h1 e => by omega)
      have HE0 := HI.out.1
      rw [alR_go] at HE0
      have HC : ∀ u2, RdAt u2 R (t :: r) (s.size : Int) 0 0 → Calls Tryz.prog 24 #[.pointer (some ⟨R, 0, none⟩)] u2 (fmP R 12400 (s.size : Int) 0 u2 (fmR (s.size : Int) 12400 (t :: r) 0 0)) := by
        intro u2 h2
        have := HB.out
        exact form_any R 12400 (t :: r) (s.size : Int) 0 0 u2 (by omega) (by omega) (by omega) (by omega) (by omega) (by omega) h2
      have i1 : (0 : Int) < ((t :: r).length : Int) := by simp only [List.length_cons]; omega
      obtain ⟨L2, hL2⟩ : ∃ L2, L2 = (t :: r).length := ⟨_, rfl⟩
      rw [← hL2] at r0 i1
      clear hL2
      cases hX2 : fmR (s.size : Int) 12400 (t :: r) 0 0 with
      | error p =>
        obtain ⟨pa, pe⟩ := p
        rw [hX2] at HE0
        have HE : Hid (X = .error (pa, pe)) := HE0
        have HCE : Hid (∀ u2, RdAt u2 R (t :: r) (s.size : Int) 0 0 → Calls Tryz.prog 24 #[.pointer (some ⟨R, 0, none⟩)] u2 fun x w' => x = gup pa pe ∧ Only (fun b => b = R) u2 w') := fun u2 h2 => by have := HC u2 h2; rw [hX2] at this; exact this
        have HK : Hid (RaK N (.slice ao acc.length cap) (a : Int) 0 u1 ∧ Only (fun _ => False) w u1 ∧ RdAt u1 R (t :: r) (s.size : Int) 0 0) := ⟨K2, O2, q1⟩
        have x0 : u1.cell? ⟨N, 0, none⟩ = some (.slice ao acc.length cap) := by rw [blk_cells K2.bx]; rfl
        have fx : u1.frozen? ⟨N, 0, none⟩ = false := blk_froz K2.bx 0
        clear HI HE0 HC hX2 K2 F2 O2 q1 o1 hn hNR
        go_wp2_with fail
        rw [← hu1]
        clear r0 r3 f3 hu1
        refine wp_region_any (by kernel_rfl) ?_
        change wpAny _ _ _ _ _ _ _ (World.drew _)
        refine wpAny_take (i := 1) (v := .func (.func 24) #[] #[]) rfl (by kernel_rfl) (by kernel_rfl) (by kernel_rfl) (fun c a w h => ra_put (k := 35) (by omega) (by omega) (by omega) h) (Or.inl ⟨by rfl, fun w => by rfl⟩) ?_
        refine wpAny_take (i := 2) (v := .pointer (some ⟨R, 0, none⟩)) rfl (by kernel_rfl) (by kernel_rfl) (by kernel_rfl) (fun c a w h => ra_put (k := 36) (by omega) (by omega) (by omega) h) (Or.inl ⟨by rfl, fun w => by rfl⟩) ?_
        refine wpAny_ready (rs := [0, 3]) (by kernel_rfl) (by simp) ?_
        refine AllReady.cons rfl (fun K hK => ?_) (AllReady.cons rfl (fun K hK => ?_) AllReady.nil)
        · go_simp
          refine hK _ _ ?_
          clear hK K
          refine wpAny_ready (rs := [3]) (by kernel_rfl) (by simp) ?_
          refine AllReady.cons rfl (fun K hK => ?_) AllReady.nil
          go_simp
          · skip
            go_wp2_with (go_at_call 24; refine (show Calls Tryz.prog 24 _ _ _ from HCE.out _ (HK.out.2.2.only ((Only.refl _ u1).drew))).mono ?_; rintro ex u3 ⟨rfl, o3⟩; unfold gup)
            have hNR : N + 2 < R := HNR.out
            have hn : N = w.heap.size := HN.out
            have K3 := (HK.out.1.only ((Only.refl (fun _ => False) u1).drew) (fun _ _ _ h => h)).only o3 (fun b h1 h2 e => by omega)
            have O3 : Only (fun _ => False) w u3 := HK.out.2.1.drew.trans o3 (fun b h1 e => by omega)
            refine leaves_cons (f := 51) (args := #[.pointer (some ⟨N, 0, none⟩), .pointer (some ⟨N + 1, 0, none⟩), .pointer (some ⟨N + 1 + 1, 0, none⟩)]) (by simp) (by simp [go_sem]) ?_
            refine (caught_own N (N + 1) (N + 1 + 1) _ _ _ _ _ _ pa pe [] _ K3.bx K3.by_ K3.bz (by omega) (by omega) (by omega)).mono ?_
            rintro ex u' w'' ⟨rfl, rfl, g⟩
            exact ⟨_, results_ra rfl _ _ N (N + 1) (N + 1 + 1) g.out.1 g.out.2.1 g.out.2.2.1 rfl rfl rfl, HP.out _ _ pa pe [] (by rw [show X = _ from HE.out]) (fs_nil _ _ _) (only_below (O3.trans g.out.2.2.2 (fun b h1 e => by omega)))⟩
        · go_simp
          · skip
            go_wp2_with (go_at_call 24; refine (show Calls Tryz.prog 24 _ _ _ from HCE.out _ (HK.out.2.2.only ((Only.refl _ u1).drew))).mono ?_; rintro ex u3 ⟨rfl, o3⟩; unfold gup)
            have hNR : N + 2 < R := HNR.out
            have hn : N = w.heap.size := HN.out
            have K3 := (HK.out.1.only ((Only.refl (fun _ => False) u1).drew) (fun _ _ _ h => h)).only o3 (fun b h1 h2 e => by omega)
            have O3 : Only (fun _ => False) w u3 := HK.out.2.1.drew.trans o3 (fun b h1 e => by omega)
            refine leaves_cons (f := 51) (args := #[.pointer (some ⟨N, 0, none⟩), .pointer (some ⟨N + 1, 0, none⟩), .pointer (some ⟨N + 1 + 1, 0, none⟩)]) (by simp) (by simp [go_sem]) ?_
            refine (caught_own N (N + 1) (N + 1 + 1) _ _ _ _ _ _ pa pe [] _ K3.bx K3.by_ K3.bz (by omega) (by omega) (by omega)).mono ?_
            rintro ex u' w'' ⟨rfl, rfl, g⟩
            exact ⟨_, results_ra rfl _ _ N (N + 1) (N + 1 + 1) g.out.1 g.out.2.1 g.out.2.2.1 rfl rfl rfl, HP.out _ _ pa pe [] (by rw [show X = _ from HE.out]) (fs_nil _ _ _) (only_below (O3.trans g.out.2.2.2 (fun b h1 e => by omega)))⟩
      | ok p =>
        obtain ⟨fm, q2, z2⟩ := p
        rw [hX2] at HE0
        have HE : Hid (X = preF (acc ++ [fm]) (alR (s.size : Int) 12400 g0 q2)) := HE0
        have HCE : Hid (∀ u2, RdAt u2 R (t :: r) (s.size : Int) 0 0 → Calls Tryz.prog 24 #[.pointer (some ⟨R, 0, none⟩)] u2 fun x w' => ∃ bv iv, x = .returned (fmV fm bv iv) ∧ Hid (NfAt w' u2.heap.size 12400 fm bv iv ∧ RdAt w' R q2 (s.size : Int) 0 z2 ∧ Only (fun b => b = R) u2 w')) := fun u2 h2 => by have := HC u2 h2; rw [hX2] at this; exact this
        have HQ : Hid (q2.length < (t :: r).length) := fmR_len (by omega) hX2
        have HK : Hid (RaK N (.slice ao acc.length cap) (a : Int) 0 u1 ∧ Only (fun _ => False) w u1 ∧ RdAt u1 R (t :: r) (s.size : Int) 0 0 ∧ FsAt u1 (R + 1) 12400 (.slice ao acc.length cap) acc) := ⟨K2, O2, q1, F2⟩
        have x0 : u1.cell? ⟨N, 0, none⟩ = some (.slice ao acc.length cap) := by rw [blk_cells K2.bx]; rfl
        have fx : u1.frozen? ⟨N, 0, none⟩ = false := blk_froz K2.bx 0
        clear HI HE0 HC hX2 K2 F2 O2 q1 o1 hn hNR
        go_wp2_with fail
        rw [← hu1]
        clear r0 r3 f3 hu1
        have HAP : Hid (∀ u2 u3 bv iv, Only (fun _ => False) u1 u2 → NfAt u3 u2.heap.size 12400 fm bv iv → RdAt u3 R q2 (s.size : Int) 0 z2 → Only (fun b => b = R) u2 u3 → ∃ ao' cap' u4, (∀ ty, (Builtin.append_ #[23, 23] ty #[.slice ao acc.length cap, .slice (some ⟨u3.heap.size, 0, none⟩) 1 1]).run Tryz.prog (u3.alloc (.cells #[.bool fm.d, .string fm.nm, .int .i64 (fm.i : Int), .int .i64 (fm.j : Int), bv, iv] 56)) = .ok (.slice ao' (acc.length + 1) cap') u4) ∧ u3.cell? ⟨N, 0, none⟩ = some (.slice ao acc.length cap) ∧ u4.cell? ⟨N, 0, none⟩ = some (.slice ao acc.length cap) ∧ u4.frozen? ⟨N, 0, none⟩ = false ∧ bv.oneCell' = true ∧ iv.oneCell' = true ∧ Hid (RaK N (.slice ao' (acc.length + 1) cap') (a : Int) 0 (u4.setCell ⟨N, 0, none⟩ (.slice ao' (acc.length + 1) cap')) ∧ FsAt (u4.setCell ⟨N, 0, none⟩ (.slice ao' (acc.length + 1) cap')) (R + 1) 12400 (.slice ao' (acc.length + 1) cap') (acc ++ [fm]) ∧ RdAt (u4.setCell ⟨N, 0, none⟩ (.slice ao' (acc.length + 1) cap')) R q2 (s.size : Int) 0 z2 ∧ Only (fun _ => False) w (u4.setCell ⟨N, 0, none⟩ (.slice ao' (acc.length + 1) cap')))) := by
          intro u2 u3 bv iv o2 nf rd o3
          have hNR : N + 2 < R := HNR.out
          have hn : N = w.heap.size := HN.out
          have hR1 : R < u1.heap.size := HK.out.2.2.1.lt
          have K3 := (HK.out.1.only o2 (fun _ _ _ h => h)).only o3 (fun b h1 h2 e => by omega)
          have F3 := (HK.out.2.2.2.only o2 (fun _ _ h => h)).only o3 (fun b h1 e => by omega)
          have O3 : Only (fun _ => False) w u3 := (HK.out.2.1.trans o2 (fun _ _ h => h)).trans o3 (fun b h1 e => by omega)
          obtain ⟨S1, h1, _⟩ := id nf
          have hone := h1.one
          have hb := HB.out
          simp only [List.length_cons] at hb
          have s2 := o2.size
          have s3 := o3.size
          obtain ⟨us, S, hown, _⟩ := HK.out.2.2.2
          obtain ⟨v', u4, hr, hf, ho⟩ := app_form F3 nf (by omega) (fun k hk => by have := (hown.lt k hk).2; omega) (by omega) (by omega)
          obtain ⟨ao', cap', hv⟩ := hf.form
          simp only [List.length_append, List.length_cons, List.length_nil, Nat.zero_add] at hv
          subst hv
          have K4 := K3.only ho (fun b h1 h2 e => by omega)
          have oN : Only (fun b => b = N) u4 (u4.setCell ⟨N, 0, none⟩ (.slice ao' (acc.length + 1) cap')) := (Only.refl (fun b => b = N) u4).setCell ⟨N, 0, none⟩ _ (fun _ => rfl)
          refine ⟨ao', cap', u4, hr, by rw [blk_cells K3.bx]; rfl, by rw [blk_cells K4.bx]; rfl, blk_froz K4.bx 0, hone.1, hone.2, K4.setX _, hf.only oN (fun b h1 e => by omega), (rd.other (fun b h1 e => by omega) ho).one K4.bx (by omega) _, (O3.trans ho (fun b h1 e => by omega)).trans oN (fun b h1 e => by omega)⟩
        refine wp_region_any (by kernel_rfl) ?_
        change wpAny _ _ _ _ _ _ _ (World.drew _)
        refine wpAny_take (i := 1) (v := .func (.func 24) #[] #[]) rfl (by kernel_rfl) (by kernel_rfl) (by kernel_rfl) (fun c a w h => ra_put (k := 35) (by omega) (by omega) (by omega) h) (Or.inl ⟨by rfl, fun w => by rfl⟩) ?_
        refine wpAny_take (i := 2) (v := .pointer (some ⟨R, 0, none⟩)) rfl (by kernel_rfl) (by kernel_rfl) (by kernel_rfl) (fun c a w h => ra_put (k := 36) (by omega) (by omega) (by omega) h) (Or.inl ⟨by rfl, fun w => by rfl⟩) ?_
        refine wpAny_ready (rs := [0, 3]) (by kernel_rfl) (by simp) ?_
        refine AllReady.cons rfl (fun K hK => ?_) (AllReady.cons rfl (fun K hK => ?_) AllReady.nil)
        · skip
          go_simp
          refine hK _ _ ?_
          clear hK K
          refine wpAny_ready (rs := [3]) (by kernel_rfl) (by simp) ?_
          refine AllReady.cons rfl (fun K hK => ?_) AllReady.nil
          go_simp
          go_wp2_with (go_at_call 24; refine (show Calls Tryz.prog 24 _ _ _ from HCE.out _ (HK.out.2.2.1.only ((Only.refl _ u1).drew))).mono ?_; rintro ex u3 ⟨bv, iv, rfl, g3⟩; unfold fmV)
          obtain ⟨ao', cap', u4, hr, y3, y4, yf, b1, b2, HZZ⟩ := HAP.out u1.drew u3 bv iv ((Only.refl _ u1).drew) g3.out.1 g3.out.2.1 g3.out.2.2
          have y5 : ∀ x, (u3.alloc x).cell? ⟨N, 0, none⟩ = some (.slice ao acc.length cap) := fun x => alloc_cell u3 _ x _ y3
          clear g3
          refine wpAny_ready (rs := [4]) (by kernel_rfl) (by simp) ?_
          refine AllReady.cons rfl (fun K hK => ?_) AllReady.nil
          go_simp
          refine hK _ _ ?_
          clear hK K
          refine wpAny_ready (rs := [5]) (by kernel_rfl) (by simp) ?_
          refine AllReady.cons rfl (fun K hK => ?_) AllReady.nil
          refine step_append_run (by rfl) _ _ 23 (by rfl) _ _ (.slice ao' (acc.length + 1) cap') (by rfl) (by rfl) hr ?_
          refine hK _ _ ?_
          clear hK K
          refine wpAny_ready (rs := [6]) (by kernel_rfl) (by simp) ?_
          refine AllReady.cons rfl (fun K hK => ?_) AllReady.nil
          go_simp
          refine hK _ _ ?_
          clear hK K
          refine wpAny_done (by kernel_rfl) ?_ _
          clear hr y3 y4 yf b1 b2 y5
          obtain ⟨U, hU⟩ : ∃ U, U = u4.setCell ⟨N, 0, none⟩ (.slice ao' (acc.length + 1) cap') := ⟨_, rfl⟩
          rw [← hU] at HZZ
          rw [← hU]
          clear hU
          go_wp2
          go_roundw
          case rel => exact ⟨g0, q2, z2, acc ++ [fm], ao', cap', HE.out, by have := HB.out; have := HQ.out; omega, by have := HB.out; have := HQ.out; simp only [List.length_append, List.length_cons, List.length_nil] at *; omega, by simpa using HZZ.out.1, by simpa using HZZ.out.2.1, HZZ.out.2.2.1, HZZ.out.2.2.2⟩
          case measure => rw [HB.out.2.2, qLen_of HZZ.out.2.2.1]; exact HQ.out
        · skip
          go_simp
          go_wp2_with (go_at_call 24; refine (show Calls Tryz.prog 24 _ _ _ from HCE.out _ (HK.out.2.2.1.only ((Only.refl _ u1).drew))).mono ?_; rintro ex u3 ⟨bv, iv, rfl, g3⟩; unfold fmV)
          obtain ⟨ao', cap', u4, hr, y3, y4, yf, b1, b2, HZZ⟩ := HAP.out u1.drew u3 bv iv ((Only.refl _ u1).drew) g3.out.1 g3.out.2.1 g3.out.2.2
          have y5 : ∀ x, (u3.alloc x).cell? ⟨N, 0, none⟩ = some (.slice ao acc.length cap) := fun x => alloc_cell u3 _ x _ y3
          clear g3
          refine wpAny_ready (rs := [0, 4]) (by kernel_rfl) (by simp) ?_
          refine AllReady.cons rfl (fun K hK => ?_) (AllReady.cons rfl (fun K hK => ?_) AllReady.nil)
          · skip
            go_simp
            refine hK _ _ ?_
            clear hK K
            refine wpAny_ready (rs := [4]) (by kernel_rfl) (by simp) ?_
            refine AllReady.cons rfl (fun K hK => ?_) AllReady.nil
            go_simp
            refine hK _ _ ?_
            clear hK K
            refine wpAny_ready (rs := [5]) (by kernel_rfl) (by simp) ?_
            refine AllReady.cons rfl (fun K hK => ?_) AllReady.nil
            refine step_append_run (by rfl) _ _ 23 (by rfl) _ _ (.slice ao' (acc.length + 1) cap') (by rfl) (by rfl) hr ?_
            refine hK _ _ ?_
            clear hK K
            refine wpAny_ready (rs := [6]) (by kernel_rfl) (by simp) ?_
            refine AllReady.cons rfl (fun K hK => ?_) AllReady.nil
            go_simp
            refine hK _ _ ?_
            clear hK K
            refine wpAny_done (by kernel_rfl) ?_ _
            clear hr y3 y4 yf b1 b2 y5
            obtain ⟨U, hU⟩ : ∃ U, U = u4.setCell ⟨N, 0, none⟩ (.slice ao' (acc.length + 1) cap') := ⟨_, rfl⟩
            rw [← hU] at HZZ
            rw [← hU]
            clear hU
            go_wp2
            go_roundw
            case rel => exact ⟨g0, q2, z2, acc ++ [fm], ao', cap', HE.out, by have := HB.out; have := HQ.out; omega, by have := HB.out; have := HQ.out; simp only [List.length_append, List.length_cons, List.length_nil] at *; omega, by simpa using HZZ.out.1, by simpa using HZZ.out.2.1, HZZ.out.2.2.1, HZZ.out.2.2.2⟩
            case measure => rw [HB.out.2.2, qLen_of HZZ.out.2.2.1]; exact HQ.out
          · skip
            go_simp
            refine hK _ _ ?_
            clear hK K
            refine wpAny_ready (rs := [0]) (by kernel_rfl) (by simp) ?_
            refine AllReady.cons rfl (fun K hK => ?_) AllReady.nil
            go_simp
            refine hK _ _ ?_
            clear hK K
            refine wpAny_ready (rs := [5]) (by kernel_rfl) (by simp) ?_
            refine AllReady.cons rfl (fun K hK => ?_) AllReady.nil
            refine step_append_run (by rfl) _ _ 23 (by rfl) _ _ (.slice ao' (acc.length + 1) cap') (by rfl) (by rfl) hr ?_
            refine hK _ _ ?_
            clear hK K
            refine wpAny_ready (rs := [6]) (by kernel_rfl) (by simp) ?_
            refine AllReady.cons rfl (fun K hK => ?_) AllReady.nil
            go_simp
            refine hK _ _ ?_
            clear hK K
            refine wpAny_done (by kernel_rfl) ?_ _
            clear hr y3 y4 yf b1 b2 y5
            obtain ⟨U, hU⟩ : ∃ U, U = u4.setCell ⟨N, 0, none⟩ (.slice ao' (acc.length + 1) cap') := ⟨_, rfl⟩
            rw [← hU] at HZZ
            rw [← hU]
            clear hU
            go_wp2
            go_roundw
            case rel => exact ⟨g0, q2, z2, acc ++ [fm], ao', cap', HE.out, by have := HB.out; have := HQ.out; omega, by have := HB.out; have := HQ.out; simp only [List.length_append, List.length_cons, List.length_nil] at *; omega, by simpa using HZZ.out.1, by simpa using HZZ.out.2.1, HZZ.out.2.2.1, HZZ.out.2.2.2⟩
            case measure => rw [HB.out.2.2, qLen_of HZZ.out.2.2.1]; exact HQ.out
end Go.Proofs.YtapehdolnljnoaaGreatDoor
namespace Go.Proofs.YtapehdolnljnoaaGreatDoor
open Go.RowKit
set_option linter.unusedSimpArgs false
set_option linter.unusedVariables false
set_option maxRecDepth 100000 in
theorem caught_idleI (x y z : Addr) (w : World) :
    CallsD Tryz.prog 68 #[.pointer (some x), .pointer (some y), .pointer (some z)] .returning w fun e u' w' => e = .returned (.tuple #[]) ∧ u' = .returning ∧ w' = w := by
  refine callsD_of_wpS Tryz.func68 rfl fun c₀ cs hu => ?_
  apply wpS_seq
  apply wpS_region
  simp [wpOpsS, go_sem, recoverD, hu, Tryz.ntmps68, Exit.thenS]
  apply wpS_seq
  apply wpS_seq
  apply wpS_region
  simp [wpOpsS, go_sem, recoverD, hu, Tryz.ntmps68, Exit.thenS]
  refine wpS_cond (t := true) (by simp [Act.eval, Array.replicate]) ?_
  simp only [if_true]
  refine wpS_of_wp (wp_ret ?_)
  cases c₀
  simp_all [Exit.thenS, bodyPostS, results, Tryz.results68]
set_option maxRecDepth 100000 in
set_option maxHeartbeats 4000000 in
theorem caught_ownI (X Y Z : Nat) (vx vy vz : Value) (tx ty tz : TypeId) (a e : Int) (older : List PanicEntry) (w : World) (hx : w.heap[X]? = some (.cells #[vx] tx)) (hy : w.heap[Y]? = some (.cells #[vy] ty)) (hz : w.heap[Z]? = some (.cells #[vz] tz)) (hxy : X ≠ Y) (hxz : X ≠ Z) (hyz : Y ≠ Z) :
    CallsD Tryz.prog 68 #[.pointer (some ⟨X, 0, none⟩), .pointer (some ⟨Y, 0, none⟩), .pointer (some ⟨Z, 0, none⟩)] (.panicking ({ v := .iface 121 (.agg #[.int .i64 a, .int .i64 e]), recovered := false } :: older)) w fun en u' w' => en = .returned (.tuple #[]) ∧ u' = .panicking ({ v := .iface 121 (.agg #[.int .i64 a, .int .i64 e]), recovered := true } :: older) ∧ Hid (w'.cell? ⟨X, 0, none⟩ = some (.slice none 0 0) ∧ w'.cell? ⟨Y, 0, none⟩ = some (.int .i64 a) ∧ w'.cell? ⟨Z, 0, none⟩ = some (.int .i64 e) ∧ Only (fun b => b = X ∨ b = Y ∨ b = Z) w w') := by
  have al : ∀ (ob : Obj) (b : Nat) (o : Obj), w.heap[b]? = some o → (w.alloc ob).heap[b]? = some o := fun ob b o hb => (((Only.refl (fun _ => False) w).alloc ob).block b (Array.getElem?_eq_some_iff.1 hb).1 (fun h => h)).trans hb
  have cx : ∀ ob, (w.alloc ob).cell? ⟨X, 0, none⟩ = some vx := fun ob => by rw [blk_cells (al ob X _ hx)]; rfl
  have cy : ∀ ob, (w.alloc ob).cell? ⟨Y, 0, none⟩ = some vy := fun ob => by rw [blk_cells (al ob Y _ hy)]; rfl
  have cz : ∀ ob, (w.alloc ob).cell? ⟨Z, 0, none⟩ = some vz := fun ob => by rw [blk_cells (al ob Z _ hz)]; rfl
  have fx : ∀ ob, (w.alloc ob).frozen? ⟨X, 0, none⟩ = false := fun ob => blk_froz (al ob X _ hx) 0
  have fy : ∀ ob, (w.alloc ob).frozen? ⟨Y, 0, none⟩ = false := fun ob => blk_froz (al ob Y _ hy) 0
  have fz : ∀ ob, (w.alloc ob).frozen? ⟨Z, 0, none⟩ = false := fun ob => blk_froz (al ob Z _ hz) 0
  have lx : X < w.heap.size := (Array.getElem?_eq_some_iff.1 hx).1
  have ly : Y < w.heap.size := (Array.getElem?_eq_some_iff.1 hy).1
  have lz : Z < w.heap.size := (Array.getElem?_eq_some_iff.1 hz).1
  clear al hx hy hz
  refine callsD_of_wpS Tryz.func68 rfl fun c₀ cs hu => ?_
  apply wpS_seq
  apply wpS_region
  simp [wpOpsS, go_sem, recoverD, hu, Tryz.ntmps68, Exit.thenS]
  apply wpS_seq
  apply wpS_seq
  apply wpS_region
  simp [wpOpsS, go_sem, recoverD, hu, Tryz.ntmps68, Exit.thenS]
  refine wpS_cond (t := false) (by simp [Act.eval, Array.replicate]) ?_
  simp only [Bool.false_eq_true, if_false]
  refine wpS_of_wp (wp_skip ?_)
  simp only [Exit.thenS]
  refine wpS_of_wp (a := { tmps := #[.pointer (some ⟨X, 0, none⟩), .pointer (some ⟨Y, 0, none⟩), .pointer (some ⟨Z, 0, none⟩), .iface 121 (.agg #[.int .i64 a, .int .i64 e]), undef, undef, .iface 121 (.agg #[.int .i64 a, .int .i64 e]), .iface 121 (.agg #[.int .i64 a, .int .i64 e]), .bool false, undef, undef, undef, undef, undef, undef, undef, undef, undef, undef, undef, undef], defers := [] }) ?_
  have hta := flt_as
  go_wp2_with fail
  obtain ⟨W, hW⟩ : ∃ W, W = w.alloc (.cells #[.int .i64 a, .int .i64 e] 121) := ⟨_, rfl⟩
  have HW : Hid (W = w.alloc (.cells #[.int .i64 a, .int .i64 e] 121)) := hW
  obtain ⟨B, hB⟩ : ∃ B, B = w.heap.size := ⟨_, rfl⟩
  have b0 : W.cell? ⟨B, 0, none⟩ = some (.int .i64 a) := by rw [hW, hB]; simp
  have b1 : W.cell? ⟨B, 1, none⟩ = some (.int .i64 e) := by rw [hW, hB]; simp
  have dx := cx (.cells #[.int .i64 a, .int .i64 e] 121)
  have dy := cy (.cells #[.int .i64 a, .int .i64 e] 121)
  have dz := cz (.cells #[.int .i64 a, .int .i64 e] 121)
  have gx := fx (.cells #[.int .i64 a, .int .i64 e] 121)
  have gy := fy (.cells #[.int .i64 a, .int .i64 e] 121)
  have gz := fz (.cells #[.int .i64 a, .int .i64 e] 121)
  rw [← hW] at dx dy dz gx gy gz
  rw [← hW, ← hB]
  have nx : ¬ X = B := by omega
  have ny : ¬ Y = B := by omega
  have nz : ¬ Z = B := by omega
  have nx' : ¬ B = X := by omega
  have ny' : ¬ B = Y := by omega
  have nz' : ¬ B = Z := by omega
  have nyx : ¬ Y = X := fun h => hxy h.symm
  have nzx : ¬ Z = X := fun h => hxz h.symm
  have nzy : ¬ Z = Y := fun h => hyz h.symm
  clear cx cy cz fx fy fz hW hB lx ly lz
  have hx2 : ((((W.setCell ⟨X, 0, none⟩ (.slice none 0 0)).setCell ⟨Y, 0, none⟩ (.int .i64 a)).setCell ⟨Z, 0, none⟩ (.int .i64 e)).drew).cell? ⟨X, 0, none⟩ = some (.slice none 0 0) := by
    show (((W.setCell ⟨X, 0, none⟩ (.slice none 0 0)).setCell ⟨Y, 0, none⟩ (.int .i64 a)).setCell ⟨Z, 0, none⟩ (.int .i64 e)).cell? ⟨X, 0, none⟩ = _
    rw [World.cell?_setCell_other _ _ _ _ (by intro h; injection h with h; exact nzx h), World.cell?_setCell_other _ _ _ _ (by intro h; injection h with h; exact nyx h)]
    exact World.cell?_setCell_same' _ _ _ (by rw [dx]; rfl)
  have hy2 : ((((W.setCell ⟨X, 0, none⟩ (.slice none 0 0)).setCell ⟨Y, 0, none⟩ (.int .i64 a)).setCell ⟨Z, 0, none⟩ (.int .i64 e)).drew).cell? ⟨Y, 0, none⟩ = some (.int .i64 a) := by
    show (((W.setCell ⟨X, 0, none⟩ (.slice none 0 0)).setCell ⟨Y, 0, none⟩ (.int .i64 a)).setCell ⟨Z, 0, none⟩ (.int .i64 e)).cell? ⟨Y, 0, none⟩ = _
    rw [World.cell?_setCell_other _ _ _ _ (by intro h; injection h with h; exact nzy h)]
    exact World.cell?_setCell_same' _ _ _ (by rw [World.cell?_setCell_other _ _ _ _ (by intro h; injection h with h; exact hxy h), dy]; rfl)
  have hz2 : ((((W.setCell ⟨X, 0, none⟩ (.slice none 0 0)).setCell ⟨Y, 0, none⟩ (.int .i64 a)).setCell ⟨Z, 0, none⟩ (.int .i64 e)).drew).cell? ⟨Z, 0, none⟩ = some (.int .i64 e) := by
    show (((W.setCell ⟨X, 0, none⟩ (.slice none 0 0)).setCell ⟨Y, 0, none⟩ (.int .i64 a)).setCell ⟨Z, 0, none⟩ (.int .i64 e)).cell? ⟨Z, 0, none⟩ = _
    exact World.cell?_setCell_same' _ _ _ (by rw [World.cell?_setCell_other _ _ _ _ (by intro h; injection h with h; exact hyz h), World.cell?_setCell_other _ _ _ _ (by intro h; injection h with h; exact hxz h), dz]; rfl)
  have ho2 : Only (fun b => b = X ∨ b = Y ∨ b = Z) w ((((W.setCell ⟨X, 0, none⟩ (.slice none 0 0)).setCell ⟨Y, 0, none⟩ (.int .i64 a)).setCell ⟨Z, 0, none⟩ (.int .i64 e)).drew) := by
    rw [HW.out]
    exact (((((Only.refl _ w).alloc _).setCell ⟨X, 0, none⟩ _ (fun _ => .inl rfl)).setCell ⟨Y, 0, none⟩ _ (fun _ => .inr (.inl rfl))).setCell ⟨Z, 0, none⟩ _ (fun _ => .inr (.inr rfl))).drew
  have HH : Hid (((((W.setCell ⟨X, 0, none⟩ (.slice none 0 0)).setCell ⟨Y, 0, none⟩ (.int .i64 a)).setCell ⟨Z, 0, none⟩ (.int .i64 e)).drew).cell? ⟨X, 0, none⟩ = some (.slice none 0 0) ∧ ((((W.setCell ⟨X, 0, none⟩ (.slice none 0 0)).setCell ⟨Y, 0, none⟩ (.int .i64 a)).setCell ⟨Z, 0, none⟩ (.int .i64 e)).drew).cell? ⟨Y, 0, none⟩ = some (.int .i64 a) ∧ ((((W.setCell ⟨X, 0, none⟩ (.slice none 0 0)).setCell ⟨Y, 0, none⟩ (.int .i64 a)).setCell ⟨Z, 0, none⟩ (.int .i64 e)).drew).cell? ⟨Z, 0, none⟩ = some (.int .i64 e) ∧ Only (fun b => b = X ∨ b = Y ∨ b = Z) w ((((W.setCell ⟨X, 0, none⟩ (.slice none 0 0)).setCell ⟨Y, 0, none⟩ (.int .i64 a)).setCell ⟨Z, 0, none⟩ (.int .i64 e)).drew)) := ⟨hx2, hy2, hz2, ho2⟩
  clear hx2 hy2 hz2 ho2 HW
  go_region
  exact ⟨rfl, _, rfl, .tuple #[], by simp [results, Tryz.results68], rfl, rfl, HH⟩
end Go.Proofs.YtapehdolnljnoaaGreatDoor
