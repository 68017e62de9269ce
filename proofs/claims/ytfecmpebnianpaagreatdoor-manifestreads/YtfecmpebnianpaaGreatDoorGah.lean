/- A definition. A form. readAll's deferred function, where the reader has not given up. readAll's deferred function, where the reader has given up. All forms of a source: readAll. Quoted: the token that stands for a text. -/
import Derived.Test.YtfecmpebnianpaaGreatDoorGag
import Derived.Test.YtfecmpebnianpaaGreatDoorGae
import Derived.Defers
import Derived.Recover
namespace Go.Proofs.YtfecmpebnianpaaGreatDoor
open Go.RowKit
set_option linter.unusedSimpArgs false
set_option linter.unusedVariables false
/-- a form: a definition, or an item -/
structure Fm where
  d : Bool
  nm : ByteArray
  i : Nat
  j : Nat
  b : List Tre
  it : Tre
def noT : Tre := ⟨0, 0, ⟨#[]⟩, []⟩
/-- what a definition is read as, from its body on -/
def dfC (n : Int) (f : Nat) (nm : ByteArray) (i j : Nat) (q : List Tok) (o z : Int) : Except (Int × Int) (Fm × List Tok × Int) :=
  match prs n f 4 q (o + 1) (z + 1) with
  | .error e => .error e
  | .ok (l, q6, z') => .ok (⟨true, nm, i, j, l, noT⟩, q6, z')
/-- from its second side on -/
def dfB (n : Int) (f : Nat) (nm : ByteArray) (i : Nat) (q : List Tok) (o z : Int) : Except (Int × Int) (Fm × List Tok × Int) :=
  match sdR n ⟨#[41]⟩ 0 q with
  | .error e => .error e
  | .ok (j, q5) => dfC n f nm i j q5 o z
/-- from its first side on -/
def dfA (n : Int) (f : Nat) (nm : ByteArray) (q : List Tok) (o z : Int) : Except (Int × Int) (Fm × List Tok × Int) :=
  match sdR n ⟨#[45, 45]⟩ 0 q with
  | .error e => .error e
  | .ok (i, q4) => dfB n f nm i q4 o z
/-- from its effect on -/
def dfQ (n : Int) (f : Nat) (nm : ByteArray) (q : List Tok) (o z : Int) : Except (Int × Int) (Fm × List Tok × Int) :=
  match q with
  | [] => .error (n, 9)
  | t2 :: q3 => if isB t2 ⟨#[40]⟩ = false then .error (t2.a, 9) else dfA n f nm q3 o z
/-- from its name on -/
def dfN (n : Int) (f : Nat) (q : List Tok) (o z : Int) : Except (Int × Int) (Fm × List Tok × Int) :=
  match q with
  | [] => .error (n, 9)
  | t1 :: q2 => if nmB t1 = false then .error (t1.a, 9) else dfQ n f t1.t q2 o z
/-- what a definition is read as -/
def dfR (n : Int) (f : Nat) (q : List Tok) (o z : Int) : Except (Int × Int) (Fm × List Tok × Int) :=
  match q with
  | [] => .error (n, 9)
  | t0 :: q1 => if o = 32 ∨ z = 1024 then .error (t0.a, 11) else dfN n f q1 o z
/-- a reader under way since w, with a block of its own behind w -/
structure DfK (w w' : World) (R : Nat) (q : List Tok) (n o z : Int) (ob : Obj) : Prop where
  rd : RdAt w' R q n o z
  on : Only (fun b => b = R) w w'
  bl : w'.heap[w.heap.size]? = some ob
  lt : R < w.heap.size
theorem DfK.start {w : World} {R : Nat} {q : List Tok} {n o z : Int} (h : RdAt w R q n o z) (ob : Obj) : DfK w (w.alloc ob) R q n o z ob :=
  ⟨h.only ((Only.refl (fun _ => False) w).alloc _), (Only.refl (fun b => b = R) w).alloc _, alloc_at _ _ _ rfl, h.lt⟩
theorem DfK.go {w w1 w2 : World} {R : Nat} {q q' : List Tok} {n n' o o' z z' : Int} {ob : Obj} (h : DfK w w1 R q n o z ob) (oo : Only (fun b => b = R) w1 w2) (g : RdAt w2 R q' n' o' z') : DfK w w2 R q' n' o' z' ob :=
  ⟨g, h.on.trans oo (fun _ _ g => g), (oo.block _ (Array.getElem?_eq_some_iff.1 h.bl).1 (by have := h.lt; omega)).trans h.bl, h.lt⟩
theorem DfK.still {w w1 w2 : World} {R : Nat} {q : List Tok} {n o z : Int} {ob : Obj} (h : DfK w w1 R q n o z ob) (oo : Only (fun _ => False) w1 w2) : DfK w w2 R q n o z ob :=
  h.go (oo.mono (bs' := fun b => b = R) (fun _ _ h => h.elim)) (h.rd.only oo)
/-- what definition answers -/
def dfP (R f : Nat) (n o : Int) (w : World) (r : Except (Int × Int) (Fm × List Tok × Int)) (x : Ending) (w' : World) : Prop :=
  match r with
  | .error (a, e) => x = gup a e ∧ Only (fun b => b = R) w w'
  | .ok (fm, q, z) => ∃ ao cap, x = .returned (.agg #[.string fm.nm, .int .i64 (fm.i : Int), .int .i64 (fm.j : Int), .slice ao fm.b.length cap]) ∧ Hid (RwAt w' w.heap.size 53 f true (.slice ao fm.b.length cap) fm.b ∧ RdAt w' R q n o z ∧ Only (fun b => b = R) w w')
theorem results_df {fn : Func} {u : Tmp} (h : fn.results = #[.cell u 49]) (tmps : Array Value) (w : World) (B : Nat) {x y z r : Value} (h0 : w.cell? ⟨B, 0, none⟩ = some x) (h1 : w.cell? ⟨B, 1, none⟩ = some y) (h2 : w.cell? ⟨B, 2, none⟩ = some z) (h3 : w.cell? ⟨B, 3, none⟩ = some r) (ha : tmps.getD u undef = .pointer (some ⟨B, 0, none⟩)) :
    (results fn tmps).run Tryz.prog w = .ok (.agg #[x, y, z, r]) w := by
  have ha' : tmps[u]?.getD undef = .pointer (some ⟨B, 0, none⟩) := by simpa using ha
  simp [results, h, ha', asAddr, go_sem, loadVar, isAgg, Tryz.underlying49, h0, h1, h2, h3]
def dfO : Obj := .cells #[.string ⟨#[]⟩, .int .i64 0, .int .i64 0, .slice none 0 0] 49
set_option maxRecDepth 100000 in
set_option maxHeartbeats 8000000 in
theorem definition_any (R f : Nat) (t0 : Tok) (q1 : List Tok) (n o z : Int) (w : World) (ho : 0 ≤ o) (ho1 : o ≤ 32) (hz : 0 ≤ z) (hz1 : z ≤ 1024) (hl : 3 * q1.length + 3 ≤ f) (hl2 : q1.length ≤ 4096) (h : RdAt w R (t0 :: q1) n o z) :
    Calls Tryz.prog 101 #[.pointer (some ⟨R, 0, none⟩)] w (dfP R f n o w (dfR n f (t0 :: q1) o z)) := by
  obtain ⟨Z, hZ⟩ : ∃ Z, Z = dfR n f (t0 :: q1) o z := ⟨_, rfl⟩
  rw [← hZ]
  have HZ : Hid (Z = dfR n f (t0 :: q1) o z) := hZ
  have HP : Hid (∀ a e w', Z = .error (a, e) → Only (fun b => b = R) w w' → dfP R f n o w Z (gup a e) w') := by
    intro a e w' h1 h2
    rw [h1]
    exact show _ ∧ _ from ⟨rfl, h2⟩
  have K0 : Hid (DfK w (w.alloc dfO) R (t0 :: q1) n o z dfO) := DfK.start h dfO
  have HB : Hid (0 ≤ o ∧ o ≤ 32 ∧ 0 ≤ z ∧ z ≤ 1024 ∧ 3 * q1.length + 3 ≤ f ∧ q1.length ≤ 4096) := ⟨ho, ho1, hz, hz1, hl, hl2⟩
  clear hZ h ho ho1 hz hz1 hl hl2
  have f1 := tok_f1
  go_enter Tryz.func101, Tryz.ntmps101
  go_wp2_with fail
  refine (show Calls Tryz.prog 126 _ _ _ from enter_any R (t0 :: q1) n o z _ ⟨HB.out.1, by have := HB.out; omega⟩ ⟨HB.out.2.2.1, by have := HB.out; omega⟩ K0.out.rd).mono ?_
  intro e w1 g1
  unfold enP at g1
  by_cases hf : o = 32 ∨ z = 1024
  · rw [if_pos hf] at g1
    obtain ⟨he, o1⟩ := g1
    subst he
    have HX : Hid (dfP R f n o w Z (gup t0.a 11) w1) := HP.out _ _ _ (by rw [HZ.out]; simp [dfR, hf]) (K0.out.on.trans o1 (fun _ _ g => g))
    clear HZ HP K0 o1 hf HB
    simp only [flt]
    unfold gup at HX ⊢
    go_wp2
    exact ⟨rfl, HX.out⟩
  · rw [if_neg hf] at g1
    obtain ⟨he, g1⟩ := g1
    subst he
    have K1 : Hid (DfK w w1 R q1 n (o + 1) (z + 1) dfO) := K0.out.go g1.out.2 g1.out.1
    have HF : Hid (¬ (o = 32 ∨ z = 1024)) := hf
    have HFo : Hid (¬ (o = 32 ∨ z = 1024)) := hf
    clear g1 K0 hf
    cases q1 with
    | nil =>
      go_wp2_with fail
      refine (show Calls Tryz.prog 128 _ _ _ from named_nil R n (o + 1) (z + 1) _ K1.out.rd).mono ?_
      rintro e w2 ⟨rfl, o2⟩
      have HX : Hid (dfP R f n o w Z (gup n 9) w2) := HP.out _ _ _ (by rw [HZ.out]; simp only [dfR, dfN]; rw [if_neg HF.out]) (K1.out.still o2).on
      clear HZ HP K1 o2 HF HB
      unfold gup at HX ⊢
      go_wp2
      exact ⟨rfl, HX.out⟩
    | cons t1 q2 =>
      have HN : Hid (∀ w1, RdAt w1 R (t1 :: q2) n (o + 1) (z + 1) → Calls Tryz.prog 128 #[.pointer (some ⟨R, 0, none⟩)] w1 fun x w' => x = .returned (.bool (nmB t1)) ∧ Only (fun _ => False) w1 w') := fun w1 hw => named_cons R t1 q2 n (o + 1) (z + 1) w1 hw
      cases hn : nmB t1 with
      | false =>
        rw [hn] at HN
        have HZ2 : Hid (Z = .error (t1.a, 9)) := by show Z = _; rw [HZ.out]; simp only [dfR, dfN]; rw [if_neg HF.out, if_pos hn]
        clear HZ HF hn
        go_wp2_with fail
        refine (show Calls Tryz.prog 128 _ _ _ from HN.out _ K1.out.rd).mono ?_
        rintro e w2 ⟨rfl, o2⟩
        have K2 : Hid (DfK w w2 R (t1 :: q2) n (o + 1) (z + 1) dfO) := K1.out.still o2
        clear o2 K1 HN
        go_wp2_with fail
        refine (show Calls Tryz.prog 127 _ _ _ from must_false R (t1 :: q2) n (o + 1) (z + 1) _ K2.out.rd).mono ?_
        rintro e w3 ⟨rfl, o3⟩
        have HX : Hid (dfP R f n o w Z (gup t1.a 9) w3) := HP.out _ _ _ HZ2.out (K2.out.still o3).on
        clear HZ2 HP K2 o3 HB
        simp only [flt]
        unfold gup at HX ⊢
        go_wp2
        exact ⟨rfl, HX.out⟩
      | true =>
        rw [hn] at HN
        have HZ2 : Hid (Z = dfQ n f t1.t q2 o z) := by
          show Z = _
          rw [HZ.out]
          simp only [dfR, dfN]
          rw [if_neg HF.out, if_neg (by rw [hn]; simp)]
        have HT : Hid (∀ w1, RdAt w1 R (t1 :: q2) n (o + 1) (z + 1) → Calls Tryz.prog 129 #[.pointer (some ⟨R, 0, none⟩)] w1 fun x w' => x = .returned t1.v ∧ Hid (RdAt w' R q2 n (o + 1) (z + 1) ∧ Only (fun b => b = R) w1 w')) := fun w1 hw => take_cons R t1 q2 n (o + 1) (z + 1) w1 hw
        clear HZ HF hn
        obtain ⟨k1, s1, n1, a1⟩ := t1
        simp only [Tok.v] at HT
        go_wp2_with fail
        refine (show Calls Tryz.prog 128 _ _ _ from HN.out _ K1.out.rd).mono ?_
        rintro e w2 ⟨rfl, o2⟩
        have K2 : Hid (DfK w w2 R (⟨k1, s1, n1, a1⟩ :: q2) n (o + 1) (z + 1) dfO) := K1.out.still o2
        clear o2 K1 HN
        go_wp2_with fail
        refine (show Calls Tryz.prog 127 _ _ _ from must_true R _).mono ?_
        rintro e w3 ⟨rfl, rfl⟩
        go_wp2_with fail
        refine (show Calls Tryz.prog 129 _ _ _ from HT.out _ K2.out.rd).mono ?_
        rintro e w4 ⟨rfl, g4⟩
        have K4 : Hid (DfK w w4 R q2 n (o + 1) (z + 1) dfO) := K2.out.go g4.out.2 g4.out.1
        clear g4 K2 HT
        cases q2 with
        | nil =>
          go_wp2_with fail
          refine (show Calls Tryz.prog 100 _ _ _ from is_nil R n (o + 1) (z + 1) _ _ K4.out.rd).mono ?_
          rintro e w5 ⟨rfl, o5⟩
          have HX : Hid (dfP R f n o w Z (gup n 9) w5) := HP.out _ _ _ HZ2.out (K4.out.still o5).on
          clear HZ2 HP K4 o5 HB
          unfold gup at HX ⊢
          go_wp2
          exact ⟨rfl, HX.out⟩
        | cons t2 q3 =>
          have HS : Hid (∀ w1, RdAt w1 R (t2 :: q3) n (o + 1) (z + 1) → Calls Tryz.prog 100 #[.pointer (some ⟨R, 0, none⟩), .string ⟨#[40]⟩] w1 fun x w' => x = .returned (.bool (isB t2 ⟨#[40]⟩)) ∧ Only (fun _ => False) w1 w') := fun w1 hw => is_cons R t2 q3 n (o + 1) (z + 1) _ w1 hw
          cases hn : isB t2 ⟨#[40]⟩ with
          | false =>
            rw [hn] at HS
            have HZ3 : Hid (Z = .error (t2.a, 9)) := by show Z = _; rw [HZ2.out]; simp only [dfQ]; rw [if_pos hn]
            clear HZ2 hn
            go_wp2_with fail
            refine (show Calls Tryz.prog 100 _ _ _ from HS.out _ K4.out.rd).mono ?_
            rintro e w5 ⟨rfl, o5⟩
            have K5 : Hid (DfK w w5 R (t2 :: q3) n (o + 1) (z + 1) dfO) := K4.out.still o5
            clear o5 K4 HS
            go_wp2_with fail
            refine (show Calls Tryz.prog 127 _ _ _ from must_false R (t2 :: q3) n (o + 1) (z + 1) _ K5.out.rd).mono ?_
            rintro e w6 ⟨rfl, o6⟩
            have HX : Hid (dfP R f n o w Z (gup t2.a 9) w6) := HP.out _ _ _ HZ3.out (K5.out.still o6).on
            clear HZ3 HP K5 o6 HB
            simp only [flt]
            unfold gup at HX ⊢
            go_wp2
            exact ⟨rfl, HX.out⟩
          | true =>
            rw [hn] at HS
            have HZ3 : Hid (Z = dfA n f s1 q3 o z) := by
              show Z = _
              rw [HZ2.out]
              simp only [dfQ]
              rw [if_neg (by rw [hn]; simp)]
            have HT : Hid (∀ w1, RdAt w1 R (t2 :: q3) n (o + 1) (z + 1) → Calls Tryz.prog 129 #[.pointer (some ⟨R, 0, none⟩)] w1 fun x w' => x = .returned t2.v ∧ Hid (RdAt w' R q3 n (o + 1) (z + 1) ∧ Only (fun b => b = R) w1 w')) := fun w1 hw => take_cons R t2 q3 n (o + 1) (z + 1) w1 hw
            have HD1 : Hid (∀ w1, RdAt w1 R q3 n (o + 1) (z + 1) → Calls Tryz.prog 130 #[.pointer (some ⟨R, 0, none⟩), .string ⟨#[45, 45]⟩] w1 (sdP R n (o + 1) (z + 1) w1 (sdR n ⟨#[45, 45]⟩ 0 q3))) := fun w1 hw => side_any R n (o + 1) (z + 1) _ q3 w1 hw
            have HL1 : Hid (∀ i q4, sdR n ⟨#[45, 45]⟩ 0 q3 = .ok (i, q4) → q4.length ≤ q3.length) := fun i q4 hs => Nat.le_of_lt (sdR_len n _ 0 q3 i q4 hs).1
            clear HZ2 hn
            obtain ⟨X1, hX1⟩ : ∃ X1, X1 = sdR n ⟨#[45, 45]⟩ 0 q3 := ⟨_, rfl⟩
            unfold dfA at HZ3
            rw [← hX1] at HZ3 HD1 HL1
            clear hX1
            obtain ⟨k2, s2, n2, a2⟩ := t2
            simp only [Tok.v] at HT
            go_wp2_with fail
            refine (show Calls Tryz.prog 100 _ _ _ from HS.out _ K4.out.rd).mono ?_
            rintro e w5 ⟨rfl, o5⟩
            have K5 : Hid (DfK w w5 R (⟨k2, s2, n2, a2⟩ :: q3) n (o + 1) (z + 1) dfO) := K4.out.still o5
            clear o5 K4 HS
            go_wp2_with fail
            refine (show Calls Tryz.prog 127 _ _ _ from must_true R _).mono ?_
            rintro e w6 ⟨rfl, rfl⟩
            go_wp2_with fail
            refine (show Calls Tryz.prog 129 _ _ _ from HT.out _ K5.out.rd).mono ?_
            rintro e w7 ⟨rfl, g7⟩
            have K7 : Hid (DfK w w7 R q3 n (o + 1) (z + 1) dfO) := K5.out.go g7.out.2 g7.out.1
            clear g7 K5 HT
            go_wp2_with fail
            refine (show Calls Tryz.prog 130 _ _ _ from HD1.out _ K7.out.rd).mono ?_
            intro e w8 g8
            clear HD1
            cases X1 with
            | error p =>
              obtain ⟨a, er⟩ := p
              obtain ⟨he, o8⟩ := g8
              subst he
              have HX : Hid (dfP R f n o w Z (gup a er) w8) := HP.out _ _ _ HZ3.out (K7.out.on.trans o8 (fun _ _ g => g))
              clear HZ3 HP K7 o8 HB HL1
              unfold gup at HX ⊢
              go_wp2
              exact ⟨rfl, HX.out⟩
            | ok p =>
              obtain ⟨i, q4⟩ := p
              obtain ⟨he, g8⟩ := g8
              subst he
              have K8 : Hid (DfK w w8 R q4 n (o + 1) (z + 1) dfO) := K7.out.go g8.out.2 g8.out.1
              have HL2 : Hid (q4.length ≤ q3.length) := HL1.out i q4 rfl
              have HD2 : Hid (∀ w1, RdAt w1 R q4 n (o + 1) (z + 1) → Calls Tryz.prog 130 #[.pointer (some ⟨R, 0, none⟩), .string ⟨#[41]⟩] w1 (sdP R n (o + 1) (z + 1) w1 (sdR n ⟨#[41]⟩ 0 q4))) := fun w1 hw => side_any R n (o + 1) (z + 1) _ q4 w1 hw
              have HL3 : Hid (∀ j q5, sdR n ⟨#[41]⟩ 0 q4 = .ok (j, q5) → q5.length ≤ q4.length) := fun j q5 hs => Nat.le_of_lt (sdR_len n _ 0 q4 j q5 hs).1
              have HZ4 : Hid (Z = dfB n f s1 i q4 o z) := HZ3.out
              clear g8 K7 HL1 HZ3
              obtain ⟨X2, hX2⟩ : ∃ X2, X2 = sdR n ⟨#[41]⟩ 0 q4 := ⟨_, rfl⟩
              unfold dfB at HZ4
              rw [← hX2] at HZ4 HD2 HL3
              clear hX2
              go_wp2_with fail
              refine (show Calls Tryz.prog 130 _ _ _ from HD2.out _ K8.out.rd).mono ?_
              intro e w9 g9
              clear HD2
              cases X2 with
              | error p =>
                obtain ⟨a, er⟩ := p
                obtain ⟨he, o9⟩ := g9
                subst he
                have HX : Hid (dfP R f n o w Z (gup a er) w9) := HP.out _ _ _ HZ4.out (K8.out.on.trans o9 (fun _ _ g => g))
                clear HZ4 HP K8 o9 HB HL3 HL2
                unfold gup at HX ⊢
                go_wp2
                exact ⟨rfl, HX.out⟩
              | ok p =>
                obtain ⟨j, q5⟩ := p
                obtain ⟨he, g9⟩ := g9
                subst he
                have K9 : Hid (DfK w w9 R q5 n (o + 1) (z + 1) dfO) := K8.out.go g9.out.2 g9.out.1
                have HU : Hid (∀ w1, RdAt w1 R q5 n (o + 1) (z + 1) → Calls Tryz.prog 131 #[.pointer (some ⟨R, 0, none⟩), .string ⟨#[59]⟩, .func (.func 102) #[] #[]] w1 (upP R f 53 true n (o + 1) w1 (prs n f 4 q5 (o + 1) (z + 1)))) := by
                  intro w1 hw
                  have b := HB.out
                  have b1 : q4.length ≤ q3.length := HL2.out
                  have b2 := HL3.out j q5 rfl
                  simp only [List.length_cons] at b
                  exact (parts_any R n (f + 1) f (by omega)).2.2.2.2 q5 (o + 1) (z + 1) w1 (by omega) (by omega) (by omega) (by have := HFo.out; omega) (by omega) (by have := HFo.out; omega) hw
                have HZ5 : Hid (Z = dfC n f s1 i j q5 o z) := HZ4.out
                clear g9 K8 HL3 HL2 HZ4
                obtain ⟨X3, hX3⟩ : ∃ X3, X3 = prs n f 4 q5 (o + 1) (z + 1) := ⟨_, rfl⟩
                unfold dfC at HZ5
                rw [← hX3] at HZ5 HU
                clear hX3
                go_wp2_with fail
                refine (show Calls Tryz.prog 131 _ _ _ from HU.out _ K9.out.rd).mono ?_
                intro e w10 g10
                clear HU
                cases X3 with
                | error p =>
                  obtain ⟨a, er⟩ := p
                  obtain ⟨he, o10⟩ := g10
                  subst he
                  have HX : Hid (dfP R f n o w Z (gup a er) w10) := HP.out _ _ _ HZ5.out (K9.out.on.trans o10 (fun _ _ g => g))
                  clear HZ5 HP K9 o10 HB
                  unfold gup at HX ⊢
                  go_wp2
                  exact ⟨rfl, HX.out⟩
                | ok p =>
                  obtain ⟨l, q6, z'⟩ := p
                  obtain ⟨ao, cap, he, g10⟩ := g10
                  subst he
                  have hrd : RdAt w10 R q6 n o z' := by have := g10.out.2.1; rwa [Int.add_sub_cancel] at this
                  have K10 : DfK w w10 R q6 n o z' dfO := K9.out.go g10.out.2.2 hrd
                  have hbig : w.heap.size < w9.heap.size := (Array.getElem?_eq_some_iff.1 K9.out.bl).1
                  have HW : Hid (RwAt w10 (w.heap.size + 1) 53 f true (.slice ao l.length cap) l ∧ DfK w w10 R q6 n o z' dfO) := ⟨g10.out.1.lower hbig, K10⟩
                  have R3 := K10.bl
                  unfold dfO at R3
                  obtain ⟨B, hBe⟩ : ∃ B, B = w.heap.size := ⟨_, rfl⟩
                  have HE : Hid (B = w.heap.size) := hBe
                  rw [← hBe] at R3 ⊢
                  have c0 := blk_cells R3 0
                  have c1 := blk_cells R3 1
                  have c2 := blk_cells R3 2
                  have c3 := blk_cells R3 3
                  have z0 := blk_froz R3 0
                  have z1 := blk_froz R3 1
                  have z2 := blk_froz R3 2
                  have z3 := blk_froz R3 3
                  have HR3 : Hid (w10.heap[B]? = some (.cells #[.string ⟨#[]⟩, .int .i64 0, .int .i64 0, .slice none 0 0] 49)) := R3
                  simp only [List.getElem?_toArray, List.getElem?_cons_zero, List.getElem?_cons_succ] at c0 c1 c2 c3
                  clear g10 K9 K10 hrd hbig R3 hBe HP
                  obtain ⟨L, hL⟩ : ∃ L, L = l.length := ⟨_, rfl⟩
                  have HLL : Hid (L = l.length) := hL
                  rw [← hL] at HW
                  rw [← hL]
                  clear hL
                  go_wp2
                  obtain ⟨p0, p1, p2, p3⟩ := set4 HR3.out rfl (.string s1) (.int .i64 (i : Int)) (.int .i64 (j : Int)) (.slice ao L cap)
                  refine bodyPost_ret (results_df rfl _ _ B p0 p1 p2 p3 rfl) rfl ?_
                  rw [show Z = _ from HZ5.out]
                  have e1 : L = l.length := HLL.out
                  have hBe : B = w.heap.size := HE.out
                  have OB : Only (fun b => b = B) w10 ((((w10.setCell ⟨B, 0, none⟩ (.string s1)).setCell ⟨B, 1, none⟩ (.int .i64 (i : Int))).setCell ⟨B, 2, none⟩ (.int .i64 (j : Int))).setCell ⟨B, 3, none⟩ (.slice ao L cap)) :=
                    ((((Only.refl (fun b => b = B) w10).setCell ⟨B, 0, none⟩ _ (fun _ => rfl)).setCell ⟨B, 1, none⟩ _ (fun _ => rfl)).setCell ⟨B, 2, none⟩ _ (fun _ => rfl)).setCell ⟨B, 3, none⟩ _ (fun _ => rfl)
                  have hR := HW.out.2.lt
                  refine show ∃ ao cap, _ ∧ Hid _ from ⟨ao, cap, by rw [e1], ?_⟩
                  dsimp only
                  rw [← e1]
                  exact ⟨(HW.out.1.only OB (fun b hb e => by omega)).lower (by omega), HW.out.2.rd.other (fun b h e => by omega) OB, HW.out.2.on.trans OB (fun b h e => by omega)⟩
end Go.Proofs.YtfecmpebnianpaaGreatDoor
namespace Go.Proofs.YtfecmpebnianpaaGreatDoor
open Go.RowKit
set_option linter.unusedSimpArgs false
set_option linter.unusedVariables false
/-- the slice v holds the trees l, within the blocks S -/
def SqAt (w : World) (S : Nat → Prop) (d : Nat) (i : Bool) (v : Value) (l : List Tre) : Prop :=
  ∃ ao cap, v = .slice ao l.length cap ∧ l.length ≤ cap ∧ ∀ (j : Nat) (x : Tre), l[j]? = some x → ∃ g k u, ao = some ⟨g, k, none⟩ ∧ S g ∧ w.cell? ⟨g, k + j, none⟩ = some u ∧ TrAt w S d i x u
theorem SqAt.step {w w' : World} {S S' : Nat → Prop} (hS : ∀ b, S b → S' b) (hk : ∀ (a : Addr) u, S a.block → w.cell? a = some u → w'.cell? a = some u) {d d' : Nat} {i : Bool} {l : List Tre} {v : Value} (hd : d ≤ d') (h : SqAt w S d i v l) : SqAt w' S' d' i v l := by
  obtain ⟨ao, cap, hv, hc, hl⟩ := h
  refine ⟨ao, cap, hv, hc, fun j x hx => ?_⟩
  obtain ⟨g, k, u, ha, hg, hu, ht⟩ := hl j x hx
  exact ⟨g, k, u, ha, hS g hg, hk _ _ hg hu, ht.step hS hk hd⟩
theorem RwAt.seq {w : World} {B : Nat} {T : TypeId} {d : Nat} {i : Bool} {v : Value} {l : List Tre} (h : RwAt w B T d i v l) : ∃ S, SqAt w S d i v l ∧ ∀ b, S b → B ≤ b ∧ Liv w b := by
  obtain ⟨us, S, ho, ht, hS⟩ := h
  refine ⟨fun b => S b ∨ v.ownBlock = some b, ?_, fun b hb => ?_⟩
  · rcases ho.2 with ⟨rfl, h2⟩ | ⟨g, cap, cur, hv, hB, hg, hn, hcm, hcs, htk⟩
    · have hl : l = [] := List.eq_nil_of_length_eq_zero h2
      subst hl
      exact ⟨none, 0, rfl, Nat.zero_le _, fun i x hx => by simp at hx⟩
    · refine ⟨some ⟨g, 0, none⟩, cap, hv, hn, fun i x hx => ?_⟩
      obtain ⟨u, h1, h2⟩ := ht i x hx
      have hc := ho.cells (g := g) (by rw [hv]; rfl) i u h1
      rw [addr_ad] at hc
      exact ⟨g, 0, u, rfl, .inr (by rw [hv]; rfl), by simpa using hc, h2.step (fun _ g => .inl g) (fun _ _ _ g => g) (Nat.le_refl _)⟩
  · rcases hb with h | h
    · exact ⟨(hS b h).1, (hS b h).2.1⟩
    · exact ⟨(ho.lt b h).1, Liv.row ho h⟩
/-- the cells bv and iv are a form's body and item -/
def FmAt (w : World) (S : Nat → Prop) (d : Nat) (fm : Fm) (bv iv : Value) : Prop :=
  (fm.d = true ∧ fm.it = noT ∧ SqAt w S d true bv fm.b ∧ iv = .nilIface) ∨ (fm.d = false ∧ fm.nm = ⟨#[]⟩ ∧ fm.i = 0 ∧ fm.j = 0 ∧ fm.b = [] ∧ bv = .slice none 0 0 ∧ TrAt w S d true fm.it iv)
theorem FmAt.step {w w' : World} {S S' : Nat → Prop} (hS : ∀ b, S b → S' b) (hk : ∀ (a : Addr) u, S a.block → w.cell? a = some u → w'.cell? a = some u) {d d' : Nat} {fm : Fm} {bv iv : Value} (hd : d ≤ d') (h : FmAt w S d fm bv iv) : FmAt w' S' d' fm bv iv := by
  rcases h with ⟨h1, h4, h2, h3⟩ | ⟨h1, h2, h3, h4, h5, h6, h7⟩
  · exact .inl ⟨h1, h4, h2.step hS hk hd, h3⟩
  · exact .inr ⟨h1, h2, h3, h4, h5, h6, h7.step hS hk hd⟩
/-- a form that was made since block B -/
def NfAt (w : World) (B d : Nat) (fm : Fm) (bv iv : Value) : Prop := ∃ S, FmAt w S d fm bv iv ∧ ∀ b, S b → B ≤ b ∧ Liv w b
theorem NfAt.only {w w' : World} {B d : Nat} {fm : Fm} {bv iv : Value} {bs : Nat → Prop} (h : NfAt w B d fm bv iv) (o : Only bs w w') (hb : ∀ b, B ≤ b → ¬ bs b) : NfAt w' B d fm bv iv := by
  obtain ⟨S, ht, hS⟩ := h
  exact ⟨S, ht.step (fun _ g => g) (fun a u hs hc => o.cell hc (hb _ (hS _ hs).1)) (Nat.le_refl _), fun b hbS => ⟨(hS b hbS).1, (hS b hbS).2.only o (hb b (hS b hbS).1)⟩⟩
theorem NfAt.lower {w : World} {B C d : Nat} {fm : Fm} {bv iv : Value} (h : NfAt w B d fm bv iv) (hC : C ≤ B) : NfAt w C d fm bv iv := by
  obtain ⟨S, ht, hS⟩ := h
  exact ⟨S, ht, fun b hbS => ⟨Nat.le_trans hC (hS b hbS).1, (hS b hbS).2⟩⟩
def fmV (fm : Fm) (bv iv : Value) : Value := .agg #[.bool fm.d, .string fm.nm, .int .i64 (fm.i : Int), .int .i64 (fm.j : Int), bv, iv]
/-- what a form is read as -/
def fmR (n : Int) (f : Nat) (q : List Tok) (o z : Int) : Except (Int × Int) (Fm × List Tok × Int) :=
  match q with
  | [] => .error (n, 9)
  | t :: r =>
    if isB t ⟨#[58]⟩ then dfR n f (t :: r) o z else
    match prs n f 1 (t :: r) o z with
    | .error e => .error e
    | .ok (l, q', z') => .ok (⟨false, ⟨#[]⟩, 0, 0, [], l.headD noT⟩, q', z')
/-- what form answers -/
def fmP (R f : Nat) (n o : Int) (w : World) (r : Except (Int × Int) (Fm × List Tok × Int)) (x : Ending) (w' : World) : Prop :=
  match r with
  | .error (a, e) => x = gup a e ∧ Only (fun b => b = R) w w'
  | .ok (fm, q, z) => ∃ bv iv, x = .returned (fmV fm bv iv) ∧ Hid (NfAt w' w.heap.size f fm bv iv ∧ RdAt w' R q n o z ∧ Only (fun b => b = R) w w')
theorem set6 {w : World} {B : Nat} {a b c d e f : Value} {t : TypeId} (h : w.heap[B]? = some (.cells #[a, b, c, d, e, f] t)) (x0 x1 x2 x3 x4 x5 : Value) :
    ((((((w.setCell ⟨B, 0, none⟩ x0).setCell ⟨B, 1, none⟩ x1).setCell ⟨B, 2, none⟩ x2).setCell ⟨B, 3, none⟩ x3).setCell ⟨B, 4, none⟩ x4).setCell ⟨B, 5, none⟩ x5).heap[B]? = some (.cells #[x0, x1, x2, x3, x4, x5] t) := by
  have g1 := heap_setCell_same _ B 0 _ _ x0 h
  have g2 := heap_setCell_same _ B 1 _ _ x1 g1
  have g3 := heap_setCell_same _ B 2 _ _ x2 g2
  have g4 := heap_setCell_same _ B 3 _ _ x3 g3
  have g5 := heap_setCell_same _ B 4 _ _ x4 g4
  have g6 := heap_setCell_same _ B 5 _ _ x5 g5
  exact g6
theorem results_fm {fn : Func} {u : Tmp} (h : fn.results = #[.cell u 117]) (tmps : Array Value) (w : World) (B : Nat) {x0 x1 x2 x3 x4 x5 : Value} (hb : w.heap[B]? = some (.cells #[x0, x1, x2, x3, x4, x5] 117)) (ha : tmps.getD u undef = .pointer (some ⟨B, 0, none⟩)) :
    (results fn tmps).run Tryz.prog w = .ok (.agg #[x0, x1, x2, x3, x4, x5]) w := by
  have ha' : tmps[u]?.getD undef = .pointer (some ⟨B, 0, none⟩) := by simpa using ha
  have c0 := blk_cells hb 0
  have c1 := blk_cells hb 1
  have c2 := blk_cells hb 2
  have c3 := blk_cells hb 3
  have c4 := blk_cells hb 4
  have c5 := blk_cells hb 5
  simp only [List.getElem?_toArray, List.getElem?_cons_zero, List.getElem?_cons_succ] at c0 c1 c2 c3 c4 c5
  simp [results, h, ha', asAddr, go_sem, loadVar, isAgg, Tryz.underlying117, c0, c1, c2, c3, c4, c5]
def fmO : Obj := .cells #[.bool false, .string ⟨#[]⟩, .int .i64 0, .int .i64 0, .slice none 0 0, .nilIface] 117
theorem only6 {w : World} {B : Nat} (x0 x1 x2 x3 x4 x5 : Value) : Only (fun b => b = B) w ((((((w.setCell ⟨B, 0, none⟩ x0).setCell ⟨B, 1, none⟩ x1).setCell ⟨B, 2, none⟩ x2).setCell ⟨B, 3, none⟩ x3).setCell ⟨B, 4, none⟩ x4).setCell ⟨B, 5, none⟩ x5) :=
  ((((((Only.refl (fun b => b = B) w).setCell ⟨B, 0, none⟩ _ (fun _ => rfl)).setCell ⟨B, 1, none⟩ _ (fun _ => rfl)).setCell ⟨B, 2, none⟩ _ (fun _ => rfl)).setCell ⟨B, 3, none⟩ _ (fun _ => rfl)).setCell ⟨B, 4, none⟩ _ (fun _ => rfl)).setCell ⟨B, 5, none⟩ _ (fun _ => rfl)
theorem dfR_d {n : Int} {f : Nat} {q : List Tok} {o z : Int} {fm : Fm} {r : List Tok} {z' : Int} (h : dfR n f q o z = .ok (fm, r, z')) : fm.d = true ∧ fm.it = noT := by
  unfold dfR dfN dfQ dfA dfB dfC at h
  repeat' split at h
  all_goals first
    | (simp at h; done)
    | (simp only [Except.ok.injEq, Prod.mk.injEq] at h; obtain ⟨rfl, _, _⟩ := h; exact ⟨rfl, rfl⟩)
set_option maxRecDepth 100000 in
set_option maxHeartbeats 8000000 in
theorem form_any (R f : Nat) (q : List Tok) (n o z : Int) (w : World) (ho : 0 ≤ o) (ho1 : o ≤ 32) (hz : 0 ≤ z) (hz1 : z ≤ 1024) (hl : 3 * q.length + 3 ≤ f) (hl2 : q.length ≤ 4096) (h : RdAt w R q n o z) :
    Calls Tryz.prog 66 #[.pointer (some ⟨R, 0, none⟩)] w (fmP R f n o w (fmR n f q o z)) := by
  obtain ⟨Z, hZ⟩ : ∃ Z, Z = fmR n f q o z := ⟨_, rfl⟩
  rw [← hZ]
  have HZ : Hid (Z = fmR n f q o z) := hZ
  have HP : Hid (∀ a e w', Z = .error (a, e) → Only (fun b => b = R) w w' → fmP R f n o w Z (gup a e) w') := by
    intro a e w' h1 h2
    rw [h1]
    exact show _ ∧ _ from ⟨rfl, h2⟩
  have K0 : Hid (DfK w (w.alloc fmO) R q n o z fmO) := DfK.start h fmO
  have HB : Hid (0 ≤ o ∧ o ≤ 32 ∧ 0 ≤ z ∧ z ≤ 1024 ∧ 3 * q.length + 3 ≤ f ∧ q.length ≤ 4096) := ⟨ho, ho1, hz, hz1, hl, hl2⟩
  clear hZ h ho ho1 hz hz1 hl hl2
  cases q with
  | nil =>
    go_enter Tryz.func66, Tryz.ntmps66
    go_wp2_with fail
    refine (show Calls Tryz.prog 100 _ _ _ from is_nil R n o z _ _ K0.out.rd).mono ?_
    rintro e w1 ⟨rfl, o1⟩
    have HX : Hid (fmP R f n o w Z (gup n 9) w1) := HP.out _ _ _ HZ.out (K0.out.still o1).on
    clear HZ HP K0 o1 HB
    unfold gup at HX ⊢
    go_wp2
    exact ⟨rfl, HX.out⟩
  | cons t r =>
    have HS : Hid (∀ w1, RdAt w1 R (t :: r) n o z → Calls Tryz.prog 100 #[.pointer (some ⟨R, 0, none⟩), .string ⟨#[58]⟩] w1 fun x w' => x = .returned (.bool (isB t ⟨#[58]⟩)) ∧ Only (fun _ => False) w1 w') := fun w1 hw => is_cons R t r n o z _ w1 hw
    cases hn : isB t ⟨#[58]⟩ with
    | true =>
      rw [hn] at HS
      have HZ2 : Hid (Z = dfR n f (t :: r) o z) := by show Z = _; rw [HZ.out]; simp only [fmR]; rw [if_pos hn]
      have HD : Hid (∀ w1, RdAt w1 R (t :: r) n o z → Calls Tryz.prog 101 #[.pointer (some ⟨R, 0, none⟩)] w1 (dfP R f n o w1 (dfR n f (t :: r) o z))) := by
        intro w1 hw
        have b := HB.out
        simp only [List.length_cons] at b
        exact definition_any R f t r n o z w1 b.1 b.2.1 b.2.2.1 b.2.2.2.1 (by omega) (by omega) hw
      have HDD : Hid (∀ fm q z', dfR n f (t :: r) o z = .ok (fm, q, z') → fm.d = true ∧ fm.it = noT) := fun fm q z' h => dfR_d h
      clear HZ hn
      obtain ⟨X, hX⟩ : ∃ X, X = dfR n f (t :: r) o z := ⟨_, rfl⟩
      rw [← hX] at HZ2 HD HDD
      clear hX
      go_enter Tryz.func66, Tryz.ntmps66
      go_wp2_with fail
      refine (show Calls Tryz.prog 100 _ _ _ from HS.out _ K0.out.rd).mono ?_
      rintro e w1 ⟨rfl, o1⟩
      have K1 : Hid (DfK w w1 R (t :: r) n o z fmO) := K0.out.still o1
      clear o1 K0 HS
      go_wp2_with fail
      refine (show Calls Tryz.prog 101 _ _ _ from HD.out _ K1.out.rd).mono ?_
      intro e w2 g2
      clear HD
      cases X with
      | error p =>
        obtain ⟨a, er⟩ := p
        obtain ⟨he, o2⟩ := g2
        subst he
        have HX : Hid (fmP R f n o w Z (gup a er) w2) := HP.out _ _ _ HZ2.out (K1.out.on.trans o2 (fun _ _ g => g))
        clear HZ2 HP K1 o2 HB
        unfold gup at HX ⊢
        go_wp2
        exact ⟨rfl, HX.out⟩
      | ok p =>
        obtain ⟨⟨fd, fn, fi, fj, fb, ft⟩, q6, z'⟩ := p
        obtain ⟨ao, cap, he, g2⟩ := g2
        obtain ⟨hd1, hd2⟩ := HDD.out _ _ _ rfl
        dsimp only at hd1 hd2 he g2
        subst hd1
        subst hd2
        subst he
        have K2 : DfK w w2 R q6 n o z' fmO := K1.out.go g2.out.2.2 g2.out.2.1
        have hbig : w.heap.size < w1.heap.size := (Array.getElem?_eq_some_iff.1 K1.out.bl).1
        have HW : Hid (RwAt w2 (w.heap.size + 1) 53 f true (.slice ao fb.length cap) fb ∧ DfK w w2 R q6 n o z' fmO) := ⟨g2.out.1.lower hbig, K2⟩
        have R3 := K2.bl
        unfold fmO at R3
        obtain ⟨B, hBe⟩ : ∃ B, B = w.heap.size := ⟨_, rfl⟩
        have HE : Hid (B = w.heap.size) := hBe
        rw [← hBe] at R3 ⊢
        have c0 := blk_cells R3 0
        have c1 := blk_cells R3 1
        have c2 := blk_cells R3 2
        have c3 := blk_cells R3 3
        have c4 := blk_cells R3 4
        have c5 := blk_cells R3 5
        have z0 := blk_froz R3 0
        have z1 := blk_froz R3 1
        have z2 := blk_froz R3 2
        have z3 := blk_froz R3 3
        have z4 := blk_froz R3 4
        have z5 := blk_froz R3 5
        have HR3 : Hid (w2.heap[B]? = some (.cells #[.bool false, .string ⟨#[]⟩, .int .i64 0, .int .i64 0, .slice none 0 0, .nilIface] 117)) := R3
        simp only [List.getElem?_toArray, List.getElem?_cons_zero, List.getElem?_cons_succ] at c0 c1 c2 c3 c4 c5
        clear g2 K1 K2 hbig R3 hBe HP HDD
        obtain ⟨L, hL⟩ : ∃ L, L = fb.length := ⟨_, rfl⟩
        have HLL : Hid (L = fb.length) := hL
        rw [← hL] at HW
        rw [← hL]
        clear hL
        go_wp2
        refine bodyPost_ret (results_fm rfl _ _ B (set6 HR3.out _ _ _ _ _ _) rfl) rfl ?_
        rw [show Z = _ from HZ2.out]
        have e1 : L = fb.length := HLL.out
        have hBe : B = w.heap.size := HE.out
        have OB := @only6 w2 B (.bool true) (.string fn) (.int .i64 (fi : Int)) (.int .i64 (fj : Int)) (.slice ao L cap) .nilIface
        have hR := HW.out.2.lt
        refine show ∃ bv iv, _ ∧ Hid _ from ⟨.slice ao L cap, .nilIface, rfl, ?_⟩
        refine ⟨?_, HW.out.2.rd.other (fun b h e => by omega) OB, HW.out.2.on.trans OB (fun b h e => by omega)⟩
        obtain ⟨S, hS, hb⟩ := ((HW.out.1.only OB (fun b hb e => by omega)).lower (show w.heap.size ≤ w.heap.size + 1 by omega)).seq
        exact ⟨S, .inl ⟨rfl, rfl, hS, rfl⟩, hb⟩
    | false =>
      rw [hn] at HS
      have HZ2 : Hid (Z = match prs n f 1 (t :: r) o z with
          | .error e => .error e
          | .ok (l, q', z') => .ok (⟨false, ⟨#[]⟩, 0, 0, [], l.headD noT⟩, q', z')) := by show Z = _; rw [HZ.out]; simp only [fmR]; rw [if_neg (by rw [hn]; simp)]; try rfl
      have HD : Hid (∀ w1, RdAt w1 R (t :: r) n o z → Calls Tryz.prog 102 #[.pointer (some ⟨R, 0, none⟩)] w1 (ptP R f true n o w1 (prs n f 1 (t :: r) o z))) := by
        intro w1 hw
        have b := HB.out
        exact (parts_any R n (f + 1) f (by omega)).2.1 (t :: r) o z w1 (by omega) b.2.2.2.2.2 b.1 b.2.1 b.2.2.1 b.2.2.2.1 hw
      clear HZ hn
      obtain ⟨X, hX⟩ : ∃ X, X = prs n f 1 (t :: r) o z := ⟨_, rfl⟩
      rw [← hX] at HZ2 HD
      clear hX
      go_enter Tryz.func66, Tryz.ntmps66
      go_wp2_with fail
      refine (show Calls Tryz.prog 100 _ _ _ from HS.out _ K0.out.rd).mono ?_
      rintro e w1 ⟨rfl, o1⟩
      have K1 : Hid (DfK w w1 R (t :: r) n o z fmO) := K0.out.still o1
      clear o1 K0 HS
      go_wp2_with fail
      refine (show Calls Tryz.prog 102 _ _ _ from HD.out _ K1.out.rd).mono ?_
      intro e w2 g2
      clear HD
      cases X with
      | error p =>
        obtain ⟨a, er⟩ := p
        obtain ⟨he, o2⟩ := g2
        subst he
        have HX : Hid (fmP R f n o w Z (gup a er) w2) := HP.out _ _ _ HZ2.out (K1.out.on.trans o2 (fun _ _ g => g))
        clear HZ2 HP K1 o2 HB
        unfold gup at HX ⊢
        go_wp2
        exact ⟨rfl, HX.out⟩
      | ok p =>
        obtain ⟨l, q6, z'⟩ := p
        obtain ⟨t1, v, hl, he, g2⟩ := g2
        subst hl
        subst he
        have K2 : DfK w w2 R q6 n o z' fmO := K1.out.go g2.out.2.2 g2.out.2.1
        have hbig : w.heap.size < w1.heap.size := (Array.getElem?_eq_some_iff.1 K1.out.bl).1
        have HW : Hid (NwAt w2 (w.heap.size + 1) f true t1 v ∧ DfK w w2 R q6 n o z' fmO) := ⟨g2.out.1.lower hbig, K2⟩
        obtain ⟨T, y, hv⟩ := g2.out.1.form
        subst hv
        have R3 := K2.bl
        unfold fmO at R3
        obtain ⟨B, hBe⟩ : ∃ B, B = w.heap.size := ⟨_, rfl⟩
        have HE : Hid (B = w.heap.size) := hBe
        rw [← hBe] at R3 ⊢
        have c0 := blk_cells R3 0
        have c1 := blk_cells R3 1
        have c2 := blk_cells R3 2
        have c3 := blk_cells R3 3
        have c4 := blk_cells R3 4
        have c5 := blk_cells R3 5
        have z0 := blk_froz R3 0
        have z1 := blk_froz R3 1
        have z2 := blk_froz R3 2
        have z3 := blk_froz R3 3
        have z4 := blk_froz R3 4
        have z5 := blk_froz R3 5
        have HR3 : Hid (w2.heap[B]? = some (.cells #[.bool false, .string ⟨#[]⟩, .int .i64 0, .int .i64 0, .slice none 0 0, .nilIface] 117)) := R3
        simp only [List.getElem?_toArray, List.getElem?_cons_zero, List.getElem?_cons_succ] at c0 c1 c2 c3 c4 c5
        clear g2 K1 K2 hbig R3 hBe HP
        go_wp2
        refine bodyPost_ret (results_fm rfl _ _ B (set6 HR3.out _ _ _ _ _ _) rfl) rfl ?_
        rw [show Z = _ from HZ2.out]
        have hBe : B = w.heap.size := HE.out
        have OB := @only6 w2 B (.bool false) (.string ⟨#[]⟩) (.int .i64 0) (.int .i64 0) (.slice none 0 0) (.iface T y)
        have hR := HW.out.2.lt
        refine show ∃ bv iv, _ ∧ Hid _ from ⟨.slice none 0 0, .iface T y, rfl, ?_⟩
        refine ⟨?_, HW.out.2.rd.other (fun b h e => by omega) OB, HW.out.2.on.trans OB (fun b h e => by omega)⟩
        obtain ⟨S, hS, hb⟩ := (HW.out.1.only OB (fun b hb e => by omega)).lower (show w.heap.size ≤ w.heap.size + 1 by omega)
        exact ⟨S, .inr ⟨rfl, rfl, rfl, rfl, rfl, rfl, hS⟩, hb⟩
end Go.Proofs.YtfecmpebnianpaaGreatDoor
namespace Go.Proofs.YtfecmpebnianpaaGreatDoor
open Go.RowKit
set_option linter.unusedSimpArgs false
set_option linter.unusedVariables false
set_option maxRecDepth 100000 in
theorem caught_idle (x y z : Addr) (w : World) :
    CallsD Tryz.prog 99 #[.pointer (some x), .pointer (some y), .pointer (some z)] .returning w fun e u' w' => e = .returned (.tuple #[]) ∧ u' = .returning ∧ w' = w := by
  refine callsD_of_wpS Tryz.func99 rfl fun c₀ cs hu => ?_
  apply wpS_seq
  apply wpS_region
  simp [wpOpsS, go_sem, recoverD, hu, Tryz.ntmps99, Exit.thenS]
  apply wpS_seq
  apply wpS_seq
  apply wpS_region
  simp [wpOpsS, go_sem, recoverD, hu, Tryz.ntmps99, Exit.thenS]
  refine wpS_cond (t := true) (by simp [Act.eval, Array.replicate]) ?_
  simp only [if_true]
  refine wpS_of_wp (wp_ret ?_)
  cases c₀
  simp_all [Exit.thenS, bodyPostS, results, Tryz.results99]
end Go.Proofs.YtfecmpebnianpaaGreatDoor
namespace Go.Proofs.YtfecmpebnianpaaGreatDoor
open Go.RowKit
set_option linter.unusedSimpArgs false
set_option linter.unusedVariables false
theorem flt_as (v : Value) (W : World) : (Instr.typeAssert (.iface 176 v) 20 176 true).run Tryz.prog W = .ok (.tuple #[v, .bool true]) W := by
  simp [Instr.typeAssert, run_underlying Tryz.underlying176]
set_option maxRecDepth 100000 in
set_option maxHeartbeats 4000000 in
theorem caught_own (X Y Z : Nat) (vx vy vz : Value) (tx ty tz : TypeId) (a e : Int) (older : List PanicEntry) (w : World) (hx : w.heap[X]? = some (.cells #[vx] tx)) (hy : w.heap[Y]? = some (.cells #[vy] ty)) (hz : w.heap[Z]? = some (.cells #[vz] tz)) (hxy : X ≠ Y) (hxz : X ≠ Z) (hyz : Y ≠ Z) :
    CallsD Tryz.prog 99 #[.pointer (some ⟨X, 0, none⟩), .pointer (some ⟨Y, 0, none⟩), .pointer (some ⟨Z, 0, none⟩)] (.panicking ({ v := .iface 176 (.agg #[.int .i64 a, .int .i64 e]), recovered := false } :: older)) w fun en u' w' => en = .returned (.tuple #[]) ∧ u' = .panicking ({ v := .iface 176 (.agg #[.int .i64 a, .int .i64 e]), recovered := true } :: older) ∧ Hid (w'.cell? ⟨X, 0, none⟩ = some (.slice none 0 0) ∧ w'.cell? ⟨Y, 0, none⟩ = some (.int .i64 a) ∧ w'.cell? ⟨Z, 0, none⟩ = some (.int .i64 e) ∧ Only (fun b => b = X ∨ b = Y ∨ b = Z) w w') := by
  have al : ∀ (ob : Obj) (b : Nat) (o : Obj), w.heap[b]? = some o → (w.alloc ob).heap[b]? = some o := fun ob b o hb => (((Only.refl (fun _ => False) w).alloc ob).block b (Array.getElem?_eq_some_iff.1 hb).1 (fun h => h)).trans hb
  have cx : ∀ ob, (w.alloc ob).cell? ⟨X, 0, none⟩ = some vx := fun ob => by rw [blk_cells (al ob X _ hx)]; rfl
  have cy : ∀ ob, (w.alloc ob).cell? ⟨Y, 0, none⟩ = some vy := fun ob => by rw [blk_cells (al ob Y _ hy)]; rfl
  have cz : ∀ ob, (w.alloc ob).cell? ⟨Z, 0, none⟩ = some vz := fun ob => by rw [blk_cells (al ob Z _ hz)]; rfl
  have fx : ∀ ob, (w.alloc ob).frozen? ⟨X, 0, none⟩ = false := fun ob => blk_froz (al ob X _ hx) 0
  have fy : ∀ ob, (w.alloc ob).frozen? ⟨Y, 0, none⟩ = false := fun ob => blk_froz (al ob Y _ hy) 0
  have fz : ∀ ob, (w.alloc ob).frozen? ⟨Z, 0, none⟩ = false := fun ob => blk_froz (al ob Z _ hz) 0
  have lx : X < w.heap.size := (Array.getElem?_eq_some_iff.1 hx).1
  have ly : Y < w.heap.size := (Array.getElem?_eq_some_iff.1 hy).1
  have lz : Z < w.heap.size := (Array.getElem?_eq_some_iff.1 hz).1
  clear al hx hy hz
  refine callsD_of_wpS Tryz.func99 rfl fun c₀ cs hu => ?_
  apply wpS_seq
  apply wpS_region
  simp [wpOpsS, go_sem, recoverD, hu, Tryz.ntmps99, Exit.thenS]
  apply wpS_seq
  apply wpS_seq
  apply wpS_region
  simp [wpOpsS, go_sem, recoverD, hu, Tryz.ntmps99, Exit.thenS]
  refine wpS_cond (t := false) (by simp [Act.eval, Array.replicate]) ?_
  simp only [Bool.false_eq_true, if_false]
  refine wpS_of_wp (wp_skip ?_)
  simp only [Exit.thenS]
  refine wpS_of_wp (a := { tmps := #[.pointer (some ⟨X, 0, none⟩), .pointer (some ⟨Y, 0, none⟩), .pointer (some ⟨Z, 0, none⟩), .iface 176 (.agg #[.int .i64 a, .int .i64 e]), undef, undef, .iface 176 (.agg #[.int .i64 a, .int .i64 e]), .iface 176 (.agg #[.int .i64 a, .int .i64 e]), .bool false, undef, undef, undef, undef, undef, undef, undef, undef, undef, undef, undef, undef], defers := [] }) ?_
  have hta := flt_as
  go_wp2_with fail
  obtain ⟨W, hW⟩ : ∃ W, W = w.alloc (.cells #[.int .i64 a, .int .i64 e] 176) := ⟨_, rfl⟩
  have HW : Hid (W = w.alloc (.cells #[.int .i64 a, .int .i64 e] 176)) := hW
  obtain ⟨B, hB⟩ : ∃ B, B = w.heap.size := ⟨_, rfl⟩
  have b0 : W.cell? ⟨B, 0, none⟩ = some (.int .i64 a) := by rw [hW, hB]; simp
  have b1 : W.cell? ⟨B, 1, none⟩ = some (.int .i64 e) := by rw [hW, hB]; simp
  have dx := cx (.cells #[.int .i64 a, .int .i64 e] 176)
  have dy := cy (.cells #[.int .i64 a, .int .i64 e] 176)
  have dz := cz (.cells #[.int .i64 a, .int .i64 e] 176)
  have gx := fx (.cells #[.int .i64 a, .int .i64 e] 176)
  have gy := fy (.cells #[.int .i64 a, .int .i64 e] 176)
  have gz := fz (.cells #[.int .i64 a, .int .i64 e] 176)
  rw [← hW] at dx dy dz gx gy gz
  rw [← hW, ← hB]
  have nx : ¬ X = B := by omega
  have ny : ¬ Y = B := by omega
  have nz : ¬ Z = B := by omega
  have nx' : ¬ B = X := by omega
  have ny' : ¬ B = Y := by omega
  have nz' : ¬ B = Z := by omega
  have nyx : ¬ Y = X := fun h => hxy h.symm
  have nzx : ¬ Z = X := fun h => hxz h.symm
  have nzy : ¬ Z = Y := fun h => hyz h.symm
  clear cx cy cz fx fy fz hW hB lx ly lz
  have hx2 : ((((W.setCell ⟨X, 0, none⟩ (.slice none 0 0)).setCell ⟨Y, 0, none⟩ (.int .i64 a)).setCell ⟨Z, 0, none⟩ (.int .i64 e)).drew).cell? ⟨X, 0, none⟩ = some (.slice none 0 0) := by
    show (((W.setCell ⟨X, 0, none⟩ (.slice none 0 0)).setCell ⟨Y, 0, none⟩ (.int .i64 a)).setCell ⟨Z, 0, none⟩ (.int .i64 e)).cell? ⟨X, 0, none⟩ = _
    rw [World.cell?_setCell_other _ _ _ _ (by intro h; injection h with h; exact nzx h), World.cell?_setCell_other _ _ _ _ (by intro h; injection h with h; exact nyx h)]
    exact World.cell?_setCell_same' _ _ _ (by rw [dx]; rfl)
  have hy2 : ((((W.setCell ⟨X, 0, none⟩ (.slice none 0 0)).setCell ⟨Y, 0, none⟩ (.int .i64 a)).setCell ⟨Z, 0, none⟩ (.int .i64 e)).drew).cell? ⟨Y, 0, none⟩ = some (.int .i64 a) := by
    show (((W.setCell ⟨X, 0, none⟩ (.slice none 0 0)).setCell ⟨Y, 0, none⟩ (.int .i64 a)).setCell ⟨Z, 0, none⟩ (.int .i64 e)).cell? ⟨Y, 0, none⟩ = _
    rw [World.cell?_setCell_other _ _ _ _ (by intro h; injection h with h; exact nzy h)]
    exact World.cell?_setCell_same' _ _ _ (by rw [World.cell?_setCell_other _ _ _ _ (by intro h; injection h with h; exact hxy h), dy]; rfl)
  have hz2 : ((((W.setCell ⟨X, 0, none⟩ (.slice none 0 0)).setCell ⟨Y, 0, none⟩ (.int .i64 a)).setCell ⟨Z, 0, none⟩ (.int .i64 e)).drew).cell? ⟨Z, 0, none⟩ = some (.int .i64 e) := by
    show (((W.setCell ⟨X, 0, none⟩ (.slice none 0 0)).setCell ⟨Y, 0, none⟩ (.int .i64 a)).setCell ⟨Z, 0, none⟩ (.int .i64 e)).cell? ⟨Z, 0, none⟩ = _
    exact World.cell?_setCell_same' _ _ _ (by rw [World.cell?_setCell_other _ _ _ _ (by intro h; injection h with h; exact hyz h), World.cell?_setCell_other _ _ _ _ (by intro h; injection h with h; exact hxz h), dz]; rfl)
  have ho2 : Only (fun b => b = X ∨ b = Y ∨ b = Z) w ((((W.setCell ⟨X, 0, none⟩ (.slice none 0 0)).setCell ⟨Y, 0, none⟩ (.int .i64 a)).setCell ⟨Z, 0, none⟩ (.int .i64 e)).drew) := by
    rw [HW.out]
    exact (((((Only.refl _ w).alloc _).setCell ⟨X, 0, none⟩ _ (fun _ => .inl rfl)).setCell ⟨Y, 0, none⟩ _ (fun _ => .inr (.inl rfl))).setCell ⟨Z, 0, none⟩ _ (fun _ => .inr (.inr rfl))).drew
  have HH : Hid (((((W.setCell ⟨X, 0, none⟩ (.slice none 0 0)).setCell ⟨Y, 0, none⟩ (.int .i64 a)).setCell ⟨Z, 0, none⟩ (.int .i64 e)).drew).cell? ⟨X, 0, none⟩ = some (.slice none 0 0) ∧ ((((W.setCell ⟨X, 0, none⟩ (.slice none 0 0)).setCell ⟨Y, 0, none⟩ (.int .i64 a)).setCell ⟨Z, 0, none⟩ (.int .i64 e)).drew).cell? ⟨Y, 0, none⟩ = some (.int .i64 a) ∧ ((((W.setCell ⟨X, 0, none⟩ (.slice none 0 0)).setCell ⟨Y, 0, none⟩ (.int .i64 a)).setCell ⟨Z, 0, none⟩ (.int .i64 e)).drew).cell? ⟨Z, 0, none⟩ = some (.int .i64 e) ∧ Only (fun b => b = X ∨ b = Y ∨ b = Z) w ((((W.setCell ⟨X, 0, none⟩ (.slice none 0 0)).setCell ⟨Y, 0, none⟩ (.int .i64 a)).setCell ⟨Z, 0, none⟩ (.int .i64 e)).drew)) := ⟨hx2, hy2, hz2, ho2⟩
  clear hx2 hy2 hz2 ho2 HW
  go_region
  exact ⟨rfl, _, rfl, .tuple #[], by simp [results, Tryz.results99], rfl, rfl, HH⟩
end Go.Proofs.YtfecmpebnianpaaGreatDoor
namespace Go.Proofs.YtfecmpebnianpaaGreatDoor
open Go.RowKit
set_option linter.unusedSimpArgs false
set_option linter.unusedVariables false
/-- a row of forms that was made since block B -/
def FsAt (w : World) (B d : Nat) (v : Value) (l : List Fm) : Prop :=
  ∃ us S, w.ownsRow B 117 6 v l.length us ∧ (∀ (j : Nat) (fm : Fm), l[j]? = some fm → ∃ bv iv, (us[j * 6]? = some (.bool fm.d) ∧ us[j * 6 + 1]? = some (.string fm.nm) ∧ us[j * 6 + 2]? = some (.int .i64 (fm.i : Int)) ∧ us[j * 6 + 3]? = some (.int .i64 (fm.j : Int)) ∧ us[j * 6 + 4]? = some bv ∧ us[j * 6 + 5]? = some iv) ∧ FmAt w S d fm bv iv) ∧ ∀ b, S b → B ≤ b ∧ Liv w b ∧ v.ownBlock ≠ some b
theorem fs_nil (w : World) (B d : Nat) : FsAt w B d (.slice none 0 0) [] :=
  ⟨[], fun _ => False, ⟨rfl, .inl ⟨rfl, rfl⟩⟩, fun j x h => by simp at h, fun b h => h.elim⟩
theorem FsAt.form {w : World} {B d : Nat} {v : Value} {l : List Fm} (h : FsAt w B d v l) : ∃ ao cap, v = .slice ao l.length cap := by
  obtain ⟨us, S, ho, _⟩ := h
  rcases ho.2 with ⟨h1, h2⟩ | ⟨g, cap, cur, h1, _⟩
  · exact ⟨_, _, by rw [h1, h2]⟩
  · exact ⟨_, _, h1⟩
theorem FsAt.only {w w' : World} {B d : Nat} {v : Value} {l : List Fm} {bs : Nat → Prop} (h : FsAt w B d v l) (o : Only bs w w') (hb : ∀ b, B ≤ b → ¬ bs b) : FsAt w' B d v l := by
  obtain ⟨us, S, ho, ht, hS⟩ := h
  refine ⟨us, S, o.owns ho (fun k hk => hb k (ho.lt k hk).1), fun j x hx => ?_, fun b hbS => ?_⟩
  · obtain ⟨bv, iv, hu, h2⟩ := ht j x hx
    exact ⟨bv, iv, hu, h2.step (fun _ g => g) (fun a u hs hc => o.cell hc (hb _ (hS _ hs).1)) (Nat.le_refl _)⟩
  · obtain ⟨h1, h2, h3⟩ := hS b hbS
    exact ⟨h1, h2.only o (hb b h1), h3⟩
theorem FsAt.lower {w : World} {B C d : Nat} {v : Value} {l : List Fm} (h : FsAt w B d v l) (hC : C ≤ B) : FsAt w C d v l := by
  obtain ⟨us, S, ho, ht, hS⟩ := h
  refine ⟨us, S, ⟨ho.1, ?_⟩, ht, fun b hb => ⟨Nat.le_trans hC (hS b hb).1, (hS b hb).2⟩⟩
  rcases ho.2 with g | ⟨g, cap, cur, h1, h2, h3⟩
  · exact .inl g
  · exact .inr ⟨g, cap, cur, h1, by omega, h3⟩
theorem FsAt.snoc {w w' : World} {B C d : Nat} {v v' : Value} {l : List Fm} {fm : Fm} {bv iv : Value} {us : List Value} {S : Nat → Prop} (hg : w.grownBy w' v.ownBlock) (ho : w.ownsRow B 117 6 v l.length us) (ht : ∀ (j : Nat) (fm : Fm), l[j]? = some fm → ∃ bv iv, (us[j * 6]? = some (.bool fm.d) ∧ us[j * 6 + 1]? = some (.string fm.nm) ∧ us[j * 6 + 2]? = some (.int .i64 (fm.i : Int)) ∧ us[j * 6 + 3]? = some (.int .i64 (fm.j : Int)) ∧ us[j * 6 + 4]? = some bv ∧ us[j * 6 + 5]? = some iv) ∧ FmAt w S d fm bv iv) (hS : ∀ b, S b → B ≤ b ∧ Liv w b ∧ v.ownBlock ≠ some b)
    (hn : NfAt w C d fm bv iv) (hC : B ≤ C) (hv : ∀ k, v.ownBlock = some k → k < C) (ho' : w'.ownsRow B 117 6 v' (l.length + 1) (us ++ [.bool fm.d, .string fm.nm, .int .i64 (fm.i : Int), .int .i64 (fm.j : Int), bv, iv])) (hat : v'.ownBlock = v.ownBlock ∨ v'.ownBlock = some w.heap.size) : FsAt w' B d v' (l ++ [fm]) := by
  obtain ⟨S1, t1, s1⟩ := hn
  have oo : Only (fun k => v.ownBlock = some k) w w' := (Only.refl _ w).grown hg (fun k e _ => e)
  have a1 : ∀ b, S b → ¬ v.ownBlock = some b := fun b h => (hS b h).2.2
  have a2 : ∀ b, S1 b → ¬ v.ownBlock = some b := fun b h e => by have := hv b e; have := (s1 b h).1; omega
  have hl : us.length = l.length * 6 := ho.1
  refine ⟨_, fun b => S b ∨ S1 b, by simpa using ho', fun j x hx => ?_, fun b hb => ?_⟩
  · by_cases hj : j < l.length
    · rw [List.getElem?_append_left hj] at hx
      obtain ⟨bv', iv', ⟨h0, h1, h2, h3, h4, h5⟩, h6⟩ := ht j x hx
      have ap : ∀ i u, us[i]? = some u → (us ++ [.bool fm.d, .string fm.nm, .int .i64 (fm.i : Int), .int .i64 (fm.j : Int), bv, iv])[i]? = some u := fun i u hu => by
        rw [List.getElem?_append_left (List.getElem?_eq_some_iff.1 hu).1]; exact hu
      exact ⟨bv', iv', ⟨ap _ _ h0, ap _ _ h1, ap _ _ h2, ap _ _ h3, ap _ _ h4, ap _ _ h5⟩, h6.step (fun _ g => .inl g) (fun a y hs hc => oo.cell hc (a1 _ hs)) (Nat.le_refl _)⟩
    · have hj2 : j < (l ++ [fm]).length := (List.getElem?_eq_some_iff.1 hx).1
      have hj3 : j = l.length := by simp at hj2; omega
      subst hj3
      simp at hx
      subst hx
      have ap : ∀ i, (us ++ [.bool fm.d, .string fm.nm, .int .i64 (fm.i : Int), .int .i64 (fm.j : Int), bv, iv])[l.length * 6 + i]? = ([.bool fm.d, .string fm.nm, .int .i64 (fm.i : Int), .int .i64 (fm.j : Int), bv, iv] : List Value)[i]? := fun i => by
        rw [List.getElem?_append_right (by omega)]
        congr 1
        omega
      exact ⟨bv, iv, ⟨ap 0, ap 1, ap 2, ap 3, ap 4, ap 5⟩, t1.step (fun _ g => .inr g) (fun a y hs hc => oo.cell hc (a2 _ hs)) (Nat.le_refl _)⟩
  · have h1 : B ≤ b ∧ Liv w b ∧ v.ownBlock ≠ some b := by
      rcases hb with h | h
      · exact hS b h
      · exact ⟨Nat.le_trans hC (s1 b h).1, (s1 b h).2, a2 b h⟩
    refine ⟨h1.1, h1.2.1.only oo h1.2.2, ?_⟩
    rcases hat with e | e <;> rw [e]
    · exact h1.2.2
    · intro e2
      injection e2 with e2
      have := h1.2.1.1
      omega
/-- all forms -/
def alR (n : Int) (F : Nat) : Nat → List Tok → Except (Int × Int) (List Fm)
  | 0, _ => .error (0, 0)
  | g + 1, [] => .ok []
  | g + 1, t :: r =>
    match fmR n F (t :: r) 0 0 with
    | .error e => .error e
    | .ok (fm, q, _) =>
      match alR n F g q with
      | .error e => .error e
      | .ok l => .ok (fm :: l)
theorem dfR_len {n : Int} {f : Nat} {q : List Tok} {o z : Int} {fm : Fm} {r : List Tok} {z' : Int} (hz : z ≤ 1024) (h : dfR n f q o z = .ok (fm, r, z')) : r.length < q.length := by
  cases q with
  | nil => simp [dfR] at h
  | cons t0 q1 =>
    simp only [dfR] at h
    split at h
    · simp at h
    · rename_i hf
      cases q1 with
      | nil => simp [dfN] at h
      | cons t1 q2 =>
        simp only [dfN] at h
        split at h
        · simp at h
        · cases q2 with
          | nil => simp [dfQ] at h
          | cons t2 q3 =>
            simp only [dfQ] at h
            split at h
            · simp at h
            · unfold dfA at h
              split at h
              · simp at h
              · rename_i i q4 h4
                unfold dfB at h
                split at h
                · simp at h
                · rename_i j q5 h5
                  unfold dfC at h
                  split at h
                  · simp at h
                  · rename_i l q6 z6 h6
                    simp only [Except.ok.injEq, Prod.mk.injEq] at h
                    obtain ⟨_, rfl, _⟩ := h
                    have a4 := (sdR_len n _ _ _ _ _ h4).1
                    have a5 := (sdR_len n _ _ _ _ _ h5).1
                    have a6 := (prs_ok n _ _ _ _ _ _ _ _ h6 (by omega)).1
                    simp only [List.length_cons]
                    omega
theorem fmR_len {n : Int} {f : Nat} {q : List Tok} {o z : Int} {fm : Fm} {r : List Tok} {z' : Int} (hz : z ≤ 1024) (h : fmR n f q o z = .ok (fm, r, z')) : r.length < q.length := by
  cases q with
  | nil => simp [fmR] at h
  | cons t q =>
    simp only [fmR] at h
    split at h
    · exact dfR_len hz h
    · split at h
      · simp at h
      · rename_i l q' z'' hp
        simp only [Except.ok.injEq, Prod.mk.injEq] at h
        obtain ⟨_, rfl, _⟩ := h
        exact (prs_ok n _ _ _ _ _ _ _ _ hp hz).1
/-- what stands ahead of an answer -/
def preF (acc : List Fm) (r : Except (Int × Int) (List Fm)) : Except (Int × Int) (List Fm) :=
  match r with
  | .error e => .error e
  | .ok l => .ok (acc ++ l)
theorem alR_go (n : Int) (F g : Nat) (t : Tok) (r : List Tok) (acc : List Fm) : preF acc (alR n F (g + 1) (t :: r)) =
    match fmR n F (t :: r) 0 0 with
    | .error e => .error e
    | .ok (fm, q, _) => preF (acc ++ [fm]) (alR n F g q) := by
  simp only [alR]
  cases fmR n F (t :: r) 0 0 with
  | error e => rfl
  | ok p =>
    obtain ⟨fm, q, z⟩ := p
    dsimp only
    cases alR n F g q with
    | error e => rfl
    | ok l => simp [preF]
/-- what a source is read as -/
def parR (s : ByteArray) : List Fm × Int × Int :=
  if (tokR s).2.2 = 0 then
    match alR (s.size : Int) 12400 ((tokR s).1.length + 1) (tokR s).1 with
    | .error (a, e) => ([], a, e)
    | .ok l => (l, 0, 0)
  else ([], ((tokR s).2.1 : Int), (tokR s).2.2)
theorem results_ra {fn : Func} {t u v : Tmp} (h : fn.results = #[.cell t 113, .cell u 3, .cell v 24]) (tmps : Array Value) (w : World) (X Y Z : Nat) {x y z : Value} (h0 : w.cell? ⟨X, 0, none⟩ = some x) (h1 : w.cell? ⟨Y, 0, none⟩ = some y) (h2 : w.cell? ⟨Z, 0, none⟩ = some z) (ha : tmps.getD t undef = .pointer (some ⟨X, 0, none⟩)) (hb : tmps.getD u undef = .pointer (some ⟨Y, 0, none⟩)) (hc : tmps.getD v undef = .pointer (some ⟨Z, 0, none⟩)) :
    (results fn tmps).run Tryz.prog w = .ok (.tuple #[x, y, z]) w := by
  have ha' : tmps[t]?.getD undef = .pointer (some ⟨X, 0, none⟩) := by simpa using ha
  have hb' : tmps[u]?.getD undef = .pointer (some ⟨Y, 0, none⟩) := by simpa using hb
  have hc' : tmps[v]?.getD undef = .pointer (some ⟨Z, 0, none⟩) := by simpa using hc
  simp [results, h, ha', hb', hc', asAddr, go_sem, loadVar, isAgg, Tryz.underlying113, Tryz.underlying3, Tryz.underlying24, h0, h1, h2]
/-- the three results of readAll in memory -/
structure RaK (N : Nat) (vx : Value) (vy vz : Int) (w : World) : Prop where
  bx : w.heap[N]? = some (.cells #[vx] 113)
  by_ : w.heap[N + 1]? = some (.cells #[.int .i64 vy] 3)
  bz : w.heap[N + 2]? = some (.cells #[.int .i64 vz] 24)
theorem RaK.only {N : Nat} {vx : Value} {vy vz : Int} {w w' : World} {bs : Nat → Prop} (h : RaK N vx vy vz w) (o : Only bs w w') (hb : ∀ b, b ≤ N + 2 → N ≤ b → ¬ bs b) : RaK N vx vy vz w' :=
  ⟨(o.block _ (Array.getElem?_eq_some_iff.1 h.bx).1 (hb _ (by omega) (by omega))).trans h.bx, (o.block _ (Array.getElem?_eq_some_iff.1 h.by_).1 (hb _ (by omega) (by omega))).trans h.by_, (o.block _ (Array.getElem?_eq_some_iff.1 h.bz).1 (hb _ (by omega) (by omega))).trans h.bz⟩
theorem RaK.setY {N : Nat} {vx : Value} {vy vz : Int} {w : World} (h : RaK N vx vy vz w) (y : Int) : RaK N vx y vz (w.setCell ⟨N + 1, 0, none⟩ (.int .i64 y)) :=
  ⟨by rw [heap_setCell_other _ _ _ _ (by simp only; omega)]; exact h.bx, (heap_setCell_same _ _ _ _ _ _ h.by_).trans rfl, by rw [heap_setCell_other _ _ _ _ (by simp only; omega)]; exact h.bz⟩
theorem RaK.setZ {N : Nat} {vx : Value} {vy vz : Int} {w : World} (h : RaK N vx vy vz w) (z : Int) : RaK N vx vy z (w.setCell ⟨N + 2, 0, none⟩ (.int .i64 z)) :=
  ⟨by rw [heap_setCell_other _ _ _ _ (by simp only; omega)]; exact h.bx, by rw [heap_setCell_other _ _ _ _ (by simp only; omega)]; exact h.by_, (heap_setCell_same _ _ _ _ _ _ h.bz).trans rfl⟩
theorem RaK.setX {N : Nat} {vx : Value} {vy vz : Int} {w : World} (h : RaK N vx vy vz w) (x : Value) : RaK N x vy vz (w.setCell ⟨N, 0, none⟩ x) :=
  ⟨(heap_setCell_same _ _ _ _ _ _ h.bx).trans rfl, by rw [heap_setCell_other _ _ _ _ (by simp only; omega)]; exact h.by_, by rw [heap_setCell_other _ _ _ _ (by simp only; omega)]; exact h.bz⟩
theorem RaK.start (w : World) : RaK w.heap.size (.slice none 0 0) 0 0 (((w.alloc (.cells #[.slice none 0 0] 113)).alloc (.cells #[.int .i64 0] 3)).alloc (.cells #[.int .i64 0] 24)) := by
  have h1 := alloc_at w (.cells #[.slice none 0 0] 113) _ rfl
  have h2 := alloc_at (w.alloc (.cells #[.slice none 0 0] 113)) (.cells #[.int .i64 0] 3) (w.heap.size + 1) (by simp)
  have h3 := alloc_at ((w.alloc (.cells #[.slice none 0 0] 113)).alloc (.cells #[.int .i64 0] 3)) (.cells #[.int .i64 0] 24) (w.heap.size + 2) (by simp)
  have al : ∀ (W : World) (ob : Obj) (b : Nat) (o : Obj), W.heap[b]? = some o → (W.alloc ob).heap[b]? = some o := fun W ob b o hb => (((Only.refl (fun _ => False) W).alloc ob).block b (Array.getElem?_eq_some_iff.1 hb).1 (fun h => h)).trans hb
  exact ⟨al _ _ _ _ (al _ _ _ _ h1), al _ _ _ _ h2, h3⟩
end Go.Proofs.YtfecmpebnianpaaGreatDoor
namespace Go.Proofs.YtfecmpebnianpaaGreatDoor
open Go.RowKit Go.Lib
set_option linter.unusedSimpArgs false
set_option linter.unusedVariables false
theorem enL_app (a b : List Nat) : enL (a ++ b) = enL a ++ enL b := by simp [enL]
theorem decode_wd (s : ByteArray) (pos : Nat) (h : pos < s.size) : pos + (Utf8.decode s pos).2 ≤ s.size := by
  rw [decode_at]
  rcases decodeN_shape (s.size - pos) (s.get! pos).toNat (s.get! (pos + 1)).toNat (s.get! (pos + 2)).toNat (s.get! (pos + 3)).toNat with ⟨c, e⟩ | ⟨c1, c2, c3, cv, e⟩ | ⟨c1, c2, c3, c4, cv, cs, e⟩ | ⟨c1, c2, c3, c4, c5, cv, cw, e⟩ | e <;> rw [e] <;> dsimp only <;> omega
end Go.Proofs.YtfecmpebnianpaaGreatDoor
