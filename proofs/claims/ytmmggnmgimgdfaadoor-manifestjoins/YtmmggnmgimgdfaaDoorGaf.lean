/- A literal. A literal: brackets, and what is none. A literal as a whole; an item. -/
import Derived.Test.YtmmggnmgimgdfaaDoorGae
namespace Go.Proofs.YtmmggnmgimgdfaaDoor
open Go.RowKit
set_option linter.unusedSimpArgs false
set_option linter.unusedVariables false
/-- what reading one part answers -/
def ptP (R d : Nat) (i : Bool) (n o : Int) (w : World) (r : Except (Int × Int) (List Tre × List Tok × Int)) (x : Ending) (w' : World) : Prop :=
  match r with
  | .error (a, e) => x = gup a e ∧ Only (fun b => b = R) w w'
  | .ok (l, q, z) => ∃ t v, l = [t] ∧ x = .returned v ∧ Hid (NwAt w' w.heap.size d i t v ∧ RdAt w' R q n o z ∧ Only (fun b => b = R) w w')
/-- what reading parts up to a word answers -/
def upP (R d : Nat) (T : TypeId) (i : Bool) (n o : Int) (w : World) (r : Except (Int × Int) (List Tre × List Tok × Int)) (x : Ending) (w' : World) : Prop :=
  match r with
  | .error (a, e) => x = gup a e ∧ Only (fun b => b = R) w w'
  | .ok (l, q, z) => ∃ ao cap, x = .returned (.slice ao l.length cap) ∧ Hid (RwAt w' w.heap.size T d i (.slice ao l.length cap) l ∧ RdAt w' R q n (o - 1) z ∧ Only (fun b => b = R) w w')
def UpC (R : Nat) (n : Int) (f m F : Nat) (T : TypeId) (i : Bool) (G : Nat) : Prop := ∀ (q : List Tok) (o z : Int) (w : World), 3 * q.length + 3 ≤ f → q.length ≤ 4096 → 1 ≤ o → o ≤ 32 → 0 ≤ z → z ≤ 1024 → RdAt w R q n o z → Calls Tryd.prog F #[.pointer (some ⟨R, 0, none⟩), .string (shB (m - 2)), .func (.func G) #[] #[]] w (upP R f T i n o w (prs n f m q o z))
def PtC (R : Nat) (n : Int) (f m F : Nat) (i : Bool) : Prop := ∀ (q : List Tok) (o z : Int) (w : World), 3 * q.length + 1 + m ≤ f → q.length ≤ 4096 → 0 ≤ o → o ≤ 32 → 0 ≤ z → z ≤ 1024 → RdAt w R q n o z → Calls Tryd.prog F #[.pointer (some ⟨R, 0, none⟩)] w (ptP R f i n o w (prs n f m q o z))
theorem count_full (R : Nat) (t : Tok) (q : List Tok) (n o : Int) (w : World) (h : RdAt w R (t :: q) n o 1024) :
    Calls Tryd.prog 72 #[.pointer (some ⟨R, 0, none⟩)] w fun x w' => x = gup t.a 11 ∧ Only (fun b => b = R) w w' :=
  (count_any R (t :: q) n o 1024 w (by omega) h).mono fun e w' g => by simpa [flt] using g
theorem count_cons (R : Nat) (t : Tok) (q : List Tok) (n o z : Int) (w : World) (hz : 0 ≤ z) (h1 : z ≤ 1024) (h2 : ¬ z = 1024) (h : RdAt w R (t :: q) n o z) :
    Calls Tryd.prog 72 #[.pointer (some ⟨R, 0, none⟩)] w fun x w' => x = .returned t.v ∧ Hid (RdAt w' R q n o (z + 1) ∧ Only (fun b => b = R) w w') :=
  (count_any R (t :: q) n o z w (by omega) h).mono fun e w' g => by rw [if_neg h2] at g; exact g
theorem tok_f0 (a b c d : Value) (w : World) : (Instr.field 140 (.agg #[a, b, c, d]) 0).run Tryd.prog w = .ok a w := by simp [Instr.field, part, sizeOf, typeInfo, go_sem, Tryd.underlying140, isAgg, asAgg]
theorem tok_f1 (a b c d : Value) (w : World) : (Instr.field 140 (.agg #[a, b, c, d]) 1).run Tryd.prog w = .ok b w := by simp [Instr.field, part, sizeOf, typeInfo, go_sem, Tryd.underlying140, isAgg, asAgg]
theorem tok_f2 (a b c d : Value) (w : World) : (Instr.field 140 (.agg #[a, b, c, d]) 2).run Tryd.prog w = .ok c w := by simp [Instr.field, part, sizeOf, typeInfo, go_sem, Tryd.underlying140, isAgg, asAgg]
theorem str_of {t : ByteArray} {c : UInt8} (h : t.toList = [c]) : t = ⟨#[c]⟩ := by
  have h1 : t.data.toList = [c] := by rw [← h]; exact (ByteArray.toList_eq t).symm
  have h2 : t.data = #[c] := by
    apply Array.toList_inj.1
    simpa using h1
  cases t
  simp_all
set_option maxRecDepth 100000 in
theorem lit_num_full (R : Nat) (r : List Tok) (n o : Int) (tt : ByteArray) (tn ta : Int) (w : World)  (h : RdAt w R (⟨2, tt, tn, ta⟩ :: r) n o 1024) :
    Calls Tryd.prog 73 #[.pointer (some ⟨R, 0, none⟩)] w fun x w' => x = gup ta 11 ∧ Only (fun b => b = R) w w' := by
  obtain ⟨z, hz⟩ : ∃ z : Int, z = 1024 := ⟨_, rfl⟩
  rw [← hz] at h
  have HZ : Hid (z = 1024) := hz
  have H0 : Hid (RdAt w R (⟨2, tt, tn, ta⟩ :: r) n o z) := h
  have O0 : Hid (Only (fun b => b = R) w w) := Only.refl _ _
  clear h hz
  have f0 := tok_f0
  have f1 := tok_f1
  have f2 := tok_f2
  go_enter Tryd.func73, Tryd.ntmps73
  go_wp2_with fail
  refine (show Calls Tryd.prog 65 _ _ _ from next_cons R _ r n o z _ H0.out).mono ?_
  rintro e w1 ⟨rfl, o1⟩
  have O1 : Hid (Only (fun b => b = R) w w1) := O0.out.trans (o1.mono (bs' := fun b => b = R) (fun _ _ h => h.elim)) (fun _ _ g => g)
  have H1 : Hid (RdAt w1 R (⟨2, tt, tn, ta⟩ :: r) n o z) := H0.out.only o1
  clear o1 H0 O0
  simp only [Tok.v]
  go_wp2_with fail
  refine (show Calls Tryd.prog 72 _ _ _ from count_full R ⟨2, tt, tn, ta⟩ r n o _ (by have := H1.out; rw [show z = 1024 from HZ.out] at this; exact this)).mono ?_
  rintro e w2 ⟨rfl, o2⟩
  have O2 : Hid (Only (fun b => b = R) w w2) := O1.out.trans o2 (fun _ _ g => g)
  clear o2 H1 O1
  unfold gup
  go_wp2
  exact ⟨rfl, rfl, O2.out⟩
set_option maxRecDepth 100000 in
theorem lit_num_ok (R : Nat) (r : List Tok) (n o z : Int) (tt : ByteArray) (tn ta : Int) (w : World)  (hz : 0 ≤ z) (hz1 : z ≤ 1024) (hz2 : ¬ z = 1024) (h : RdAt w R (⟨2, tt, tn, ta⟩ :: r) n o z) :
    Calls Tryd.prog 73 #[.pointer (some ⟨R, 0, none⟩)] w fun x w' => x = .returned (.iface 116 (.agg #[.int .i64 tn])) ∧ Hid (RdAt w' R r n o (z + 1) ∧ Only (fun b => b = R) w w') := by
  have HC : Hid (∀ w1, RdAt w1 R (⟨2, tt, tn, ta⟩ :: r) n o z → Calls Tryd.prog 72 #[.pointer (some ⟨R, 0, none⟩)] w1 fun x w' => x = .returned (Tok.v ⟨2, tt, tn, ta⟩) ∧ Hid (RdAt w' R r n o (z + 1) ∧ Only (fun b => b = R) w1 w')) := fun w1 h1 => count_cons R _ r n o z w1 hz hz1 hz2 h1
  have H0 : Hid (RdAt w R (⟨2, tt, tn, ta⟩ :: r) n o z) := h
  have O0 : Hid (Only (fun b => b = R) w w) := Only.refl _ _
  clear h hz hz1 hz2
  have f0 := tok_f0
  have f1 := tok_f1
  have f2 := tok_f2
  go_enter Tryd.func73, Tryd.ntmps73
  go_wp2_with fail
  refine (show Calls Tryd.prog 65 _ _ _ from next_cons R _ r n o z _ H0.out).mono ?_
  rintro e w1 ⟨rfl, o1⟩
  have O1 : Hid (Only (fun b => b = R) w w1) := O0.out.trans (o1.mono (bs' := fun b => b = R) (fun _ _ h => h.elim)) (fun _ _ g => g)
  have H1 : Hid (RdAt w1 R (⟨2, tt, tn, ta⟩ :: r) n o z) := H0.out.only o1
  clear o1 H0 O0
  simp only [Tok.v]
  go_wp2_with fail
  refine (show Calls Tryd.prog 72 _ _ _ from HC.out _ H1.out).mono ?_
  rintro e w2 ⟨rfl, g2⟩
  have G2 : Hid (RdAt w2 R r n o (z + 1) ∧ Only (fun b => b = R) w w2) := ⟨g2.out.1, O1.out.trans g2.out.2 (fun _ _ g => g)⟩
  clear g2 H1 O1 HC
  simp only [Tok.v]
  go_wp2
  go_ret
  exact ⟨rfl, G2⟩
set_option maxRecDepth 100000 in
theorem lit_str_full (R : Nat) (r : List Tok) (n o : Int) (tt : ByteArray) (tn ta : Int) (w : World)  (h : RdAt w R (⟨3, tt, tn, ta⟩ :: r) n o 1024) :
    Calls Tryd.prog 73 #[.pointer (some ⟨R, 0, none⟩)] w fun x w' => x = gup ta 11 ∧ Only (fun b => b = R) w w' := by
  obtain ⟨z, hz⟩ : ∃ z : Int, z = 1024 := ⟨_, rfl⟩
  rw [← hz] at h
  have HZ : Hid (z = 1024) := hz
  have H0 : Hid (RdAt w R (⟨3, tt, tn, ta⟩ :: r) n o z) := h
  have O0 : Hid (Only (fun b => b = R) w w) := Only.refl _ _
  clear h hz
  have f0 := tok_f0
  have f1 := tok_f1
  have f2 := tok_f2
  go_enter Tryd.func73, Tryd.ntmps73
  go_wp2_with fail
  refine (show Calls Tryd.prog 65 _ _ _ from next_cons R _ r n o z _ H0.out).mono ?_
  rintro e w1 ⟨rfl, o1⟩
  have O1 : Hid (Only (fun b => b = R) w w1) := O0.out.trans (o1.mono (bs' := fun b => b = R) (fun _ _ h => h.elim)) (fun _ _ g => g)
  have H1 : Hid (RdAt w1 R (⟨3, tt, tn, ta⟩ :: r) n o z) := H0.out.only o1
  clear o1 H0 O0
  simp only [Tok.v]
  go_wp2_with fail
  refine (show Calls Tryd.prog 72 _ _ _ from count_full R ⟨3, tt, tn, ta⟩ r n o _ (by have := H1.out; rw [show z = 1024 from HZ.out] at this; exact this)).mono ?_
  rintro e w2 ⟨rfl, o2⟩
  have O2 : Hid (Only (fun b => b = R) w w2) := O1.out.trans o2 (fun _ _ g => g)
  clear o2 H1 O1
  unfold gup
  go_wp2
  exact ⟨rfl, rfl, O2.out⟩
set_option maxRecDepth 100000 in
theorem lit_str_ok (R : Nat) (r : List Tok) (n o z : Int) (tt : ByteArray) (tn ta : Int) (w : World)  (hz : 0 ≤ z) (hz1 : z ≤ 1024) (hz2 : ¬ z = 1024) (h : RdAt w R (⟨3, tt, tn, ta⟩ :: r) n o z) :
    Calls Tryd.prog 73 #[.pointer (some ⟨R, 0, none⟩)] w fun x w' => x = .returned (.iface 118 (.agg #[.string tt])) ∧ Hid (RdAt w' R r n o (z + 1) ∧ Only (fun b => b = R) w w') := by
  have HC : Hid (∀ w1, RdAt w1 R (⟨3, tt, tn, ta⟩ :: r) n o z → Calls Tryd.prog 72 #[.pointer (some ⟨R, 0, none⟩)] w1 fun x w' => x = .returned (Tok.v ⟨3, tt, tn, ta⟩) ∧ Hid (RdAt w' R r n o (z + 1) ∧ Only (fun b => b = R) w1 w')) := fun w1 h1 => count_cons R _ r n o z w1 hz hz1 hz2 h1
  have H0 : Hid (RdAt w R (⟨3, tt, tn, ta⟩ :: r) n o z) := h
  have O0 : Hid (Only (fun b => b = R) w w) := Only.refl _ _
  clear h hz hz1 hz2
  have f0 := tok_f0
  have f1 := tok_f1
  have f2 := tok_f2
  go_enter Tryd.func73, Tryd.ntmps73
  go_wp2_with fail
  refine (show Calls Tryd.prog 65 _ _ _ from next_cons R _ r n o z _ H0.out).mono ?_
  rintro e w1 ⟨rfl, o1⟩
  have O1 : Hid (Only (fun b => b = R) w w1) := O0.out.trans (o1.mono (bs' := fun b => b = R) (fun _ _ h => h.elim)) (fun _ _ g => g)
  have H1 : Hid (RdAt w1 R (⟨3, tt, tn, ta⟩ :: r) n o z) := H0.out.only o1
  clear o1 H0 O0
  simp only [Tok.v]
  go_wp2_with fail
  refine (show Calls Tryd.prog 72 _ _ _ from HC.out _ H1.out).mono ?_
  rintro e w2 ⟨rfl, g2⟩
  have G2 : Hid (RdAt w2 R r n o (z + 1) ∧ Only (fun b => b = R) w w2) := ⟨g2.out.1, O1.out.trans g2.out.2 (fun _ _ g => g)⟩
  clear g2 H1 O1 HC
  simp only [Tok.v]
  go_wp2
  go_ret
  exact ⟨rfl, G2⟩
set_option maxRecDepth 100000 in
theorem lit_yes_full (R : Nat) (r : List Tok) (n o : Int) (tk tn ta : Int) (w : World) (i2 : (tk == 2) = false) (i3 : (tk == 3) = false) (h : RdAt w R (⟨tk, ⟨#[116]⟩, tn, ta⟩ :: r) n o 1024) :
    Calls Tryd.prog 73 #[.pointer (some ⟨R, 0, none⟩)] w fun x w' => x = gup ta 11 ∧ Only (fun b => b = R) w w' := by
  obtain ⟨z, hz⟩ : ∃ z : Int, z = 1024 := ⟨_, rfl⟩
  rw [← hz] at h
  have HZ : Hid (z = 1024) := hz
  have H0 : Hid (RdAt w R (⟨tk, ⟨#[116]⟩, tn, ta⟩ :: r) n o z) := h
  have O0 : Hid (Only (fun b => b = R) w w) := Only.refl _ _
  clear h hz
  have f0 := tok_f0
  have f1 := tok_f1
  have f2 := tok_f2
  go_enter Tryd.func73, Tryd.ntmps73
  go_wp2_with fail
  refine (show Calls Tryd.prog 65 _ _ _ from next_cons R _ r n o z _ H0.out).mono ?_
  rintro e w1 ⟨rfl, o1⟩
  have O1 : Hid (Only (fun b => b = R) w w1) := O0.out.trans (o1.mono (bs' := fun b => b = R) (fun _ _ h => h.elim)) (fun _ _ g => g)
  have H1 : Hid (RdAt w1 R (⟨tk, ⟨#[116]⟩, tn, ta⟩ :: r) n o z) := H0.out.only o1
  clear o1 H0 O0
  simp only [Tok.v]
  go_wp2_with fail
  refine (show Calls Tryd.prog 65 _ _ _ from next_cons R _ r n o z _ H1.out).mono ?_
  rintro e w2 ⟨rfl, o2⟩
  have O2 : Hid (Only (fun b => b = R) w w2) := O1.out.trans (o2.mono (bs' := fun b => b = R) (fun _ _ h => h.elim)) (fun _ _ g => g)
  have H2 : Hid (RdAt w2 R (⟨tk, ⟨#[116]⟩, tn, ta⟩ :: r) n o z) := H1.out.only o2
  clear o2 H1 O1
  simp only [Tok.v]
  go_wp2_with fail
  refine (show Calls Tryd.prog 72 _ _ _ from count_full R ⟨tk, ⟨#[116]⟩, tn, ta⟩ r n o _ (by have := H2.out; rw [show z = 1024 from HZ.out] at this; exact this)).mono ?_
  rintro e w3 ⟨rfl, o3⟩
  have O3 : Hid (Only (fun b => b = R) w w3) := O2.out.trans o3 (fun _ _ g => g)
  clear o3 H2 O2
  unfold gup
  go_wp2
  exact ⟨rfl, rfl, O3.out⟩
set_option maxRecDepth 100000 in
theorem lit_yes_ok (R : Nat) (r : List Tok) (n o z : Int) (tk tn ta : Int) (w : World) (i2 : (tk == 2) = false) (i3 : (tk == 3) = false) (hz : 0 ≤ z) (hz1 : z ≤ 1024) (hz2 : ¬ z = 1024) (h : RdAt w R (⟨tk, ⟨#[116]⟩, tn, ta⟩ :: r) n o z) :
    Calls Tryd.prog 73 #[.pointer (some ⟨R, 0, none⟩)] w fun x w' => x = .returned (.iface 120 (.agg #[.bool true])) ∧ Hid (RdAt w' R r n o (z + 1) ∧ Only (fun b => b = R) w w') := by
  have HC : Hid (∀ w1, RdAt w1 R (⟨tk, ⟨#[116]⟩, tn, ta⟩ :: r) n o z → Calls Tryd.prog 72 #[.pointer (some ⟨R, 0, none⟩)] w1 fun x w' => x = .returned (Tok.v ⟨tk, ⟨#[116]⟩, tn, ta⟩) ∧ Hid (RdAt w' R r n o (z + 1) ∧ Only (fun b => b = R) w1 w')) := fun w1 h1 => count_cons R _ r n o z w1 hz hz1 hz2 h1
  have H0 : Hid (RdAt w R (⟨tk, ⟨#[116]⟩, tn, ta⟩ :: r) n o z) := h
  have O0 : Hid (Only (fun b => b = R) w w) := Only.refl _ _
  clear h hz hz1 hz2
  have f0 := tok_f0
  have f1 := tok_f1
  have f2 := tok_f2
  go_enter Tryd.func73, Tryd.ntmps73
  go_wp2_with fail
  refine (show Calls Tryd.prog 65 _ _ _ from next_cons R _ r n o z _ H0.out).mono ?_
  rintro e w1 ⟨rfl, o1⟩
  have O1 : Hid (Only (fun b => b = R) w w1) := O0.out.trans (o1.mono (bs' := fun b => b = R) (fun _ _ h => h.elim)) (fun _ _ g => g)
  have H1 : Hid (RdAt w1 R (⟨tk, ⟨#[116]⟩, tn, ta⟩ :: r) n o z) := H0.out.only o1
  clear o1 H0 O0
  simp only [Tok.v]
  go_wp2_with fail
  refine (show Calls Tryd.prog 65 _ _ _ from next_cons R _ r n o z _ H1.out).mono ?_
  rintro e w2 ⟨rfl, o2⟩
  have O2 : Hid (Only (fun b => b = R) w w2) := O1.out.trans (o2.mono (bs' := fun b => b = R) (fun _ _ h => h.elim)) (fun _ _ g => g)
  have H2 : Hid (RdAt w2 R (⟨tk, ⟨#[116]⟩, tn, ta⟩ :: r) n o z) := H1.out.only o2
  clear o2 H1 O1
  simp only [Tok.v]
  go_wp2_with fail
  refine (show Calls Tryd.prog 72 _ _ _ from HC.out _ H2.out).mono ?_
  rintro e w3 ⟨rfl, g3⟩
  have G3 : Hid (RdAt w3 R r n o (z + 1) ∧ Only (fun b => b = R) w w3) := ⟨g3.out.1, O2.out.trans g3.out.2 (fun _ _ g => g)⟩
  clear g3 H2 O2 HC
  simp only [Tok.v]
  go_wp2
  go_ret
  exact ⟨rfl, G3⟩
set_option maxRecDepth 100000 in
theorem lit_no_full (R : Nat) (r : List Tok) (n o : Int) (tk tn ta : Int) (w : World) (i2 : (tk == 2) = false) (i3 : (tk == 3) = false) (h : RdAt w R (⟨tk, ⟨#[102]⟩, tn, ta⟩ :: r) n o 1024) :
    Calls Tryd.prog 73 #[.pointer (some ⟨R, 0, none⟩)] w fun x w' => x = gup ta 11 ∧ Only (fun b => b = R) w w' := by
  obtain ⟨z, hz⟩ : ∃ z : Int, z = 1024 := ⟨_, rfl⟩
  rw [← hz] at h
  have HZ : Hid (z = 1024) := hz
  have H0 : Hid (RdAt w R (⟨tk, ⟨#[102]⟩, tn, ta⟩ :: r) n o z) := h
  have O0 : Hid (Only (fun b => b = R) w w) := Only.refl _ _
  clear h hz
  have f0 := tok_f0
  have f1 := tok_f1
  have f2 := tok_f2
  go_enter Tryd.func73, Tryd.ntmps73
  go_wp2_with fail
  refine (show Calls Tryd.prog 65 _ _ _ from next_cons R _ r n o z _ H0.out).mono ?_
  rintro e w1 ⟨rfl, o1⟩
  have O1 : Hid (Only (fun b => b = R) w w1) := O0.out.trans (o1.mono (bs' := fun b => b = R) (fun _ _ h => h.elim)) (fun _ _ g => g)
  have H1 : Hid (RdAt w1 R (⟨tk, ⟨#[102]⟩, tn, ta⟩ :: r) n o z) := H0.out.only o1
  clear o1 H0 O0
  simp only [Tok.v]
  go_wp2_with fail
  refine (show Calls Tryd.prog 65 _ _ _ from next_cons R _ r n o z _ H1.out).mono ?_
  rintro e w2 ⟨rfl, o2⟩
  have O2 : Hid (Only (fun b => b = R) w w2) := O1.out.trans (o2.mono (bs' := fun b => b = R) (fun _ _ h => h.elim)) (fun _ _ g => g)
  have H2 : Hid (RdAt w2 R (⟨tk, ⟨#[102]⟩, tn, ta⟩ :: r) n o z) := H1.out.only o2
  clear o2 H1 O1
  simp only [Tok.v]
  go_wp2_with fail
  refine (show Calls Tryd.prog 72 _ _ _ from count_full R ⟨tk, ⟨#[102]⟩, tn, ta⟩ r n o _ (by have := H2.out; rw [show z = 1024 from HZ.out] at this; exact this)).mono ?_
  rintro e w3 ⟨rfl, o3⟩
  have O3 : Hid (Only (fun b => b = R) w w3) := O2.out.trans o3 (fun _ _ g => g)
  clear o3 H2 O2
  unfold gup
  go_wp2
  exact ⟨rfl, rfl, O3.out⟩
set_option maxRecDepth 100000 in
theorem lit_no_ok (R : Nat) (r : List Tok) (n o z : Int) (tk tn ta : Int) (w : World) (i2 : (tk == 2) = false) (i3 : (tk == 3) = false) (hz : 0 ≤ z) (hz1 : z ≤ 1024) (hz2 : ¬ z = 1024) (h : RdAt w R (⟨tk, ⟨#[102]⟩, tn, ta⟩ :: r) n o z) :
    Calls Tryd.prog 73 #[.pointer (some ⟨R, 0, none⟩)] w fun x w' => x = .returned (.iface 120 (.agg #[.bool false])) ∧ Hid (RdAt w' R r n o (z + 1) ∧ Only (fun b => b = R) w w') := by
  have HC : Hid (∀ w1, RdAt w1 R (⟨tk, ⟨#[102]⟩, tn, ta⟩ :: r) n o z → Calls Tryd.prog 72 #[.pointer (some ⟨R, 0, none⟩)] w1 fun x w' => x = .returned (Tok.v ⟨tk, ⟨#[102]⟩, tn, ta⟩) ∧ Hid (RdAt w' R r n o (z + 1) ∧ Only (fun b => b = R) w1 w')) := fun w1 h1 => count_cons R _ r n o z w1 hz hz1 hz2 h1
  have H0 : Hid (RdAt w R (⟨tk, ⟨#[102]⟩, tn, ta⟩ :: r) n o z) := h
  have O0 : Hid (Only (fun b => b = R) w w) := Only.refl _ _
  clear h hz hz1 hz2
  have f0 := tok_f0
  have f1 := tok_f1
  have f2 := tok_f2
  go_enter Tryd.func73, Tryd.ntmps73
  go_wp2_with fail
  refine (show Calls Tryd.prog 65 _ _ _ from next_cons R _ r n o z _ H0.out).mono ?_
  rintro e w1 ⟨rfl, o1⟩
  have O1 : Hid (Only (fun b => b = R) w w1) := O0.out.trans (o1.mono (bs' := fun b => b = R) (fun _ _ h => h.elim)) (fun _ _ g => g)
  have H1 : Hid (RdAt w1 R (⟨tk, ⟨#[102]⟩, tn, ta⟩ :: r) n o z) := H0.out.only o1
  clear o1 H0 O0
  simp only [Tok.v]
  go_wp2_with fail
  refine (show Calls Tryd.prog 65 _ _ _ from next_cons R _ r n o z _ H1.out).mono ?_
  rintro e w2 ⟨rfl, o2⟩
  have O2 : Hid (Only (fun b => b = R) w w2) := O1.out.trans (o2.mono (bs' := fun b => b = R) (fun _ _ h => h.elim)) (fun _ _ g => g)
  have H2 : Hid (RdAt w2 R (⟨tk, ⟨#[102]⟩, tn, ta⟩ :: r) n o z) := H1.out.only o2
  clear o2 H1 O1
  simp only [Tok.v]
  go_wp2_with fail
  refine (show Calls Tryd.prog 72 _ _ _ from HC.out _ H2.out).mono ?_
  rintro e w3 ⟨rfl, g3⟩
  have G3 : Hid (RdAt w3 R r n o (z + 1) ∧ Only (fun b => b = R) w w3) := ⟨g3.out.1, O2.out.trans g3.out.2 (fun _ _ g => g)⟩
  clear g3 H2 O2 HC
  simp only [Tok.v]
  go_wp2
  go_ret
  exact ⟨rfl, G3⟩
end Go.Proofs.YtmmggnmgimgdfaaDoor
namespace Go.Proofs.YtmmggnmgimgdfaaDoor
open Go.RowKit
set_option linter.unusedSimpArgs false
set_option linter.unusedVariables false
set_option maxRecDepth 100000 in
theorem lit_none (R : Nat) (r : List Tok) (n o z : Int) (tk tn ta : Int) (tt : ByteArray) (w : World) (i2 : (tk == 2) = false) (i3 : (tk == 3) = false) (j1 : (tt.toList == [116]) = false) (j2 : (tt.toList == [102]) = false) (j3 : (tt.toList == [91]) = false) (j4 : (tt.toList == [123]) = false) (h : RdAt w R (⟨tk, tt, tn, ta⟩ :: r) n o z) :
    Calls Tryd.prog 73 #[.pointer (some ⟨R, 0, none⟩)] w fun x w' => x = gup ta 9 ∧ Only (fun b => b = R) w w' := by
  have HF : Hid (∀ w1, RdAt w1 R (⟨tk, tt, tn, ta⟩ :: r) n o z → Calls Tryd.prog 81 #[.pointer (some ⟨R, 0, none⟩), .int .i64 9] w1 fun x w' => x = .returned (.agg #[.int .i64 ta, .int .i64 9]) ∧ Only (fun _ => False) w1 w') := fun w1 h1 => fault_any R (⟨tk, tt, tn, ta⟩ :: r) n o z 9 w1 h1
  have H0 : Hid (RdAt w R (⟨tk, tt, tn, ta⟩ :: r) n o z) := h
  have O0 : Hid (Only (fun b => b = R) w w) := Only.refl _ _
  clear h
  have f0 := tok_f0
  have f1 := tok_f1
  go_enter Tryd.func73, Tryd.ntmps73
  go_wp2_with fail
  refine (show Calls Tryd.prog 65 _ _ _ from next_cons R _ r n o z _ H0.out).mono ?_
  rintro e w1 ⟨rfl, o1⟩
  have O1 : Hid (Only (fun b => b = R) w w1) := O0.out.trans (o1.mono (bs' := fun b => b = R) (fun _ _ h => h.elim)) (fun _ _ g => g)
  have H1 : Hid (RdAt w1 R (⟨tk, tt, tn, ta⟩ :: r) n o z) := H0.out.only o1
  clear o1 H0 O0
  simp only [Tok.v]
  go_wp2_with fail
  refine (show Calls Tryd.prog 65 _ _ _ from next_cons R _ r n o z _ H1.out).mono ?_
  rintro e w2 ⟨rfl, o2⟩
  have O2 : Hid (Only (fun b => b = R) w w2) := O1.out.trans (o2.mono (bs' := fun b => b = R) (fun _ _ h => h.elim)) (fun _ _ g => g)
  have H2 : Hid (RdAt w2 R (⟨tk, tt, tn, ta⟩ :: r) n o z) := H1.out.only o2
  clear o2 H1 O1
  simp only [Tok.v]
  go_wp2_with fail
  refine (show Calls Tryd.prog 81 _ _ _ from HF.out _ H2.out).mono ?_
  rintro e w3 ⟨rfl, o3⟩
  have O3 : Hid (Only (fun b => b = R) w w3) := O2.out.trans (o3.mono (bs' := fun b => b = R) (fun _ _ h => h.elim)) (fun _ _ g => g)
  clear o3 H2 O2 HF
  go_wp2
  exact ⟨rfl, rfl, O3.out⟩
theorem RwAt.lower {w : World} {B C : Nat} {T : TypeId} {d : Nat} {i : Bool} {v : Value} {l : List Tre} (h : RwAt w B T d i v l) (hC : C ≤ B) : RwAt w C T d i v l := by
  obtain ⟨us, S, ho, ht, hS⟩ := h
  refine ⟨us, S, ⟨ho.1, ?_⟩, ht, fun b hb => ⟨Nat.le_trans hC (hS b hb).1, (hS b hb).2⟩⟩
  rcases ho.2 with g | ⟨g, cap, cur, h1, h2, h3⟩
  · exact .inl g
  · exact .inr ⟨g, cap, cur, h1, by omega, h3⟩
/-- what a bracket is read as -/
def brP (R d : Nat) (T Y : TypeId) (i : Bool) (n o : Int) (w : World) (r : Except (Int × Int) (List Tre × List Tok × Int)) (x : Ending) (w' : World) : Prop :=
  match r with
  | .error (a, e) => x = gup a e ∧ Only (fun b => b = R) w w'
  | .ok (l, q, z) => ∃ ao cap, x = .returned (.iface Y (.agg #[.slice ao l.length cap])) ∧ Hid (RwAt w' w.heap.size T d i (.slice ao l.length cap) l ∧ RdAt w' R q n o z ∧ Only (fun b => b = R) w w')
set_option maxRecDepth 100000 in
theorem lit_quot_full (R : Nat) (r : List Tok) (n o z : Int) (tk tn ta : Int) (w : World) (i2 : (tk == 2) = false) (i3 : (tk == 3) = false) (ho : 0 ≤ o) (ho1 : o ≤ 32) (hz : 0 ≤ z) (hz1 : z ≤ 1024) (hf : o = 32 ∨ z = 1024) (h : RdAt w R (⟨tk, ⟨#[91]⟩, tn, ta⟩ :: r) n o z) :
    Calls Tryd.prog 73 #[.pointer (some ⟨R, 0, none⟩)] w fun x w' => x = gup ta 11 ∧ Only (fun b => b = R) w w' := by
  have HE : Hid (∀ w1, RdAt w1 R (⟨tk, ⟨#[91]⟩, tn, ta⟩ :: r) n o z → Calls Tryd.prog 66 #[.pointer (some ⟨R, 0, none⟩)] w1 fun x w' => x = gup ta 11 ∧ Only (fun b => b = R) w1 w') := fun w1 h1 => (enter_any R _ n o z w1 (by omega) (by omega) h1).mono fun e w' g => by unfold enP at g; rw [if_pos hf] at g; exact g
  have H0 : Hid (RdAt w R (⟨tk, ⟨#[91]⟩, tn, ta⟩ :: r) n o z) := h
  have O0 : Hid (Only (fun b => b = R) w w) := Only.refl _ _
  clear h hf ho ho1 hz hz1
  have f0 := tok_f0
  have f1 := tok_f1
  go_enter Tryd.func73, Tryd.ntmps73
  go_wp2_with fail
  refine (show Calls Tryd.prog 65 _ _ _ from next_cons R _ r n o z _ H0.out).mono ?_
  rintro e w1 ⟨rfl, o1⟩
  have O1 : Hid (Only (fun b => b = R) w w1) := O0.out.trans (o1.mono (bs' := fun b => b = R) (fun _ _ h => h.elim)) (fun _ _ g => g)
  have H1 : Hid (RdAt w1 R (⟨tk, ⟨#[91]⟩, tn, ta⟩ :: r) n o z) := H0.out.only o1
  clear o1 H0 O0
  simp only [Tok.v]
  go_wp2_with fail
  refine (show Calls Tryd.prog 65 _ _ _ from next_cons R _ r n o z _ H1.out).mono ?_
  rintro e w2 ⟨rfl, o2⟩
  have O2 : Hid (Only (fun b => b = R) w w2) := O1.out.trans (o2.mono (bs' := fun b => b = R) (fun _ _ h => h.elim)) (fun _ _ g => g)
  have H2 : Hid (RdAt w2 R (⟨tk, ⟨#[91]⟩, tn, ta⟩ :: r) n o z) := H1.out.only o2
  clear o2 H1 O1
  simp only [Tok.v]
  go_wp2_with fail
  refine (show Calls Tryd.prog 66 _ _ _ from HE.out _ H2.out).mono ?_
  rintro e w3 ⟨rfl, o3⟩
  have O3 : Hid (Only (fun b => b = R) w w3) := O2.out.trans o3 (fun _ _ g => g)
  clear o3 H2 O2 HE
  unfold gup
  go_wp2
  exact ⟨rfl, rfl, O3.out⟩
set_option maxRecDepth 100000 in
theorem lit_quot_ok (R f : Nat) (r : List Tok) (n o z : Int) (tk tn ta : Int) (w : World) (i2 : (tk == 2) = false) (i3 : (tk == 3) = false) (ho : 0 ≤ o) (ho1 : o ≤ 32) (hz : 0 ≤ z) (hz1 : z ≤ 1024) (hf : ¬ (o = 32 ∨ z = 1024)) (hl : 3 * r.length + 3 ≤ f) (hl2 : r.length ≤ 4096)
    (HU : UpC R n f 3 71 72 true 52) (h : RdAt w R (⟨tk, ⟨#[91]⟩, tn, ta⟩ :: r) n o z) :
    Calls Tryd.prog 73 #[.pointer (some ⟨R, 0, none⟩)] w (brP R f 72 126 true n o w (prs n f 3 r (o + 1) (z + 1))) := by
  have HE : Hid (∀ w1, RdAt w1 R (⟨tk, ⟨#[91]⟩, tn, ta⟩ :: r) n o z → Calls Tryd.prog 66 #[.pointer (some ⟨R, 0, none⟩)] w1 fun x w' => x = .returned (.tuple #[]) ∧ Hid (RdAt w' R r n (o + 1) (z + 1) ∧ Only (fun b => b = R) w1 w')) := fun w1 h1 => (enter_any R _ n o z w1 (by omega) (by omega) h1).mono fun e w' g => by unfold enP at g; rw [if_neg hf] at g; exact g
  have HUU : Hid (∀ w1, RdAt w1 R r n (o + 1) (z + 1) → Calls Tryd.prog 71 #[.pointer (some ⟨R, 0, none⟩), .string ⟨#[93]⟩, .func (.func 52) #[] #[]] w1 (upP R f 72 true n (o + 1) w1 (prs n f 3 r (o + 1) (z + 1)))) := fun w1 h1 => HU r (o + 1) (z + 1) w1 hl hl2 (by omega) (by omega) (by omega) (by omega) h1
  have H0 : Hid (RdAt w R (⟨tk, ⟨#[91]⟩, tn, ta⟩ :: r) n o z) := h
  have O0 : Hid (Only (fun b => b = R) w w) := Only.refl _ _
  clear h hf ho ho1 hz hz1 HU hl hl2
  obtain ⟨X, hX⟩ : ∃ X, X = prs n f 3 r (o + 1) (z + 1) := ⟨_, rfl⟩
  rw [← hX] at HUU ⊢
  clear hX
  have f0 := tok_f0
  have f1 := tok_f1
  go_enter Tryd.func73, Tryd.ntmps73
  go_wp2_with fail
  refine (show Calls Tryd.prog 65 _ _ _ from next_cons R _ r n o z _ H0.out).mono ?_
  rintro e w1 ⟨rfl, o1⟩
  have O1 : Hid (Only (fun b => b = R) w w1) := O0.out.trans (o1.mono (bs' := fun b => b = R) (fun _ _ h => h.elim)) (fun _ _ g => g)
  have H1 : Hid (RdAt w1 R (⟨tk, ⟨#[91]⟩, tn, ta⟩ :: r) n o z) := H0.out.only o1
  clear o1 H0 O0
  simp only [Tok.v]
  go_wp2_with fail
  refine (show Calls Tryd.prog 65 _ _ _ from next_cons R _ r n o z _ H1.out).mono ?_
  rintro e w2 ⟨rfl, o2⟩
  have O2 : Hid (Only (fun b => b = R) w w2) := O1.out.trans (o2.mono (bs' := fun b => b = R) (fun _ _ h => h.elim)) (fun _ _ g => g)
  have H2 : Hid (RdAt w2 R (⟨tk, ⟨#[91]⟩, tn, ta⟩ :: r) n o z) := H1.out.only o2
  clear o2 H1 O1
  simp only [Tok.v]
  go_wp2_with fail
  refine (show Calls Tryd.prog 66 _ _ _ from HE.out _ H2.out).mono ?_
  rintro e w3 ⟨rfl, g3⟩
  have H3 : Hid (RdAt w3 R r n (o + 1) (z + 1)) := g3.out.1
  have O3 : Hid (Only (fun b => b = R) w w3) := O2.out.trans g3.out.2 (fun _ _ g => g)
  clear g3 H2 O2 HE
  go_wp2_with fail
  refine (show Calls Tryd.prog 71 _ _ _ from HUU.out _ H3.out).mono ?_
  intro e w4 g4
  clear H3 HUU
  cases X with
  | error p =>
    obtain ⟨a, er⟩ := p
    obtain ⟨he, o4⟩ := g4
    subst he
    have O4 : Hid (Only (fun b => b = R) w w4) := O3.out.trans o4 (fun _ _ g => g)
    clear o4 O3
    unfold gup
    go_wp2
    exact ⟨rfl, show _ ∧ _ from ⟨rfl, O4.out⟩⟩
  | ok p =>
    obtain ⟨l, q, z'⟩ := p
    obtain ⟨ao, cap, he, g5⟩ := g4
    subst he
    have G5 : Hid (RwAt w4 w3.heap.size 72 f true (.slice ao l.length cap) l ∧ RdAt w4 R q n o z' ∧ Only (fun b => b = R) w w4) := ⟨g5.out.1, by have := g5.out.2.1; rwa [Int.add_sub_cancel] at this, O3.out.trans g5.out.2.2 (fun _ _ g => g)⟩
    have hs3 := O3.out.size
    clear g5 O3
    obtain ⟨L, hL⟩ : ∃ L, L = l.length := ⟨_, rfl⟩
    have HL : Hid (L = l.length) := hL
    rw [← hL] at G5
    rw [← hL]
    clear hL
    go_wp2
    go_ret
    have e1 : L = l.length := HL.out
    refine show ∃ ao' cap', _ ∧ Hid _ from ⟨ao, cap, by rw [e1]; rfl, ?_⟩
    rw [← e1]
    exact ⟨G5.out.1.lower hs3, G5.out.2.1, G5.out.2.2⟩
set_option maxRecDepth 100000 in
theorem lit_list_full (R : Nat) (r : List Tok) (n o z : Int) (tk tn ta : Int) (w : World) (i2 : (tk == 2) = false) (i3 : (tk == 3) = false) (ho : 0 ≤ o) (ho1 : o ≤ 32) (hz : 0 ≤ z) (hz1 : z ≤ 1024) (hf : o = 32 ∨ z = 1024) (h : RdAt w R (⟨tk, ⟨#[123]⟩, tn, ta⟩ :: r) n o z) :
    Calls Tryd.prog 73 #[.pointer (some ⟨R, 0, none⟩)] w fun x w' => x = gup ta 11 ∧ Only (fun b => b = R) w w' := by
  have HE : Hid (∀ w1, RdAt w1 R (⟨tk, ⟨#[123]⟩, tn, ta⟩ :: r) n o z → Calls Tryd.prog 66 #[.pointer (some ⟨R, 0, none⟩)] w1 fun x w' => x = gup ta 11 ∧ Only (fun b => b = R) w1 w') := fun w1 h1 => (enter_any R _ n o z w1 (by omega) (by omega) h1).mono fun e w' g => by unfold enP at g; rw [if_pos hf] at g; exact g
  have H0 : Hid (RdAt w R (⟨tk, ⟨#[123]⟩, tn, ta⟩ :: r) n o z) := h
  have O0 : Hid (Only (fun b => b = R) w w) := Only.refl _ _
  clear h hf ho ho1 hz hz1
  have f0 := tok_f0
  have f1 := tok_f1
  go_enter Tryd.func73, Tryd.ntmps73
  go_wp2_with fail
  refine (show Calls Tryd.prog 65 _ _ _ from next_cons R _ r n o z _ H0.out).mono ?_
  rintro e w1 ⟨rfl, o1⟩
  have O1 : Hid (Only (fun b => b = R) w w1) := O0.out.trans (o1.mono (bs' := fun b => b = R) (fun _ _ h => h.elim)) (fun _ _ g => g)
  have H1 : Hid (RdAt w1 R (⟨tk, ⟨#[123]⟩, tn, ta⟩ :: r) n o z) := H0.out.only o1
  clear o1 H0 O0
  simp only [Tok.v]
  go_wp2_with fail
  refine (show Calls Tryd.prog 65 _ _ _ from next_cons R _ r n o z _ H1.out).mono ?_
  rintro e w2 ⟨rfl, o2⟩
  have O2 : Hid (Only (fun b => b = R) w w2) := O1.out.trans (o2.mono (bs' := fun b => b = R) (fun _ _ h => h.elim)) (fun _ _ g => g)
  have H2 : Hid (RdAt w2 R (⟨tk, ⟨#[123]⟩, tn, ta⟩ :: r) n o z) := H1.out.only o2
  clear o2 H1 O1
  simp only [Tok.v]
  go_wp2_with fail
  refine (show Calls Tryd.prog 66 _ _ _ from HE.out _ H2.out).mono ?_
  rintro e w3 ⟨rfl, o3⟩
  have O3 : Hid (Only (fun b => b = R) w w3) := O2.out.trans o3 (fun _ _ g => g)
  clear o3 H2 O2 HE
  unfold gup
  go_wp2
  exact ⟨rfl, rfl, O3.out⟩
set_option maxRecDepth 100000 in
theorem lit_list_ok (R f : Nat) (r : List Tok) (n o z : Int) (tk tn ta : Int) (w : World) (i2 : (tk == 2) = false) (i3 : (tk == 3) = false) (ho : 0 ≤ o) (ho1 : o ≤ 32) (hz : 0 ≤ z) (hz1 : z ≤ 1024) (hf : ¬ (o = 32 ∨ z = 1024)) (hl : 3 * r.length + 3 ≤ f) (hl2 : r.length ≤ 4096)
    (HU : UpC R n f 2 83 88 false 73) (h : RdAt w R (⟨tk, ⟨#[123]⟩, tn, ta⟩ :: r) n o z) :
    Calls Tryd.prog 73 #[.pointer (some ⟨R, 0, none⟩)] w (brP R f 88 123 false n o w (prs n f 2 r (o + 1) (z + 1))) := by
  have HE : Hid (∀ w1, RdAt w1 R (⟨tk, ⟨#[123]⟩, tn, ta⟩ :: r) n o z → Calls Tryd.prog 66 #[.pointer (some ⟨R, 0, none⟩)] w1 fun x w' => x = .returned (.tuple #[]) ∧ Hid (RdAt w' R r n (o + 1) (z + 1) ∧ Only (fun b => b = R) w1 w')) := fun w1 h1 => (enter_any R _ n o z w1 (by omega) (by omega) h1).mono fun e w' g => by unfold enP at g; rw [if_neg hf] at g; exact g
  have HUU : Hid (∀ w1, RdAt w1 R r n (o + 1) (z + 1) → Calls Tryd.prog 83 #[.pointer (some ⟨R, 0, none⟩), .string ⟨#[125]⟩, .func (.func 73) #[] #[]] w1 (upP R f 88 false n (o + 1) w1 (prs n f 2 r (o + 1) (z + 1)))) := fun w1 h1 => HU r (o + 1) (z + 1) w1 hl hl2 (by omega) (by omega) (by omega) (by omega) h1
  have H0 : Hid (RdAt w R (⟨tk, ⟨#[123]⟩, tn, ta⟩ :: r) n o z) := h
  have O0 : Hid (Only (fun b => b = R) w w) := Only.refl _ _
  clear h hf ho ho1 hz hz1 HU hl hl2
  obtain ⟨X, hX⟩ : ∃ X, X = prs n f 2 r (o + 1) (z + 1) := ⟨_, rfl⟩
  rw [← hX] at HUU ⊢
  clear hX
  have f0 := tok_f0
  have f1 := tok_f1
  go_enter Tryd.func73, Tryd.ntmps73
  go_wp2_with fail
  refine (show Calls Tryd.prog 65 _ _ _ from next_cons R _ r n o z _ H0.out).mono ?_
  rintro e w1 ⟨rfl, o1⟩
  have O1 : Hid (Only (fun b => b = R) w w1) := O0.out.trans (o1.mono (bs' := fun b => b = R) (fun _ _ h => h.elim)) (fun _ _ g => g)
  have H1 : Hid (RdAt w1 R (⟨tk, ⟨#[123]⟩, tn, ta⟩ :: r) n o z) := H0.out.only o1
  clear o1 H0 O0
  simp only [Tok.v]
  go_wp2_with fail
  refine (show Calls Tryd.prog 65 _ _ _ from next_cons R _ r n o z _ H1.out).mono ?_
  rintro e w2 ⟨rfl, o2⟩
  have O2 : Hid (Only (fun b => b = R) w w2) := O1.out.trans (o2.mono (bs' := fun b => b = R) (fun _ _ h => h.elim)) (fun _ _ g => g)
  have H2 : Hid (RdAt w2 R (⟨tk, ⟨#[123]⟩, tn, ta⟩ :: r) n o z) := H1.out.only o2
  clear o2 H1 O1
  simp only [Tok.v]
  go_wp2_with fail
  refine (show Calls Tryd.prog 66 _ _ _ from HE.out _ H2.out).mono ?_
  rintro e w3 ⟨rfl, g3⟩
  have H3 : Hid (RdAt w3 R r n (o + 1) (z + 1)) := g3.out.1
  have O3 : Hid (Only (fun b => b = R) w w3) := O2.out.trans g3.out.2 (fun _ _ g => g)
  clear g3 H2 O2 HE
  go_wp2_with fail
  refine (show Calls Tryd.prog 83 _ _ _ from HUU.out _ H3.out).mono ?_
  intro e w4 g4
  clear H3 HUU
  cases X with
  | error p =>
    obtain ⟨a, er⟩ := p
    obtain ⟨he, o4⟩ := g4
    subst he
    have O4 : Hid (Only (fun b => b = R) w w4) := O3.out.trans o4 (fun _ _ g => g)
    clear o4 O3
    unfold gup
    go_wp2
    exact ⟨rfl, show _ ∧ _ from ⟨rfl, O4.out⟩⟩
  | ok p =>
    obtain ⟨l, q, z'⟩ := p
    obtain ⟨ao, cap, he, g5⟩ := g4
    subst he
    have G5 : Hid (RwAt w4 w3.heap.size 88 f false (.slice ao l.length cap) l ∧ RdAt w4 R q n o z' ∧ Only (fun b => b = R) w w4) := ⟨g5.out.1, by have := g5.out.2.1; rwa [Int.add_sub_cancel] at this, O3.out.trans g5.out.2.2 (fun _ _ g => g)⟩
    have hs3 := O3.out.size
    clear g5 O3
    obtain ⟨L, hL⟩ : ∃ L, L = l.length := ⟨_, rfl⟩
    have HL : Hid (L = l.length) := hL
    rw [← hL] at G5
    rw [← hL]
    clear hL
    go_wp2
    go_ret
    have e1 : L = l.length := HL.out
    refine show ∃ ao' cap', _ ∧ Hid _ from ⟨ao, cap, by rw [e1]; rfl, ?_⟩
    rw [← e1]
    exact ⟨G5.out.1.lower hs3, G5.out.2.1, G5.out.2.2⟩
end Go.Proofs.YtmmggnmgimgdfaaDoor
namespace Go.Proofs.YtmmggnmgimgdfaaDoor
open Go.RowKit
set_option linter.unusedSimpArgs false
set_option linter.unusedVariables false
set_option maxRecDepth 100000 in
theorem lit_nil (R : Nat) (n o z : Int) (w : World) (h : RdAt w R [] n o z) :
    Calls Tryd.prog 73 #[.pointer (some ⟨R, 0, none⟩)] w fun x w' => x = gup n 9 ∧ Only (fun b => b = R) w w' := by
  have HM : Hid (Calls Tryd.prog 65 #[.pointer (some ⟨R, 0, none⟩)] w fun x w' => x = gup n 9 ∧ Only (fun _ => False) w w') := next_nil R n o z w h
  clear h
  go_enter Tryd.func73, Tryd.ntmps73
  go_wp2_with fail
  refine (show Calls Tryd.prog 65 _ _ _ from HM.out).mono ?_
  rintro e w1 ⟨rfl, o1⟩
  have O1 : Hid (Only (fun b => b = R) w w1) := o1.mono (bs' := fun b => b = R) (fun _ _ h => h.elim)
  clear HM o1
  unfold gup
  go_wp2
  exact ⟨rfl, rfl, O1.out⟩
theorem nw_flat {w : World} {B d : Nat} {t : Tre} {v : Value} (h : (t.k = 1 ∧ t.l = [] ∧ v = .iface 116 (.agg #[.int .i64 t.n])) ∨ (t.k = 2 ∧ t.l = [] ∧ v = .iface 118 (.agg #[.string t.s])) ∨ (t.k = 3 ∧ t.l = [] ∧ v = .iface 120 (.agg #[.bool (t.n != 0)]))) : NwAt w B (d + 1) false t v := by
  refine ⟨fun _ => False, ?_, fun b h => h.elim⟩
  rcases h with h | h | h
  · exact .inl h
  · exact .inr (.inl h)
  · exact .inr (.inr (.inl h))
theorem ptP.err {R d : Nat} {i : Bool} {n o : Int} {w : World} {a e : Int} {x : Ending} {w' : World} (h : x = gup a e ∧ Only (fun b => b = R) w w') : ptP R d i n o w (.error (a, e)) x w' := h
theorem lit_of (R : Nat) (n : Int) (f : Nat) (HI : UpC R n f 3 71 72 true 52) (HV : UpC R n f 2 83 88 false 73) :
    PtC R n (f + 1) 0 73 false := by
  intro q o z w hl hl2 ho ho1 hz hz1 h
  cases q with
  | nil => exact (lit_nil R n o z w h).mono fun x w' g => g
  | cons t r =>
    obtain ⟨tk, tt, tn, ta⟩ := t
    simp only [List.length_cons] at hl hl2
    unfold prs
    dsimp only
    by_cases k2 : tk = 2
    · subst k2
      rw [if_pos rfl]
      by_cases hf : z = 1024
      · subst hf
        rw [if_pos rfl]
        exact (lit_num_full R r n o tt tn ta w h).mono fun x w' g => g
      · rw [if_neg hf]
        exact (lit_num_ok R r n o z tt tn ta w hz hz1 hf h).mono fun x w' g => ⟨_, _, rfl, g.1, nw_flat (.inl ⟨rfl, rfl, rfl⟩), g.2.out.1, g.2.out.2⟩
    · rw [if_neg k2]
      by_cases k3 : tk = 3
      · subst k3
        rw [if_pos rfl]
        by_cases hf : z = 1024
        · subst hf
          rw [if_pos rfl]
          exact (lit_str_full R r n o tt tn ta w h).mono fun x w' g => g
        · rw [if_neg hf]
          exact (lit_str_ok R r n o z tt tn ta w hz hz1 hf h).mono fun x w' g => ⟨_, _, rfl, g.1, nw_flat (.inr (.inl ⟨rfl, rfl, rfl⟩)), g.2.out.1, g.2.out.2⟩
      · rw [if_neg k3]
        have i2 : (tk == 2) = false := by simp [k2]
        have i3 : (tk == 3) = false := by simp [k3]
        by_cases c1 : tt.toList = [116]
        · rw [if_pos c1]
          obtain rfl := str_of c1
          by_cases hf : z = 1024
          · subst hf
            rw [if_pos rfl]
            exact (lit_yes_full R r n o tk tn ta w i2 i3 h).mono fun x w' g => g
          · rw [if_neg hf]
            exact (lit_yes_ok R r n o z tk tn ta w i2 i3 hz hz1 hf h).mono fun x w' g => ⟨_, _, rfl, g.1, nw_flat (.inr (.inr ⟨rfl, rfl, rfl⟩)), g.2.out.1, g.2.out.2⟩
        · rw [if_neg c1]
          by_cases c2 : tt.toList = [102]
          · rw [if_pos c2]
            obtain rfl := str_of c2
            by_cases hf : z = 1024
            · subst hf
              rw [if_pos rfl]
              exact (lit_no_full R r n o tk tn ta w i2 i3 h).mono fun x w' g => g
            · rw [if_neg hf]
              exact (lit_no_ok R r n o z tk tn ta w i2 i3 hz hz1 hf h).mono fun x w' g => ⟨_, _, rfl, g.1, nw_flat (.inr (.inr ⟨rfl, rfl, rfl⟩)), g.2.out.1, g.2.out.2⟩
          · rw [if_neg c2]
            by_cases c3 : tt.toList = [91]
            · rw [if_pos c3]
              obtain rfl := str_of c3
              by_cases hf : o = 32 ∨ z = 1024
              · rw [if_pos hf]
                exact (lit_quot_full R r n o z tk tn ta w i2 i3 ho ho1 hz hz1 hf h).mono fun x w' g => g
              · rw [if_neg hf]
                refine (lit_quot_ok R f r n o z tk tn ta w i2 i3 ho ho1 hz hz1 hf (by omega) (by omega) HI h).mono fun x w' g => ?_
                cases hX : prs n f 3 r (o + 1) (z + 1) with
                | error p => rw [hX] at g; exact g
                | ok p =>
                  rw [hX] at g
                  obtain ⟨l, q, z'⟩ := p
                  obtain ⟨ao, cap, he, g⟩ := g
                  exact ⟨_, _, rfl, he, g.out.1.tree (k := 5) (.inr rfl), g.out.2.1, g.out.2.2⟩
            · rw [if_neg c3]
              by_cases c4 : tt.toList = [123]
              · rw [if_pos c4]
                obtain rfl := str_of c4
                by_cases hf : o = 32 ∨ z = 1024
                · rw [if_pos hf]
                  exact (lit_list_full R r n o z tk tn ta w i2 i3 ho ho1 hz hz1 hf h).mono fun x w' g => g
                · rw [if_neg hf]
                  refine (lit_list_ok R f r n o z tk tn ta w i2 i3 ho ho1 hz hz1 hf (by omega) (by omega) HV h).mono fun x w' g => ?_
                  cases hX : prs n f 2 r (o + 1) (z + 1) with
                  | error p => rw [hX] at g; exact g
                  | ok p =>
                    rw [hX] at g
                    obtain ⟨l, q, z'⟩ := p
                    obtain ⟨ao, cap, he, g⟩ := g
                    exact ⟨_, _, rfl, he, g.out.1.tree (k := 4) (.inl rfl), g.out.2.1, g.out.2.2⟩
              · rw [if_neg c4]
                exact (lit_none R r n o z tk tn ta tt w i2 i3 (by simpa using c1) (by simpa using c2) (by simpa using c3) (by simpa using c4) h).mono fun x w' g => g
theorem NwAt.form {w : World} {B d : Nat} {i : Bool} {t : Tre} {v : Value} (h : NwAt w B d i t v) : ∃ T x, v = .iface T x := by
  obtain ⟨S, ht, _⟩ := h
  cases d with
  | zero => exact ht.elim
  | succ d =>
    cases i with
    | true => rcases ht with h | ⟨_, u, h, _⟩
              · exact ⟨_, _, h.2.2⟩
              · exact ⟨_, _, h⟩
    | false => rcases ht with h | h | h | ⟨_, _, _, h, _⟩
               · exact ⟨_, _, h.2.2⟩
               · exact ⟨_, _, h.2.2⟩
               · exact ⟨_, _, h.2.2⟩
               · exact ⟨_, _, h⟩
set_option maxRecDepth 100000 in
theorem item_nil (R : Nat) (n o z : Int) (w : World) (h : RdAt w R [] n o z) :
    Calls Tryd.prog 52 #[.pointer (some ⟨R, 0, none⟩)] w fun x w' => x = gup n 9 ∧ Only (fun b => b = R) w w' := by
  have HM : Hid (Calls Tryd.prog 68 #[.pointer (some ⟨R, 0, none⟩)] w fun x w' => x = gup n 9 ∧ Only (fun _ => False) w w') := named_nil R n o z w h
  clear h
  go_enter Tryd.func52, Tryd.ntmps52
  go_wp2_with fail
  refine (show Calls Tryd.prog 68 _ _ _ from HM.out).mono ?_
  rintro e w1 ⟨rfl, o1⟩
  have O1 : Hid (Only (fun b => b = R) w w1) := o1.mono (bs' := fun b => b = R) (fun _ _ h => h.elim)
  clear HM o1
  unfold gup
  go_wp2
  exact ⟨rfl, rfl, O1.out⟩
set_option maxRecDepth 100000 in
theorem item_full (R : Nat) (t : Tok) (r : List Tok) (n o : Int) (w : World) (hb : nmB t = true) (h : RdAt w R (t :: r) n o 1024) :
    Calls Tryd.prog 52 #[.pointer (some ⟨R, 0, none⟩)] w fun x w' => x = gup t.a 11 ∧ Only (fun b => b = R) w w' := by
  have HM : Hid (Calls Tryd.prog 68 #[.pointer (some ⟨R, 0, none⟩)] w fun x w' => x = .returned (.bool true) ∧ Only (fun _ => False) w w') := by rw [← hb]; exact named_cons R t r n o 1024 w h
  have HC : Hid (∀ w1, Only (fun _ => False) w w1 → Calls Tryd.prog 72 #[.pointer (some ⟨R, 0, none⟩)] w1 fun x w' => x = gup t.a 11 ∧ Only (fun b => b = R) w1 w') := fun w1 o1 => count_full R t r n o w1 (h.only o1)
  clear h hb
  go_enter Tryd.func52, Tryd.ntmps52
  go_wp2_with fail
  refine (show Calls Tryd.prog 68 _ _ _ from HM.out).mono ?_
  rintro e w1 ⟨rfl, o1⟩
  have O1 : Hid (Only (fun _ => False) w w1) := o1
  clear HM o1
  go_wp2_with fail
  refine (show Calls Tryd.prog 72 _ _ _ from HC.out _ O1.out).mono ?_
  rintro e w2 ⟨rfl, o2⟩
  have O2 : Hid (Only (fun b => b = R) w w2) := (O1.out.mono (bs' := fun b => b = R) (fun _ _ h => h.elim)).trans o2 (fun _ _ g => g)
  clear HC o2 O1
  unfold gup
  go_wp2
  exact ⟨rfl, rfl, O2.out⟩
set_option maxRecDepth 100000 in
theorem item_ok (R : Nat) (t : Tok) (r : List Tok) (n o z : Int) (w : World) (hb : nmB t = true) (hz : 0 ≤ z) (hz1 : z ≤ 1024) (hz2 : ¬ z = 1024) (h : RdAt w R (t :: r) n o z) :
    Calls Tryd.prog 52 #[.pointer (some ⟨R, 0, none⟩)] w fun x w' => x = .returned (.iface 93 (.agg #[.string t.t])) ∧ Hid (RdAt w' R r n o (z + 1) ∧ Only (fun b => b = R) w w') := by
  have HM : Hid (Calls Tryd.prog 68 #[.pointer (some ⟨R, 0, none⟩)] w fun x w' => x = .returned (.bool true) ∧ Only (fun _ => False) w w') := by rw [← hb]; exact named_cons R t r n o z w h
  have HC : Hid (∀ w1, Only (fun _ => False) w w1 → Calls Tryd.prog 72 #[.pointer (some ⟨R, 0, none⟩)] w1 fun x w' => x = .returned t.v ∧ Hid (RdAt w' R r n o (z + 1) ∧ Only (fun b => b = R) w1 w')) := fun w1 o1 => count_cons R t r n o z w1 hz hz1 hz2 (h.only o1)
  clear h hb hz hz1 hz2
  obtain ⟨tk, tt, tn, ta⟩ := t
  have f1 := tok_f1
  go_enter Tryd.func52, Tryd.ntmps52
  go_wp2_with fail
  refine (show Calls Tryd.prog 68 _ _ _ from HM.out).mono ?_
  rintro e w1 ⟨rfl, o1⟩
  have O1 : Hid (Only (fun _ => False) w w1) := o1
  clear HM o1
  go_wp2_with fail
  refine (show Calls Tryd.prog 72 _ _ _ from HC.out _ O1.out).mono ?_
  rintro e w2 ⟨rfl, g2⟩
  have G2 : Hid (RdAt w2 R r n o (z + 1) ∧ Only (fun b => b = R) w w2) := ⟨g2.out.1, (O1.out.mono (bs' := fun b => b = R) (fun _ _ h => h.elim)).trans g2.out.2 (fun _ _ g => g)⟩
  clear HC g2 O1
  simp only [Tok.v]
  go_wp2
  go_ret
  exact ⟨rfl, G2⟩
/-- what an item that is a literal is read as -/
def puP (R d : Nat) (n o : Int) (w : World) (r : Except (Int × Int) (List Tre × List Tok × Int)) (x : Ending) (w' : World) : Prop :=
  match r with
  | .error (a, e) => x = gup a e ∧ Only (fun b => b = R) w w'
  | .ok (l, q, z) => ∃ t v, l = [t] ∧ x = .returned (.iface 90 (.agg #[v])) ∧ Hid (NwAt w' w.heap.size d false t v ∧ RdAt w' R q n o z ∧ Only (fun b => b = R) w w')
set_option maxRecDepth 100000 in
theorem item_push (R f : Nat) (t : Tok) (r : List Tok) (n o z : Int) (w : World) (hb : nmB t = false) (ho : 0 ≤ o) (ho1 : o ≤ 32) (hz : 0 ≤ z) (hz1 : z ≤ 1024) (hl : 3 * (t :: r).length + 1 + 0 ≤ f) (hl2 : (t :: r).length ≤ 4096) (HP : PtC R n f 0 73 false) (h : RdAt w R (t :: r) n o z) :
    Calls Tryd.prog 52 #[.pointer (some ⟨R, 0, none⟩)] w (puP R f n o w (prs n f 0 (t :: r) o z)) := by
  have HM : Hid (Calls Tryd.prog 68 #[.pointer (some ⟨R, 0, none⟩)] w fun x w' => x = .returned (.bool false) ∧ Only (fun _ => False) w w') := by rw [← hb]; exact named_cons R t r n o z w h
  have HC : Hid (∀ w1, Only (fun _ => False) w w1 → Calls Tryd.prog 73 #[.pointer (some ⟨R, 0, none⟩)] w1 (ptP R f false n o w1 (prs n f 0 (t :: r) o z))) := fun w1 o1 => HP (t :: r) o z w1 hl hl2 ho ho1 hz hz1 (h.only o1)
  clear h hb hz hz1 hl hl2 HP ho ho1
  obtain ⟨X, hX⟩ : ∃ X, X = prs n f 0 (t :: r) o z := ⟨_, rfl⟩
  rw [← hX] at HC ⊢
  clear hX
  go_enter Tryd.func52, Tryd.ntmps52
  go_wp2_with fail
  refine (show Calls Tryd.prog 68 _ _ _ from HM.out).mono ?_
  rintro e w1 ⟨rfl, o1⟩
  have O1 : Hid (Only (fun _ => False) w w1) := o1
  clear HM o1
  go_wp2_with fail
  refine (show Calls Tryd.prog 73 _ _ _ from HC.out _ O1.out).mono ?_
  intro e w2 g2
  clear HC
  cases X with
  | error p =>
    obtain ⟨a, er⟩ := p
    obtain ⟨he, o2⟩ := g2
    subst he
    have O2 : Hid (Only (fun b => b = R) w w2) := (O1.out.mono (bs' := fun b => b = R) (fun _ _ h => h.elim)).trans o2 (fun _ _ g => g)
    clear o2 O1
    unfold gup
    go_wp2
    exact ⟨rfl, show _ ∧ _ from ⟨rfl, O2.out⟩⟩
  | ok p =>
    obtain ⟨l, q, z'⟩ := p
    obtain ⟨t', v, hl, he, g⟩ := g2
    subst he
    have G2 : Hid (l = [t'] ∧ NwAt w2 w.heap.size f false t' v ∧ RdAt w2 R q n o z' ∧ Only (fun b => b = R) w w2) := ⟨hl, g.out.1.lower O1.out.size, g.out.2.1, (O1.out.mono (bs' := fun b => b = R) (fun _ _ h => h.elim)).trans g.out.2.2 (fun _ _ g => g)⟩
    obtain ⟨T, y, hv⟩ := g.out.1.form
    subst hv
    clear g O1 hl
    go_wp2
    go_ret
    exact show ∃ t v, _ ∧ _ ∧ Hid _ from ⟨t', _, G2.out.1, rfl, G2.out.2⟩
theorem prs_lit (n : Int) (f : Nat) (q : List Tok) (o z : Int) (l : List Tre) (r : List Tok) (z' : Int) (h : prs n f 0 q o z = .ok (l, r, z')) : ∃ t, l = [t] ∧ t.k ≠ 7 := by
  cases f with
  | zero => simp [prs] at h
  | succ f =>
    cases q with
    | nil => simp [prs] at h
    | cons t q =>
      simp only [prs] at h
      repeat' split at h
      all_goals first
        | (simp at h; done)
        | (simp only [Except.ok.injEq, Prod.mk.injEq] at h; obtain ⟨rfl, _, _⟩ := h; exact ⟨_, rfl, by simp⟩)
theorem item_of (R : Nat) (n : Int) (f : Nat) (HP : PtC R n f 0 73 false) : PtC R n (f + 1) 1 52 true := by
  intro q o z w hl hl2 ho ho1 hz hz1 h
  cases q with
  | nil => exact (item_nil R n o z w h).mono fun x w' g => g
  | cons t r =>
    unfold prs
    dsimp only
    cases hb : nmB t with
    | true =>
      rw [if_pos rfl]
      by_cases hf : z = 1024
      · subst hf
        rw [if_pos rfl]
        exact (item_full R t r n o w hb h).mono fun x w' g => g
      · rw [if_neg hf]
        exact (item_ok R t r n o z w hb hz hz1 hf h).mono fun x w' g => ⟨_, _, rfl, g.1, ⟨fun _ => False, .inl ⟨rfl, rfl, rfl⟩, fun b h => h.elim⟩, g.2.out.1, g.2.out.2⟩
    | false =>
      rw [if_neg (by simp)]
      refine (item_push R f t r n o z w hb ho ho1 hz hz1 (by omega) hl2 HP h).mono fun x w' g => ?_
      cases hX : prs n f 0 (t :: r) o z with
      | error p => rw [hX] at g; exact g
      | ok p =>
        rw [hX] at g
        obtain ⟨l, q, z'⟩ := p
        obtain ⟨t', v, h1, h2, h3⟩ := g
        obtain ⟨t2, e2, hk⟩ := prs_lit n f _ o z l q z' hX
        rw [h1] at e2
        injection e2 with e2
        subst e2
        obtain ⟨S, hS, hb⟩ := h3.out.1
        exact ⟨t', _, h1, h2, ⟨S, .inr ⟨hk, v, rfl, hS⟩, hb⟩, h3.out.2.1, h3.out.2.2⟩
end Go.Proofs.YtmmggnmgimgdfaaDoor
