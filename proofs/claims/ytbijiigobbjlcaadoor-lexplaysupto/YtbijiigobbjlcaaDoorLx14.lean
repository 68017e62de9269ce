/- begin, stray. -/
import Derived.Test.YtbijiigobbjlcaaDoorLx13
namespace Go.Proofs.YtbijiigobbjlcaaDoor
open Go.RowKit
set_option linter.unusedSimpArgs false
set_option linter.unusedVariables false
/-- Where the next token begins. -/
def bgn (s : ByteArray) : Nat → Nat → Nat
  | 0, a => a
  | f + 1, a => if rmk s (fnd (fun c => !blk c) s a) = true then bgn s f (fnd (fun c => decide (c = 10)) s (fnd (fun c => !blk c) s a)) else fnd (fun c => !blk c) s a
theorem pre_get {S p : ByteArray} {b : UInt8} (hp : p = ⟨#[b]⟩) (h : preB S p = true) : ∃ hs : 0 < S.size, S[0]'hs = b := by
  subst hp
  unfold preB at h
  have h1 : (ByteArray.mk #[b]).size = 1 := rfl
  have h2 : (ByteArray.mk #[b]).toList = [b] := by rw [ByteArray.toList_eq]
  rw [h1, h2] at h
  simp only [Bool.and_eq_true, decide_eq_true_eq, beq_iff_eq] at h
  have hs : 0 < S.size := by omega
  refine ⟨hs, ?_⟩
  have h3 := h.2
  rw [ByteArray.toList_eq, ByteArray.data_extract] at h3
  have h4 : S.data.size = S.size := rfl
  have : (S.data.extract 0 1).toList = [S.data[0]'(by omega)] := by
    apply List.ext_getElem
    · simp; omega
    · intro i h1 h2
      have : i = 0 := by simp at h2; omega
      subst this
      simp
  rw [this] at h3
  have h5 := List.head_eq_of_cons_eq h3
  exact h5
theorem rmk_go {s : ByteArray} {a : Nat} (ha : a ≤ s.size) (h : rmk s a = true) : a < fnd (fun c => decide (c = 10)) s a := by
  unfold rmk at h
  simp only [Bool.and_eq_true] at h
  obtain ⟨hs, hb⟩ := pre_get (b := 33) rfl h.1
  have hz : (s.extract a s.size).size = s.size - a := by rw [ByteArray.size_extract]; omega
  unfold fnd
  generalize s.extract a s.size = S at *
  obtain ⟨b', hb', hc⟩ := crs_go (s := S) (b := S.size) (pos := 0) hs (by omega)
  have hd := decode_ascii S 0 hs (by rw [hb]; decide)
  rw [hb] at hd
  rw [hc, hd]
  unfold fndL
  rw [if_neg (by decide)]
  have := fndL_ge (fun c => decide (c = 10)) a s.size S (by omega) b' (0 + 1) (by omega)
  show a < fndL (fun c => decide (c = 10)) a s.size (crs S b' (0 + 1))
  omega
set_option maxRecDepth 100000 in
set_option maxHeartbeats 1000000 in
theorem begin_any (s : ByteArray) (hs : s.size ≤ 1000000) (a f : Nat) (ha : a ≤ s.size) (hf : s.size - a < f) (w : World) : Calls Tryd.prog 23 #[.string s, .int .i64 (a : Int)] w fun e w' => e = .returned (.int .i64 (bgn s f a : Nat)) ∧ Only (fun _ => False) w w' := by
  have H1 : Hid (∀ a w, a ≤ s.size → Calls Tryd.prog 35 #[.string s, .int .i64 (a : Nat), .func (.func 36) #[] #[]] w fun e w' => e = .returned (.int .i64 (fnd (fun c => !blk c) s a : Nat)) ∧ Only (fun _ => False) w w') := fun a w ha => find_notblank s a ha hs w
  have H2 : Hid (∀ a w, a ≤ s.size → Calls Tryd.prog 35 #[.string s, .int .i64 (a : Nat), .func (.func 39) #[] #[]] w fun e w' => e = .returned (.int .i64 (fnd (fun c => decide (c = 10)) s a : Nat)) ∧ Only (fun _ => False) w w') := fun a w ha => find_newline s a ha hs w
  have H3 : Hid (∀ a w, a ≤ s.size → Calls Tryd.prog 38 #[.string s, .int .i64 (a : Nat)] w fun e w' => e = .returned (.bool (rmk s a)) ∧ Only (fun _ => False) w w') := fun a w ha => remarked_any s a ha hs w
  obtain ⟨Z, hZ⟩ : ∃ Z, Z = bgn s f a := ⟨_, rfl⟩
  have HZ : Hid (Z = bgn s f a ∧ s.size - a < f ∧ Only (fun _ => False) w w) := ⟨hZ, hf, Only.refl _ _⟩
  rw [← hZ]
  clear hZ hf
  go_enter Tryd.func23, Tryd.ntmps23
  go_wp2
  go_loopw [1] (fun x w' => ∃ (a f : Nat), x = .int .i64 (a : Nat) ∧ a ≤ s.size ∧ Hid (Z = bgn s f a ∧ s.size - a < f ∧ Only (fun _ => False) w w')) (fun x _ => s.size + 1 - uOf x)
  case atStart => exact ⟨a, f, rfl, ha, HZ.out⟩
  case round =>
    clear HZ ha
    obtain ⟨a, f, rfl, ha, HI⟩ := hrel
    obtain ⟨g, rfl⟩ : ∃ g, f = g + 1 := ⟨f - 1, by have := HI.out.2.1; omega⟩
    have C1 := H1.out a wr ha
    have l1 := fnd_le (fun c => !blk c) s ha
    have HB : Hid (Z = if rmk s (fnd (fun c => !blk c) s a) = true then bgn s g (fnd (fun c => decide (c = 10)) s (fnd (fun c => !blk c) s a)) else fnd (fun c => !blk c) s a) := HI.out.1
    obtain ⟨a1, ha1⟩ : ∃ a1, a1 = fnd (fun c => !blk c) s a := ⟨_, rfl⟩
    rw [← ha1] at C1 l1 HB
    clear ha1
    have HC1 : Hid (Calls Tryd.prog 35 _ _ _) := C1
    clear C1
    go_wp2_with fail
    refine (show Calls Tryd.prog 35 _ _ _ from HC1.out).mono ?_
    rintro e w1 ⟨rfl, o1⟩
    have O1 : Hid (Only (fun _ => False) w w1) := HI.out.2.2.trans o1 (fun _ _ g => g)
    have HG : Hid (s.size - a < g + 1) := HI.out.2.1
    have C2 := H3.out a1 w1 l1.2
    have HR : Hid (rmk s a1 = true → a1 < fnd (fun c => decide (c = 10)) s a1) := fun h => rmk_go l1.2 h
    clear HI HC1 o1
    cases hr : rmk s a1 with
    | false =>
      rw [hr] at C2
      have HE : Hid (Z = a1) := by rw [HB.out]; exact if_neg (by rw [hr]; simp)
      have HC2 : Hid (Calls Tryd.prog 38 _ _ _) := C2
      clear C2 HR HB hr
      go_wp2_with fail
      refine (show Calls Tryd.prog 38 _ _ _ from HC2.out).mono ?_
      rintro e w2 ⟨rfl, o2⟩
      have O2 : Hid (Only (fun _ => False) w w2) := O1.out.trans o2 (fun _ _ g => g)
      clear HC2 o2
      go_wp2
      go_ret
      exact ⟨by rw [show Z = a1 from HE.out]; rfl, O2.out⟩
    | true =>
      rw [hr] at C2
      have hlt := HR.out hr
      have l2 := fnd_le (fun c => decide (c = 10)) s l1.2
      have HE : Hid (Z = bgn s g (fnd (fun c => decide (c = 10)) s a1)) := by rw [HB.out]; exact if_pos hr
      have C3 := fun w => H2.out a1 w l1.2
      obtain ⟨a2, ha2⟩ : ∃ a2, a2 = fnd (fun c => decide (c = 10)) s a1 := ⟨_, rfl⟩
      rw [← ha2] at C3 hlt l2 HE
      have HC2 : Hid (Calls Tryd.prog 38 _ _ _) := C2
      have HC3 : Hid (∀ w, Calls Tryd.prog 35 _ _ _) := C3
      clear C2 C3 HR HB hr ha2
      go_wp2_with fail
      refine (show Calls Tryd.prog 38 _ _ _ from HC2.out).mono ?_
      rintro e w2 ⟨rfl, o2⟩
      have O2 : Hid (Only (fun _ => False) w w2) := O1.out.trans o2 (fun _ _ g => g)
      clear HC2 o2
      go_wp2_with fail
      refine (show Calls Tryd.prog 35 _ _ _ from HC3.out _).mono ?_
      rintro e w3 ⟨rfl, o3⟩
      have O3 : Hid (Only (fun _ => False) w w3) := O2.out.trans o3 (fun _ _ g => g)
      clear HC3 o3
      go_wp2
      go_roundw
      case rel => exact ⟨a2, g, rfl, l2.2, HE.out, by have : s.size - a < g + 1 := HG.out; omega, O3.out⟩
      case measure => simp only [uOf]; omega
end Go.Proofs.YtbijiigobbjlcaaDoor
