import Derived.Test.YtenjollhlgjjdaaGreatDoorGaa
import Derived.Test.YtenjollhlgjjdaaGreatDoorGat
import Derived.Deep.RegionHeld3
import Derived.Test.YtenjollhlgjjdaaGreatDoorGar
import Derived.Test.YtenjollhlgjjdaaGreatDoorGae
import Derived.Test.YtenjollhlgjjdaaGreatDoorGam
import Derived.Test.YtenjollhlgjjdaaGreatDoorGal
/-       -/
set_option linter.unusedSimpArgs false
set_option linter.unusedVariables false
set_option maxRecDepth 100000
set_option maxHeartbeats 40000000
namespace Go.Proofs.YtenjollhlgjjdaaGreatDoor
open Go.RowKit Go.Lib
theorem rro_and (g o c : Nat) (n m : Int) (w : World) (h0 : w.cell? ⟨g, o + 1, none⟩ = some (.int .i64 n)) (h1 : w.cell? ⟨g, o + 4 + 1, none⟩ = some (.int .i64 m)) : Cz 42 #[.string ⟨#[97, 110, 100]⟩, .slice (some ⟨g, o, none⟩) 2 c] w fun e w' => DcP (oneR (.ok (boT (decide (n ≠ 0) && decide (m ≠ 0))))) 2 w e w' := by
 have HN : Hid (∀ b w, Cz 41 #[.bool b] w fun e w' => R1P (boT b) w e w') := flag_any
 have O0 : Hid (Oz w w) := Only.refl _ _
 obtain ⟨R, hR⟩ : ∃ R, R = (decide (n ≠ 0) && decide (m ≠ 0)) := ⟨_, rfl⟩
 rw [← hR]
 have hnn : (n = 0 ∧ decide (n ≠ 0) = false) ∨ (¬ n = 0 ∧ (n != 0) = true ∧ decide (n ≠ 0) = true) := by by_cases h : n = 0 <;> simp [h]
 have hmm : (m = 0 ∧ decide (m ≠ 0) = false) ∨ (¬ m = 0 ∧ (m != 0) = true ∧ decide (m ≠ 0) = true) := by by_cases h : m = 0 <;> simp [h]
 rcases hnn with ⟨hn, en⟩ | ⟨hn, bn, en⟩ <;> rcases hmm with ⟨hm, em⟩ | ⟨hm, bm, em⟩
 all_goals
  rw [en, em] at hR
  simp only [Bool.and_true, Bool.and_false, Bool.or_true, Bool.or_false, Bool.true_and, Bool.false_and, Bool.true_or, Bool.false_or] at hR
  subst hR
  clear en em
  try subst hn
  try subst hm
  go_enter Tryz.func42, Tryz.ntmps42
  go_wp2_with fail
  refine (show Cz 41 _ _ _ from HN.out _ _).mono ?_
  rintro e w2 ⟨a2, c2, rfl, G2⟩
  clear HN
  go_wp2
  go_ret2
  exact dc_1 G2 O0.out
theorem rro_or (g o c : Nat) (n m : Int) (w : World) (h0 : w.cell? ⟨g, o + 1, none⟩ = some (.int .i64 n)) (h1 : w.cell? ⟨g, o + 4 + 1, none⟩ = some (.int .i64 m)) : Cz 42 #[.string ⟨#[111, 114]⟩, .slice (some ⟨g, o, none⟩) 2 c] w fun e w' => DcP (oneR (.ok (boT (decide (n ≠ 0) || decide (m ≠ 0))))) 2 w e w' := by
 have HN : Hid (∀ b w, Cz 41 #[.bool b] w fun e w' => R1P (boT b) w e w') := flag_any
 have O0 : Hid (Oz w w) := Only.refl _ _
 obtain ⟨R, hR⟩ : ∃ R, R = (decide (n ≠ 0) || decide (m ≠ 0)) := ⟨_, rfl⟩
 rw [← hR]
 have hnn : (n = 0 ∧ decide (n ≠ 0) = false) ∨ (¬ n = 0 ∧ (n != 0) = true ∧ decide (n ≠ 0) = true) := by by_cases h : n = 0 <;> simp [h]
 have hmm : (m = 0 ∧ decide (m ≠ 0) = false) ∨ (¬ m = 0 ∧ (m != 0) = true ∧ decide (m ≠ 0) = true) := by by_cases h : m = 0 <;> simp [h]
 rcases hnn with ⟨hn, en⟩ | ⟨hn, bn, en⟩ <;> rcases hmm with ⟨hm, em⟩ | ⟨hm, bm, em⟩
 all_goals
  rw [en, em] at hR
  simp only [Bool.and_true, Bool.and_false, Bool.or_true, Bool.or_false, Bool.true_and, Bool.false_and, Bool.true_or, Bool.false_or] at hR
  subst hR
  clear en em
  try subst hn
  try subst hm
  go_enter Tryz.func42, Tryz.ntmps42
  go_wp2_with fail
  refine (show Cz 41 _ _ _ from HN.out _ _).mono ?_
  rintro e w2 ⟨a2, c2, rfl, G2⟩
  clear HN
  go_wp2
  go_ret2
  exact dc_1 G2 O0.out
theorem rro_not (g o c : Nat) (n : Int) (w : World) (h0 : w.cell? ⟨g, o + 1, none⟩ = some (.int .i64 n)) : Cz 42 #[.string ⟨#[110, 111, 116]⟩, .slice (some ⟨g, o, none⟩) 1 c] w fun e w' => DcP (oneR (.ok (boT (decide (n = 0))))) 2 w e w' := by
 have HN : Hid (∀ b w, Cz 41 #[.bool b] w fun e w' => R1P (boT b) w e w') := flag_any
 have O0 : Hid (Oz w w) := Only.refl _ _
 obtain ⟨R, hR⟩ : ∃ R, R = decide (n = 0) := ⟨_, rfl⟩
 rw [← hR]
 have hnn : (n = 0 ∧ decide (n = 0) = true) ∨ (¬ n = 0 ∧ (n == 0) = false ∧ decide (n = 0) = false) := by by_cases h : n = 0 <;> simp [h]
 rcases hnn with ⟨hn, en⟩ | ⟨hn, bn, en⟩
 all_goals
  rw [en] at hR
  subst hR
  clear en
  try subst hn
  go_enter Tryz.func42, Tryz.ntmps42
  go_wp2_with fail
  refine (show Cz 41 _ _ _ from HN.out _ _).mono ?_
  rintro e w2 ⟨a2, c2, rfl, G2⟩
  clear HN
  go_wp2
  go_ret2
  exact dc_1 G2 O0.out
theorem rro_length (g o c : Nat) (k n : Int) (s : ByteArray) (hs : s.size ≤ 268435456) (ao : Option Addr) (L cl : Nat) (w : World) (h : V4 w g o k n s (.slice ao L cl)) : Cz 42 #[.string ⟨#[108, 101, 110, 103, 116, 104]⟩, .slice (some ⟨g, o, none⟩) 1 c] w fun e w' => DcP (oneR (.ok (inT ((if k = 2 then (rns s).length else L : Nat) : Int)))) 2 w e w' := by
 have HL : Hid (∀ W, Cz 66 #[.agg #[.int .i64 k, .int .i64 n, .string s, .slice ao L cl]] W fun e w' => e = .returned (.int .i64 ((if k = 2 then (rns s).length else L : Nat) : Int)) ∧ Oz W w') := fun W => rlen_any k n s hs ao L cl W
 have HN : Hid (∀ n w, Cz 65 #[.int .i64 n] w fun e w' => R1P (inT n) w e w') := num_any
 obtain ⟨M, hM⟩ : ∃ M : Nat, M = if k = 2 then (rns s).length else L := ⟨_, rfl⟩
 rw [← hM] at HL ⊢
 obtain ⟨h0, h1, h2, h3⟩ := h
 have O0 : Hid (Oz w w) := Only.refl _ _
 clear hM hs
 go_enter Tryz.func42, Tryz.ntmps42
 go_wp2_with fail
 refine (show Cz 66 _ _ _ from HL.out _).mono ?_
 rintro e w1 ⟨rfl, o1⟩
 have O1 : Hid (Oz w w1) := O0.out.trans o1 (fun _ _ g => g)
 clear HL o1
 go_wp2_with fail
 refine (show Cz 65 _ _ _ from HN.out _ _).mono ?_
 rintro e w2 ⟨a2, c2, rfl, G2⟩
 clear HN
 go_wp2
 go_ret2
 exact dc_1 G2 O1.out
def RraC (nm : ByteArray) : Prop := ∀ (v : Value), (∃ a n c, v = .slice a n c) → ∀ (w : World) (R : Except Int (List Vt)), (Cz 73 #[.string nm, v] w fun e w' => DcP R 2 w e w') → Cz 42 #[.string nm, v] w fun e w' => DcP R 2 w e w'
theorem rra_all : RraC ⟨#[43]⟩ ∧ RraC ⟨#[45]⟩ ∧ RraC ⟨#[42]⟩ ∧ RraC ⟨#[47]⟩ ∧ RraC ⟨#[109, 111, 100]⟩ ∧ RraC ⟨#[110, 101, 103]⟩ ∧ RraC ⟨#[97, 98, 115]⟩ ∧ RraC ⟨#[109, 105, 110]⟩ ∧ RraC ⟨#[109, 97, 120]⟩ ∧ RraC ⟨#[60]⟩ ∧ RraC ⟨#[62]⟩ := by
 refine ⟨?_, ?_, ?_, ?_, ?_, ?_, ?_, ?_, ?_, ?_, ?_⟩
 all_goals
  intro v hv w R h
  obtain ⟨a, n, c, rfl⟩ := hv
  have HA : Hid _ := h
  clear h
  cases R with
  | error m =>
    go_enter Tryz.func42, Tryz.ntmps42
    go_wp2_with fail
    refine (show Cz 73 _ _ _ from HA.out).mono ?_
    rintro e w1 ⟨rfl, h1, h2⟩
    have HP : Hid (DcP (.error m) 2 w (.returned (.tuple #[.slice none 0 0, .int .i64 m])) w1) := ⟨rfl, h1, h2⟩
    clear HA h1 h2
    go_wp2
    go_ret2
    exact HP.out
  | ok ls =>
    go_enter Tryz.func42, Tryz.ntmps42
    go_wp2_with fail
    refine (show Cz 73 _ _ _ from HA.out).mono ?_
    rintro e w1 ⟨a1, c1, rfl, h1⟩
    have HP : Hid (DcP (.ok ls) 2 w (.returned (.tuple #[.slice a1 ls.length c1, .int .i64 0])) w1) := ⟨a1, c1, rfl, h1⟩
    clear HA h1
    go_wp2
    go_ret2
    exact HP.out
theorem rra_add : RraC ⟨#[43]⟩ := rra_all.1
theorem rra_sub : RraC ⟨#[45]⟩ := rra_all.2.1
theorem rra_mul : RraC ⟨#[42]⟩ := rra_all.2.2.1
theorem rra_div : RraC ⟨#[47]⟩ := rra_all.2.2.2.1
theorem rra_mod : RraC ⟨#[109, 111, 100]⟩ := rra_all.2.2.2.2.1
theorem rra_neg : RraC ⟨#[110, 101, 103]⟩ := rra_all.2.2.2.2.2.1
theorem rra_abs : RraC ⟨#[97, 98, 115]⟩ := rra_all.2.2.2.2.2.2.1
theorem rra_min : RraC ⟨#[109, 105, 110]⟩ := rra_all.2.2.2.2.2.2.2.1
theorem rra_max : RraC ⟨#[109, 97, 120]⟩ := rra_all.2.2.2.2.2.2.2.2.1
theorem rra_lt : RraC ⟨#[60]⟩ := rra_all.2.2.2.2.2.2.2.2.2.1
theorem rra_gt : RraC ⟨#[62]⟩ := rra_all.2.2.2.2.2.2.2.2.2.2
theorem rro_eq (g o c : Nat) (k0 n0 k1 n1 : Int) (s0 s1 : ByteArray) (a0 a1 : Option Addr) (L0 c0 L1 c1 : Nat) (w : World) (b : Bool) (h0 : V4 w g o k0 n0 s0 (.slice a0 L0 c0)) (h1 : V4 w g (o + 4) k1 n1 s1 (.slice a1 L1 c1)) (HS0 : ∀ W, Oz w W → Cz 22 #[.agg #[.int .i64 k0, .int .i64 n0, .string s0, .slice a0 L0 c0], .agg #[.int .i64 k1, .int .i64 n1, .string s1, .slice a1 L1 c1]] W fun e w' => e = .returned (.bool b) ∧ Oz W w') : Cz 42 #[.string ⟨#[61]⟩, .slice (some ⟨g, o, none⟩) 2 c] w fun e w' => DcP (oneR (.ok (boT b))) 2 w e w' := by
 have HC : Hid (∀ W, Oz w W → (W.cell? ⟨g, o, none⟩ = some (.int .i64 k0) ∧ W.cell? ⟨g, o + 1, none⟩ = some (.int .i64 n0) ∧ W.cell? ⟨g, o + 2, none⟩ = some (.string s0) ∧ W.cell? ⟨g, o + 3, none⟩ = some (.slice a0 L0 c0)) ∧ (W.cell? ⟨g, o + 4, none⟩ = some (.int .i64 k1) ∧ W.cell? ⟨g, o + 4 + 1, none⟩ = some (.int .i64 n1) ∧ W.cell? ⟨g, o + 4 + 2, none⟩ = some (.string s1) ∧ W.cell? ⟨g, o + 4 + 3, none⟩ = some (.slice a1 L1 c1))) := fun W q => ⟨⟨q.cell h0.1 (fun g => g), q.cell h0.2.1 (fun g => g), q.cell h0.2.2.1 (fun g => g), q.cell h0.2.2.2 (fun g => g)⟩, q.cell h1.1 (fun g => g), q.cell h1.2.1 (fun g => g), q.cell h1.2.2.1 (fun g => g), q.cell h1.2.2.2 (fun g => g)⟩
 have HS : Hid _ := HS0
 have HN : Hid (∀ b w, Cz 41 #[.bool b] w fun e w' => R1P (boT b) w e w') := flag_any
 have O0 : Hid (Oz w w) := Only.refl _ _
 obtain ⟨⟨x0, x1, x2, x3⟩, y0, y1, y2, y3⟩ := HC.out w (Only.refl _ _)
 clear h0 h1 HS0
 go_enter Tryz.func42, Tryz.ntmps42
 go_wp2
 go_region_held3 (fun W => (W.cell? ⟨g, o, none⟩ = some (.int .i64 k0) ∧ W.cell? ⟨g, o + 1, none⟩ = some (.int .i64 n0) ∧ W.cell? ⟨g, o + 2, none⟩ = some (.string s0) ∧ W.cell? ⟨g, o + 3, none⟩ = some (.slice a0 L0 c0)) ∧ (W.cell? ⟨g, o + 4, none⟩ = some (.int .i64 k1) ∧ W.cell? ⟨g, o + 4 + 1, none⟩ = some (.int .i64 n1) ∧ W.cell? ⟨g, o + 4 + 2, none⟩ = some (.string s1) ∧ W.cell? ⟨g, o + 4 + 3, none⟩ = some (.slice a1 L1 c1)))
  (first | with_reducible exact HC.out _ O0.out | with_reducible exact HC.out _ O0.out.drew | with_reducible exact HC.out _ O0.out.drew.drew | with_reducible exact HC.out _ O5.out | with_reducible exact HC.out _ O4.out)
  (first
   | (go_at_call 41; refine (show Cz 41 _ _ _ from HN.out _ _).mono ?_; rintro ex w5 ⟨a2, c2, rfl, G5⟩; have O5 : Hid (Oz w w5) := O4.out.trans G5.out.2 (fun _ _ g => g))
   | (go_at_call 22; refine (show Cz 22 _ _ _ from HS.out _ (by first | exact O0.out | exact O0.out.drew | exact O0.out.drew.drew)).mono ?_; rintro ex w4 ⟨rfl, o4⟩; have O4 : Hid (Oz w w4) := (by first | exact O0.out.drew.trans o4 (fun _ _ g => g) | exact O0.out.trans o4 (fun _ _ g => g)); clear o4))
 all_goals
  go_wp2
  go_ret2
  exact dc_1 G5 O4.out
theorem rro_wrap (g o c : Nat) (l : List Vt) (hl : l.length = 1) {d : Nat} {w : World} {S : Nat → Prop} (h : VsAt w S d l (.slice (some ⟨g, o, none⟩) 1 c)) : Cz 42 #[.string ⟨#[119, 114, 97, 112]⟩, .slice (some ⟨g, o, none⟩) 1 c] w fun e w' => DcP (oneR (.ok (lisT l))) (d + 1) w e w' := by
 have HP : Hid (DcP (oneR (.ok (lisT l))) (d + 1) w (.returned (.tuple #[.slice (some ⟨w.heap.size, 0, none⟩) 1 1, .int .i64 0])) (w.alloc (.cells #[.int .i64 4, .int .i64 0, .string ⟨#[]⟩, .slice (some ⟨g, o, none⟩) 1 c] 38))) := by
  have hb : (w.alloc (.cells #[.int .i64 4, .int .i64 0, .string ⟨#[]⟩, .slice (some ⟨g, o, none⟩) 1 c] 38)).heap[w.heap.size]? = some (.cells #[.int .i64 4, .int .i64 0, .string ⟨#[]⟩, .slice (some ⟨g, o, none⟩) 1 c] 38) := valloc_at _ _ _ rfl
  have o : Oz w (w.alloc (.cells #[.int .i64 4, .int .i64 0, .string ⟨#[]⟩, .slice (some ⟨g, o, none⟩) 1 c] 38)) := (Only.refl _ _).alloc _
  refine ⟨_, _, rfl, ⟨⟨fun b => S b ∨ b = w.heap.size, _, _, rfl, by simp, fun j y hy => ?_⟩, o⟩⟩
  have hj : j = 0 := by have := (List.getElem?_eq_some_iff.1 hy).1; simp at this; exact this
  subst hj
  simp at hy
  subst hy
  exact ⟨w.heap.size, 0, _, rfl, .inr rfl, ⟨vblk_cells hb 0, vblk_cells hb 1, vblk_cells hb 2, vblk_cells hb 3⟩, (h.only o).step (fun _ g => .inl g) (fun _ _ _ g => g) (Nat.le_refl _)⟩
 clear h hl
 go_enter Tryz.func42, Tryz.ntmps42
 go_wp2
 go_ret2
 exact HP.out
theorem rro_pair (g o c : Nat) (l : List Vt) (hl : l.length = 2) {d : Nat} {w : World} {S : Nat → Prop} (h : VsAt w S d l (.slice (some ⟨g, o, none⟩) 2 c)) : Cz 42 #[.string ⟨#[112, 97, 105, 114]⟩, .slice (some ⟨g, o, none⟩) 2 c] w fun e w' => DcP (oneR (.ok (lisT l))) (d + 1) w e w' := by
 have HP : Hid (DcP (oneR (.ok (lisT l))) (d + 1) w (.returned (.tuple #[.slice (some ⟨w.heap.size, 0, none⟩) 1 1, .int .i64 0])) (w.alloc (.cells #[.int .i64 4, .int .i64 0, .string ⟨#[]⟩, .slice (some ⟨g, o, none⟩) 2 c] 38))) := by
  have hb : (w.alloc (.cells #[.int .i64 4, .int .i64 0, .string ⟨#[]⟩, .slice (some ⟨g, o, none⟩) 2 c] 38)).heap[w.heap.size]? = some (.cells #[.int .i64 4, .int .i64 0, .string ⟨#[]⟩, .slice (some ⟨g, o, none⟩) 2 c] 38) := valloc_at _ _ _ rfl
  have o : Oz w (w.alloc (.cells #[.int .i64 4, .int .i64 0, .string ⟨#[]⟩, .slice (some ⟨g, o, none⟩) 2 c] 38)) := (Only.refl _ _).alloc _
  refine ⟨_, _, rfl, ⟨⟨fun b => S b ∨ b = w.heap.size, _, _, rfl, by simp, fun j y hy => ?_⟩, o⟩⟩
  have hj : j = 0 := by have := (List.getElem?_eq_some_iff.1 hy).1; simp at this; exact this
  subst hj
  simp at hy
  subst hy
  exact ⟨w.heap.size, 0, _, rfl, .inr rfl, ⟨vblk_cells hb 0, vblk_cells hb 1, vblk_cells hb 2, vblk_cells hb 3⟩, (h.only o).step (fun _ g => .inl g) (fun _ _ _ g => g) (Nat.le_refl _)⟩
 clear h hl
 go_enter Tryz.func42, Tryz.ntmps42
 go_wp2
 go_ret2
 exact HP.out
theorem rro_unpair (g o c : Nat) (x : Vt) (ao : Option Addr) (cl : Nat) {d : Nat} {w : World} {S : Nat → Prop} (h3 : w.cell? ⟨g, o + 3, none⟩ = some (.slice ao x.l.length cl)) (h : VsAt w S d x.l (.slice ao x.l.length cl)) : Cz 42 #[.string ⟨#[117, 110, 112, 97, 105, 114]⟩, .slice (some ⟨g, o, none⟩) 1 c] w fun e w' => DcP (unR [x]) d w e w' := by
 unfold unR
 obtain ⟨L, hL⟩ : ∃ L, L = x.l.length := ⟨_, rfl⟩
 dsimp only
 by_cases h2 : x.l.length = 2
 ·rw [if_pos h2]
  have HP : Hid (DcP (.ok x.l) d w (.returned (.tuple #[.slice ao 2 cl, .int .i64 0])) w) := by
   rw [← h2]
   exact ⟨_, _, rfl, ⟨⟨S, h⟩, Only.refl _ _⟩⟩
  rw [h2] at h3
  clear h hL h2
  go_enter Tryz.func42, Tryz.ntmps42
  go_wp2
  go_ret2
  exact HP.out
 ·rw [if_neg h2]
  rw [← hL] at h3
  have i1 : ¬ (L : Int) = 2 := by omega
  have O0 : Hid (Oz w w) := Only.refl _ _
  clear h hL h2
  go_enter Tryz.func42, Tryz.ntmps42
  go_wp2
  go_ret2
  exact dc_er (by decide) O0.out
theorem vinf : ∃ i z, Tryz.prog.info? 38 = some i ∧ i.zero = some z ∧ i.size = 4 ∧ i.bytes = 56 ∧ z.cells.size = 4 := ⟨_, _, rfl, rfl, rfl, rfl, rfl⟩
def RwE (w : World) (S : Nat → Prop) (d : Nat) (us : List Value) (j : Nat) (x : Vt) : Prop := ∃ lx, (us[j * 4]? = some (.int .i64 x.k) ∧ us[j * 4 + 1]? = some (.int .i64 x.n) ∧ us[j * 4 + 2]? = some (.string x.s) ∧ us[j * 4 + 3]? = some lx) ∧ VsAt w S d x.l lx
def RwAt (w : World) (B : Nat) (S : Nat → Prop) (d : Nat) (v : Value) (l : List Vt) : Prop :=
 ∃ us, w.ownsRow B 38 4 v l.length us ∧ (∀ (j : Nat) (x : Vt), l[j]? = some x → RwE w S d us j x) ∧ ∀ b, S b → b < w.heap.size ∧ v.ownBlock ≠ some b
theorem rw_nil (w : World) (B : Nat) (S : Nat → Prop) (d : Nat) (hS : ∀ b, S b → b < w.heap.size) : RwAt w B S d (.slice none 0 0) [] :=
 ⟨[], World.ownsRow_nil _ _ _ _, fun j x h => by simp at h, fun b h => ⟨hS b h, fun e => by cases e⟩⟩
theorem RwAt.form {w : World} {B d : Nat} {S : Nat → Prop} {v : Value} {l : List Vt} (h : RwAt w B S d v l) : ∃ ao cap, v = .slice ao l.length cap := by
 obtain ⟨us, ho, _⟩ := h
 rcases ho.2 with ⟨h1, h2⟩ | ⟨g, cap, cur, h1, _⟩
 ·exact ⟨_, _, by rw [h1, h2]⟩
 ·exact ⟨_, _, h1⟩
theorem RwAt.lt {w : World} {B d : Nat} {S : Nat → Prop} {v : Value} {l : List Vt} (h : RwAt w B S d v l) : ∀ k, v.ownBlock = some k → B ≤ k ∧ k < w.heap.size := by
 obtain ⟨us, ho, _⟩ := h
 exact fun k hk => ho.lt k hk
theorem RwAt.only {w w' : World} {B d : Nat} {S bs : Nat → Prop} {v : Value} {l : List Vt} (h : RwAt w B S d v l) (o : Only bs w w') (hb : ∀ b, S b → ¬ bs b) (hv : ∀ b, v.ownBlock = some b → ¬ bs b) : RwAt w' B S d v l := by
 obtain ⟨us, ho, ht, hS⟩ := h
 refine ⟨us, o.owns ho (fun k hk => hv k hk), fun j x hx => ?_, fun b hbS => ⟨Nat.lt_of_lt_of_le (hS b hbS).1 o.size, (hS b hbS).2⟩⟩
 obtain ⟨lx, hu, h2⟩ := ht j x hx
 exact ⟨lx, hu, h2.step (fun _ g => g) (fun a u hs hc => o.cell hc (hb _ hs)) (Nat.le_refl _)⟩
theorem RwAt.vs {w : World} {B d : Nat} {S : Nat → Prop} {v : Value} {l : List Vt} (h : RwAt w B S d v l) : VsAt w (fun b => S b ∨ v.ownBlock = some b) (d + 1) l v := by
 obtain ⟨us, ho, ht, hS⟩ := h
 rcases ho.2 with ⟨rfl, h2⟩ | ⟨g, cap, cur, hv, hB, hg, hn, hcm, hcs, htk⟩
 ·exact ⟨none, 0, by rw [h2], by omega, fun i x hx => by have := (List.getElem?_eq_some_iff.1 hx).1; omega⟩
 ·refine ⟨some ⟨g, 0, none⟩, cap, hv, hn, fun i x hx => ?_⟩
  obtain ⟨lx, ⟨h0, h1, h2, h3⟩, h4⟩ := ht i x hx
  have hc : ∀ j u, us[j]? = some u → w.cell? ⟨g, 0 + j, none⟩ = some u := fun j u hu => by
   have := ho.cells (g := g) (by rw [hv]; rfl) j u hu
   rwa [addr_ad, ← Nat.zero_add j] at this
  exact ⟨g, 0, lx, rfl, .inr (by rw [hv]; rfl), ⟨hc _ _ h0, hc _ _ h1, hc _ _ h2, hc _ _ h3⟩, h4.step (fun _ g => .inl g) (fun _ _ _ g => g) (Nat.le_refl _)⟩
theorem UrAt.rw {w : World} {B d : Nat} {v : Value} {l : List Vt} (h : UrAt w B d v l) : ∃ S, RwAt w B S d v l ∧ ∀ b, S b → B ≤ b := by
 obtain ⟨us, S, ho, ht, hS⟩ := h
 exact ⟨S, ⟨us, ho, fun j x hx => ht j x hx, fun b hb => (hS b hb).2⟩, fun b hb => (hS b hb).1⟩
theorem vs_cells {w : World} {S : Nat → Prop} {d : Nat} {l : List Vt} {v : Value} (h : VsAt w S (d + 1) l v) : ∃ ao cap us, v = .slice ao l.length cap ∧ us.length = l.length * 4 ∧ (∀ j u, us[j]? = some u → ∃ g k, ao = some ⟨g, k, none⟩ ∧ S g ∧ w.cell? ⟨g, k + j, none⟩ = some u) ∧ (∀ u ∈ us, u.oneCell' = true) ∧ (∀ (j : Nat) (x : Vt), l[j]? = some x → RwE w S d us j x) ∧ (ao = none → l = []) := by
 obtain ⟨ao, cap, hv, hc, hel⟩ := h
 cases l with
 | nil => exact ⟨ao, cap, [], hv, rfl, (fun j u h => by simp at h), (fun u h => by cases h), (fun j x h => by simp at h), fun _ => rfl⟩
 | cons t l =>
   obtain ⟨g, k, lx0, hao, hSg, _, _⟩ := hel 0 t rfl
   obtain ⟨L, hL⟩ : ∃ L, L = t :: l := ⟨_, rfl⟩
   rw [← hL] at hv hc hel ⊢
   have key : ∀ q, q < L.length * 4 → ∃ u, w.cell? ⟨g, k + q, none⟩ = some u ∧ u.oneCell' = true := fun q hq => by
    have hj : q / 4 < L.length := by omega
    obtain ⟨g', k', lx, ha, _, ⟨h0, h1, h2, h3⟩, hlx⟩ := hel (q / 4) (L[q / 4]'hj) (List.getElem?_eq_getElem hj)
    rw [hao] at ha
    cases ha
    have e : q % 4 = 0 ∨ q % 4 = 1 ∨ q % 4 = 2 ∨ q % 4 = 3 := by omega
    rcases e with e | e | e | e
    ·exact ⟨_, by rw [show k + q = k + q / 4 * 4 by omega]; exact h0, rfl⟩
    ·exact ⟨_, by rw [show k + q = k + q / 4 * 4 + 1 by omega]; exact h1, rfl⟩
    ·exact ⟨_, by rw [show k + q = k + q / 4 * 4 + 2 by omega]; exact h2, rfl⟩
    ·refine ⟨lx, by rw [show k + q = k + q / 4 * 4 + 3 by omega]; exact h3, ?_⟩
     cases d with
     | zero => exact hlx.elim
     | succ d => obtain ⟨a, c, rfl, _⟩ := hlx; rfl
   refine ⟨ao, cap, (List.range (L.length * 4)).map (fun q => (w.cell? ⟨g, k + q, none⟩).getD .nilIface), hv, by simp, fun j u hj => ?_, fun u hu => ?_, fun j x hx => ?_, fun e => by rw [hao] at e; cases e⟩
   ·have hjl : j < L.length * 4 := by have := (List.getElem?_eq_some_iff.1 hj).1; simpa using this
    obtain ⟨u', hu', _⟩ := key j hjl
    rw [List.getElem?_map, List.getElem?_range hjl] at hj
    simp only [Option.map_some, hu', Option.getD_some, Option.some.injEq] at hj
    exact ⟨g, k, hao, hSg, by rw [← hj]; exact hu'⟩
   ·obtain ⟨q, hq, rfl⟩ := List.mem_map.1 hu
    obtain ⟨u', hu', h1⟩ := key q (List.mem_range.1 hq)
    rw [hu']
    exact h1
   ·obtain ⟨g', k', lx, ha, _, ⟨h0, h1, h2, h3⟩, hlx⟩ := hel j x hx
    rw [hao] at ha
    cases ha
    have hjl : j < L.length := (List.getElem?_eq_some_iff.1 hx).1
    have at' : ∀ i u, i < 4 → w.cell? ⟨g, k + (j * 4 + i), none⟩ = some u → ((List.range (L.length * 4)).map (fun q => (w.cell? ⟨g, k + q, none⟩).getD .nilIface))[j * 4 + i]? = some u := fun i u hi hu => by
     rw [List.getElem?_map, List.getElem?_range (by omega)]
     simp only [Option.map_some, hu, Option.getD_some]
    exact ⟨lx, ⟨at' 0 _ (by omega) h0, at' 1 _ (by omega) h1, at' 2 _ (by omega) h2, at' 3 _ (by omega) h3⟩, hlx⟩
theorem app_none_c {w : World} {B n c : Nat} {xs : List Value} {v : Value} (ho : w.ownsRow B 38 4 v n xs) (ty : TypeId) : (Builtin.append_ #[22, 22] ty #[v, .slice none 0 c]).run Tryz.prog w = .ok v w := by
 obtain ⟨i0, z0, hi, _⟩ := vinf
 have ht := run_underlying Tryz.underlying22
 rcases ho.2 with ⟨h1, h2⟩ | ⟨g, cap, cur, h1, _, _, hnc, _⟩
 ·subst h1; subst h2
  simp [Builtin.append_, ht, sizeOf, typeInfo, hi, Builtin.lenOf, Builtin.firstCells]
 ·subst h1
  simp [Builtin.append_, ht, sizeOf, typeInfo, hi, Builtin.lenOf, Builtin.firstCells, hnc, storeCells]
theorem RwAt.app {w : World} {B d c n : Nat} {S S2 : Nat → Prop} {v : Value} {l l2 : List Vt} {ao : Option Addr} (h : RwAt w B S d v l) (h2 : VsAt w S2 (d + 1) l2 (.slice ao n c)) (hS2 : ∀ b, S2 b → b < w.heap.size ∧ v.ownBlock ≠ some b) (hl : l.length ≤ 1048576) (hl2 : l2.length ≤ 1048576) (hB : B ≤ w.heap.size) :
  ∃ v' w', (∀ ty, (Builtin.append_ #[22, 22] ty #[v, .slice ao n c]).run Tryz.prog w = .ok v' w') ∧ RwAt w' B (fun b => S b ∨ S2 b) d v' (l ++ l2) ∧ Only (fun k => v.ownBlock = some k) w w' := by
 obtain ⟨i0, z0, hi, hz0, hz1, hz2, hz3⟩ := vinf
 obtain ⟨ao', cap', us2, hv2, e2, c2, o2, t2, n2⟩ := vs_cells h2
 simp only [Value.slice.injEq] at hv2
 obtain ⟨rfl, rfl, rfl⟩ := hv2
 obtain ⟨us, ho, ht, hS⟩ := h
 cases ao with
 | none =>
   obtain rfl := n2 rfl
   exact ⟨v, w, fun ty => app_none_c ho ty, by rw [List.append_nil]; exact ⟨us, ho, fun j x hx => by obtain ⟨lx, q1, q2⟩ := ht j x hx; exact ⟨lx, q1, q2.step (fun _ g => .inl g) (fun _ _ _ g => g) (Nat.le_refl _)⟩, fun b hb => hb.elim (fun hb => hS b hb) (fun hb => hS2 b hb)⟩, Only.refl _ _⟩
 | some ad =>
   have gk : ∀ j u, us2[j]? = some u → w.cell? (ad.add j) = some u := fun j u hu => by
    obtain ⟨g, k, e, _, hc⟩ := c2 j u hu
    cases e
    have e : (⟨g, k, none⟩ : Addr).add j = ⟨g, k + j, none⟩ := by unfold Addr.add; split <;> simp_all
    rw [e]
    exact hc
   have key := fun ty => run_append_own_at (P := Tryz.prog) w B 22 ty 38 i0 z0 4 56 Tryz.underlying22 hi hz0 hz1 hz2 hz3 (by omega) v l.length us ho ad l2.length c us2 e2 gk o2 (by unfold maxLen; omega) (by omega) hB
   obtain ⟨v', w', hr, own', hg, _, hat⟩ := key 0
   have oo : Only (fun k => v.ownBlock = some k) w w' := (Only.refl (fun k => v.ownBlock = some k) w).grown hg (fun k e _ => e)
   refine ⟨v', w', fun ty => by rw [← hr]; rfl, ⟨us ++ us2, by rw [List.length_append]; exact own', fun j x hx => ?_, fun b hb => ?_⟩, oo⟩
   ·by_cases hj : j < l.length
    ·rw [List.getElem?_append_left hj] at hx
     obtain ⟨lx, ⟨q0, q1, q2, q3⟩, q6⟩ := ht j x hx
     have ap : ∀ i u, us[i]? = some u → (us ++ us2)[i]? = some u := fun i u hu => by
      rw [List.getElem?_append_left (List.getElem?_eq_some_iff.1 hu).1]; exact hu
     exact ⟨lx, ⟨ap _ _ q0, ap _ _ q1, ap _ _ q2, ap _ _ q3⟩, q6.step (fun _ g => .inl g) (fun a y hs hc => oo.cell hc (hS _ hs).2) (Nat.le_refl _)⟩
    ·rw [List.getElem?_append_right (by omega)] at hx
     obtain ⟨lx, ⟨q0, q1, q2, q3⟩, q6⟩ := t2 _ x hx
     have hul : us.length = l.length * 4 := ho.1
     have ap : ∀ i u, us2[(j - l.length) * 4 + i]? = some u → (us ++ us2)[j * 4 + i]? = some u := fun i u hu => by
      rw [List.getElem?_append_right (by omega), ← hu]
      congr 1
      omega
     exact ⟨lx, ⟨ap 0 _ q0, ap 1 _ q1, ap 2 _ q2, ap 3 _ q3⟩, q6.step (fun _ g => .inr g) (fun a y hs hc => oo.cell hc (hS2 _ hs).2) (Nat.le_refl _)⟩
   ·have h1 : b < w.heap.size ∧ v.ownBlock ≠ some b := by
     rcases hb with hb | hb
     ·exact hS b hb
     ·exact hS2 b hb
    refine ⟨Nat.lt_of_lt_of_le h1.1 oo.size, ?_⟩
    rcases hat with e | e <;> rw [e]
    ·exact h1.2
    ·intro e2
     injection e2 with e2
     have := h1.1
     omega
def SpAt (w : World) (S : Nat → Prop) : Nat → Value → Prop
 | 0, _ => False
 | d + 1, v => v = .nilIface ∨ ∃ T y, v = .iface T y ∧ ((T = 63 ∨ T = 66) → ∃ ao n cap, y = .agg #[.slice ao n cap] ∧ n ≤ cap ∧ n ≤ 1048576 ∧ ∀ j, j < n → ∃ g k u, ao = some ⟨g, k, none⟩ ∧ S g ∧ w.cell? ⟨g, k + j, none⟩ = some u ∧ SpAt w S d u) ∧ (T = 109 → ∃ u, y = .agg #[u] ∧ SpAt w S d u)
def Lfv (u : Value) : Prop := ∃ T y, u = .iface T y ∧ T ≠ 63 ∧ T ≠ 66 ∧ T ≠ 109
theorem sp_leaf {u : Value} (h : Lfv u) (w : World) (S : Nat → Prop) (d : Nat) : SpAt w S (d + 1) u := by
 obtain ⟨T, y, rfl, h1, h2, h3⟩ := h
 exact .inr ⟨T, y, rfl, fun g => by rcases g with g | g; exact absurd g h1; exact absurd g h2, fun g => absurd g h3⟩
theorem SpAt.deep {w : World} {S : Nat → Prop} : ∀ {d d' : Nat} {v : Value}, d ≤ d' → SpAt w S d v → SpAt w S d' v
 | 0, _, _, _, h => h.elim
 | d + 1, 0, _, hd, _ => by omega
 | d + 1, e + 1, v, hd, h => by
   rcases h with h | ⟨T, y, hv, h1, h2⟩
   ·exact .inl h
   ·refine .inr ⟨T, y, hv, fun hT => ?_, fun hT => ?_⟩
    ·obtain ⟨ao, n, cap, p1, p2, p3, p4⟩ := h1 hT
     refine ⟨ao, n, cap, p1, p2, p3, fun j hj => ?_⟩
     obtain ⟨g, k, u, q1, q2, q3, q4⟩ := p4 j hj
     exact ⟨g, k, u, q1, q2, q3, q4.deep (by omega)⟩
    ·obtain ⟨u, p1, p2⟩ := h2 hT
     exact ⟨u, p1, p2.deep (by omega)⟩
def Spl (S : Nat → Prop) (w w' : World) : Prop := Only S w w' ∧ (∀ b, S b → Liv w b → Liv w' b) ∧ ∀ (a : Addr) u, S a.block → w.cell? a = some u → ∃ u', w'.cell? a = some u' ∧ (u' = u ∨ Lfv u')
theorem Spl.of {S : Nat → Prop} {w w' : World} (o : Oz w w') : Spl S w w' := ⟨o.mono (fun _ _ h => h.elim), fun b _ h => h.only o (fun g => g), fun a u _ hc => ⟨u, o.cell hc (fun g => g), .inl rfl⟩⟩
theorem Spl.trans {S : Nat → Prop} {a b c : World} (h : Spl S a b) (k : Spl S b c) : Spl S a c := by
 refine ⟨h.1.trans k.1 (fun _ _ g => g), fun x hx hl => k.2.1 x hx (h.2.1 x hx hl), fun p u hp hu => ?_⟩
 obtain ⟨u1, h1, h2⟩ := h.2.2 p u hp hu
 obtain ⟨u2, k1, k2⟩ := k.2.2 p u1 hp h1
 refine ⟨u2, k1, ?_⟩
 rcases k2 with rfl | k2
 ·exact h2
 ·exact .inr k2
theorem Spl.set {S : Nat → Prop} {w : World} {g k : Nat} {u x : Value} (hS : S g) (hl : Liv w g) (hc : w.cell? ⟨g, k, none⟩ = some u) (hx : Lfv x) : Spl S w (w.setCell ⟨g, k, none⟩ x) := by
 obtain ⟨h1, c, t, hb⟩ := hl
 have o : Only S w (w.setCell ⟨g, k, none⟩ x) := (Only.refl _ _).setCell _ _ (fun _ => hS)
 have og : Only (fun b => b = g) w (w.setCell ⟨g, k, none⟩ x) := (Only.refl _ _).setCell _ _ (fun _ => rfl)
 have hs := heap_setCell_same w g k c t x hb
 refine ⟨o, fun b hb' hl' => ?_, fun a y ha hy => ?_⟩
 ·by_cases e : b = g
  ·subst e
   exact Liv.of hs
  ·exact hl'.only og e
 ·by_cases e : a.block = g
  ·obtain ⟨ab, ao, asp⟩ := a
   simp only at e
   subst e
   have hsp : asp = none := World.cell?_spot hy
   subst hsp
   rw [vblk_cells hb] at hy hc
   rw [vblk_cells hs]
   by_cases e2 : ao = k
   ·subst e2
    have := (Array.getElem?_eq_some_iff.1 hc).1
    exact ⟨x, by simp [this], .inr hx⟩
   ·exact ⟨y, by rw [← hy]; simp [Array.setIfInBounds, Array.getElem?_set]; split <;> simp [Array.getElem?_set, Ne.symm e2], .inl rfl⟩
  ·exact ⟨y, og.cell hy e, .inl rfl⟩
theorem SpAt.keep {S : Nat → Prop} {w w' : World} (h : Spl S w w') : ∀ {d : Nat} {v : Value}, SpAt w S d v → SpAt w' S d v
 | 0, _, g => g.elim
 | d + 1, v, g => by
   rcases g with g | ⟨T, y, hv, h1, h2⟩
   ·exact .inl g
   ·refine .inr ⟨T, y, hv, fun hT => ?_, fun hT => ?_⟩
    ·obtain ⟨ao, n, cap, p1, p2, p3, p4⟩ := h1 hT
     refine ⟨ao, n, cap, p1, p2, p3, fun j hj => ?_⟩
     obtain ⟨q, k, u, q1, q2, q3, q4⟩ := p4 j hj
     obtain ⟨u', c1, c2⟩ := h.2.2 ⟨q, k + j, none⟩ u q2 q3
     refine ⟨q, k, u', q1, q2, c1, ?_⟩
     cases d with
     | zero => exact q4.elim
     | succ d =>
       rcases c2 with rfl | c2
       ·exact SpAt.keep h q4
       ·exact sp_leaf c2 _ _ _
    ·obtain ⟨u, p1, p2⟩ := h2 hT
     exact ⟨u, p1, SpAt.keep h p2⟩
theorem LfT.up : ∀ {d d' : Nat} {t : Vt}, d ≤ d' → LfT d t → LfT d' t
 | 0, _, _, _, h => h.elim
 | d + 1, 0, t, hd, h => by omega
 | d + 1, e + 1, t, hd, h => ⟨h.1, fun x hx => (h.2 x hx).up (by omega)⟩
theorem lf_leaf {d : Nat} {t : Vt} (h : t.l = []) : LfT (d + 1) t := ⟨fun _ => h, fun x hx => by rw [h] at hx; cases hx⟩
theorem TiAt.lf {w : World} {S : Nat → Prop} : ∀ {d : Nat} {i : Bool} {t : Vt} {v : Value}, TiAt w S d i t v → LfT d t
 | 0, _, _, _, h => h.elim
 | d + 1, true, t, v, h => by
   rcases h with ⟨_, h, _⟩ | ⟨_, h, _⟩ | ⟨_, _, u, _, hu⟩
   ·exact lf_leaf h
   ·exact lf_leaf h
   ·exact (TiAt.lf hu).up (by omega)
 | d + 1, false, t, v, h => by
   rcases h with ⟨_, h, _⟩ | ⟨_, h, _⟩ | ⟨_, h, _⟩ | ⟨_, h, _⟩ | ⟨_, h, _⟩ | ⟨hk, ao, cap, _, hc, hl⟩
   ·exact lf_leaf h
   ·exact lf_leaf h
   ·exact lf_leaf h
   ·exact lf_leaf h
   ·exact lf_leaf h
   ·refine ⟨fun g => absurd hk g, fun x hx => ?_⟩
    obtain ⟨j, hj, rfl⟩ := List.getElem_of_mem hx
    obtain ⟨g, k, u, _, _, _, ht⟩ := hl j _ (List.getElem?_eq_getElem hj)
    exact TiAt.lf ht
def nzT : Nat → Vt → Vt
 | 0, t => t
 | e + 1, t => ⟨t.k, vnn t, vss t, t.l.map (nzT e)⟩
theorem TiAt.nz {w : World} {S : Nat → Prop} : ∀ {d : Nat} {i : Bool} {t : Vt} {v : Value} (e : Nat), TiAt w S d i t v → TiAt w S d i (nzT e t) v
 | _, _, _, _, 0, h => h
 | 0, _, _, _, _ + 1, h => h.elim
 | d + 1, true, t, v, e + 1, h => by
   rcases h with ⟨h1, h2, h3⟩ | ⟨h1, h2, h3⟩ | ⟨h1, h2, u, h3, hu⟩
   ·refine .inl ⟨h1, by show t.l.map _ = []; rw [h2]; rfl, ?_⟩
    rw [h3]
    show _ = Value.iface 127 (.agg #[.string (vss t)])
    rw [show vss t = t.s from if_pos (.inr h1)]
   ·exact .inr (.inl ⟨h1, by show t.l.map _ = []; rw [h2]; rfl, h3⟩)
   ·exact .inr (.inr ⟨h1, h2, u, h3, TiAt.nz (e + 1) hu⟩)
 | d + 1, false, t, v, e + 1, h => by
   rcases h with ⟨h1, h2, h3⟩ | ⟨h1, h2, h3⟩ | ⟨h1, h2, h3⟩ | ⟨h1, h2, h3⟩ | ⟨h1, h2, h3⟩ | ⟨hk, ao, cap, h3, hc, hl⟩
   ·refine .inl ⟨h1, by show t.l.map _ = []; rw [h2]; rfl, ?_⟩
    rw [h3]
    show _ = Value.iface 35 (.agg #[.int .i64 (vnn t)])
    rw [show vnn t = t.n from if_pos (.inl h1)]
   ·refine .inr (.inl ⟨h1, by show t.l.map _ = []; rw [h2]; rfl, ?_⟩)
    rw [h3]
    show _ = Value.iface 59 (.agg #[.string (vss t)])
    rw [show vss t = t.s from if_pos (.inl h1)]
   ·refine .inr (.inr (.inl ⟨h1, by show t.l.map _ = []; rw [h2]; rfl, ?_⟩))
    rw [h3]
    show _ = Value.iface 61 (.agg #[.bool (vnn t != 0)])
    rw [show vnn t = (if t.n != 0 then 1 else 0) from (if_neg (by omega)).trans (if_pos h1)]
    cases t.n != 0 <;> rfl
   ·refine .inr (.inr (.inr (.inl ⟨h1, by show t.l.map _ = []; rw [h2]; rfl, ?_⟩)))
    rw [h3]
    show _ = Value.iface 69 (.agg #[.int .i64 (vnn t)])
    rw [show vnn t = t.n from if_pos (.inr h1)]
   ·exact .inr (.inr (.inr (.inr (.inl ⟨h1, by show t.l.map _ = []; rw [h2]; rfl, h3⟩))))
   ·refine .inr (.inr (.inr (.inr (.inr ⟨hk, ao, cap, ?_, ?_, fun i x hx => ?_⟩))))
    ·rw [h3]
     show _ = Value.iface (if t.k = 4 then 63 else 66) (.agg #[.slice ao (t.l.map (nzT e)).length cap])
     rw [List.length_map]
    ·show (t.l.map (nzT e)).length ≤ cap
     rw [List.length_map]
     exact hc
    ·have hx' : (t.l.map (nzT e))[i]? = some x := hx
     rw [List.getElem?_map] at hx'
     obtain ⟨y, hy, rfl⟩ := Option.map_eq_some_iff.1 hx'
     obtain ⟨g, k, u, p1, p2, p3, p4⟩ := hl i y hy
     exact ⟨g, k, u, p1, p2, p3, TiAt.nz e p4⟩
theorem nz_nf : ∀ {e : Nat} {t : Vt}, SmT e t → NfT e (nzT e t)
 | 0, _, h => h.elim
 | e + 1, t, h => by
   refine ⟨by show (t.l.map (nzT e)).length ≤ _; rw [List.length_map]; exact h.2.1, ?_, ?_, ?_, fun x hx => ?_⟩
   ·show -9223372036854775808 ≤ vnn t ∧ vnn t ≤ 9223372036854775807
    have := h.2.2.2.1
    unfold vnn
    split
    ·exact this
    split
    ·split <;> omega
    ·omega
   ·show vnn t = vnn ⟨t.k, vnn t, vss t, t.l.map (nzT e)⟩
    unfold vnn
    dsimp only
    by_cases h1 : t.k = 1 ∨ t.k = 6
    ·simp only [if_pos h1]
    ·simp only [if_neg h1]
     by_cases h3 : t.k = 3
     ·simp only [if_pos h3]
      cases t.n != 0 <;> rfl
     ·simp only [if_neg h3]
   ·show vss t = vss ⟨t.k, vnn t, vss t, t.l.map (nzT e)⟩
    unfold vss
    dsimp only
    by_cases h2 : t.k = 2 ∨ t.k = 7
    ·simp only [if_pos h2]
    ·simp only [if_neg h2]
   ·have hx' : x ∈ t.l.map (nzT e) := hx
    obtain ⟨y, hy, rfl⟩ := List.mem_map.1 hx'
    exact nz_nf (h.2.2.2.2 y hy)
theorem nz_sm : ∀ {e : Nat} {t : Vt}, SmT e t → SmT e (nzT e t)
 | 0, _, h => h.elim
 | e + 1, t, h => by
   refine ⟨?_, by show (t.l.map (nzT e)).length ≤ _; rw [List.length_map]; exact h.2.1, h.2.2.1, ?_, fun x hx => ?_⟩
   ·show (vss t).size ≤ _
    unfold vss
    split
    ·exact h.1
    ·exact Nat.zero_le _
   ·exact (nz_nf h).2.1
   ·have hx' : x ∈ t.l.map (nzT e) := hx
    obtain ⟨y, hy, rfl⟩ := List.mem_map.1 hx'
    exact nz_sm (h.2.2.2.2 y hy)
theorem sm_uni : ∀ {l : List Vt}, (∀ x ∈ l, ∃ e, SmT e x) → ∃ E, ∀ x ∈ l, SmT E x
 | [], _ => ⟨0, fun x hx => by cases hx⟩
 | t :: l, h => by
   obtain ⟨E, hE⟩ := sm_uni (fun x hx => h x (List.mem_cons_of_mem _ hx))
   obtain ⟨e, he⟩ := h t (List.mem_cons_self ..)
   refine ⟨E + e, fun x hx => ?_⟩
   rcases List.mem_cons.1 hx with rfl | hx
   ·exact he.mono (by omega)
   ·exact (hE x hx).mono (by omega)
theorem RiAt.nz {w : World} {B : Nat} {T : TypeId} {d : Nat} {i : Bool} {v : Value} {l : List Vt} (E : Nat) (h : RiAt w B T d i v l) : RiAt w B T d i v (l.map (nzT E)) := by
 obtain ⟨us, S, ho, ht, hS⟩ := h
 refine ⟨us, S, by rw [List.length_map]; exact ho, fun j x hx => ?_, hS⟩
 rw [List.getElem?_map] at hx
 obtain ⟨y, hy, rfl⟩ := Option.map_eq_some_iff.1 hx
 obtain ⟨u, h1, h2⟩ := ht j y hy
 exact ⟨u, h1, h2.nz E⟩
theorem RiAt.lf {w : World} {B : Nat} {T : TypeId} {d : Nat} {i : Bool} {v : Value} {l : List Vt} (h : RiAt w B T d i v l) : ∀ x ∈ l, LfT d x := fun x hx => by
 obtain ⟨us, S, ho, ht, hS⟩ := h
 obtain ⟨j, hj, rfl⟩ := List.getElem_of_mem hx
 obtain ⟨u, _, h2⟩ := ht j _ (List.getElem?_eq_getElem hj)
 exact h2.lf
theorem RiAt.pl {w : World} {B d : Nat} {T : TypeId} {i : Bool} {ao : Option Addr} {cap : Nat} {l : List Vt} (h : RiAt w B T d i (.slice ao l.length cap) l) : ∃ S, QiAt w S d i (.slice ao l.length cap) l ∧ ∀ b, S b → B ≤ b ∧ Liv w b := by
 obtain ⟨us, S, ho, ht, hS⟩ := h
 rcases ho.2 with ⟨h3, h4⟩ | ⟨g, cp, cur, hv, hB, hg, hn, hcm, hcs, htk⟩
 ·refine ⟨fun _ => False, ⟨ao, cap, rfl, by omega, fun j x hx => ?_⟩, fun b hb => hb.elim⟩
  have := (List.getElem?_eq_some_iff.1 hx).1
  omega
 ·cases hv
  refine ⟨fun b => S b ∨ b = g, ⟨_, _, rfl, hn, fun j x hx => ?_⟩, fun b hb => ?_⟩
  ·obtain ⟨u, h1, h2⟩ := ht j x hx
   have hc := ho.cells (g := g) rfl j u h1
   rw [addr_ad] at hc
   exact ⟨g, 0, u, rfl, .inr rfl, by simpa using hc, h2.step (fun _ g => .inl g) (fun _ _ _ g => g) (Nat.le_refl _)⟩
  ·rcases hb with hb | rfl
   ·exact ⟨(hS b hb).1, (hS b hb).2.1⟩
   ·exact ⟨hB, Liv.of hg⟩
def UwAt (w : World) (lo hi E : Nat) (l : List Vt) (v : Value) : Prop := ∃ S, VsAt w S E l v ∧ ∀ b, S b → lo ≤ b ∧ b < hi
theorem UwAt.keep {w w' : World} {lo hi E : Nat} {l : List Vt} {v : Value} {bs : Nat → Prop} (h : UwAt w lo hi E l v) (o : Only bs w w') (hb : ∀ b, lo ≤ b → b < hi → ¬ bs b) : UwAt w' lo hi E l v := by
 obtain ⟨S, h1, h2⟩ := h
 exact ⟨S, h1.step (fun _ g => g) (fun a u hs hc => o.cell hc (hb _ (h2 _ hs).1 (h2 _ hs).2)) (Nat.le_refl _), h2⟩
theorem pk_trees {w : World} {S : Nat → Prop} {D lo : Nat} {a : Option Addr} {c : Nat} {l : List Vt} (h : QiAt w S D false (.slice a l.length c) l) (hS : ∀ b, S b → lo ≤ b ∧ b < w.heap.size) (hl : l.length ≤ 1048576) (hnf : ∀ x ∈ l, ∃ e, NfT e x) (W : World) (bs : Nat → Prop) (o : Only bs w W) (hb : ∀ b, lo ≤ b → b < w.heap.size → ¬ bs b) :
  Cz 5 #[.slice a l.length c] W fun e w' => ∃ a2 c2, e = .returned (.slice a2 l.length c2) ∧ Hid (UwAt w' W.heap.size w'.heap.size (D + 1) l (.slice a2 l.length c2) ∧ Oz W w') := by
 have := utrees_of D (utrees_any (D + 1) D (by omega)).1 (.slice a l.length c) l W S (h.step (fun _ g => g) (fun p u hp hc => o.cell hc (hb _ (hS _ hp).1 (hS _ hp).2)) (Nat.le_refl _)) hl hnf
 refine this.mono fun e w' g => ?_
 obtain ⟨a2, c2, he, g⟩ := g
 refine ⟨a2, c2, he, ?_, g.out.2⟩
 obtain ⟨S', h1, h2⟩ := g.out.1.tree (t := ⟨0, 0, ⟨#[]⟩, l⟩) rfl
 exact ⟨S', h1, h2⟩
theorem smL_map (f : Vt → Vt → Bool) (g : Vt → Vt) : ∀ l : List Vt, (∀ x ∈ l, f (g x) x = true) → smL f (l.map g) l = true
 | [], _ => rfl
 | t :: l, h => by
   have h1 := h t (List.mem_cons_self ..)
   have h2 := smL_map f g l (fun x hx => h x (List.mem_cons_of_mem _ hx))
   simp only [List.map_cons, smL, h1, h2, Bool.and_true]
theorem saV_nz : ∀ (d e : Nat) (t : Vt), LfT d t → saV d (nzT e t) t = true
 | 0, _, _, h => h.elim
 | d + 1, 0, t, h => saV_self _ _ h
 | d + 1, e + 1, t, h => by
   have h1 : smL (saV d) (t.l.map (nzT e)) t.l = true := smL_map _ _ _ (fun x hx => saV_nz d e x (h.2 x hx))
   have h2 : saL t.k (vnn t) t.n (vss t) t.s = true := by
    unfold saL
    by_cases k1 : t.k = 1 ∨ t.k = 6
    ·rw [if_pos k1]; unfold vnn; rw [if_pos k1]; simp
    rw [if_neg k1]
    by_cases k3 : t.k = 3
    ·rw [if_pos k3]; unfold vnn; rw [if_neg k1, if_pos k3]; cases t.n != 0 <;> rfl
    rw [if_neg k3]
    by_cases k2 : t.k = 2 ∨ t.k = 7
    ·rw [if_pos k2]; unfold vss; rw [if_pos k2]; simp
    ·rw [if_neg k2]
   show (decide (t.k = t.k) && decide ((t.l.map (nzT e)).length = t.l.length) && saL t.k (vnn t) t.n (vss t) t.s && smL (saV d) (t.l.map (nzT e)) t.l) = true
   rw [h1, h2]
   simp
theorem nf_str {e : Nat} {t : Vt} (h : NfT e t) (hk : t.k = 2) : t.n = 0 := by
 cases e with
 | zero => exact h.elim
 | succ e => rw [h.2.2.1]; unfold vnn; rw [if_neg (by omega), if_neg (by omega)]
theorem nf_row {e : Nat} {t : Vt} (h : NfT e t) (hk : t.k = 4 ∨ t.k = 5) : t.n = 0 ∧ t.s = ⟨#[]⟩ := by
 cases e with
 | zero => exact h.elim
 | succ e =>
   refine ⟨?_, ?_⟩
   ·rw [h.2.2.1]; unfold vnn; rw [if_neg (by omega), if_neg (by omega)]
   ·rw [h.2.2.2.1]; unfold vss; rw [if_neg (by omega)]
theorem lf_no {d : Nat} {t : Vt} (h : LfT d t) (hk : ¬ (t.k = 4 ∨ t.k = 5)) : t.l = [] := by
 cases d with
 | zero => exact h.elim
 | succ d => exact h.1 hk
theorem sd_kinds {D : Nat} {z : Vt} (h : sdB D z = true) : z.k = 1 ∨ z.k = 2 ∨ z.k = 3 ∨ z.k = 4 ∨ z.k = 5 ∨ z.k = 6 := by
 cases D with
 | zero => simp [sdB, msB, okV] at h
 | succ d =>
   unfold sdB msB at h
   simp only [Bool.and_eq_true] at h
   have hok := h.1.1
   unfold okV at hok
   by_cases h1 : z.k = 4 ∨ z.k = 5
   ·omega
   ·rw [if_neg h1] at hok
    unfold alB at hok
    by_cases e1 : z.k = 1
    ·omega
    by_cases e2 : z.k = 2
    ·omega
    by_cases e3 : z.k = 3
    ·omega
    by_cases e6 : z.k = 6
    ·omega
    simp [e1, e2, e3, e6] at hok
def DgC (ds : List Int) (m : Int) : Prop := ∀ t : Vt, (t.k = 1 ∨ t.k = 2 ∨ t.k = 3 ∨ t.k = 4 ∨ t.k = 5 ∨ t.k = 6) → ds.any (· == t.k) = fb t m
theorem kd_of (t : Vt) (k : Int) (h : t.k = k) : kd t = if k = 1 then 1 else if k = 2 then 2 else if k = 3 then 4 else if k = 4 then 8 else if k = 5 then 16 else if k = 6 then 32 else 0 := by
 unfold kd; rw [h]
theorem dg_of (ds : List Int) (m : Int) (h1 : ds.any (· == 1) = !(bits BinOp.and IntKind.i64 1 m == 0)) (h2 : ds.any (· == 2) = !(bits BinOp.and IntKind.i64 2 m == 0)) (h3 : ds.any (· == 3) = !(bits BinOp.and IntKind.i64 4 m == 0)) (h4 : ds.any (· == 4) = !(bits BinOp.and IntKind.i64 8 m == 0)) (h5 : ds.any (· == 5) = !(bits BinOp.and IntKind.i64 16 m == 0)) (h6 : ds.any (· == 6) = !(bits BinOp.and IntKind.i64 32 m == 0)) : DgC ds m := fun t ht => by
 unfold fb
 rcases ht with h | h | h | h | h | h <;> rw [kd_of t _ h, h]
 ·exact h1
 ·exact h2
 ·exact h3
 ·exact h4
 ·exact h5
 ·exact h6
theorem dg_1 : DgC [1] 1 := dg_of _ _ (by kernel_rfl) (by kernel_rfl) (by kernel_rfl) (by kernel_rfl) (by kernel_rfl) (by kernel_rfl)
theorem dg_2 : DgC [2] 2 := dg_of _ _ (by kernel_rfl) (by kernel_rfl) (by kernel_rfl) (by kernel_rfl) (by kernel_rfl) (by kernel_rfl)
theorem dg_3 : DgC [3] 4 := dg_of _ _ (by kernel_rfl) (by kernel_rfl) (by kernel_rfl) (by kernel_rfl) (by kernel_rfl) (by kernel_rfl)
theorem dg_4 : DgC [4] 8 := dg_of _ _ (by kernel_rfl) (by kernel_rfl) (by kernel_rfl) (by kernel_rfl) (by kernel_rfl) (by kernel_rfl)
theorem dg_5 : DgC [5] 16 := dg_of _ _ (by kernel_rfl) (by kernel_rfl) (by kernel_rfl) (by kernel_rfl) (by kernel_rfl) (by kernel_rfl)
theorem dg_24 : DgC [2, 4] 10 := dg_of _ _ (by kernel_rfl) (by kernel_rfl) (by kernel_rfl) (by kernel_rfl) (by kernel_rfl) (by kernel_rfl)
theorem dg_245 : DgC [2, 4, 5] 26 := dg_of _ _ (by kernel_rfl) (by kernel_rfl) (by kernel_rfl) (by kernel_rfl) (by kernel_rfl) (by kernel_rfl)
theorem dg_all : DgC [1, 2, 3, 4, 5, 6, 7, 8] 63 := dg_of _ _ (by kernel_rfl) (by kernel_rfl) (by kernel_rfl) (by kernel_rfl) (by kernel_rfl) (by kernel_rfl)
theorem fb_63' {t : Vt} (h : t.k = 1 ∨ t.k = 2 ∨ t.k = 3 ∨ t.k = 4 ∨ t.k = 5 ∨ t.k = 6) : fb t 63 = true := by rw [fb_63]; exact decide_eq_true h
end Go.Proofs.YtenjollhlgjjdaaGreatDoor
