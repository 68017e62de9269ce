/- LexPlays: the walk. -/
import Derived.Test.YtbijiigobbjlcaaDoorLx43
namespace Go.Proofs.YtbijiigobbjlcaaDoor
open Go.RowKit Go.Lib
set_option linter.unusedSimpArgs false
set_option linter.unusedVariables false
set_option maxRecDepth 100000 in
set_option maxHeartbeats 1000000 in
theorem plays_walk (s t : ByteArray) (hs : s.size ≤ 1048576) (ht : t.size ≤ 1048576) (w : World) (h : Nog w) : Calls Tryd.prog 3 #[.string s, .string t] w fun e w' => e = .returned (.bool true) ∧ Below w.heap.size w w' := by
  have HA : Hid (Calls Tryd.prog 9 #[] w fun e w' => e = .returned (.bool true) ∧ Only (fun _ => False) w w') := awake_any w h
  have HT : Hid (∀ w1, Only (fun _ => False) w w1 → Calls Tryd.prog 10 #[.string s] w1 fun e w' => ∃ v, e = .returned (.tuple #[v, .int .i64 ((tokR s).2.1 : Nat), .int .i64 (tokR s).2.2]) ∧ Hid (ToksAt w' w1.heap.size v (tokR s).1 ∧ Below w1.heap.size w1 w')) := fun w1 o => tokens_any s w1 (h.frame o)
  have HR : Hid (∀ w1, Calls Tryd.prog 11 #[.string s] w1 fun e w' => ∃ v, e = .returned (.tuple #[v, .int .i64 ((tokR s).2.1 : Nat), .int .i64 (tokR s).2.2]) ∧ Hid (ToksAt w' w1.heap.size v (tokR s).1 ∧ Below w1.heap.size w1 w')) := fun w1 => rTokens_any s w1
  have HN : Hid (∀ w1, Only (fun _ => False) w w1 → Calls Tryd.prog 12 #[.string t] w1 fun e w' => e = .returned (.tuple #[.int .i64 (numR t).1, .int .i64 (numR t).2]) ∧ Only (fun _ => False) w1 w') := fun w1 o => number_any t w1 (h.frame o)
  have HRN : Hid (∀ w1, Calls Tryd.prog 13 #[.string t] w1 fun e w' => e = .returned (.tuple #[.int .i64 (numR t).1, .int .i64 (numR t).2]) ∧ Only (fun _ => False) w1 w') := fun w1 => rNumber_any t (by omega) w1
  have HQ : Hid (∀ w1, Calls Tryd.prog 14 #[.string t] w1 fun e w' => e = .returned (.tuple #[.string (quoR t).1, .int .i64 (quoR t).2]) ∧ Hid (Below w1.heap.size w1 w')) := fun w1 => quoted_any t (by omega) w1
  have HRQ : Hid (∀ w1, Calls Tryd.prog 15 #[.string t] w1 fun e w' => e = .returned (.tuple #[.string (quoR t).1, .int .i64 (quoR t).2]) ∧ Only (fun _ => False) w1 w') := fun w1 => rQuoted_any t (by omega) w1
  have HM : Hid (∀ w1, Only (fun _ => False) w w1 → Calls Tryd.prog 17 #[.string t] w1 fun e w' => e = .returned (.bool (nameB t)) ∧ Only (fun _ => False) w1 w') := fun w1 o => name_any t w1 (h.frame o)
  have HRM : Hid (∀ w1, Calls Tryd.prog 18 #[.string t] w1 fun e w' => e = .returned (.bool (nameB t)) ∧ Only (fun _ => False) w1 w') := fun w1 => rName_any t (by omega) w1
  have HL : Hid ((tokR s).1.length ≤ 4096) := tokR_len s
  obtain ⟨⟨l, i, e⟩, hr⟩ : ∃ r, r = tokR s := ⟨_, rfl⟩
  rw [← hr] at HT HR HL
  dsimp only at HT HR HL
  obtain ⟨n1, hn1⟩ : ∃ x, x = (numR t).1 := ⟨_, rfl⟩
  obtain ⟨n2, hn2⟩ : ∃ x, x = (numR t).2 := ⟨_, rfl⟩
  rw [← hn1, ← hn2] at HN HRN
  obtain ⟨q1, hq1⟩ : ∃ x, x = (quoR t).1 := ⟨_, rfl⟩
  obtain ⟨q2, hq2⟩ : ∃ x, x = (quoR t).2 := ⟨_, rfl⟩
  rw [← hq1, ← hq2] at HQ HRQ
  obtain ⟨b, hb⟩ : ∃ x, x = nameB t := ⟨_, rfl⟩
  rw [← hb] at HM HRM
  clear hr hn1 hn2 hq1 hq2 hb h hs ht
  go_enter Tryd.func3, Tryd.ntmps3
  go_wp2_with fail
  refine (show Calls Tryd.prog 9 _ _ _ from HA.out).mono ?_
  rintro ea w1 ⟨rfl, o1⟩
  have O1 : Hid (Only (fun _ => False) w w1) := o1
  clear HA o1
  go_wp2_with fail
  refine (show Calls Tryd.prog 10 _ _ _ from HT.out _ O1.out).mono ?_
  rintro eb w2 ⟨v1, rfl, g1⟩
  have O2 : Hid (Only (fun _ => False) w w2) := O1.out.trans (below_only g1.out.2) (fun _ _ x => x)
  have A2 : Hid (RdT w2 v1 l) := rdt_toks g1.out.1
  obtain ⟨ao1, cap1, rfl⟩ := g1.out.1.1
  clear HT O1 g1
  go_wp2_with fail
  refine (show Calls Tryd.prog 11 _ _ _ from HR.out _).mono ?_
  rintro ec w3 ⟨v2, rfl, g2⟩
  have O3 : Hid (Only (fun _ => False) w w3) := O2.out.trans (below_only g2.out.2) (fun _ _ x => x)
  have A3 : Hid (RdT w3 (.slice ao1 l.length cap1) l) := A2.out.only (below_only g2.out.2)
  have B3 : Hid (RdT w3 v2 l) := rdt_toks g2.out.1
  obtain ⟨ao2, cap2, rfl⟩ := g2.out.1.1
  clear HR O2 A2 g2
  go_wp2_with fail
  refine (show Calls Tryd.prog 12 _ _ _ from HN.out _ O3.out).mono ?_
  rintro ed w4 ⟨rfl, o4⟩
  have O4 : Hid (Only (fun _ => False) w3 w4) := o4
  clear HN o4
  go_wp2_with fail
  refine (show Calls Tryd.prog 13 _ _ _ from HRN.out _).mono ?_
  rintro ee w5 ⟨rfl, o5⟩
  have O5 : Hid (Only (fun _ => False) w3 w5) := O4.out.trans o5 (fun _ _ x => x)
  clear HRN o5 O4
  go_wp2_with fail
  refine (show Calls Tryd.prog 14 _ _ _ from HQ.out _).mono ?_
  rintro ef w6 ⟨rfl, o6⟩
  have O6 : Hid (Only (fun _ => False) w3 w6) := O5.out.trans (below_only o6.out) (fun _ _ x => x)
  clear HQ o6 O5
  go_wp2_with fail
  refine (show Calls Tryd.prog 15 _ _ _ from HRQ.out _).mono ?_
  rintro eg w7 ⟨rfl, o7⟩
  have O7 : Hid (Only (fun _ => False) w3 w7) := O6.out.trans o7 (fun _ _ x => x)
  clear HRQ o7 O6
  have HS : Hid (Calls Tryd.prog 16 #[.slice ao1 l.length cap1, .slice ao2 l.length cap2] w7 fun e w' => e = .returned (.bool true) ∧ Only (fun _ => False) w7 w') := same_any l HL.out _ _ w7 (A3.out.only O7.out) (B3.out.only O7.out)
  have P7 : Hid (Only (fun _ => False) w w7) := O3.out.trans O7.out (fun _ _ x => x)
  clear A3 B3 O3 O7
  go_wp2_with fail
  refine (show Calls Tryd.prog 16 _ _ _ from HS.out).mono ?_
  rintro eh w8 ⟨rfl, o8⟩
  have P8 : Hid (Only (fun _ => False) w w8) := P7.out.trans o8 (fun _ _ x => x)
  clear HS o8 P7
  go_wp2_with fail
  refine (show Calls Tryd.prog 17 _ _ _ from HM.out _ P8.out).mono ?_
  rintro ei w9 ⟨rfl, o9⟩
  have P9 : Hid (Only (fun _ => False) w w9) := P8.out.trans o9 (fun _ _ x => x)
  clear HM o9 P8
  go_wp2_with fail
  refine (show Calls Tryd.prog 18 _ _ _ from HRM.out _).mono ?_
  rintro ej wA ⟨rfl, oA⟩
  have PA : Hid (Only (fun _ => False) w wA) := P9.out.trans oA (fun _ _ x => x)
  clear HRM oA P9
  go_wp2
  go_ret
  exact ⟨rfl, only_below PA.out⟩
end Go.Proofs.YtbijiigobbjlcaaDoor
