/- ManifestReads: the walk. -/
import Derived.Test.YtfecmpebnianpaaGreatDoorGbb
namespace Go.Proofs.YtfecmpebnianpaaGreatDoor
open Go.RowKit
set_option linter.unusedSimpArgs false
set_option linter.unusedVariables false
theorem gv_rn {w : World} {S : Nat → Prop} {v : Value} {l : List Mf} (h : GvAt 3 RmN w S v l) : GvAt 3 RmP w S v l := by
  obtain ⟨ao, cap, h1, h2, h3⟩ := h
  refine ⟨ao, cap, h1, h2, fun j x hx => ?_⟩
  obtain ⟨g, cs, e1, e2, e3, e4⟩ := h3 j x hx
  exact ⟨g, cs, e1, e2, e3, e4.1⟩
set_option maxRecDepth 100000 in
set_option maxHeartbeats 8000000 in
theorem mreads_walk (s : ByteArray) (w : World) (hE : Evd w) : Calls Tryz.prog 3 #[.string s] w fun e w' => e = .returned (.bool true) ∧ Below w.heap.size w w' := by
  have HA : Hid (Calls Tryz.prog 6 #[] w fun e w' => e = .returned (.bool true) ∧ Only (fun _ => False) w w') := mawake_any w hE
  obtain ⟨ms, hms⟩ : ∃ ms, ms = (mpS s).1 := ⟨_, rfl⟩
  obtain ⟨L, hL⟩ : ∃ L, L = (mpS s).1.length := ⟨_, rfl⟩
  obtain ⟨p, hp⟩ : ∃ p : Int, p = ((mpS s).2.1 : Int) := ⟨_, rfl⟩
  obtain ⟨E, he⟩ : ∃ E : Int, E = ((mpS s).2.2 : Int) := ⟨_, rfl⟩
  have hwf := mpS_wf s
  rw [← hms] at hwf
  have HL : Hid (L = ms.length ∧ ms.length ≤ 65536 ∧ ∀ m ∈ ms, MfW m) := ⟨by rw [hL, hms], hwf⟩
  have HP : Hid (∀ w1, Only (fun _ => False) w w1 → Calls Tryz.prog 7 #[.string s] w1 fun x w' => ∃ ao cap, x = .returned (.tuple #[.slice ao L cap, .int .i64 p, .int .i64 E]) ∧ Hid (GrAt Liv 44 3 McP w' w1.heap.size (.slice ao L cap) ms ∧ Only (fun _ => False) w1 w')) := fun w1 o1 => (mparse_any s w1 (hE.keep o1 (fun g => g) (fun g => g))).mono fun x w' g => by
    unfold MpP at g
    rw [← hms, ← hp, ← he, hms, ← hL] at g
    rw [hms]
    exact g
  have HQ : Hid (∀ w1, Calls Tryz.prog 8 #[.string s] w1 fun x w' => ∃ ao cap, x = .returned (.tuple #[.slice ao L cap, .int .i64 p, .int .i64 E]) ∧ Hid (GrAt Ltb 66 3 RmN w' w1.heap.size (.slice ao L cap) ms ∧ Only (fun _ => False) w1 w')) := fun w1 => (rmparse_any s w1).mono fun x w' g => by
    unfold MqP at g
    rw [← hms, ← hp, ← he, hms, ← hL] at g
    rw [hms]
    exact g
  clear hE hms hL hp he hwf
  go_enter Tryz.func3, Tryz.ntmps3
  go_wp2_with fail
  refine (show Calls Tryz.prog 6 _ _ _ from HA.out).mono ?_
  rintro e w1 ⟨rfl, o1⟩
  have O1 : Hid (Only (fun _ => False) w w1) := o1
  clear HA o1
  go_wp2_with fail
  refine (show Calls Tryz.prog 7 _ _ _ from HP.out _ O1.out).mono ?_
  rintro e w2 ⟨a2, c2, rfl, g2⟩
  have O2 : Hid (Only (fun _ => False) w w2) := O1.out.trans g2.out.2 (fun _ _ g => g)
  clear HP O1
  go_wp2_with fail
  refine (show Calls Tryz.prog 8 _ _ _ from HQ.out _).mono ?_
  rintro e w3 ⟨a3, c3, rfl, g3⟩
  have O3 : Hid (Only (fun _ => False) w w3) := O2.out.trans g3.out.2 (fun _ _ g => g)
  have HOF : Hid (Calls Tryz.prog 10 #[.slice a2 L c2] w3 fun e w' => ∃ a c, e = .returned (.slice a L c) ∧ Hid (GrAt Ltb 66 3 RmP w' w3.heap.size (.slice a L c) ms ∧ Only (fun _ => False) w3 w')) := by
    obtain ⟨S, h1, h2⟩ := (g2.out.1.only bk_liv el_mc g3.out.2 (fun _ _ _ g => g)).read bk_liv el_mc
    obtain ⟨hl, hlb, hw⟩ := HL.out
    rw [hl] at h1 ⊢
    exact of_any h1 (fun b hb => bk_liv.lt (h2 b hb).2) (by omega) (fun m hm => hw m hm)
  have G3 : Hid (GrAt Ltb 66 3 RmN w3 w2.heap.size (.slice a3 L c3) ms) := g3.out.1
  clear HQ O2 g2 g3
  go_wp2_with fail
  refine (show Calls Tryz.prog 10 _ _ _ from HOF.out).mono ?_
  rintro e w4 ⟨a4, c4, rfl, g4⟩
  have O4 : Hid (Only (fun _ => False) w w4) := O3.out.trans g4.out.2 (fun _ _ g => g)
  have HSM : Hid (Calls Tryz.prog 9 #[.slice a4 L c4, .slice a3 L c3] w4 fun e w' => e = .returned (.bool true) ∧ Only (fun _ => False) w4 w') := by
    obtain ⟨S, h1, _⟩ := g4.out.1.read bk_lt el_rm
    obtain ⟨S', h2, _⟩ := (G3.out.only bk_lt el_rn g4.out.2 (fun _ _ _ g => g)).read bk_lt el_rn
    obtain ⟨hl, hlb, hw⟩ := HL.out
    exact samemf_any h1 (gv_rn h2) (by omega) (fun m hm => ⟨(hw m hm).1, (hw m hm).2.1, fun fm hf => ((hw m hm).2.2 fm hf).2.1⟩)
  clear HOF O3 G3 g4 HL
  go_wp2_with fail
  refine (show Calls Tryz.prog 9 _ _ _ from HSM.out).mono ?_
  rintro e w5 ⟨rfl, o5⟩
  have O5 : Hid (Only (fun _ => False) w w5) := O4.out.trans o5 (fun _ _ g => g)
  clear HSM O4 o5
  go_wp2
  go_ret
  exact ⟨by simp, only_below O5.out⟩
end Go.Proofs.YtfecmpebnianpaaGreatDoor
