/- A word that reckons. A word that reckons. Words that compare numbers, and those that ask for a kind. Equality of values as a word. Two of one kind, joined. joined: two of one kind. append and compose. curry. -/
import Derived.Test.YtioffjdjnlibgaaGreatDoorGaq
import Derived.Deep.RegionHeld3
import Derived.Test.YtioffjdjnlibgaaGreatDoorGao
import Derived.Test.YtioffjdjnlibgaaGreatDoorGap
import Derived.Test.YtioffjdjnlibgaaGreatDoorGag
namespace Go.Proofs.YtioffjdjnlibgaaGreatDoor
open Go.RowKit Go.Lib
set_option linter.unusedSimpArgs false
set_option linter.unusedVariables false
set_option maxRecDepth 100000 in
set_option maxHeartbeats 4000000 in
theorem md_neg : MdC ⟨#[110, 101, 103]⟩ [1] (fun _ l => nmR (ngK) (l.getD 0 zT).n (l.getD 0 zT).n) := by
  intro d l G q w S hl hS hlen hsm hsd hf hT
  have hb : ∀ n m, cfit n = true → cfit m = true → -9223372036854775808 ≤ (ngK n n).1 ∧ (ngK n n).1 ≤ 9223372036854775807 := fun n m _ _ => ng_b n m
  obtain ⟨x, rfl, hk⟩ := fit1 hlen hf
  obtain ⟨g, k, u, ha, hg, hc, ht⟩ := hl 0 x rfl
  cases ha
  have hu := ti_1 ht (fb_1 hk)
  subst hu
  have hsd' : sdB d x = true := by simpa using hsd
  have f1 := sd_fit hsd' (fb_1 hk)
  show Calls Tryz.prog 28 #[_, .slice (some ⟨G, q, none⟩) 1 1] w fun e w' => MdP (nmR (ngK) x.n x.n) (d + 2) w e w'
  obtain ⟨n, hn⟩ : ∃ n, n = x.n := ⟨_, rfl⟩
  have HC : Hid (∀ W, Only (fun _ => False) w W → W.cell? ⟨G, q, none⟩ = some (.iface 27 (.agg #[.int .i64 n]))) := fun W o => o.cell (by rw [hn]; exact hc) (fun g => g)
  rw [← hn] at f1
  rw [← hn]
  have HN1 : Hid (∀ W, Calls Tryz.prog 37 #[.iface 27 (.agg #[.int .i64 n])] W fun e w' => e = .returned (.int .i64 n) ∧ w' = W) := g_number n
  have HR : Hid (∀ W, Calls Tryz.prog 36 #[.string ⟨#[110, 101, 103]⟩, .int .i64 n, .int .i64 n] W fun e w' => e = .returned (.tuple #[.int .i64 (ngK n n).1, .int .i64 (ngK n n).2]) ∧ w' = W) := fun W => rk_neg n n W f1 f1
  have hbb := hb n n f1 f1
  obtain ⟨r1, hr1⟩ : ∃ r, r = (ngK n n).1 := ⟨_, rfl⟩
  obtain ⟨r2, hr2⟩ : ∃ r, r = (ngK n n).2 := ⟨_, rfl⟩
  unfold nmR
  rw [← hr1, ← hr2] at HR ⊢
  rw [← hr1] at hbb
  have HP : Hid (∀ w', Only (fun _ => False) w w' → MdP (if r2 = 0 then .ok (inT r1) else .error r2) (d + 2) w (.returned (.tuple #[.iface 27 (.agg #[.int .i64 r1]), .int .i64 r2])) w') := fun w' o => by
    by_cases h0 : r2 = 0
    · rw [if_pos h0, h0]
      exact ⟨_, rfl, ⟨fun _ => False, in_ti w' _ (d + 1) r1, fun _ g => g.elim⟩, in_sm hbb, o⟩
    · rw [if_neg h0]
      exact ⟨_, rfl, .inr ⟨_, _, rfl⟩, by simpa using h0, o⟩
  have O0 : Hid (Only (fun _ => False) w w) := Only.refl _ _
  have c0 := HC.out w (Only.refl _ _)
  obtain ⟨Y, hY⟩ : ∃ Y : Except Int Vt, Y = if r2 = 0 then .ok (inT r1) else .error r2 := ⟨_, rfl⟩
  rw [← hY] at HP ⊢
  clear hl hS hlen hsm hsd hf hT hk hg hc ht hsd' f1 hb hbb hr1 hr2 hn hY
  have e21 : IntKind.i64.wrap ((1 : Int) - 1) = 0 := by decide
  have e22 : (0 : Int) ≤ 0 := by omega
  have e23 : (0 : Int) < 1 := by omega
  have e26 : IntKind.i64.wrap (1 : Int) = 1 := by decide
  have e27 : IntKind.i64.wrap (-1 + 2 : Int) = 1 := by decide
  have e28 : IntKind.i64.wrap (2 + -1 : Int) = 1 := by decide
  have e29 : IntKind.i64.wrap (0 : Int) = 0 := by decide
  go_enter Tryz.func28, Tryz.ntmps28
  go_wp2
  go_region_held3 (fun W => W.cell? ⟨G, q, none⟩ = some (.iface 27 (.agg #[.int .i64 n])))
    (first | with_reducible exact HC.out _ O0.out | with_reducible exact HC.out _ O0.out.drew | with_reducible exact HC.out _ O0.out.drew.drew)
    (first
      | (go_at_call 36; refine (show Calls Tryz.prog 36 _ _ _ from HR.out _).mono ?_; rintro ex w4 ⟨rfl, rfl⟩)
      | (go_at_call 37; refine (show Calls Tryz.prog 37 _ _ _ from HN1.out _).mono ?_; rintro ex w4 ⟨rfl, rfl⟩))
  all_goals
    go_wp2
    go_ret2
    refine HP.out _ ?_
    repeat (first | exact O0.out | refine Only.drew ?_)
end Go.Proofs.YtioffjdjnlibgaaGreatDoor
namespace Go.Proofs.YtioffjdjnlibgaaGreatDoor
open Go.RowKit Go.Lib
set_option linter.unusedSimpArgs false
set_option linter.unusedVariables false
set_option maxRecDepth 100000 in
set_option maxHeartbeats 4000000 in
theorem md_abs : MdC ⟨#[97, 98, 115]⟩ [1] (fun _ l => nmR (abK) (l.getD 0 zT).n (l.getD 0 zT).n) := by
  intro d l G q w S hl hS hlen hsm hsd hf hT
  have hb : ∀ n m, cfit n = true → cfit m = true → -9223372036854775808 ≤ (abK n n).1 ∧ (abK n n).1 ≤ 9223372036854775807 := fun n m h _ => ab_b n m h
  obtain ⟨x, rfl, hk⟩ := fit1 hlen hf
  obtain ⟨g, k, u, ha, hg, hc, ht⟩ := hl 0 x rfl
  cases ha
  have hu := ti_1 ht (fb_1 hk)
  subst hu
  have hsd' : sdB d x = true := by simpa using hsd
  have f1 := sd_fit hsd' (fb_1 hk)
  show Calls Tryz.prog 28 #[_, .slice (some ⟨G, q, none⟩) 1 1] w fun e w' => MdP (nmR (abK) x.n x.n) (d + 2) w e w'
  obtain ⟨n, hn⟩ : ∃ n, n = x.n := ⟨_, rfl⟩
  have HC : Hid (∀ W, Only (fun _ => False) w W → W.cell? ⟨G, q, none⟩ = some (.iface 27 (.agg #[.int .i64 n]))) := fun W o => o.cell (by rw [hn]; exact hc) (fun g => g)
  rw [← hn] at f1
  rw [← hn]
  have HN1 : Hid (∀ W, Calls Tryz.prog 37 #[.iface 27 (.agg #[.int .i64 n])] W fun e w' => e = .returned (.int .i64 n) ∧ w' = W) := g_number n
  have HR : Hid (∀ W, Calls Tryz.prog 36 #[.string ⟨#[97, 98, 115]⟩, .int .i64 n, .int .i64 n] W fun e w' => e = .returned (.tuple #[.int .i64 (abK n n).1, .int .i64 (abK n n).2]) ∧ w' = W) := fun W => rk_abs n n W f1 f1
  have hbb := hb n n f1 f1
  obtain ⟨r1, hr1⟩ : ∃ r, r = (abK n n).1 := ⟨_, rfl⟩
  obtain ⟨r2, hr2⟩ : ∃ r, r = (abK n n).2 := ⟨_, rfl⟩
  unfold nmR
  rw [← hr1, ← hr2] at HR ⊢
  rw [← hr1] at hbb
  have HP : Hid (∀ w', Only (fun _ => False) w w' → MdP (if r2 = 0 then .ok (inT r1) else .error r2) (d + 2) w (.returned (.tuple #[.iface 27 (.agg #[.int .i64 r1]), .int .i64 r2])) w') := fun w' o => by
    by_cases h0 : r2 = 0
    · rw [if_pos h0, h0]
      exact ⟨_, rfl, ⟨fun _ => False, in_ti w' _ (d + 1) r1, fun _ g => g.elim⟩, in_sm hbb, o⟩
    · rw [if_neg h0]
      exact ⟨_, rfl, .inr ⟨_, _, rfl⟩, by simpa using h0, o⟩
  have O0 : Hid (Only (fun _ => False) w w) := Only.refl _ _
  have c0 := HC.out w (Only.refl _ _)
  obtain ⟨Y, hY⟩ : ∃ Y : Except Int Vt, Y = if r2 = 0 then .ok (inT r1) else .error r2 := ⟨_, rfl⟩
  rw [← hY] at HP ⊢
  clear hl hS hlen hsm hsd hf hT hk hg hc ht hsd' f1 hb hbb hr1 hr2 hn hY
  have e21 : IntKind.i64.wrap ((1 : Int) - 1) = 0 := by decide
  have e22 : (0 : Int) ≤ 0 := by omega
  have e23 : (0 : Int) < 1 := by omega
  have e26 : IntKind.i64.wrap (1 : Int) = 1 := by decide
  have e27 : IntKind.i64.wrap (-1 + 2 : Int) = 1 := by decide
  have e28 : IntKind.i64.wrap (2 + -1 : Int) = 1 := by decide
  have e29 : IntKind.i64.wrap (0 : Int) = 0 := by decide
  go_enter Tryz.func28, Tryz.ntmps28
  go_wp2
  go_region_held3 (fun W => W.cell? ⟨G, q, none⟩ = some (.iface 27 (.agg #[.int .i64 n])))
    (first | with_reducible exact HC.out _ O0.out | with_reducible exact HC.out _ O0.out.drew | with_reducible exact HC.out _ O0.out.drew.drew)
    (first
      | (go_at_call 36; refine (show Calls Tryz.prog 36 _ _ _ from HR.out _).mono ?_; rintro ex w4 ⟨rfl, rfl⟩)
      | (go_at_call 37; refine (show Calls Tryz.prog 37 _ _ _ from HN1.out _).mono ?_; rintro ex w4 ⟨rfl, rfl⟩))
  all_goals
    go_wp2
    go_ret2
    refine HP.out _ ?_
    repeat (first | exact O0.out | refine Only.drew ?_)
end Go.Proofs.YtioffjdjnlibgaaGreatDoor
namespace Go.Proofs.YtioffjdjnlibgaaGreatDoor
open Go.RowKit Go.Lib
set_option linter.unusedSimpArgs false
set_option linter.unusedVariables false
set_option maxRecDepth 100000 in
set_option maxHeartbeats 4000000 in
theorem ho_lt : HoC ⟨#[60]⟩ [1, 1] (fun l => decide ((l.getD 0 zT).n < (l.getD 1 zT).n)) := by
  intro d l G q w S hl hS hlen hsm hsd hf hT
  obtain ⟨x, y, rfl, hk, hk2⟩ := fit2 hlen hf
  obtain ⟨g, k, u, ha, hg, hc, ht⟩ := hl 0 x rfl
  cases ha
  obtain ⟨g2, k2, u2, ha2, hg2, hc2, ht2⟩ := hl 1 y rfl
  cases ha2
  have hu := ti_1 ht (fb_1 hk)
  subst hu
  have hu2 := ti_1 ht2 (fb_1 hk2)
  subst hu2
  show Calls Tryz.prog 38 #[_, .slice (some ⟨G, q, none⟩) 2 2] w fun e w' => e = .returned (.bool (decide (x.n < y.n))) ∧ _
  obtain ⟨n, hn⟩ : ∃ n, n = x.n := ⟨_, rfl⟩
  obtain ⟨m, hm⟩ : ∃ m, m = y.n := ⟨_, rfl⟩
  have HC : Hid (∀ W, Only (fun _ => False) w W → W.cell? ⟨G, q, none⟩ = some (.iface 27 (.agg #[.int .i64 n])) ∧ W.cell? ⟨G, q + 1, none⟩ = some (.iface 27 (.agg #[.int .i64 m]))) := fun W o => ⟨o.cell (by rw [hn]; exact hc) (fun g => g), o.cell (by rw [hm]; exact hc2) (fun g => g)⟩
  rw [← hn, ← hm]
  have HN1 : Hid (∀ W, Calls Tryz.prog 37 #[.iface 27 (.agg #[.int .i64 n])] W fun e w' => e = .returned (.int .i64 n) ∧ w' = W) := g_number n
  have HN2 : Hid (∀ W, Calls Tryz.prog 37 #[.iface 27 (.agg #[.int .i64 m])] W fun e w' => e = .returned (.int .i64 m) ∧ w' = W) := g_number m
  have O0 : Hid (Only (fun _ => False) w w) := Only.refl _ _
  obtain ⟨c0, c1⟩ := HC.out w (Only.refl _ _)
  clear hl hS hlen hsm hsd hf hT hk hg hc ht hk2 hg2 hc2 ht2 hn hm
  go_enter Tryz.func38, Tryz.ntmps38
  go_wp2
  go_region_held3 (fun W => W.cell? ⟨G, q, none⟩ = some (.iface 27 (.agg #[.int .i64 n])) ∧ W.cell? ⟨G, q + 1, none⟩ = some (.iface 27 (.agg #[.int .i64 m])))
    (first | with_reducible exact HC.out _ O0.out | with_reducible exact HC.out _ O0.out.drew | with_reducible exact HC.out _ O0.out.drew.drew)
    (first
      | (go_at_call 37; refine (show Calls Tryz.prog 37 _ _ _ from HN1.out _).mono ?_; rintro ex w4 ⟨rfl, rfl⟩)
      | (go_at_call 37; refine (show Calls Tryz.prog 37 _ _ _ from HN2.out _).mono ?_; rintro ex w4 ⟨rfl, rfl⟩))
  all_goals
    go_wp2
    go_ret
    refine ⟨rfl, ?_⟩
    repeat (first | exact O0.out | refine Only.drew ?_)
set_option maxRecDepth 100000 in
set_option maxHeartbeats 4000000 in
theorem ho_gt : HoC ⟨#[62]⟩ [1, 1] (fun l => decide ((l.getD 0 zT).n > (l.getD 1 zT).n)) := by
  intro d l G q w S hl hS hlen hsm hsd hf hT
  obtain ⟨x, y, rfl, hk, hk2⟩ := fit2 hlen hf
  obtain ⟨g, k, u, ha, hg, hc, ht⟩ := hl 0 x rfl
  cases ha
  obtain ⟨g2, k2, u2, ha2, hg2, hc2, ht2⟩ := hl 1 y rfl
  cases ha2
  have hu := ti_1 ht (fb_1 hk)
  subst hu
  have hu2 := ti_1 ht2 (fb_1 hk2)
  subst hu2
  show Calls Tryz.prog 38 #[_, .slice (some ⟨G, q, none⟩) 2 2] w fun e w' => e = .returned (.bool (decide (x.n > y.n))) ∧ _
  obtain ⟨n, hn⟩ : ∃ n, n = x.n := ⟨_, rfl⟩
  obtain ⟨m, hm⟩ : ∃ m, m = y.n := ⟨_, rfl⟩
  have HC : Hid (∀ W, Only (fun _ => False) w W → W.cell? ⟨G, q, none⟩ = some (.iface 27 (.agg #[.int .i64 n])) ∧ W.cell? ⟨G, q + 1, none⟩ = some (.iface 27 (.agg #[.int .i64 m]))) := fun W o => ⟨o.cell (by rw [hn]; exact hc) (fun g => g), o.cell (by rw [hm]; exact hc2) (fun g => g)⟩
  rw [← hn, ← hm]
  have HN1 : Hid (∀ W, Calls Tryz.prog 37 #[.iface 27 (.agg #[.int .i64 n])] W fun e w' => e = .returned (.int .i64 n) ∧ w' = W) := g_number n
  have HN2 : Hid (∀ W, Calls Tryz.prog 37 #[.iface 27 (.agg #[.int .i64 m])] W fun e w' => e = .returned (.int .i64 m) ∧ w' = W) := g_number m
  have O0 : Hid (Only (fun _ => False) w w) := Only.refl _ _
  obtain ⟨c0, c1⟩ := HC.out w (Only.refl _ _)
  clear hl hS hlen hsm hsd hf hT hk hg hc ht hk2 hg2 hc2 ht2 hn hm
  go_enter Tryz.func38, Tryz.ntmps38
  go_wp2
  go_region_held3 (fun W => W.cell? ⟨G, q, none⟩ = some (.iface 27 (.agg #[.int .i64 n])) ∧ W.cell? ⟨G, q + 1, none⟩ = some (.iface 27 (.agg #[.int .i64 m])))
    (first | with_reducible exact HC.out _ O0.out | with_reducible exact HC.out _ O0.out.drew | with_reducible exact HC.out _ O0.out.drew.drew)
    (first
      | (go_at_call 37; refine (show Calls Tryz.prog 37 _ _ _ from HN1.out _).mono ?_; rintro ex w4 ⟨rfl, rfl⟩)
      | (go_at_call 37; refine (show Calls Tryz.prog 37 _ _ _ from HN2.out _).mono ?_; rintro ex w4 ⟨rfl, rfl⟩))
  all_goals
    go_wp2
    go_ret
    refine ⟨rfl, ?_⟩
    repeat (first | exact O0.out | refine Only.drew ?_)
set_option maxRecDepth 100000 in
theorem asked_int (w : World) : Calls Tryz.prog 56 #[.string ⟨#[105, 110, 116, 63]⟩] w fun e w' => e = .returned (.int .i64 1) ∧ w' = w := by
  go_enter Tryz.func56, Tryz.ntmps56
  go_wp2
  go_ret
  exact ⟨rfl, rfl⟩
set_option maxRecDepth 100000 in
theorem ho_intQ : HoC ⟨#[105, 110, 116, 63]⟩ [63] (fun l => kd (l.getD 0 zT) == 1) := by
  intro d l G q w S hl hS hlen hsm hsd hf hT
  obtain ⟨x, rfl, hk⟩ := fit1 hlen hf
  obtain ⟨g, k, u, ha, hg, hc, ht⟩ := hl 0 x rfl
  cases ha
  have HK : Hid _ := kind_any ht w
  have HA : Hid _ := asked_int w
  have hsh := ht.shape2
  show Calls Tryz.prog 38 #[_, .slice (some ⟨G, q, none⟩) 1 1] w fun e w' => e = .returned (.bool (kd x == 1)) ∧ _
  have hc0 : w.cell? ⟨G, q, none⟩ = some u := hc
  obtain ⟨y, hy⟩ : ∃ y, y = kd x := ⟨_, rfl⟩
  rw [← hy] at HK ⊢
  have O0 : Hid (Only (fun _ => False) w w) := Only.refl _ _
  clear hl hS hlen hsm hsd hf hT hk hg hc ht hy
  rcases hsh with rfl | ⟨T, z, rfl⟩
  all_goals
    go_enter Tryz.func38, Tryz.ntmps38
    go_wp2_with fail
    refine (show Calls Tryz.prog 23 _ _ _ from HK.out).mono ?_
    rintro e w1 ⟨rfl, hw1⟩
    obtain rfl := hw1.symm
    go_wp2_with fail
    refine (show Calls Tryz.prog 56 _ _ _ from HA.out).mono ?_
    rintro e w1 ⟨rfl, hw1⟩
    obtain rfl := hw1.symm
    go_wp2
    go_ret
    exact ⟨rfl, O0.out⟩
set_option maxRecDepth 100000 in
theorem asked_str (w : World) : Calls Tryz.prog 56 #[.string ⟨#[115, 116, 114, 63]⟩] w fun e w' => e = .returned (.int .i64 2) ∧ w' = w := by
  go_enter Tryz.func56, Tryz.ntmps56
  go_wp2
  go_ret
  exact ⟨rfl, rfl⟩
set_option maxRecDepth 100000 in
theorem ho_strQ : HoC ⟨#[115, 116, 114, 63]⟩ [63] (fun l => kd (l.getD 0 zT) == 2) := by
  intro d l G q w S hl hS hlen hsm hsd hf hT
  obtain ⟨x, rfl, hk⟩ := fit1 hlen hf
  obtain ⟨g, k, u, ha, hg, hc, ht⟩ := hl 0 x rfl
  cases ha
  have HK : Hid _ := kind_any ht w
  have HA : Hid _ := asked_str w
  have hsh := ht.shape2
  show Calls Tryz.prog 38 #[_, .slice (some ⟨G, q, none⟩) 1 1] w fun e w' => e = .returned (.bool (kd x == 2)) ∧ _
  have hc0 : w.cell? ⟨G, q, none⟩ = some u := hc
  obtain ⟨y, hy⟩ : ∃ y, y = kd x := ⟨_, rfl⟩
  rw [← hy] at HK ⊢
  have O0 : Hid (Only (fun _ => False) w w) := Only.refl _ _
  clear hl hS hlen hsm hsd hf hT hk hg hc ht hy
  rcases hsh with rfl | ⟨T, z, rfl⟩
  all_goals
    go_enter Tryz.func38, Tryz.ntmps38
    go_wp2_with fail
    refine (show Calls Tryz.prog 23 _ _ _ from HK.out).mono ?_
    rintro e w1 ⟨rfl, hw1⟩
    obtain rfl := hw1.symm
    go_wp2_with fail
    refine (show Calls Tryz.prog 56 _ _ _ from HA.out).mono ?_
    rintro e w1 ⟨rfl, hw1⟩
    obtain rfl := hw1.symm
    go_wp2
    go_ret
    exact ⟨rfl, O0.out⟩
set_option maxRecDepth 100000 in
theorem asked_bool (w : World) : Calls Tryz.prog 56 #[.string ⟨#[98, 111, 111, 108, 63]⟩] w fun e w' => e = .returned (.int .i64 4) ∧ w' = w := by
  go_enter Tryz.func56, Tryz.ntmps56
  go_wp2
  go_ret
  exact ⟨rfl, rfl⟩
set_option maxRecDepth 100000 in
theorem ho_boolQ : HoC ⟨#[98, 111, 111, 108, 63]⟩ [63] (fun l => kd (l.getD 0 zT) == 4) := by
  intro d l G q w S hl hS hlen hsm hsd hf hT
  obtain ⟨x, rfl, hk⟩ := fit1 hlen hf
  obtain ⟨g, k, u, ha, hg, hc, ht⟩ := hl 0 x rfl
  cases ha
  have HK : Hid _ := kind_any ht w
  have HA : Hid _ := asked_bool w
  have hsh := ht.shape2
  show Calls Tryz.prog 38 #[_, .slice (some ⟨G, q, none⟩) 1 1] w fun e w' => e = .returned (.bool (kd x == 4)) ∧ _
  have hc0 : w.cell? ⟨G, q, none⟩ = some u := hc
  obtain ⟨y, hy⟩ : ∃ y, y = kd x := ⟨_, rfl⟩
  rw [← hy] at HK ⊢
  have O0 : Hid (Only (fun _ => False) w w) := Only.refl _ _
  clear hl hS hlen hsm hsd hf hT hk hg hc ht hy
  rcases hsh with rfl | ⟨T, z, rfl⟩
  all_goals
    go_enter Tryz.func38, Tryz.ntmps38
    go_wp2_with fail
    refine (show Calls Tryz.prog 23 _ _ _ from HK.out).mono ?_
    rintro e w1 ⟨rfl, hw1⟩
    obtain rfl := hw1.symm
    go_wp2_with fail
    refine (show Calls Tryz.prog 56 _ _ _ from HA.out).mono ?_
    rintro e w1 ⟨rfl, hw1⟩
    obtain rfl := hw1.symm
    go_wp2
    go_ret
    exact ⟨rfl, O0.out⟩
set_option maxRecDepth 100000 in
theorem asked_list (w : World) : Calls Tryz.prog 56 #[.string ⟨#[108, 105, 115, 116, 63]⟩] w fun e w' => e = .returned (.int .i64 8) ∧ w' = w := by
  go_enter Tryz.func56, Tryz.ntmps56
  go_wp2
  go_ret
  exact ⟨rfl, rfl⟩
set_option maxRecDepth 100000 in
theorem ho_listQ : HoC ⟨#[108, 105, 115, 116, 63]⟩ [63] (fun l => kd (l.getD 0 zT) == 8) := by
  intro d l G q w S hl hS hlen hsm hsd hf hT
  obtain ⟨x, rfl, hk⟩ := fit1 hlen hf
  obtain ⟨g, k, u, ha, hg, hc, ht⟩ := hl 0 x rfl
  cases ha
  have HK : Hid _ := kind_any ht w
  have HA : Hid _ := asked_list w
  have hsh := ht.shape2
  show Calls Tryz.prog 38 #[_, .slice (some ⟨G, q, none⟩) 1 1] w fun e w' => e = .returned (.bool (kd x == 8)) ∧ _
  have hc0 : w.cell? ⟨G, q, none⟩ = some u := hc
  obtain ⟨y, hy⟩ : ∃ y, y = kd x := ⟨_, rfl⟩
  rw [← hy] at HK ⊢
  have O0 : Hid (Only (fun _ => False) w w) := Only.refl _ _
  clear hl hS hlen hsm hsd hf hT hk hg hc ht hy
  rcases hsh with rfl | ⟨T, z, rfl⟩
  all_goals
    go_enter Tryz.func38, Tryz.ntmps38
    go_wp2_with fail
    refine (show Calls Tryz.prog 23 _ _ _ from HK.out).mono ?_
    rintro e w1 ⟨rfl, hw1⟩
    obtain rfl := hw1.symm
    go_wp2_with fail
    refine (show Calls Tryz.prog 56 _ _ _ from HA.out).mono ?_
    rintro e w1 ⟨rfl, hw1⟩
    obtain rfl := hw1.symm
    go_wp2
    go_ret
    exact ⟨rfl, O0.out⟩
set_option maxRecDepth 100000 in
theorem asked_quot (w : World) : Calls Tryz.prog 56 #[.string ⟨#[113, 117, 111, 116, 63]⟩] w fun e w' => e = .returned (.int .i64 16) ∧ w' = w := by
  go_enter Tryz.func56, Tryz.ntmps56
  go_wp2
  go_ret
  exact ⟨rfl, rfl⟩
set_option maxRecDepth 100000 in
theorem ho_quotQ : HoC ⟨#[113, 117, 111, 116, 63]⟩ [63] (fun l => kd (l.getD 0 zT) == 16) := by
  intro d l G q w S hl hS hlen hsm hsd hf hT
  obtain ⟨x, rfl, hk⟩ := fit1 hlen hf
  obtain ⟨g, k, u, ha, hg, hc, ht⟩ := hl 0 x rfl
  cases ha
  have HK : Hid _ := kind_any ht w
  have HA : Hid _ := asked_quot w
  have hsh := ht.shape2
  show Calls Tryz.prog 38 #[_, .slice (some ⟨G, q, none⟩) 1 1] w fun e w' => e = .returned (.bool (kd x == 16)) ∧ _
  have hc0 : w.cell? ⟨G, q, none⟩ = some u := hc
  obtain ⟨y, hy⟩ : ∃ y, y = kd x := ⟨_, rfl⟩
  rw [← hy] at HK ⊢
  have O0 : Hid (Only (fun _ => False) w w) := Only.refl _ _
  clear hl hS hlen hsm hsd hf hT hk hg hc ht hy
  rcases hsh with rfl | ⟨T, z, rfl⟩
  all_goals
    go_enter Tryz.func38, Tryz.ntmps38
    go_wp2_with fail
    refine (show Calls Tryz.prog 23 _ _ _ from HK.out).mono ?_
    rintro e w1 ⟨rfl, hw1⟩
    obtain rfl := hw1.symm
    go_wp2_with fail
    refine (show Calls Tryz.prog 56 _ _ _ from HA.out).mono ?_
    rintro e w1 ⟨rfl, hw1⟩
    obtain rfl := hw1.symm
    go_wp2
    go_ret
    exact ⟨rfl, O0.out⟩
set_option maxRecDepth 100000 in
theorem asked_box (w : World) : Calls Tryz.prog 56 #[.string ⟨#[98, 111, 120, 63]⟩] w fun e w' => e = .returned (.int .i64 32) ∧ w' = w := by
  go_enter Tryz.func56, Tryz.ntmps56
  go_wp2
  go_ret
  exact ⟨rfl, rfl⟩
set_option maxRecDepth 100000 in
theorem ho_boxQ : HoC ⟨#[98, 111, 120, 63]⟩ [63] (fun l => kd (l.getD 0 zT) == 32) := by
  intro d l G q w S hl hS hlen hsm hsd hf hT
  obtain ⟨x, rfl, hk⟩ := fit1 hlen hf
  obtain ⟨g, k, u, ha, hg, hc, ht⟩ := hl 0 x rfl
  cases ha
  have HK : Hid _ := kind_any ht w
  have HA : Hid _ := asked_box w
  have hsh := ht.shape2
  show Calls Tryz.prog 38 #[_, .slice (some ⟨G, q, none⟩) 1 1] w fun e w' => e = .returned (.bool (kd x == 32)) ∧ _
  have hc0 : w.cell? ⟨G, q, none⟩ = some u := hc
  obtain ⟨y, hy⟩ : ∃ y, y = kd x := ⟨_, rfl⟩
  rw [← hy] at HK ⊢
  have O0 : Hid (Only (fun _ => False) w w) := Only.refl _ _
  clear hl hS hlen hsm hsd hf hT hk hg hc ht hy
  rcases hsh with rfl | ⟨T, z, rfl⟩
  all_goals
    go_enter Tryz.func38, Tryz.ntmps38
    go_wp2_with fail
    refine (show Calls Tryz.prog 23 _ _ _ from HK.out).mono ?_
    rintro e w1 ⟨rfl, hw1⟩
    obtain rfl := hw1.symm
    go_wp2_with fail
    refine (show Calls Tryz.prog 56 _ _ _ from HA.out).mono ?_
    rintro e w1 ⟨rfl, hw1⟩
    obtain rfl := hw1.symm
    go_wp2
    go_ret
    exact ⟨rfl, O0.out⟩
end Go.Proofs.YtioffjdjnlibgaaGreatDoor
namespace Go.Proofs.YtioffjdjnlibgaaGreatDoor
open Go.RowKit Go.Lib
set_option linter.unusedSimpArgs false
set_option linter.unusedVariables false
theorem fb_ne8 {t : Vt} (h : fb t 63 = true) : t.k ≠ 8 := by
  rw [fb_63] at h
  simp at h
  omega
/-- = -/
def eqR (d : Nat) (l : List Vt) : Except Int Vt := .ok (boT (smV d false (l.getD 0 zT) (l.getD 1 zT)))
set_option maxRecDepth 100000 in
set_option maxHeartbeats 4000000 in
theorem md_eq : MdC ⟨#[61]⟩ [63, 63] eqR := by
  intro d l G q w S hl hS hlen hsm hsd hf hT
  obtain ⟨x, y, rfl, hk, hk2⟩ := fit2 hlen hf
  obtain ⟨g, k, u, ha, hg, hc, ht⟩ := hl 0 x rfl
  cases ha
  obtain ⟨g2, k2, u2, ha2, hg2, hc2, ht2⟩ := hl 1 y rfl
  cases ha2
  have hsd' : sdB d x = true ∧ sdB d y = true := by simpa using hsd
  show Calls Tryz.prog 28 #[_, .slice (some ⟨G, q, none⟩) 2 2] w fun e w' => MdP (.ok (boT (smV d false x y))) (d + 2) w e w'
  obtain ⟨b, hb⟩ : ∃ b, b = smV d false x y := ⟨_, rfl⟩
  have HE : Hid (∀ W, Only (fun _ => False) w W → Calls Tryz.prog 54 #[u, u2] W fun e w' => e = .returned (.tuple #[.bool b, .int .i64 0]) ∧ Only (fun _ => False) W w') := fun W o => by
    have := vequal_any (ht.only o (fun _ _ g => g)) (ht2.only o (fun _ _ g => g)) (fun b hb => Nat.lt_of_lt_of_le (hS b hb) o.size) (hsm x (by simp)) (hsm y (by simp)) (hT.1.frame o)
    rw [hsd'.1, hsd'.2, ← hb] at this
    exact this
  have HC : Hid (∀ W, Only (fun _ => False) w W → W.cell? ⟨G, q, none⟩ = some u ∧ W.cell? ⟨G, q + 1, none⟩ = some u2) := fun W o => ⟨o.cell hc (fun g => g), o.cell hc2 (fun g => g)⟩
  obtain ⟨T1, y1, rfl⟩ := ht.iface (fb_ne8 hk)
  obtain ⟨T2, y2, rfl⟩ := ht2.iface (fb_ne8 hk2)
  rw [← hb]
  have HP : Hid (∀ w', Only (fun _ => False) w w' → MdP (.ok (boT b)) (d + 2) w (.returned (.tuple #[.iface 58 (.agg #[.bool b]), .int .i64 0])) w') := fun w' o => ⟨_, rfl, ⟨fun _ => False, bo_ti w' _ (d + 1) b, fun _ g => g.elim⟩, bo_sm b, o⟩
  have HH : Hid (Calls Tryz.prog 38 #[.string ⟨#[61]⟩, .slice (some ⟨G, q, none⟩) 2 2] w fun e w' => e = .returned (.bool b) ∧ Only (fun _ => False) w w') := by
    have O0 : Hid (Only (fun _ => False) w w) := Only.refl _ _
    obtain ⟨c0, c1⟩ := HC.out w (Only.refl _ _)
    clear hl hS hlen hsm hsd hf hT hk hg hc ht hk2 hg2 hc2 ht2 hsd' hb HP
    show Calls _ _ _ _ _
    go_enter Tryz.func38, Tryz.ntmps38
    go_wp2
    go_region_held3 (fun W => W.cell? ⟨G, q, none⟩ = some (.iface T1 y1) ∧ W.cell? ⟨G, q + 1, none⟩ = some (.iface T2 y2))
      (first | with_reducible exact HC.out _ O0.out | with_reducible exact HC.out _ O0.out.drew | with_reducible exact HC.out _ O0.out.drew.drew | with_reducible exact HC.out _ O4.out)
      (first
        | (go_at_call 54; refine (show Calls Tryz.prog 54 _ _ _ from HE.out _ (by first | exact O0.out | exact O0.out.drew | exact O0.out.drew.drew)).mono ?_; rintro ex w4 ⟨rfl, o4⟩; have O4 : Hid (Only (fun _ => False) w w4) := (by first | exact O0.out.drew.trans o4 (fun _ _ g => g) | exact O0.out.trans o4 (fun _ _ g => g))))
    all_goals
      go_wp2
      go_ret
      refine ⟨rfl, ?_⟩
      repeat (first | exact O4.out | exact O0.out | refine Only.drew ?_)
  clear hl hS hlen hsm hsd hf hT hk hg hc ht hk2 hg2 hc2 ht2 hsd' hb HC HE
  go_enter Tryz.func28, Tryz.ntmps28
  go_wp2_with fail
  refine (show Calls Tryz.prog 38 _ _ _ from HH.out).mono ?_
  rintro e w1 ⟨rfl, o1⟩
  have O1 : Hid (Only (fun _ => False) w w1) := o1
  clear HH o1
  go_wp2
  go_ret2
  exact HP.out _ O1.out
end Go.Proofs.YtioffjdjnlibgaaGreatDoor
namespace Go.Proofs.YtioffjdjnlibgaaGreatDoor
open Go.RowKit Go.Lib
set_option linter.unusedSimpArgs false
set_option linter.unusedVariables false
/-- two rows of parts, joined -/
theorem cc_Value {d : Nat} {l1 l2 : List Vt} {a1 a2 : Option Addr} {c1 c2 : Nat} {w : World} {S : Nat → Prop} (h1 : PsAt w S d false l1 a1) (h2 : PsAt w S d false l2 a2) (hS : ∀ b, S b → b < w.heap.size) (hn1 : l1.length ≤ 2513169434900) (hn2 : l2.length ≤ 2513169434900) : ∀ (Q : Nat) (W : World), Only (fun _ => False) w W → W.cell? ⟨Q, 0, none⟩ = some (.slice a1 l1.length c1) → W.cell? ⟨Q, 1, none⟩ = some (.slice a2 l2.length c2) →
    Calls Tryz.prog 16 #[.slice (some ⟨Q, 0, none⟩) 2 2] W fun e w' => ∃ ao cap, e = .returned (.slice ao (l1.length + l2.length) cap) ∧ Hid ((l1 ++ l2).length ≤ cap ∧ (∃ S', PsAt w' S' d false (l1 ++ l2) ao ∧ ∀ b, S' b → b < w'.heap.size) ∧ Only (fun _ => False) W w') := fun Q W o q0 q1 => by
  have p1 := h1.only o (fun _ _ g => g)
  have p2 := h2.only o (fun _ _ g => g)
  obtain ⟨us, u1, u2, u3, u4⟩ := ps_row p1
  obtain ⟨vs, v1, v2, v3, v4⟩ := ps_row p2
  have e1 : a1 = none → us = [] := fun e => List.length_eq_zero_iff.1 (by
    rw [u1]
    cases l1 with
    | nil => rfl
    | cons t r => obtain ⟨g, q, u, ha, _⟩ := p1 0 t rfl; rw [e] at ha; cases ha)
  have e2 : a2 = none → vs = [] := fun e => List.length_eq_zero_iff.1 (by
    rw [v1]
    cases l2 with
    | nil => rfl
    | cons t r => obtain ⟨g, q, u, ha, _⟩ := p2 0 t rfl; rw [e] at ha; cases ha)
  have cc := concat_Value us vs a1 a2 c1 c2 Q W u2 v2 (by omega) (by omega) u3 v3 e1 e2 (by rw [u1]; exact q0) (by rw [v1]; exact q1)
  refine cc.mono fun e w' g => ?_
  obtain ⟨v, he, ⟨ao, cap, hv⟩, g1, g2⟩ := g
  have e5 : (us ++ vs).length = l1.length + l2.length := by rw [List.length_append, u1, v1]
  refine ⟨ao, cap, by rw [he, hv, e5], ?_, ⟨fun b => S b ∨ v.ownBlock = some b, fun j x hx => ?_, fun b hb => ?_⟩, g2⟩
  · rw [hv] at g1
    rcases g1.2 with ⟨h3, h4⟩ | ⟨g, cp, cur, hv', hB, hg, hn, _⟩
    · rw [List.length_append, ← u1, ← v1, ← List.length_append, h4]; exact Nat.zero_le _
    · cases hv'
      rw [List.length_append, ← u1, ← v1, ← List.length_append]
      exact hn
  · have hgen : ∃ u, (us ++ vs)[j]? = some u ∧ TiAt W S d false x u := by
      by_cases hj : j < l1.length
      · rw [List.getElem?_append_left hj] at hx
        obtain ⟨u, a, b⟩ := u4 j x hx
        exact ⟨u, by rw [List.getElem?_append_left (by omega)]; exact a, b⟩
      · rw [List.getElem?_append_right (by omega)] at hx
        obtain ⟨u, a, b⟩ := v4 _ x hx
        exact ⟨u, by rw [List.getElem?_append_right (by omega), u1]; exact a, b⟩
    obtain ⟨u, hu, ht⟩ := hgen
    rcases g1.2 with ⟨h3, h4⟩ | ⟨g, cp, cur, hv', hB, hg, hn, hcm, hcs, htk⟩
    · have := (List.getElem?_eq_some_iff.1 hu).1
      omega
    · rw [hv] at hv'
      cases hv'
      have hc := g1.cells (g := g) (by rw [hv]; rfl) j u hu
      rw [addr_ad] at hc
      exact ⟨g, 0, u, rfl, .inr (by rw [hv]; rfl), by simpa using hc, (ht.only g2 (fun _ _ g => g)).step (fun _ g => .inl g) (fun _ _ _ g => g) (Nat.le_refl _)⟩
  · rcases hb with g | g
    · exact Nat.lt_of_lt_of_le (hS b g) (o.trans g2 (fun _ _ g => g)).size
    · exact (g1.lt b g).2
/-- two rows of parts, joined -/
theorem cc_Item {d : Nat} {l1 l2 : List Vt} {a1 a2 : Option Addr} {c1 c2 : Nat} {w : World} {S : Nat → Prop} (h1 : PsAt w S d true l1 a1) (h2 : PsAt w S d true l2 a2) (hS : ∀ b, S b → b < w.heap.size) (hn1 : l1.length ≤ 2513169434900) (hn2 : l2.length ≤ 2513169434900) : ∀ (Q : Nat) (W : World), Only (fun _ => False) w W → W.cell? ⟨Q, 0, none⟩ = some (.slice a1 l1.length c1) → W.cell? ⟨Q, 1, none⟩ = some (.slice a2 l2.length c2) →
    Calls Tryz.prog 58 #[.slice (some ⟨Q, 0, none⟩) 2 2] W fun e w' => ∃ ao cap, e = .returned (.slice ao (l1.length + l2.length) cap) ∧ Hid ((l1 ++ l2).length ≤ cap ∧ (∃ S', PsAt w' S' d true (l1 ++ l2) ao ∧ ∀ b, S' b → b < w'.heap.size) ∧ Only (fun _ => False) W w') := fun Q W o q0 q1 => by
  have p1 := h1.only o (fun _ _ g => g)
  have p2 := h2.only o (fun _ _ g => g)
  obtain ⟨us, u1, u2, u3, u4⟩ := ps_row p1
  obtain ⟨vs, v1, v2, v3, v4⟩ := ps_row p2
  have e1 : a1 = none → us = [] := fun e => List.length_eq_zero_iff.1 (by
    rw [u1]
    cases l1 with
    | nil => rfl
    | cons t r => obtain ⟨g, q, u, ha, _⟩ := p1 0 t rfl; rw [e] at ha; cases ha)
  have e2 : a2 = none → vs = [] := fun e => List.length_eq_zero_iff.1 (by
    rw [v1]
    cases l2 with
    | nil => rfl
    | cons t r => obtain ⟨g, q, u, ha, _⟩ := p2 0 t rfl; rw [e] at ha; cases ha)
  have cc := concat_Item us vs a1 a2 c1 c2 Q W u2 v2 (by omega) (by omega) u3 v3 e1 e2 (by rw [u1]; exact q0) (by rw [v1]; exact q1)
  refine cc.mono fun e w' g => ?_
  obtain ⟨v, he, ⟨ao, cap, hv⟩, g1, g2⟩ := g
  have e5 : (us ++ vs).length = l1.length + l2.length := by rw [List.length_append, u1, v1]
  refine ⟨ao, cap, by rw [he, hv, e5], ?_, ⟨fun b => S b ∨ v.ownBlock = some b, fun j x hx => ?_, fun b hb => ?_⟩, g2⟩
  · rw [hv] at g1
    rcases g1.2 with ⟨h3, h4⟩ | ⟨g, cp, cur, hv', hB, hg, hn, _⟩
    · rw [List.length_append, ← u1, ← v1, ← List.length_append, h4]; exact Nat.zero_le _
    · cases hv'
      rw [List.length_append, ← u1, ← v1, ← List.length_append]
      exact hn
  · have hgen : ∃ u, (us ++ vs)[j]? = some u ∧ TiAt W S d true x u := by
      by_cases hj : j < l1.length
      · rw [List.getElem?_append_left hj] at hx
        obtain ⟨u, a, b⟩ := u4 j x hx
        exact ⟨u, by rw [List.getElem?_append_left (by omega)]; exact a, b⟩
      · rw [List.getElem?_append_right (by omega)] at hx
        obtain ⟨u, a, b⟩ := v4 _ x hx
        exact ⟨u, by rw [List.getElem?_append_right (by omega), u1]; exact a, b⟩
    obtain ⟨u, hu, ht⟩ := hgen
    rcases g1.2 with ⟨h3, h4⟩ | ⟨g, cp, cur, hv', hB, hg, hn, hcm, hcs, htk⟩
    · have := (List.getElem?_eq_some_iff.1 hu).1
      omega
    · rw [hv] at hv'
      cases hv'
      have hc := g1.cells (g := g) (by rw [hv]; rfl) j u hu
      rw [addr_ad] at hc
      exact ⟨g, 0, u, rfl, .inr (by rw [hv]; rfl), by simpa using hc, (ht.only g2 (fun _ _ g => g)).step (fun _ g => .inl g) (fun _ _ _ g => g) (Nat.le_refl _)⟩
  · rcases hb with g | g
    · exact Nat.lt_of_lt_of_le (hS b g) (o.trans g2 (fun _ _ g => g)).size
    · exact (g1.lt b g).2
end Go.Proofs.YtioffjdjnlibgaaGreatDoor
namespace Go.Proofs.YtioffjdjnlibgaaGreatDoor
open Go.RowKit Go.Lib
set_option linter.unusedSimpArgs false
set_option linter.unusedVariables false
/-- a row that was joined, as a value -/
def JpP (T : TypeId) (d : Nat) (i : Bool) (n : Nat) (l : List Vt) (w : World) (e : Ending) (w' : World) : Prop := ∃ ao cap, e = .returned (.tuple #[.iface T (.agg #[.slice ao n cap]), .int .i64 0]) ∧ Hid (l.length ≤ cap ∧ (∃ S', PsAt w' S' d i l ao ∧ ∀ b, S' b → b < w'.heap.size) ∧ Only (fun _ => False) w w')
set_option maxRecDepth 100000 in
theorem jn_kind {d : Nat} {x y : Vt} {u v : Value} {w : World} {S : Nat → Prop} (hx : TiAt w S d false x u) (hy : TiAt w S d false y v) (h : kd x ≠ kd y) : Calls Tryz.prog 40 #[u, v] w fun e w' => e = .returned (.tuple #[.nilIface, .int .i64 17]) ∧ w' = w := by
  have H1 : Hid _ := kind_any hx w
  have H2 : Hid _ := kind_any hy w
  obtain ⟨a, ha⟩ : ∃ a, a = kd x := ⟨_, rfl⟩
  obtain ⟨b, hb⟩ : ∃ b, b = kd y := ⟨_, rfl⟩
  rw [← ha] at H1 h
  rw [← hb] at H2 h
  have hne : (a == b) = false := by simpa using h
  have s1 := hx.shape2
  have s2 := hy.shape2
  clear hx hy ha hb
  rcases s1 with rfl | ⟨T1, y1, rfl⟩ <;> rcases s2 with rfl | ⟨T2, y2, rfl⟩
  all_goals
    go_enter Tryz.func40, Tryz.ntmps40
    go_wp2_with fail
    refine (show Calls Tryz.prog 23 _ _ _ from H1.out).mono ?_
    rintro e w1 ⟨rfl, hw⟩
    obtain rfl := hw.symm
    go_wp2_with fail
    refine (show Calls Tryz.prog 23 _ _ _ from H2.out).mono ?_
    rintro e w1 ⟨rfl, hw⟩
    obtain rfl := hw.symm
    go_wp2
    go_ret2
    exact ⟨rfl, rfl⟩
set_option maxRecDepth 100000 in
set_option maxHeartbeats 4000000 in
theorem jn_str (s t : ByteArray) (hs : s.size ≤ 4096) (ht : t.size ≤ 4096) (w : World) : Calls Tryz.prog 40 #[.iface 56 (.agg #[.string s]), .iface 56 (.agg #[.string t])] w fun e w' => e = .returned (.tuple #[.iface 56 (.agg #[.string (s ++ t)]), .int .i64 0]) ∧ Only (fun _ => False) w w' := by
  have hi := uas_hit 56 37 _ Tryz.underlying56 (by intro m h; cases h)
  have H1 : Hid (∀ W, Calls Tryz.prog 23 #[.iface 56 (.agg #[.string s])] W fun e w' => e = .returned (.int .i64 2) ∧ w' = W) := kind_Str s
  have H2 : Hid (∀ W, Calls Tryz.prog 23 #[.iface 56 (.agg #[.string t])] W fun e w' => e = .returned (.int .i64 2) ∧ w' = W) := kind_Str t
  have H3 : Hid (∀ W, Calls Tryz.prog 46 #[.iface 56 (.agg #[.string t])] W fun e w' => e = .returned (.string t) ∧ w' = W) := g_text t
  have O0 : Hid (Only (fun _ => False) w w) := Only.refl _ _
  go_enter Tryz.func40, Tryz.ntmps40
  go_wp2_with fail
  refine (show Calls Tryz.prog 23 _ _ _ from H1.out _).mono ?_
  rintro e w1 ⟨rfl, hw⟩
  obtain rfl := hw.symm
  go_wp2_with fail
  refine (show Calls Tryz.prog 23 _ _ _ from H2.out _).mono ?_
  rintro e w1 ⟨rfl, hw⟩
  obtain rfl := hw.symm
  go_wp2
  go_region_with (go_at_call 46; refine (show Calls Tryz.prog 46 _ _ _ from H3.out _).mono ?_; rintro ex w4 ⟨rfl, rfl⟩)
  all_goals
    go_wp2
    go_ret2
    refine ⟨rfl, ?_⟩
    repeat (first | exact O0.out | refine Only.drew ?_ | refine Only.alloc ?_ _)
set_option maxRecDepth 100000 in
set_option maxHeartbeats 4000000 in
theorem jn_list {d : Nat} {l1 l2 : List Vt} {a1 a2 : Option Addr} {c1 c2 : Nat} {w : World} {S : Nat → Prop} (h1 : PsAt w S d false l1 a1) (h2 : PsAt w S d false l2 a2) (hS : ∀ b, S b → b < w.heap.size) (hn1 : l1.length ≤ 10000) (hn2 : l2.length ≤ 10000) : Calls Tryz.prog 40 #[.iface 34 (.agg #[.slice a1 l1.length c1]), .iface 34 (.agg #[.slice a2 l2.length c2])] w fun e w' => ∃ ao cap, e = .returned (.tuple #[.iface 34 (.agg #[.slice ao (l1.length + l2.length) cap]), .int .i64 0]) ∧ Hid ((l1 ++ l2).length ≤ cap ∧ (∃ S', PsAt w' S' d false (l1 ++ l2) ao ∧ ∀ b, S' b → b < w'.heap.size) ∧ Only (fun _ => False) w w') := by
  have mStr := uas_miss 34 56 37 _ Tryz.underlying56 (by intro m h; cases h) (by decide) _ uzero_Str
  have hi := uas_hit 34 37 _ Tryz.underlying34 (by intro m h; cases h)
  have HC : Hid _ := cc_Value (c1 := c1) (c2 := c2) h1 h2 hS (by omega) (by omega)
  obtain ⟨n1, e1⟩ : ∃ n, n = l1.length := ⟨_, rfl⟩
  obtain ⟨n2, e2⟩ : ∃ n, n = l2.length := ⟨_, rfl⟩
  rw [← e1, ← e2] at HC ⊢
  have H1 : Hid (∀ W, Calls Tryz.prog 23 #[.iface 34 (.agg #[.slice a1 n1 c1])] W fun e w' => e = .returned (.int .i64 8) ∧ w' = W) := kind_List a1 n1 c1
  have H2 : Hid (∀ W, Calls Tryz.prog 23 #[.iface 34 (.agg #[.slice a2 n2 c2])] W fun e w' => e = .returned (.int .i64 8) ∧ w' = W) := kind_List a2 n2 c2
  have H3 : Hid (∀ W, Calls Tryz.prog 27 #[.iface 34 (.agg #[.slice a2 n2 c2])] W fun e w' => e = .returned (.slice a2 n2 c2) ∧ w' = W) := g_list a2 n2 c2
  have O0 : Hid (Only (fun _ => False) w w) := Only.refl _ _
  have HP : Hid (∀ ao cap w', (l1 ++ l2).length ≤ cap → (∃ S', PsAt w' S' d false (l1 ++ l2) ao ∧ ∀ b, S' b → b < w'.heap.size) → Only (fun _ => False) w w' → JpP 34 d false (n1 + n2) (l1 ++ l2) w (.returned (.tuple #[.iface 34 (.agg #[.slice ao (n1 + n2) cap]), .int .i64 0])) w') := fun ao cap w' a b c => ⟨ao, cap, rfl, a, b, c⟩
  show Calls _ _ _ _ fun e w' => JpP 34 d false (n1 + n2) (l1 ++ l2) w e w'
  clear h1 h2 hS hn1 hn2 e1 e2
  go_enter Tryz.func40, Tryz.ntmps40
  go_wp2_with fail
  refine (show Calls Tryz.prog 23 _ _ _ from H1.out _).mono ?_
  rintro e w1 ⟨rfl, hw⟩
  obtain rfl := hw.symm
  go_wp2_with fail
  refine (show Calls Tryz.prog 23 _ _ _ from H2.out _).mono ?_
  rintro e w1 ⟨rfl, hw⟩
  obtain rfl := hw.symm
  go_wp2
  go_region_with (first
    | (go_at_call 16; refine (show Calls Tryz.prog 16 _ _ _ from HC.out _ _ (by repeat' first | exact O0.out | apply Only.alloc | apply Only.drew) (by simp [go_sem]) (by simp [go_sem])).mono ?_; rintro ex w4 ⟨ao, cap, rfl, G4⟩; have O4 : Hid (Only (fun _ => False) w w4) := Only.trans (by repeat' first | exact O0.out | apply Only.alloc | apply Only.drew) G4.out.2.2 (fun _ _ g => g))
    | (go_at_call 27; refine (show Calls Tryz.prog 27 _ _ _ from H3.out _).mono ?_; rintro ex w4 ⟨rfl, rfl⟩))
  all_goals
    go_wp2
    go_ret2
    exact HP.out _ _ _ G4.out.1 G4.out.2.1 O4.out
set_option maxRecDepth 100000 in
set_option maxHeartbeats 4000000 in
theorem jn_items {d : Nat} {l1 l2 : List Vt} {a1 a2 : Option Addr} {c1 c2 : Nat} {w : World} {S : Nat → Prop} (h1 : PsAt w S d true l1 a1) (h2 : PsAt w S d true l2 a2) (hS : ∀ b, S b → b < w.heap.size) (hn1 : l1.length ≤ 10000) (hn2 : l2.length ≤ 10000) : Calls Tryz.prog 40 #[.iface 62 (.agg #[.slice a1 l1.length c1]), .iface 62 (.agg #[.slice a2 l2.length c2])] w fun e w' => ∃ ao cap, e = .returned (.tuple #[.iface 62 (.agg #[.slice ao (l1.length + l2.length) cap]), .int .i64 0]) ∧ Hid ((l1 ++ l2).length ≤ cap ∧ (∃ S', PsAt w' S' d true (l1 ++ l2) ao ∧ ∀ b, S' b → b < w'.heap.size) ∧ Only (fun _ => False) w w') := by
  have mStr := uas_miss 62 56 37 _ Tryz.underlying56 (by intro m h; cases h) (by decide) _ uzero_Str
  have mList := uas_miss 62 34 37 _ Tryz.underlying34 (by intro m h; cases h) (by decide) _ uzero_List
  have hi := uas_hit 62 37 _ Tryz.underlying62 (by intro m h; cases h)
  have HC : Hid _ := cc_Item (c1 := c1) (c2 := c2) h1 h2 hS (by omega) (by omega)
  obtain ⟨n1, e1⟩ : ∃ n, n = l1.length := ⟨_, rfl⟩
  obtain ⟨n2, e2⟩ : ∃ n, n = l2.length := ⟨_, rfl⟩
  rw [← e1, ← e2] at HC ⊢
  have H1 : Hid (∀ W, Calls Tryz.prog 23 #[.iface 62 (.agg #[.slice a1 n1 c1])] W fun e w' => e = .returned (.int .i64 16) ∧ w' = W) := kind_Quot a1 n1 c1
  have H2 : Hid (∀ W, Calls Tryz.prog 23 #[.iface 62 (.agg #[.slice a2 n2 c2])] W fun e w' => e = .returned (.int .i64 16) ∧ w' = W) := kind_Quot a2 n2 c2
  have H3 : Hid (∀ W, Calls Tryz.prog 59 #[.iface 62 (.agg #[.slice a2 n2 c2])] W fun e w' => e = .returned (.slice a2 n2 c2) ∧ w' = W) := g_items a2 n2 c2
  have O0 : Hid (Only (fun _ => False) w w) := Only.refl _ _
  have HP : Hid (∀ ao cap w', (l1 ++ l2).length ≤ cap → (∃ S', PsAt w' S' d true (l1 ++ l2) ao ∧ ∀ b, S' b → b < w'.heap.size) → Only (fun _ => False) w w' → JpP 62 d true (n1 + n2) (l1 ++ l2) w (.returned (.tuple #[.iface 62 (.agg #[.slice ao (n1 + n2) cap]), .int .i64 0])) w') := fun ao cap w' a b c => ⟨ao, cap, rfl, a, b, c⟩
  show Calls _ _ _ _ fun e w' => JpP 62 d true (n1 + n2) (l1 ++ l2) w e w'
  clear h1 h2 hS hn1 hn2 e1 e2
  go_enter Tryz.func40, Tryz.ntmps40
  go_wp2_with fail
  refine (show Calls Tryz.prog 23 _ _ _ from H1.out _).mono ?_
  rintro e w1 ⟨rfl, hw⟩
  obtain rfl := hw.symm
  go_wp2_with fail
  refine (show Calls Tryz.prog 23 _ _ _ from H2.out _).mono ?_
  rintro e w1 ⟨rfl, hw⟩
  obtain rfl := hw.symm
  go_wp2
  go_region_with (first
    | (go_at_call 58; refine (show Calls Tryz.prog 58 _ _ _ from HC.out _ _ (by repeat' first | exact O0.out | apply Only.alloc | apply Only.drew) (by simp [go_sem]) (by simp [go_sem])).mono ?_; rintro ex w4 ⟨ao, cap, rfl, G4⟩; have O4 : Hid (Only (fun _ => False) w w4) := Only.trans (by repeat' first | exact O0.out | apply Only.alloc | apply Only.drew) G4.out.2.2 (fun _ _ g => g))
    | (go_at_call 59; refine (show Calls Tryz.prog 59 _ _ _ from H3.out _).mono ?_; rintro ex w4 ⟨rfl, rfl⟩))
  all_goals
    go_wp2
    go_ret2
    exact HP.out _ _ _ G4.out.1 G4.out.2.1 O4.out
end Go.Proofs.YtioffjdjnlibgaaGreatDoor
namespace Go.Proofs.YtioffjdjnlibgaaGreatDoor
open Go.RowKit Go.Lib
set_option linter.unusedSimpArgs false
set_option linter.unusedVariables false
/-- two of one kind, joined -/
def jnR (x y : Vt) : Except Int Vt := if kd x = kd y then (if x.k = 2 then .ok (stT (x.s ++ y.s)) else .ok ⟨x.k, 0, ⟨#[]⟩, x.l ++ y.l⟩) else .error 17
theorem kd_245 {x y : Vt} (hx : x.k = 2 ∨ x.k = 4 ∨ x.k = 5) (hy : y.k = 2 ∨ y.k = 4 ∨ y.k = 5) : kd x = kd y ↔ x.k = y.k := by
  rcases kd_cases x with ⟨e, k⟩ | ⟨e, k⟩ | ⟨e, k⟩ | ⟨e, k⟩ | ⟨e, k⟩ | ⟨e, k⟩ | ⟨e, k⟩ <;> rcases kd_cases y with ⟨e', k'⟩ | ⟨e', k'⟩ | ⟨e', k'⟩ | ⟨e', k'⟩ | ⟨e', k'⟩ | ⟨e', k'⟩ | ⟨e', k'⟩ <;> rw [k, k'] <;> omega
theorem jl_sm {k : Int} {l : List Vt} (hk : k = 4 ∨ k = 5) (h : ∀ x ∈ l, ∃ e, SmT e x) (hl : l.length ≤ 2513169434900) : ∃ e, SmT e ⟨k, 0, ⟨#[]⟩, l⟩ := by
  obtain ⟨e, he⟩ := sm_all l h
  refine ⟨e + 1, Nat.zero_le _, hl, ?_, ⟨(by decide : (-9223372036854775808 : Int) ≤ 0), (by decide : (0 : Int) ≤ 9223372036854775807)⟩, he⟩
  show -9223372036854775808 ≤ k ∧ k ≤ 9223372036854775807
  omega
theorem sm_parts {t : Vt} (h : ∃ e, SmT e t) : ∀ x ∈ t.l, ∃ e, SmT e x := fun x hx => by
  obtain ⟨e, he⟩ := h
  cases e with
  | zero => exact he.elim
  | succ e => exact ⟨e, he.2.2.2.2 x hx⟩
theorem joined_any {D : Nat} {x y : Vt} {u v : Value} {w : World} {S : Nat → Prop} (hx : TiAt w S D false x u) (hy : TiAt w S D false y v) (hS : ∀ b, S b → b < w.heap.size) (kx : x.k = 2 ∨ x.k = 4 ∨ x.k = 5) (ky : y.k = 2 ∨ y.k = 4 ∨ y.k = 5) (sx : x.k = 2 → x.s.size ≤ 4096) (sy : y.k = 2 → y.s.size ≤ 4096) (lx : x.l.length ≤ 10000) (ly : y.l.length ≤ 10000) (mx : ∃ e, SmT e x) (my : ∃ e, SmT e y) : Calls Tryz.prog 40 #[u, v] w fun e w' => MdP (jnR x y) D w e w' := by
  unfold jnR
  by_cases hk : kd x = kd y
  · rw [if_pos hk]
    have hkk := (kd_245 kx ky).1 hk
    by_cases h2 : x.k = 2
    · rw [if_pos h2]
      have e1 := ti_2 hx h2
      have e2 := ti_2 hy (by omega)
      subst e1
      subst e2
      refine (jn_str x.s y.s (sx h2) (sy (by omega)) w).mono fun e w' g => ?_
      obtain ⟨he, o⟩ := g
      cases D with
      | zero => exact hx.elim
      | succ D =>
        refine ⟨_, he, ⟨fun _ => False, st_ti w' _ D (x.s ++ y.s), fun _ g => g.elim⟩, st_sm ?_, o⟩
        have := sx h2
        have := sy (by omega)
        rw [ByteArray.size_append]
        omega
    · rw [if_neg h2]
      cases D with
      | zero => exact hx.elim
      | succ D =>
        have k1 : x.k = 4 ∨ x.k = 5 := by omega
        have k2 : y.k = 4 ∨ y.k = 5 := by omega
        rcases hx with ⟨e, _⟩ | ⟨e, _⟩ | ⟨e, _⟩ | ⟨e, _⟩ | ⟨e, _⟩ | ⟨_, a1, c1, rfl, q1, p1⟩
        · omega
        · omega
        · omega
        · omega
        · omega
        rcases hy with ⟨e, _⟩ | ⟨e, _⟩ | ⟨e, _⟩ | ⟨e, _⟩ | ⟨e, _⟩ | ⟨_, a2, c2, rfl, q2, p2⟩
        · omega
        · omega
        · omega
        · omega
        · omega
        have hsm : ∀ t ∈ x.l ++ y.l, ∃ e, SmT e t := fun t ht => by
          rcases List.mem_append.1 ht with g | g
          · exact sm_parts mx t g
          · exact sm_parts my t g
        have hln : (x.l ++ y.l).length ≤ 2513169434900 := by rw [List.length_append]; omega
        rcases k1 with k1 | k1
        · have k2' : y.k = 4 := by omega
          rw [if_pos k1, if_pos k2']
          rw [show decide (x.k = 5) = false by rw [k1]; rfl] at p1
          rw [show decide (y.k = 5) = false by rw [k2']; rfl] at p2
          refine (jn_list (c1 := c1) (c2 := c2) p1 p2 hS lx ly).mono fun e w' g => ?_
          obtain ⟨ao, cap, he, g⟩ := g
          obtain ⟨h1, ⟨S', h2, h3⟩, h4⟩ := g.out
          refine ⟨_, he, ⟨S', ?_, h3⟩, jl_sm (.inl k1) hsm hln, h4⟩
          refine .inr (.inr (.inr (.inr (.inr ⟨.inl k1, ao, cap, ?_, h1, ?_⟩))))
          · rw [if_pos k1, List.length_append]
          · dsimp only
            rw [show decide (x.k = 5) = false by rw [k1]; rfl]
            exact h2
        · have k2' : y.k = 5 := by omega
          have n1 : ¬ x.k = 4 := by omega
          have n2 : ¬ y.k = 4 := by omega
          rw [if_neg n1, if_neg n2]
          rw [show decide (x.k = 5) = true by rw [k1]; rfl] at p1
          rw [show decide (y.k = 5) = true by rw [k2']; rfl] at p2
          refine (jn_items (c1 := c1) (c2 := c2) p1 p2 hS lx ly).mono fun e w' g => ?_
          obtain ⟨ao, cap, he, g⟩ := g
          obtain ⟨h1, ⟨S', h2, h3⟩, h4⟩ := g.out
          refine ⟨_, he, ⟨S', ?_, h3⟩, jl_sm (.inr k1) hsm hln, h4⟩
          refine .inr (.inr (.inr (.inr (.inr ⟨.inr k1, ao, cap, ?_, h1, ?_⟩))))
          · rw [if_neg n1, List.length_append]
          · dsimp only
            rw [show decide (x.k = 5) = true by rw [k1]; rfl]
            exact h2
  · rw [if_neg hk]
    refine (jn_kind hx hy hk).mono fun e w' g => ?_
    obtain ⟨he, hw⟩ := g
    rw [hw]
    exact ⟨_, he, .inl rfl, rfl, Only.refl _ _⟩
theorem len_sum (f : Vt → Nat) (hf : ∀ x, 1 ≤ f x) : ∀ l : List Vt, l.length ≤ (l.map f).sum
  | [] => Nat.le_refl _
  | t :: l => by
    have := len_sum f hf l
    have := hf t
    simp only [List.length_cons, List.map_cons, List.sum_cons]
    omega
theorem sd_len {d : Nat} {t : Vt} (h : sdB d t = true) : t.l.length ≤ 1024 := by
  cases d with
  | zero => unfold sdB msB at h; simp [okV] at h
  | succ d =>
    unfold sdB msB at h
    simp only [Bool.and_eq_true, decide_eq_true_eq] at h
    have e : sz (d + 1) false t = 1 + (t.l.map (sz d (decide (t.k = 5)))).sum := rfl
    have := len_sum (sz d (decide (t.k = 5))) (fun x => sz_pos _ _ x) t.l
    omega
theorem sd_str {d : Nat} {t : Vt} (h : sdB d t = true) (hk : t.k = 2) : t.s.size ≤ 4096 := by
  cases d with
  | zero => unfold sdB msB at h; simp [okV] at h
  | succ d =>
    unfold sdB msB at h
    simp only [Bool.and_eq_true] at h
    have h1 := h.1.1
    simp only [okV] at h1
    rw [if_neg (by omega)] at h1
    unfold alB at h1
    rw [if_neg (by omega), if_pos hk] at h1
    simp only [Bool.and_eq_true, decide_eq_true_eq] at h1
    exact h1.1
theorem fb_26 {t : Vt} (h : fb t 26 = true) : t.k = 2 ∨ t.k = 4 ∨ t.k = 5 := by
  unfold fb at h
  rcases kd_cases t with ⟨e, k⟩ | ⟨e, k⟩ | ⟨e, k⟩ | ⟨e, k⟩ | ⟨e, k⟩ | ⟨e, k⟩ | ⟨e, k⟩ <;> rw [k] at h <;> first | omega | (exfalso; revert h; decide)
set_option maxRecDepth 100000 in
set_option maxHeartbeats 4000000 in
theorem md_append : MdC ⟨#[97, 112, 112, 101, 110, 100]⟩ [26, 26] (fun _ l => jnR (l.getD 0 zT) (l.getD 1 zT)) := by
  intro d l G q w S hl hS hlen hsm hsd hf hT
  obtain ⟨x, y, rfl, hk, hk2⟩ := fit2 hlen hf
  obtain ⟨g, k, u, ha, hg, hc, ht⟩ := hl 0 x rfl
  cases ha
  obtain ⟨g2, k2, u2, ha2, hg2, hc2, ht2⟩ := hl 1 y rfl
  cases ha2
  have hsd' : sdB d x = true ∧ sdB d y = true := by simpa using hsd
  have kf : ∀ t : Vt, fb t 26 = true → t.k = 2 ∨ t.k = 4 ∨ t.k = 5 := fun t h => (fb_26) h
  show Calls Tryz.prog 28 #[_, .slice (some ⟨G, q, none⟩) 2 2] w fun e w' => MdP (jnR x y) (d + 2) w e w'
  obtain ⟨Y, hY⟩ : ∃ Y, Y = jnR x y := ⟨_, rfl⟩
  have up : ∀ {t : Vt} {v : Value} {W : World}, TiAt W S d false t v → TiAt W S (d + 2) false t v := fun h => h.step (fun _ g => g) (fun _ _ _ g => g) (by omega)
  have HE : Hid (∀ W, Only (fun _ => False) w W → Calls Tryz.prog 40 #[u, u2] W fun e w' => MdP Y (d + 2) W e w') := fun W o => by
    rw [hY]
    exact joined_any (up (ht.only o (fun _ _ g => g))) (up (ht2.only o (fun _ _ g => g))) (fun b hb => Nat.lt_of_lt_of_le (hS b hb) o.size) (kf x hk) (kf y hk2) (sd_str hsd'.1) (sd_str hsd'.2) (by have := sd_len hsd'.1; omega) (by have := sd_len hsd'.2; omega) (hsm x (by simp)) (hsm y (by simp))
  have HC : Hid (∀ W, Only (fun _ => False) w W → W.cell? ⟨G, q, none⟩ = some u ∧ W.cell? ⟨G, q + 1, none⟩ = some u2) := fun W o => ⟨o.cell hc (fun g => g), o.cell hc2 (fun g => g)⟩
  obtain ⟨T1, y1, rfl⟩ := ht.iface (by have := kf x hk; omega)
  obtain ⟨T2, y2, rfl⟩ := ht2.iface (by have := kf y hk2; omega)
  rw [← hY]
  have O0 : Hid (Only (fun _ => False) w w) := Only.refl _ _
  obtain ⟨c0, c1⟩ := HC.out w (Only.refl _ _)
  clear hl hS hlen hsm hsd hf hT hk hg hc ht hk2 hg2 hc2 ht2 hsd' hY up kf
  cases Y with
  | error n =>
    have HP : Hid (∀ w1 w' v, Only (fun _ => False) w w1 → Only (fun _ => False) w1 w' → (v = .nilIface ∨ ∃ T y, v = .iface T y) → (n == 0) = false → MdP (.error n) (d + 2) w (.returned (.tuple #[v, .int .i64 n])) w') := fun w1 w' v o o' a b => ⟨v, rfl, a, b, o.trans o' (fun _ _ g => g)⟩
    go_enter Tryz.func28, Tryz.ntmps28
    go_wp2
    go_region_held3 (fun W => W.cell? ⟨G, q, none⟩ = some (.iface T1 y1) ∧ W.cell? ⟨G, q + 1, none⟩ = some (.iface T2 y2))
      (first | with_reducible exact HC.out _ O0.out | with_reducible exact HC.out _ O0.out.drew | with_reducible exact HC.out _ O0.out.drew.drew | with_reducible exact HC.out _ O4.out)
      (first
        | (go_at_call 40; refine (show Calls Tryz.prog 40 _ _ _ from HE.out _ (by first | exact O0.out | exact O0.out.drew | exact O0.out.drew.drew)).mono ?_; rintro ex w4 ⟨v, rfl, hv, hn, o4⟩; have O4 : Hid (Only (fun _ => False) w w4) := (by first | exact O0.out.drew.trans o4 (fun _ _ g => g) | exact O0.out.trans o4 (fun _ _ g => g))))
    all_goals
      go_wp2
      go_ret2
      exact HP.out _ _ _ O0.out O4.out hv hn
  | ok t =>
    go_enter Tryz.func28, Tryz.ntmps28
    go_wp2
    go_region_held3 (fun W => W.cell? ⟨G, q, none⟩ = some (.iface T1 y1) ∧ W.cell? ⟨G, q + 1, none⟩ = some (.iface T2 y2))
      (first | with_reducible exact HC.out _ O0.out | with_reducible exact HC.out _ O0.out.drew | with_reducible exact HC.out _ O0.out.drew.drew | with_reducible exact HC.out _ O4.out)
      (first
        | (go_at_call 40; refine (show Calls Tryz.prog 40 _ _ _ from HE.out _ (by first | exact O0.out | exact O0.out.drew | exact O0.out.drew.drew)).mono ?_; rintro ex w4 ⟨v, rfl, hv, hm, o4⟩; have O4 : Hid (Only (fun _ => False) w w4) := (by first | exact O0.out.drew.trans o4 (fun _ _ g => g) | exact O0.out.trans o4 (fun _ _ g => g)); have HV : Hid ((∃ S, TiAt w4 S (d + 2) false t v ∧ ∀ b, S b → b < w4.heap.size) ∧ ∃ e, SmT e t) := ⟨hv, hm⟩; clear hv hm o4))
    all_goals
      go_wp2
      go_ret2
      exact ⟨_, rfl, HV.out.1, HV.out.2, O4.out⟩
set_option maxRecDepth 100000 in
set_option maxHeartbeats 4000000 in
theorem md_compose : MdC ⟨#[99, 111, 109, 112, 111, 115, 101]⟩ [16, 16] (fun _ l => jnR (l.getD 0 zT) (l.getD 1 zT)) := by
  intro d l G q w S hl hS hlen hsm hsd hf hT
  obtain ⟨x, y, rfl, hk, hk2⟩ := fit2 hlen hf
  obtain ⟨g, k, u, ha, hg, hc, ht⟩ := hl 0 x rfl
  cases ha
  obtain ⟨g2, k2, u2, ha2, hg2, hc2, ht2⟩ := hl 1 y rfl
  cases ha2
  have hsd' : sdB d x = true ∧ sdB d y = true := by simpa using hsd
  have kf : ∀ t : Vt, fb t 16 = true → t.k = 2 ∨ t.k = 4 ∨ t.k = 5 := fun t h => (fun h => .inr (.inr (fb_16 h))) h
  show Calls Tryz.prog 28 #[_, .slice (some ⟨G, q, none⟩) 2 2] w fun e w' => MdP (jnR x y) (d + 2) w e w'
  obtain ⟨Y, hY⟩ : ∃ Y, Y = jnR x y := ⟨_, rfl⟩
  have up : ∀ {t : Vt} {v : Value} {W : World}, TiAt W S d false t v → TiAt W S (d + 2) false t v := fun h => h.step (fun _ g => g) (fun _ _ _ g => g) (by omega)
  have HE : Hid (∀ W, Only (fun _ => False) w W → Calls Tryz.prog 40 #[u, u2] W fun e w' => MdP Y (d + 2) W e w') := fun W o => by
    rw [hY]
    exact joined_any (up (ht.only o (fun _ _ g => g))) (up (ht2.only o (fun _ _ g => g))) (fun b hb => Nat.lt_of_lt_of_le (hS b hb) o.size) (kf x hk) (kf y hk2) (sd_str hsd'.1) (sd_str hsd'.2) (by have := sd_len hsd'.1; omega) (by have := sd_len hsd'.2; omega) (hsm x (by simp)) (hsm y (by simp))
  have HC : Hid (∀ W, Only (fun _ => False) w W → W.cell? ⟨G, q, none⟩ = some u ∧ W.cell? ⟨G, q + 1, none⟩ = some u2) := fun W o => ⟨o.cell hc (fun g => g), o.cell hc2 (fun g => g)⟩
  obtain ⟨T1, y1, rfl⟩ := ht.iface (by have := kf x hk; omega)
  obtain ⟨T2, y2, rfl⟩ := ht2.iface (by have := kf y hk2; omega)
  rw [← hY]
  have O0 : Hid (Only (fun _ => False) w w) := Only.refl _ _
  obtain ⟨c0, c1⟩ := HC.out w (Only.refl _ _)
  clear hl hS hlen hsm hsd hf hT hk hg hc ht hk2 hg2 hc2 ht2 hsd' hY up kf
  cases Y with
  | error n =>
    have HP : Hid (∀ w1 w' v, Only (fun _ => False) w w1 → Only (fun _ => False) w1 w' → (v = .nilIface ∨ ∃ T y, v = .iface T y) → (n == 0) = false → MdP (.error n) (d + 2) w (.returned (.tuple #[v, .int .i64 n])) w') := fun w1 w' v o o' a b => ⟨v, rfl, a, b, o.trans o' (fun _ _ g => g)⟩
    go_enter Tryz.func28, Tryz.ntmps28
    go_wp2
    go_region_held3 (fun W => W.cell? ⟨G, q, none⟩ = some (.iface T1 y1) ∧ W.cell? ⟨G, q + 1, none⟩ = some (.iface T2 y2))
      (first | with_reducible exact HC.out _ O0.out | with_reducible exact HC.out _ O0.out.drew | with_reducible exact HC.out _ O0.out.drew.drew | with_reducible exact HC.out _ O4.out)
      (first
        | (go_at_call 40; refine (show Calls Tryz.prog 40 _ _ _ from HE.out _ (by first | exact O0.out | exact O0.out.drew | exact O0.out.drew.drew)).mono ?_; rintro ex w4 ⟨v, rfl, hv, hn, o4⟩; have O4 : Hid (Only (fun _ => False) w w4) := (by first | exact O0.out.drew.trans o4 (fun _ _ g => g) | exact O0.out.trans o4 (fun _ _ g => g))))
    all_goals
      go_wp2
      go_ret2
      exact HP.out _ _ _ O0.out O4.out hv hn
  | ok t =>
    go_enter Tryz.func28, Tryz.ntmps28
    go_wp2
    go_region_held3 (fun W => W.cell? ⟨G, q, none⟩ = some (.iface T1 y1) ∧ W.cell? ⟨G, q + 1, none⟩ = some (.iface T2 y2))
      (first | with_reducible exact HC.out _ O0.out | with_reducible exact HC.out _ O0.out.drew | with_reducible exact HC.out _ O0.out.drew.drew | with_reducible exact HC.out _ O4.out)
      (first
        | (go_at_call 40; refine (show Calls Tryz.prog 40 _ _ _ from HE.out _ (by first | exact O0.out | exact O0.out.drew | exact O0.out.drew.drew)).mono ?_; rintro ex w4 ⟨v, rfl, hv, hm, o4⟩; have O4 : Hid (Only (fun _ => False) w w4) := (by first | exact O0.out.drew.trans o4 (fun _ _ g => g) | exact O0.out.trans o4 (fun _ _ g => g)); have HV : Hid ((∃ S, TiAt w4 S (d + 2) false t v ∧ ∀ b, S b → b < w4.heap.size) ∧ ∃ e, SmT e t) := ⟨hv, hm⟩; clear hv hm o4))
    all_goals
      go_wp2
      go_ret2
      exact ⟨_, rfl, HV.out.1, HV.out.2, O4.out⟩
end Go.Proofs.YtioffjdjnlibgaaGreatDoor
namespace Go.Proofs.YtioffjdjnlibgaaGreatDoor
open Go.RowKit Go.Lib
set_option linter.unusedSimpArgs false
set_option linter.unusedVariables false
/-- a quotation -/
def quoT (l : List Vt) : Vt := ⟨5, 0, ⟨#[]⟩, l⟩
theorem quo_ti {W : World} {S : Nat → Prop} {d Q : Nat} {x : Vt} {u : Value} (hc : W.cell? ⟨Q, 0, none⟩ = some (.iface 95 (.agg #[u]))) (ht : TiAt W S d false x u) (h7 : x.k ≠ 7) (h8 : x.k ≠ 8) : TiAt W (fun b => S b ∨ b = Q) (d + 2) false (quoT [x]) (.iface 62 (.agg #[.slice (some ⟨Q, 0, none⟩) 1 1])) := by
  refine .inr (.inr (.inr (.inr (.inr ⟨.inr rfl, some ⟨Q, 0, none⟩, 1, rfl, Nat.le_refl _, fun j y hy => ?_⟩))))
  have hj : j = 0 := by have := (List.getElem?_eq_some_iff.1 hy).1; simpa [quoT] using this
  subst hj
  have hy' : x = y := by simpa [quoT] using hy
  subst hy'
  exact ⟨Q, 0, _, rfl, .inr rfl, hc, .inr (.inr ⟨h7, h8, u, rfl, ht.step (fun _ g => .inl g) (fun _ _ _ g => g) (Nat.le_refl _)⟩)⟩
set_option maxRecDepth 100000 in
set_option maxHeartbeats 4000000 in
theorem md_curry : MdC ⟨#[99, 117, 114, 114, 121]⟩ [63, 16] (fun _ l => jnR (quoT [l.getD 0 zT]) (l.getD 1 zT)) := by
  intro d l G q w S hl hS hlen hsm hsd hf hT
  obtain ⟨x, y, rfl, hk, hk2⟩ := fit2 hlen hf
  obtain ⟨g, k, u, ha, hg, hc, ht⟩ := hl 0 x rfl
  cases ha
  obtain ⟨g2, k2, u2, ha2, hg2, hc2, ht2⟩ := hl 1 y rfl
  cases ha2
  have hsd' : sdB d x = true ∧ sdB d y = true := by simpa using hsd
  have ky := fb_16 hk2
  have kx : x.k ≠ 7 ∧ x.k ≠ 8 := by
    rw [fb_63] at hk
    simp at hk
    omega
  show Calls Tryz.prog 28 #[_, .slice (some ⟨G, q, none⟩) 2 2] w fun e w' => MdP (jnR (quoT [x]) y) (d + 2) w e w'
  obtain ⟨t, ht0⟩ : ∃ t, jnR (quoT [x]) y = .ok t := by
    refine ⟨⟨5, 0, ⟨#[]⟩, [x] ++ y.l⟩, ?_⟩
    unfold jnR
    rw [if_pos ((kd_245 (x := quoT [x]) (.inr (.inr rfl)) (.inr (.inr ky))).2 ky.symm), if_neg (by show ¬ (5 : Int) = 2; omega)]
    rfl
  have HE : Hid (∀ (W : World) (Q : Nat), Only (fun _ => False) w W → W.cell? ⟨Q, 0, none⟩ = some (.iface 95 (.agg #[u])) → Calls Tryz.prog 40 #[.iface 62 (.agg #[.slice (some ⟨Q, 0, none⟩) 1 1]), u2] W fun e w' => MdP (.ok t) (d + 2) W e w') := fun W Q o hq => by
    rw [← ht0]
    exact joined_any (quo_ti hq (ht.only o (fun _ _ g => g)) kx.1 kx.2) ((ht2.only o (fun _ _ g => g)).step (fun _ g => .inl g) (fun _ _ _ g => g) (by omega)) (fun b hb => by
      rcases hb with g | rfl
      · exact Nat.lt_of_lt_of_le (hS b g) o.size
      · exact World.block_lt_of_cell? W _ hq) (.inr (.inr rfl)) (.inr (.inr ky)) (fun h => absurd h (by show ¬ (5 : Int) = 2; omega)) (fun h => by omega) (by show 1 ≤ 10000; omega) (by have := sd_len hsd'.2; omega) (jl_sm (.inr rfl) (fun z hz => by simp only [List.mem_cons, List.not_mem_nil, or_false] at hz; subst hz; exact hsm _ (by simp)) (by simp)) (hsm y (by simp))
  have HC : Hid (∀ W, Only (fun _ => False) w W → W.cell? ⟨G, q, none⟩ = some u ∧ W.cell? ⟨G, q + 1, none⟩ = some u2) := fun W o => ⟨o.cell hc (fun g => g), o.cell hc2 (fun g => g)⟩
  obtain ⟨T1, y1, rfl⟩ := ht.iface kx.2
  obtain ⟨T2, y2, rfl⟩ := ht2.iface (by omega)
  rw [ht0]
  have O0 : Hid (Only (fun _ => False) w w) := Only.refl _ _
  obtain ⟨c0, c1⟩ := HC.out w (Only.refl _ _)
  have c2 : ∀ o : Obj, (w.alloc o).cell? ⟨G, q, none⟩ = some (.iface T1 y1) := fun o => (HC.out _ (O0.out.alloc o)).1
  have c3 : ∀ o : Obj, (w.alloc o).cell? ⟨G, q + 1, none⟩ = some (.iface T2 y2) := fun o => (HC.out _ (O0.out.alloc o)).2
  clear hl hS hlen hsm hsd hf hT hk hg hc ht hk2 hg2 hc2 ht2 hsd' ht0 ky kx
  go_enter Tryz.func28, Tryz.ntmps28
  go_wp2
  go_region_with (go_at_call 40; refine (show Calls Tryz.prog 40 _ _ _ from HE.out _ _ (by repeat' first | exact O0.out | apply Only.alloc | apply Only.drew) (by simp [go_sem])).mono ?_; rintro ex w4 ⟨v, rfl, hv, hm, o4⟩; have O4 : Hid (Only (fun _ => False) w w4) := Only.trans (by repeat' first | exact O0.out | apply Only.alloc | apply Only.drew) o4 (fun _ _ g => g); have HV : Hid ((∃ S, TiAt w4 S (d + 2) false t v ∧ ∀ b, S b → b < w4.heap.size) ∧ ∃ e, SmT e t) := ⟨hv, hm⟩; clear hv hm o4)
  all_goals
    go_wp2
    go_ret2
    exact ⟨_, rfl, HV.out.1, HV.out.2, O4.out⟩
end Go.Proofs.YtioffjdjnlibgaaGreatDoor
