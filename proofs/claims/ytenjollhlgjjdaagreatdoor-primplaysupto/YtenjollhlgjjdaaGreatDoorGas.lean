import Derived.Test.YtenjollhlgjjdaaGreatDoorGaa
import Derived.Test.YtenjollhlgjjdaaGreatDoorGap
import Derived.Deep.RegionHeld3
import Derived.Test.YtenjollhlgjjdaaGreatDoorGan
import Derived.Test.YtenjollhlgjjdaaGreatDoorGaq
import Derived.Test.YtenjollhlgjjdaaGreatDoorGak
import Derived.Test.YtenjollhlgjjdaaGreatDoorGar
import Derived.Laws.Append
/-        -/
set_option linter.unusedSimpArgs false
set_option linter.unusedVariables false
set_option maxRecDepth 100000
set_option maxHeartbeats 40000000
namespace Go.Proofs.YtenjollhlgjjdaaGreatDoor
open Go.RowKit Go.Lib
theorem md_one : ∀ nm ∈ ([[110, 101, 103], [97, 98, 115]] : List (List UInt8)), ∀ K : Int → Int → Int × Int, (∀ n m, cfit n = true → cfit m = true → -9223372036854775808 ≤ (K n n).1 ∧ (K n n).1 ≤ 9223372036854775807) → RkC ⟨nm.toArray⟩ K → MdC ⟨nm.toArray⟩ [1] (fun _ l => nmR K (l.getD 0 zT).n (l.getD 0 zT).n) := by
 intro nm hx K hb hrk d l G q w S hl hS hlen hsm hsd hf hT
 obtain ⟨x, rfl, hk⟩ := fit1 hlen hf
 obtain ⟨g, k, u, ha, hg, hc, ht⟩ := hl 0 x rfl
 cases ha
 have hu := ti_1 ht (fb_1 hk)
 subst hu
 have hsd' : sdB d x = true := by simpa using hsd
 have f1 := sd_fit hsd' (fb_1 hk)
 show Cz 33 #[_, .slice (some ⟨G, q, none⟩) 1 1] w fun e w' => MdP (nmR K x.n x.n) (d + 2) w e w'
 obtain ⟨n, hn⟩ : ∃ n, n = x.n := ⟨_, rfl⟩
 have HC : Hid (∀ W, Oz w W → W.cell? ⟨G, q, none⟩ = some (.iface 35 (.agg #[.int .i64 n]))) := fun W o => o.cell (by rw [hn]; exact hc) (fun g => g)
 rw [← hn] at f1
 rw [← hn]
 have HN1 : Hid (∀ W, Cz 51 #[.iface 35 (.agg #[.int .i64 n])] W fun e w' => e = .returned (.int .i64 n) ∧ w' = W) := g_number n
 have HR : Hid (∀ W, Cz 50 #[.string ⟨nm.toArray⟩, .int .i64 n, .int .i64 n] W fun e w' => e = .returned (.tuple #[.int .i64 (K n n).1, .int .i64 (K n n).2]) ∧ w' = W) := fun W => hrk n n W f1 f1
 have hbb := hb n n f1 f1
 obtain ⟨r1, hr1⟩ : ∃ r, r = (K n n).1 := ⟨_, rfl⟩
 obtain ⟨r2, hr2⟩ : ∃ r, r = (K n n).2 := ⟨_, rfl⟩
 unfold nmR
 rw [← hr1, ← hr2] at HR ⊢
 rw [← hr1] at hbb
 have HP : Hid (∀ w', Oz w w' → MdP (if r2 = 0 then .ok (inT r1) else .error r2) (d + 2) w (.returned (.tuple #[.iface 35 (.agg #[.int .i64 r1]), .int .i64 r2])) w') := fun w' o => by
  by_cases h0 : r2 = 0
  ·rw [if_pos h0, h0]
   exact ⟨_, rfl, ⟨fun _ => False, in_ti w' _ (d + 1) r1, fun _ g => g.elim⟩, in_sm hbb, o⟩
  ·rw [if_neg h0]
   exact ⟨_, rfl, .inr ⟨_, _, rfl⟩, by simpa using h0, o⟩
 have O0 : Hid (Oz w w) := Only.refl _ _
 have c0 := HC.out w (Only.refl _ _)
 obtain ⟨Y, hY⟩ : ∃ Y : Except Int Vt, Y = if r2 = 0 then .ok (inT r1) else .error r2 := ⟨_, rfl⟩
 rw [← hY] at HP ⊢
 clear hrk hl hS hlen hsm hsd hf hT hk hg hc ht hsd' f1 hb hbb hr1 hr2 hn hY
 have e21 : IntKind.i64.wrap ((1 : Int) - 1) = 0 := by decide
 have e22 : (0 : Int) ≤ 0 := by omega
 have e23 : (0 : Int) < 1 := by omega
 have e26 : IntKind.i64.wrap (1 : Int) = 1 := by decide
 have e27 : IntKind.i64.wrap (-1 + 2 : Int) = 1 := by decide
 have e28 : IntKind.i64.wrap (2 + -1 : Int) = 1 := by decide
 have e29 : IntKind.i64.wrap (0 : Int) = 0 := by decide
 simp only [List.mem_cons, List.not_mem_nil, or_false] at hx
 rcases hx with rfl|rfl
 all_goals
  go_enter Tryz.func33, Tryz.ntmps33
  go_wp2
  go_region_held3 (fun W => W.cell? ⟨G, q, none⟩ = some (.iface 35 (.agg #[.int .i64 n])))
   (first | with_reducible exact HC.out _ O0.out | with_reducible exact HC.out _ O0.out.drew | with_reducible exact HC.out _ O0.out.drew.drew)
   (first
    | (go_at_call 50; refine (show Cz 50 _ _ _ from HR.out _).mono ?_; rintro ex w4 ⟨rfl, rfl⟩)
    | (go_at_call 51; refine (show Cz 51 _ _ _ from HN1.out _).mono ?_; rintro ex w4 ⟨rfl, rfl⟩))
  all_goals
   go_wp2
   go_ret2
   refine HP.out _ ?_
   repeat (first | exact O0.out | refine Only.drew ?_)
theorem md_neg : MdC ⟨#[110, 101, 103]⟩ [1] (fun _ l => nmR (ngK) (l.getD 0 zT).n (l.getD 0 zT).n) := md_one _ (by decide) _ (fun n m _ _ => ng_b n m) rk_neg
theorem md_abs : MdC ⟨#[97, 98, 115]⟩ [1] (fun _ l => nmR (abK) (l.getD 0 zT).n (l.getD 0 zT).n) := md_one _ (by decide) _ (fun n m h _ => ab_b n m h) rk_abs
theorem ho_lt : HoC ⟨#[60]⟩ [1, 1] (fun l => decide ((l.getD 0 zT).n < (l.getD 1 zT).n)) := by
 intro d l G q w S hl hS hlen hsm hsd hf hT
 obtain ⟨x, y, rfl, hk, hk2⟩ := fit2 hlen hf
 obtain ⟨g, k, u, ha, hg, hc, ht⟩ := hl 0 x rfl
 cases ha
 obtain ⟨g2, k2, u2, ha2, hg2, hc2, ht2⟩ := hl 1 y rfl
 cases ha2
 have hu := ti_1 ht (fb_1 hk)
 subst hu
 have hu2 := ti_1 ht2 (fb_1 hk2)
 subst hu2
 show Cz 52 #[_, .slice (some ⟨G, q, none⟩) 2 2] w fun e w' => e = .returned (.bool (decide (x.n < y.n))) ∧ _
 obtain ⟨n, hn⟩ : ∃ n, n = x.n := ⟨_, rfl⟩
 obtain ⟨m, hm⟩ : ∃ m, m = y.n := ⟨_, rfl⟩
 have HC : Hid (∀ W, Oz w W → W.cell? ⟨G, q, none⟩ = some (.iface 35 (.agg #[.int .i64 n])) ∧ W.cell? ⟨G, q + 1, none⟩ = some (.iface 35 (.agg #[.int .i64 m]))) := fun W o => ⟨o.cell (by rw [hn]; exact hc) (fun g => g), o.cell (by rw [hm]; exact hc2) (fun g => g)⟩
 rw [← hn, ← hm]
 have HN1 : Hid (∀ W, Cz 51 #[.iface 35 (.agg #[.int .i64 n])] W fun e w' => e = .returned (.int .i64 n) ∧ w' = W) := g_number n
 have HN2 : Hid (∀ W, Cz 51 #[.iface 35 (.agg #[.int .i64 m])] W fun e w' => e = .returned (.int .i64 m) ∧ w' = W) := g_number m
 have O0 : Hid (Oz w w) := Only.refl _ _
 obtain ⟨c0, c1⟩ := HC.out w (Only.refl _ _)
 clear hl hS hlen hsm hsd hf hT hk hg hc ht hk2 hg2 hc2 ht2 hn hm
 go_enter Tryz.func52, Tryz.ntmps52
 go_wp2
 go_region_held3 (fun W => W.cell? ⟨G, q, none⟩ = some (.iface 35 (.agg #[.int .i64 n])) ∧ W.cell? ⟨G, q + 1, none⟩ = some (.iface 35 (.agg #[.int .i64 m])))
  (first | with_reducible exact HC.out _ O0.out | with_reducible exact HC.out _ O0.out.drew | with_reducible exact HC.out _ O0.out.drew.drew)
  (first
   | (go_at_call 51; refine (show Cz 51 _ _ _ from HN1.out _).mono ?_; rintro ex w4 ⟨rfl, rfl⟩)
   | (go_at_call 51; refine (show Cz 51 _ _ _ from HN2.out _).mono ?_; rintro ex w4 ⟨rfl, rfl⟩))
 all_goals
  go_wp2
  go_ret
  refine ⟨rfl, ?_⟩
  repeat (first | exact O0.out | refine Only.drew ?_)
theorem ho_gt : HoC ⟨#[62]⟩ [1, 1] (fun l => decide ((l.getD 0 zT).n > (l.getD 1 zT).n)) := by
 intro d l G q w S hl hS hlen hsm hsd hf hT
 obtain ⟨x, y, rfl, hk, hk2⟩ := fit2 hlen hf
 obtain ⟨g, k, u, ha, hg, hc, ht⟩ := hl 0 x rfl
 cases ha
 obtain ⟨g2, k2, u2, ha2, hg2, hc2, ht2⟩ := hl 1 y rfl
 cases ha2
 have hu := ti_1 ht (fb_1 hk)
 subst hu
 have hu2 := ti_1 ht2 (fb_1 hk2)
 subst hu2
 show Cz 52 #[_, .slice (some ⟨G, q, none⟩) 2 2] w fun e w' => e = .returned (.bool (decide (x.n > y.n))) ∧ _
 obtain ⟨n, hn⟩ : ∃ n, n = x.n := ⟨_, rfl⟩
 obtain ⟨m, hm⟩ : ∃ m, m = y.n := ⟨_, rfl⟩
 have HC : Hid (∀ W, Oz w W → W.cell? ⟨G, q, none⟩ = some (.iface 35 (.agg #[.int .i64 n])) ∧ W.cell? ⟨G, q + 1, none⟩ = some (.iface 35 (.agg #[.int .i64 m]))) := fun W o => ⟨o.cell (by rw [hn]; exact hc) (fun g => g), o.cell (by rw [hm]; exact hc2) (fun g => g)⟩
 rw [← hn, ← hm]
 have HN1 : Hid (∀ W, Cz 51 #[.iface 35 (.agg #[.int .i64 n])] W fun e w' => e = .returned (.int .i64 n) ∧ w' = W) := g_number n
 have HN2 : Hid (∀ W, Cz 51 #[.iface 35 (.agg #[.int .i64 m])] W fun e w' => e = .returned (.int .i64 m) ∧ w' = W) := g_number m
 have O0 : Hid (Oz w w) := Only.refl _ _
 obtain ⟨c0, c1⟩ := HC.out w (Only.refl _ _)
 clear hl hS hlen hsm hsd hf hT hk hg hc ht hk2 hg2 hc2 ht2 hn hm
 go_enter Tryz.func52, Tryz.ntmps52
 go_wp2
 go_region_held3 (fun W => W.cell? ⟨G, q, none⟩ = some (.iface 35 (.agg #[.int .i64 n])) ∧ W.cell? ⟨G, q + 1, none⟩ = some (.iface 35 (.agg #[.int .i64 m])))
  (first | with_reducible exact HC.out _ O0.out | with_reducible exact HC.out _ O0.out.drew | with_reducible exact HC.out _ O0.out.drew.drew)
  (first
   | (go_at_call 51; refine (show Cz 51 _ _ _ from HN1.out _).mono ?_; rintro ex w4 ⟨rfl, rfl⟩)
   | (go_at_call 51; refine (show Cz 51 _ _ _ from HN2.out _).mono ?_; rintro ex w4 ⟨rfl, rfl⟩))
 all_goals
  go_wp2
  go_ret
  refine ⟨rfl, ?_⟩
  repeat (first | exact O0.out | refine Only.drew ?_)
theorem asked_int (w : World) : Cz 83 #[.string ⟨#[105, 110, 116, 63]⟩] w fun e w' => e = .returned (.int .i64 1) ∧ w' = w := by
 go_enter Tryz.func83, Tryz.ntmps83
 go_wp2
 go_ret
 exact ⟨rfl, rfl⟩
theorem ho_intQ : HoC ⟨#[105, 110, 116, 63]⟩ [63] (fun l => kd (l.getD 0 zT) == 1) := by
 intro d l G q w S hl hS hlen hsm hsd hf hT
 obtain ⟨x, rfl, hk⟩ := fit1 hlen hf
 obtain ⟨g, k, u, ha, hg, hc, ht⟩ := hl 0 x rfl
 cases ha
 have HK : Hid _ := kind_any ht w
 have HA : Hid _ := asked_int w
 have hsh := ht.shape2
 show Cz 52 #[_, .slice (some ⟨G, q, none⟩) 1 1] w fun e w' => e = .returned (.bool (kd x == 1)) ∧ _
 have hc0 : w.cell? ⟨G, q, none⟩ = some u := hc
 obtain ⟨y, hy⟩ : ∃ y, y = kd x := ⟨_, rfl⟩
 rw [← hy] at HK ⊢
 have O0 : Hid (Oz w w) := Only.refl _ _
 clear hl hS hlen hsm hsd hf hT hk hg hc ht hy
 rcases hsh with rfl | ⟨T, z, rfl⟩
 all_goals
  go_enter Tryz.func52, Tryz.ntmps52
  go_wp2_with fail
  refine (show Cz 28 _ _ _ from HK.out).mono ?_
  rintro e w1 ⟨rfl, hw1⟩
  obtain rfl := hw1.symm
  go_wp2_with fail
  refine (show Cz 83 _ _ _ from HA.out).mono ?_
  rintro e w1 ⟨rfl, hw1⟩
  obtain rfl := hw1.symm
  go_wp2
  go_ret
  exact ⟨rfl, O0.out⟩
theorem asked_str (w : World) : Cz 83 #[.string ⟨#[115, 116, 114, 63]⟩] w fun e w' => e = .returned (.int .i64 2) ∧ w' = w := by
 go_enter Tryz.func83, Tryz.ntmps83
 go_wp2
 go_ret
 exact ⟨rfl, rfl⟩
theorem ho_strQ : HoC ⟨#[115, 116, 114, 63]⟩ [63] (fun l => kd (l.getD 0 zT) == 2) := by
 intro d l G q w S hl hS hlen hsm hsd hf hT
 obtain ⟨x, rfl, hk⟩ := fit1 hlen hf
 obtain ⟨g, k, u, ha, hg, hc, ht⟩ := hl 0 x rfl
 cases ha
 have HK : Hid _ := kind_any ht w
 have HA : Hid _ := asked_str w
 have hsh := ht.shape2
 show Cz 52 #[_, .slice (some ⟨G, q, none⟩) 1 1] w fun e w' => e = .returned (.bool (kd x == 2)) ∧ _
 have hc0 : w.cell? ⟨G, q, none⟩ = some u := hc
 obtain ⟨y, hy⟩ : ∃ y, y = kd x := ⟨_, rfl⟩
 rw [← hy] at HK ⊢
 have O0 : Hid (Oz w w) := Only.refl _ _
 clear hl hS hlen hsm hsd hf hT hk hg hc ht hy
 rcases hsh with rfl | ⟨T, z, rfl⟩
 all_goals
  go_enter Tryz.func52, Tryz.ntmps52
  go_wp2_with fail
  refine (show Cz 28 _ _ _ from HK.out).mono ?_
  rintro e w1 ⟨rfl, hw1⟩
  obtain rfl := hw1.symm
  go_wp2_with fail
  refine (show Cz 83 _ _ _ from HA.out).mono ?_
  rintro e w1 ⟨rfl, hw1⟩
  obtain rfl := hw1.symm
  go_wp2
  go_ret
  exact ⟨rfl, O0.out⟩
theorem asked_bool (w : World) : Cz 83 #[.string ⟨#[98, 111, 111, 108, 63]⟩] w fun e w' => e = .returned (.int .i64 4) ∧ w' = w := by
 go_enter Tryz.func83, Tryz.ntmps83
 go_wp2
 go_ret
 exact ⟨rfl, rfl⟩
theorem ho_boolQ : HoC ⟨#[98, 111, 111, 108, 63]⟩ [63] (fun l => kd (l.getD 0 zT) == 4) := by
 intro d l G q w S hl hS hlen hsm hsd hf hT
 obtain ⟨x, rfl, hk⟩ := fit1 hlen hf
 obtain ⟨g, k, u, ha, hg, hc, ht⟩ := hl 0 x rfl
 cases ha
 have HK : Hid _ := kind_any ht w
 have HA : Hid _ := asked_bool w
 have hsh := ht.shape2
 show Cz 52 #[_, .slice (some ⟨G, q, none⟩) 1 1] w fun e w' => e = .returned (.bool (kd x == 4)) ∧ _
 have hc0 : w.cell? ⟨G, q, none⟩ = some u := hc
 obtain ⟨y, hy⟩ : ∃ y, y = kd x := ⟨_, rfl⟩
 rw [← hy] at HK ⊢
 have O0 : Hid (Oz w w) := Only.refl _ _
 clear hl hS hlen hsm hsd hf hT hk hg hc ht hy
 rcases hsh with rfl | ⟨T, z, rfl⟩
 all_goals
  go_enter Tryz.func52, Tryz.ntmps52
  go_wp2_with fail
  refine (show Cz 28 _ _ _ from HK.out).mono ?_
  rintro e w1 ⟨rfl, hw1⟩
  obtain rfl := hw1.symm
  go_wp2_with fail
  refine (show Cz 83 _ _ _ from HA.out).mono ?_
  rintro e w1 ⟨rfl, hw1⟩
  obtain rfl := hw1.symm
  go_wp2
  go_ret
  exact ⟨rfl, O0.out⟩
theorem asked_list (w : World) : Cz 83 #[.string ⟨#[108, 105, 115, 116, 63]⟩] w fun e w' => e = .returned (.int .i64 8) ∧ w' = w := by
 go_enter Tryz.func83, Tryz.ntmps83
 go_wp2
 go_ret
 exact ⟨rfl, rfl⟩
theorem ho_listQ : HoC ⟨#[108, 105, 115, 116, 63]⟩ [63] (fun l => kd (l.getD 0 zT) == 8) := by
 intro d l G q w S hl hS hlen hsm hsd hf hT
 obtain ⟨x, rfl, hk⟩ := fit1 hlen hf
 obtain ⟨g, k, u, ha, hg, hc, ht⟩ := hl 0 x rfl
 cases ha
 have HK : Hid _ := kind_any ht w
 have HA : Hid _ := asked_list w
 have hsh := ht.shape2
 show Cz 52 #[_, .slice (some ⟨G, q, none⟩) 1 1] w fun e w' => e = .returned (.bool (kd x == 8)) ∧ _
 have hc0 : w.cell? ⟨G, q, none⟩ = some u := hc
 obtain ⟨y, hy⟩ : ∃ y, y = kd x := ⟨_, rfl⟩
 rw [← hy] at HK ⊢
 have O0 : Hid (Oz w w) := Only.refl _ _
 clear hl hS hlen hsm hsd hf hT hk hg hc ht hy
 rcases hsh with rfl | ⟨T, z, rfl⟩
 all_goals
  go_enter Tryz.func52, Tryz.ntmps52
  go_wp2_with fail
  refine (show Cz 28 _ _ _ from HK.out).mono ?_
  rintro e w1 ⟨rfl, hw1⟩
  obtain rfl := hw1.symm
  go_wp2_with fail
  refine (show Cz 83 _ _ _ from HA.out).mono ?_
  rintro e w1 ⟨rfl, hw1⟩
  obtain rfl := hw1.symm
  go_wp2
  go_ret
  exact ⟨rfl, O0.out⟩
theorem asked_quot (w : World) : Cz 83 #[.string ⟨#[113, 117, 111, 116, 63]⟩] w fun e w' => e = .returned (.int .i64 16) ∧ w' = w := by
 go_enter Tryz.func83, Tryz.ntmps83
 go_wp2
 go_ret
 exact ⟨rfl, rfl⟩
theorem ho_quotQ : HoC ⟨#[113, 117, 111, 116, 63]⟩ [63] (fun l => kd (l.getD 0 zT) == 16) := by
 intro d l G q w S hl hS hlen hsm hsd hf hT
 obtain ⟨x, rfl, hk⟩ := fit1 hlen hf
 obtain ⟨g, k, u, ha, hg, hc, ht⟩ := hl 0 x rfl
 cases ha
 have HK : Hid _ := kind_any ht w
 have HA : Hid _ := asked_quot w
 have hsh := ht.shape2
 show Cz 52 #[_, .slice (some ⟨G, q, none⟩) 1 1] w fun e w' => e = .returned (.bool (kd x == 16)) ∧ _
 have hc0 : w.cell? ⟨G, q, none⟩ = some u := hc
 obtain ⟨y, hy⟩ : ∃ y, y = kd x := ⟨_, rfl⟩
 rw [← hy] at HK ⊢
 have O0 : Hid (Oz w w) := Only.refl _ _
 clear hl hS hlen hsm hsd hf hT hk hg hc ht hy
 rcases hsh with rfl | ⟨T, z, rfl⟩
 all_goals
  go_enter Tryz.func52, Tryz.ntmps52
  go_wp2_with fail
  refine (show Cz 28 _ _ _ from HK.out).mono ?_
  rintro e w1 ⟨rfl, hw1⟩
  obtain rfl := hw1.symm
  go_wp2_with fail
  refine (show Cz 83 _ _ _ from HA.out).mono ?_
  rintro e w1 ⟨rfl, hw1⟩
  obtain rfl := hw1.symm
  go_wp2
  go_ret
  exact ⟨rfl, O0.out⟩
theorem asked_box (w : World) : Cz 83 #[.string ⟨#[98, 111, 120, 63]⟩] w fun e w' => e = .returned (.int .i64 32) ∧ w' = w := by
 go_enter Tryz.func83, Tryz.ntmps83
 go_wp2
 go_ret
 exact ⟨rfl, rfl⟩
theorem ho_boxQ : HoC ⟨#[98, 111, 120, 63]⟩ [63] (fun l => kd (l.getD 0 zT) == 32) := by
 intro d l G q w S hl hS hlen hsm hsd hf hT
 obtain ⟨x, rfl, hk⟩ := fit1 hlen hf
 obtain ⟨g, k, u, ha, hg, hc, ht⟩ := hl 0 x rfl
 cases ha
 have HK : Hid _ := kind_any ht w
 have HA : Hid _ := asked_box w
 have hsh := ht.shape2
 show Cz 52 #[_, .slice (some ⟨G, q, none⟩) 1 1] w fun e w' => e = .returned (.bool (kd x == 32)) ∧ _
 have hc0 : w.cell? ⟨G, q, none⟩ = some u := hc
 obtain ⟨y, hy⟩ : ∃ y, y = kd x := ⟨_, rfl⟩
 rw [← hy] at HK ⊢
 have O0 : Hid (Oz w w) := Only.refl _ _
 clear hl hS hlen hsm hsd hf hT hk hg hc ht hy
 rcases hsh with rfl | ⟨T, z, rfl⟩
 all_goals
  go_enter Tryz.func52, Tryz.ntmps52
  go_wp2_with fail
  refine (show Cz 28 _ _ _ from HK.out).mono ?_
  rintro e w1 ⟨rfl, hw1⟩
  obtain rfl := hw1.symm
  go_wp2_with fail
  refine (show Cz 83 _ _ _ from HA.out).mono ?_
  rintro e w1 ⟨rfl, hw1⟩
  obtain rfl := hw1.symm
  go_wp2
  go_ret
  exact ⟨rfl, O0.out⟩
theorem fb_ne8 {t : Vt} (h : fb t 63 = true) : t.k ≠ 8 := by
 rw [fb_63] at h
 simp at h
 omega
def eqR (d : Nat) (l : List Vt) : Except Int Vt := .ok (boT (smV d false (l.getD 0 zT) (l.getD 1 zT)))
theorem md_eq : MdC ⟨#[61]⟩ [63, 63] eqR := by
 intro d l G q w S hl hS hlen hsm hsd hf hT
 obtain ⟨x, y, rfl, hk, hk2⟩ := fit2 hlen hf
 obtain ⟨g, k, u, ha, hg, hc, ht⟩ := hl 0 x rfl
 cases ha
 obtain ⟨g2, k2, u2, ha2, hg2, hc2, ht2⟩ := hl 1 y rfl
 cases ha2
 have hsd' : sdB d x = true ∧ sdB d y = true := by simpa using hsd
 show Cz 33 #[_, .slice (some ⟨G, q, none⟩) 2 2] w fun e w' => MdP (.ok (boT (smV d false x y))) (d + 2) w e w'
 obtain ⟨b, hb⟩ : ∃ b, b = smV d false x y := ⟨_, rfl⟩
 have HE : Hid (∀ W, Oz w W → Cz 81 #[u, u2] W fun e w' => e = .returned (.tuple #[.bool b, .int .i64 0]) ∧ Oz W w') := fun W o => by
  have := vequal_any (ht.only o (fun _ _ g => g)) (ht2.only o (fun _ _ g => g)) (fun b hb => Nat.lt_of_lt_of_le (hS b hb) o.size) (hsm x (by simp)) (hsm y (by simp)) (hT.1.frame o)
  rw [hsd'.1, hsd'.2, ← hb] at this
  exact this
 have HC : Hid (∀ W, Oz w W → W.cell? ⟨G, q, none⟩ = some u ∧ W.cell? ⟨G, q + 1, none⟩ = some u2) := fun W o => ⟨o.cell hc (fun g => g), o.cell hc2 (fun g => g)⟩
 obtain ⟨T1, y1, rfl⟩ := ht.iface (fb_ne8 hk)
 obtain ⟨T2, y2, rfl⟩ := ht2.iface (fb_ne8 hk2)
 rw [← hb]
 have HP : Hid (∀ w', Oz w w' → MdP (.ok (boT b)) (d + 2) w (.returned (.tuple #[.iface 61 (.agg #[.bool b]), .int .i64 0])) w') := fun w' o => ⟨_, rfl, ⟨fun _ => False, bo_ti w' _ (d + 1) b, fun _ g => g.elim⟩, bo_sm b, o⟩
 have HH : Hid (Cz 52 #[.string ⟨#[61]⟩, .slice (some ⟨G, q, none⟩) 2 2] w fun e w' => e = .returned (.bool b) ∧ Oz w w') := by
  have O0 : Hid (Oz w w) := Only.refl _ _
  obtain ⟨c0, c1⟩ := HC.out w (Only.refl _ _)
  clear hl hS hlen hsm hsd hf hT hk hg hc ht hk2 hg2 hc2 ht2 hsd' hb HP
  show Calls _ _ _ _ _
  go_enter Tryz.func52, Tryz.ntmps52
  go_wp2
  go_region_held3 (fun W => W.cell? ⟨G, q, none⟩ = some (.iface T1 y1) ∧ W.cell? ⟨G, q + 1, none⟩ = some (.iface T2 y2))
   (first | with_reducible exact HC.out _ O0.out | with_reducible exact HC.out _ O0.out.drew | with_reducible exact HC.out _ O0.out.drew.drew | with_reducible exact HC.out _ O4.out)
   (first
    | (go_at_call 81; refine (show Cz 81 _ _ _ from HE.out _ (by first | exact O0.out | exact O0.out.drew | exact O0.out.drew.drew)).mono ?_; rintro ex w4 ⟨rfl, o4⟩; have O4 : Hid (Oz w w4) := (by first | exact O0.out.drew.trans o4 (fun _ _ g => g) | exact O0.out.trans o4 (fun _ _ g => g))))
  all_goals
   go_wp2
   go_ret
   refine ⟨rfl, ?_⟩
   repeat (first | exact O4.out | exact O0.out | refine Only.drew ?_)
 clear hl hS hlen hsm hsd hf hT hk hg hc ht hk2 hg2 hc2 ht2 hsd' hb HC HE
 go_enter Tryz.func33, Tryz.ntmps33
 go_wp2_with fail
 refine (show Cz 52 _ _ _ from HH.out).mono ?_
 rintro e w1 ⟨rfl, o1⟩
 have O1 : Hid (Oz w w1) := o1
 clear HH o1
 go_wp2
 go_ret2
 exact HP.out _ O1.out
def quoT (l : List Vt) : Vt := ⟨5, 0, ⟨#[]⟩, l⟩
theorem quo_ti {W : World} {S : Nat → Prop} {d Q : Nat} {x : Vt} {u : Value} (hc : W.cell? ⟨Q, 0, none⟩ = some (.iface 109 (.agg #[u]))) (ht : TiAt W S d false x u) (h7 : x.k ≠ 7) (h8 : x.k ≠ 8) : TiAt W (fun b => S b ∨ b = Q) (d + 2) false (quoT [x]) (.iface 66 (.agg #[.slice (some ⟨Q, 0, none⟩) 1 1])) := by
 refine .inr (.inr (.inr (.inr (.inr ⟨.inr rfl, some ⟨Q, 0, none⟩, 1, rfl, Nat.le_refl _, fun j y hy => ?_⟩))))
 have hj : j = 0 := by have := (List.getElem?_eq_some_iff.1 hy).1; simpa [quoT] using this
 subst hj
 have hy' : x = y := by simpa [quoT] using hy
 subst hy'
 exact ⟨Q, 0, _, rfl, .inr rfl, hc, .inr (.inr ⟨h7, h8, u, rfl, ht.step (fun _ g => .inl g) (fun _ _ _ g => g) (Nat.le_refl _)⟩)⟩
theorem md_curry : MdC ⟨#[99, 117, 114, 114, 121]⟩ [63, 16] (fun _ l => jnR (quoT [l.getD 0 zT]) (l.getD 1 zT)) := by
 intro d l G q w S hl hS hlen hsm hsd hf hT
 obtain ⟨x, y, rfl, hk, hk2⟩ := fit2 hlen hf
 obtain ⟨g, k, u, ha, hg, hc, ht⟩ := hl 0 x rfl
 cases ha
 obtain ⟨g2, k2, u2, ha2, hg2, hc2, ht2⟩ := hl 1 y rfl
 cases ha2
 have hsd' : sdB d x = true ∧ sdB d y = true := by simpa using hsd
 have ky := fb_16 hk2
 have kx : x.k ≠ 7 ∧ x.k ≠ 8 := by
  rw [fb_63] at hk
  simp at hk
  omega
 show Cz 33 #[_, .slice (some ⟨G, q, none⟩) 2 2] w fun e w' => MdP (jnR (quoT [x]) y) (d + 2) w e w'
 obtain ⟨t, ht0⟩ : ∃ t, jnR (quoT [x]) y = .ok t := by
  refine ⟨⟨5, 0, ⟨#[]⟩, [x] ++ y.l⟩, ?_⟩
  unfold jnR
  rw [if_pos ((kd_245 (x := quoT [x]) (.inr (.inr rfl)) (.inr (.inr ky))).2 ky.symm), if_neg (by show ¬ (5 : Int) = 2; omega)]
  rfl
 have HE : Hid (∀ (W : World) (Q : Nat), Oz w W → W.cell? ⟨Q, 0, none⟩ = some (.iface 109 (.agg #[u])) → Cz 54 #[.iface 66 (.agg #[.slice (some ⟨Q, 0, none⟩) 1 1]), u2] W fun e w' => MdP (.ok t) (d + 2) W e w') := fun W Q o hq => by
  rw [← ht0]
  exact joined_any (quo_ti hq (ht.only o (fun _ _ g => g)) kx.1 kx.2) ((ht2.only o (fun _ _ g => g)).step (fun _ g => .inl g) (fun _ _ _ g => g) (by omega)) (fun b hb => by
   rcases hb with g | rfl
   ·exact Nat.lt_of_lt_of_le (hS b g) o.size
   ·exact World.block_lt_of_cell? W _ hq) (.inr (.inr rfl)) (.inr (.inr ky)) (fun h => absurd h (by show ¬ (5 : Int) = 2; omega)) (fun h => by omega) (by show 1 ≤ 10000; omega) (by have := sd_len hsd'.2; omega) (jl_sm (.inr rfl) (fun z hz => by simp only [List.mem_cons, List.not_mem_nil, or_false] at hz; subst hz; exact hsm _ (by simp)) (by simp)) (hsm y (by simp))
 have HC : Hid (∀ W, Oz w W → W.cell? ⟨G, q, none⟩ = some u ∧ W.cell? ⟨G, q + 1, none⟩ = some u2) := fun W o => ⟨o.cell hc (fun g => g), o.cell hc2 (fun g => g)⟩
 obtain ⟨T1, y1, rfl⟩ := ht.iface kx.2
 obtain ⟨T2, y2, rfl⟩ := ht2.iface (by omega)
 rw [ht0]
 have O0 : Hid (Oz w w) := Only.refl _ _
 obtain ⟨c0, c1⟩ := HC.out w (Only.refl _ _)
 have c2 : ∀ o : Obj, (w.alloc o).cell? ⟨G, q, none⟩ = some (.iface T1 y1) := fun o => (HC.out _ (O0.out.alloc o)).1
 have c3 : ∀ o : Obj, (w.alloc o).cell? ⟨G, q + 1, none⟩ = some (.iface T2 y2) := fun o => (HC.out _ (O0.out.alloc o)).2
 clear hl hS hlen hsm hsd hf hT hk hg hc ht hk2 hg2 hc2 ht2 hsd' ht0 ky kx
 go_enter Tryz.func33, Tryz.ntmps33
 go_wp2
 go_region_with (go_at_call 54; refine (show Cz 54 _ _ _ from HE.out _ _ (by repeat' first | exact O0.out | apply Only.alloc | apply Only.drew) (by simp [go_sem])).mono ?_; rintro ex w4 ⟨v, rfl, hv, hm, o4⟩; have O4 : Hid (Oz w w4) := Only.trans (by repeat' first | exact O0.out | apply Only.alloc | apply Only.drew) o4 (fun _ _ g => g); have HV : Hid ((∃ S, TiAt w4 S (d + 2) false t v ∧ ∀ b, S b → b < w4.heap.size) ∧ ∃ e, SmT e t) := ⟨hv, hm⟩; clear hv hm o4)
 all_goals
  go_wp2
  go_ret2
  exact ⟨_, rfl, HV.out.1, HV.out.2, O4.out⟩
def tbL : List (List UInt8) := [[100, 117, 112], [100, 114, 111, 112], [115, 119, 97, 112], [111, 118, 101, 114], [114, 111, 116], [110, 105, 112], [116, 117, 99, 107], [43], [45], [42], [47], [109, 111, 100], [110, 101, 103], [97, 98, 115], [109, 105, 110], [109, 97, 120], [60], [62], [61], [97, 110, 100], [111, 114], [110, 111, 116], [105, 110, 116, 63], [115, 116, 114, 63], [98, 111, 111, 108, 63], [108, 105, 115, 116, 63], [113, 117, 111, 116, 63], [98, 111, 120, 63], [108, 101, 110, 103, 116, 104], [97, 112, 112, 101, 110, 100], [110, 116, 104], [115, 108, 105, 99, 101], [119, 114, 97, 112], [112, 97, 105, 114], [117, 110, 112, 97, 105, 114], [114, 101, 118, 101, 114, 115, 101], [99, 117, 114, 114, 121], [99, 111, 109, 112, 111, 115, 101], [62, 115, 116, 114], [62, 105, 110, 116]]
theorem wt_no {s : ByteArray} (h0 : (s.toList == [100, 117, 112]) = false) (h1 : (s.toList == [100, 114, 111, 112]) = false) (h2 : (s.toList == [115, 119, 97, 112]) = false) (h3 : (s.toList == [111, 118, 101, 114]) = false) (h4 : (s.toList == [114, 111, 116]) = false) (h5 : (s.toList == [110, 105, 112]) = false) (h6 : (s.toList == [116, 117, 99, 107]) = false) (h7 : (s.toList == [43]) = false) (h8 : (s.toList == [45]) = false) (h9 : (s.toList == [42]) = false) (h10 : (s.toList == [47]) = false) (h11 : (s.toList == [109, 111, 100]) = false) (h12 : (s.toList == [110, 101, 103]) = false) (h13 : (s.toList == [97, 98, 115]) = false) (h14 : (s.toList == [109, 105, 110]) = false) (h15 : (s.toList == [109, 97, 120]) = false) (h16 : (s.toList == [60]) = false) (h17 : (s.toList == [62]) = false) (h18 : (s.toList == [61]) = false) (h19 : (s.toList == [97, 110, 100]) = false) (h20 : (s.toList == [111, 114]) = false) (h21 : (s.toList == [110, 111, 116]) = false) (h22 : (s.toList == [105, 110, 116, 63]) = false) (h23 : (s.toList == [115, 116, 114, 63]) = false) (h24 : (s.toList == [98, 111, 111, 108, 63]) = false) (h25 : (s.toList == [108, 105, 115, 116, 63]) = false) (h26 : (s.toList == [113, 117, 111, 116, 63]) = false) (h27 : (s.toList == [98, 111, 120, 63]) = false) (h28 : (s.toList == [108, 101, 110, 103, 116, 104]) = false) (h29 : (s.toList == [97, 112, 112, 101, 110, 100]) = false) (h30 : (s.toList == [110, 116, 104]) = false) (h31 : (s.toList == [115, 108, 105, 99, 101]) = false) (h32 : (s.toList == [119, 114, 97, 112]) = false) (h33 : (s.toList == [112, 97, 105, 114]) = false) (h34 : (s.toList == [117, 110, 112, 97, 105, 114]) = false) (h35 : (s.toList == [114, 101, 118, 101, 114, 115, 101]) = false) (h36 : (s.toList == [99, 117, 114, 114, 121]) = false) (h37 : (s.toList == [99, 111, 109, 112, 111, 115, 101]) = false) (h38 : (s.toList == [62, 115, 116, 114]) = false) (h39 : (s.toList == [62, 105, 110, 116]) = false) (w : World) : Cz 14 #[.string s] w fun e w' => e = .returned (.tuple #[.slice none 0 0, .bool false]) ∧ w' = w := by
 go_enter Tryz.func14, Tryz.ntmps14
 go_wp2
 go_ret2
 exact ⟨rfl, rfl⟩
theorem wt_none {s : ByteArray} (h : s.toList ∉ tbL) (w : World) : Cz 14 #[.string s] w fun e w' => e = .returned (.tuple #[.slice none 0 0, .bool false]) ∧ w' = w := by
 have key : ∀ l ∈ tbL, (s.toList == l) = false := fun l hl => by
  rw [beq_eq_false_iff_ne]
  intro e
  rw [e] at h
  exact h hl
 exact wt_no (key _ (by simp [tbL])) (key _ (by simp [tbL])) (key _ (by simp [tbL])) (key _ (by simp [tbL])) (key _ (by simp [tbL])) (key _ (by simp [tbL])) (key _ (by simp [tbL])) (key _ (by simp [tbL])) (key _ (by simp [tbL])) (key _ (by simp [tbL])) (key _ (by simp [tbL])) (key _ (by simp [tbL])) (key _ (by simp [tbL])) (key _ (by simp [tbL])) (key _ (by simp [tbL])) (key _ (by simp [tbL])) (key _ (by simp [tbL])) (key _ (by simp [tbL])) (key _ (by simp [tbL])) (key _ (by simp [tbL])) (key _ (by simp [tbL])) (key _ (by simp [tbL])) (key _ (by simp [tbL])) (key _ (by simp [tbL])) (key _ (by simp [tbL])) (key _ (by simp [tbL])) (key _ (by simp [tbL])) (key _ (by simp [tbL])) (key _ (by simp [tbL])) (key _ (by simp [tbL])) (key _ (by simp [tbL])) (key _ (by simp [tbL])) (key _ (by simp [tbL])) (key _ (by simp [tbL])) (key _ (by simp [tbL])) (key _ (by simp [tbL])) (key _ (by simp [tbL])) (key _ (by simp [tbL])) (key _ (by simp [tbL])) (key _ (by simp [tbL])) w
theorem do_none {name : ByteArray} (hW : name.toList ∉ tbL) {d : Nat} {l : List Vt} {ao : Option Addr} {cap : Nat} {w : World} {S : Nat → Prop} (hl : PsAt w S d false l ao) (hS : ∀ b, S b → b < w.heap.size) (hsm : ∀ x ∈ l, ∃ e, SmT e x) (hlen : l.length ≤ 1048576) (hT : Tx w) :
  Cz 7 #[.string name, .slice ao l.length cap] w fun e w' => e = .returned (.tuple #[.slice none 0 0, .int .i64 (if l.all (sdB d) then 10 else 1)]) ∧ Oz w w' := by
 have HC1 : Hid _ := copies_any (cap := cap) hl hS hsm hlen hT.1
 have HW : Hid (∀ W, Cz 14 #[.string name] W fun e w' => e = .returned (.tuple #[.slice none 0 0, .bool false]) ∧ w' = W) := wt_none hW
 obtain ⟨N, hN⟩ : ∃ N, N = l.length := ⟨_, rfl⟩
 rw [← hN]
 rw [← hN] at HC1
 have HN : Hid (N = l.length) := hN
 clear hW hl hS hsm hlen hT hN
 cases hZ : l.all (sdB d) with
 | false =>
   rw [hZ] at HC1
   clear hZ
   go_enter Tryz.func7, Tryz.ntmps7
   go_wp2_with fail
   refine (show Cz 13 _ _ _ from HC1.out).mono ?_
   rintro e w1 ⟨v, rfl, _, hv, o1⟩
   obtain rfl := hv rfl
   have O1 : Hid (Oz w w1) := o1
   clear HC1 o1 hv
   go_wp2
   go_ret2
   exact ⟨rfl, O1.out⟩
 | true =>
   rw [hZ] at HC1
   clear hZ
   go_enter Tryz.func7, Tryz.ntmps7
   go_wp2_with fail
   refine (show Cz 13 _ _ _ from HC1.out).mono ?_
   rintro e w1 ⟨v, rfl, hv, _, o1⟩
   obtain ⟨G, rfl, hsk⟩ := hv rfl
   have O1 : Hid (Oz w w1) := o1
   rw [← HN.out]
   clear HC1 o1 hv hsk
   go_wp2_with fail
   refine (show Cz 14 _ _ _ from HW.out _).mono ?_
   rintro e w2 ⟨rfl, hw⟩
   obtain rfl := hw.symm
   go_wp2
   go_ret2
   exact ⟨rfl, O1.out⟩
def ntR (n : Int) (t : Vt) : Except Int Vt :=
 match pcR n (n + 1) t with
 | .error e => .error e
 | .ok x => if x.k = 4 then .ok (x.l.getD 0 zT) else .ok x
theorem fb_10 {t : Vt} (h : fb t 10 = true) : t.k = 2 ∨ t.k = 4 := by
 unfold fb at h
 rcases kd_cases t with ⟨e, k⟩ | ⟨e, k⟩ | ⟨e, k⟩ | ⟨e, k⟩ | ⟨e, k⟩ | ⟨e, k⟩ | ⟨e, k⟩ <;> rw [k] at h <;> first | omega | (exfalso; revert h; decide)
theorem kd_4 (t : Vt) : kd t = 8 ↔ t.k = 4 := by
 rcases kd_cases t with ⟨e, k⟩ | ⟨e, k⟩ | ⟨e, k⟩ | ⟨e, k⟩ | ⟨e, k⟩ | ⟨e, k⟩ | ⟨e, k⟩ <;> rw [k] <;> omega
theorem pc_len {n m : Int} {t x : Vt} (h : pcR n m t = .ok x) (hk : x.k = 4) : t.k ≠ 2 ∧ x.l.length = m.toNat - n.toNat := by
 unfold pcR at h
 by_cases h2 : t.k = 2
 ·rw [if_pos h2] at h
  split at h
  ·cases h
   simp [stT] at hk
  ·cases h
 ·rw [if_neg h2] at h
  split at h
  ·cases h
   exact ⟨h2, by simp; omega⟩
  ·cases h
theorem pc_kind {n m : Int} {t x : Vt} (h : pcR n m t = .ok x) : x.k = 2 ∨ x.k = 4 := by
 unfold pcR at h
 split at h <;> split at h <;> cases h
 ·exact .inl rfl
 ·exact .inr rfl
theorem pc_in {n m : Int} {t x : Vt} (h : pcR n m t = .ok x) : 0 ≤ n ∧ n ≤ m := by
 unfold pcR at h
 split at h <;> split at h <;> cases h <;> omega
theorem nth_any {D : Nat} {x : Vt} {u : Value} {w : World} {S : Nat → Prop} (hx : TiAt w S D false x u) (hS : ∀ b, S b → b < w.heap.size) (kx : x.k = 2 ∨ x.k = 4) (sq : x.k = 2 → ∃ q, VL q ∧ x.s = tx q) (sx : x.k = 2 → x.s.size ≤ 4096) (lx : x.l.length ≤ 10000) (mx : ∃ e, SmT e x) (n : Int) (hn : cfit n = true) : Cz 55 #[.int .i64 n, u] w fun e w' => MdP (ntR n x) D w e w' := by
 have hnb := cfit_true hn
 have i1 : IntKind.i64.wrap (n + 1) = n + 1 := by rw [IntKind.wrap_i64]; omega
 have HP : Hid _ := piece_any hx hS kx sq sx lx mx n (n + 1)
 unfold ntR
 have hin := fun t (h : pcR n (n + 1) x = .ok t) => pc_len h
 have hkk := fun t (h : pcR n (n + 1) x = .ok t) => pc_kind h
 have hii := fun t (h : pcR n (n + 1) x = .ok t) => pc_in h
 obtain ⟨Y, hY⟩ : ∃ Y, Y = pcR n (n + 1) x := ⟨_, rfl⟩
 rw [← hY] at HP hin hkk hii ⊢
 clear hx hS kx sq sx lx mx hn hnb hY
 cases Y with
 | error m =>
   dsimp only
   clear hin hkk hii
   go_enter Tryz.func55, Tryz.ntmps55
   go_wp2_with fail
   refine (show Cz 56 _ _ _ from HP.out).mono ?_
   rintro e w1 ⟨v, rfl, hv, hm, o1⟩
   have HE : Hid (MdP (.error m) D w (.returned (.tuple #[v, .int .i64 m])) w1) := ⟨v, rfl, hv, hm, o1⟩
   clear HP o1
   have hm' : ¬ m = 0 := by simpa using hm
   clear hm
   rcases hv with rfl | ⟨T, y, rfl⟩
   all_goals
    go_wp2
    go_ret2
    exact HE.out
 | ok t =>
   dsimp only
   have hk := hkk t rfl
   have hl := hin t rfl
   have hi := hii t rfl
   clear hin hkk hii
   by_cases h4 : t.k = 4
   ·rw [if_pos h4]
    obtain ⟨_, h1⟩ := hl h4
    have hlen : t.l.length = 1 := by omega
    obtain ⟨y, hy⟩ : ∃ y, t.l = [y] := List.length_eq_one_iff.1 hlen
    rw [hy]
    show Calls _ _ _ _ fun e w' => MdP (.ok y) D w e w'
    have hkd : kd t = 8 := (kd_4 t).2 h4
    clear hl hk
    go_enter Tryz.func55, Tryz.ntmps55
    go_wp2_with fail
    refine (show Cz 56 _ _ _ from HP.out).mono ?_
    rintro e w1 ⟨v, rfl, ⟨S1, ht, hS1⟩, hsm, o1⟩
    have HK : Hid (∀ W, Cz 28 #[v] W fun e w' => e = .returned (.int .i64 8) ∧ w' = W) := by rw [← hkd]; exact kind_any ht
    obtain ⟨a1, c1, hvv, g, q, u1, he, hc, HV⟩ : ∃ a1 c1, v = .iface 63 (.agg #[.slice a1 1 c1]) ∧ ∃ g q u1, a1 = some ⟨g, q, none⟩ ∧ w1.cell? ⟨g, q, none⟩ = some u1 ∧ Hid (MdP (.ok y) D w (.returned (.tuple #[u1, .int .i64 0])) w1) := by
     cases D with
     | zero => exact ht.elim
     | succ D =>
       rcases ht with ⟨e, _⟩ | ⟨e, _⟩ | ⟨e, _⟩ | ⟨e, _⟩ | ⟨e, _⟩ | ⟨_, a1, c1, hv, q1, p1⟩
       ·omega
       ·omega
       ·omega
       ·omega
       ·omega
       rw [if_pos h4, hlen] at hv
       rw [show decide (t.k = 5) = false by rw [h4]; rfl] at p1
       obtain ⟨g, q, u1, ha, hg, hc, ht1⟩ := p1 0 y (by rw [hy]; rfl)
       exact ⟨a1, c1, hv, g, q, u1, ha, hc, ⟨u1, rfl, ⟨S1, ht1.step (fun _ g => g) (fun _ _ _ g => g) (by omega), hS1⟩, sm_parts hsm y (by rw [hy]; exact List.mem_cons_self ..), o1⟩⟩
    subst hvv
    subst he
    have HL : Hid (∀ W, Cz 32 #[.iface 63 (.agg #[.slice (some ⟨g, q, none⟩) 1 c1])] W fun e w' => e = .returned (.slice (some ⟨g, q, none⟩) 1 c1) ∧ w' = W) := g_list _ 1 c1
    clear ht hS1 hsm o1 HP hi h4 h1 hlen hy hkd
    go_wp2_with fail
    refine (show Cz 28 _ _ _ from HK.out _).mono ?_
    rintro e w2 ⟨rfl, hw2⟩
    obtain rfl := hw2.symm
    clear HK
    go_wp2_with fail
    refine (show Cz 32 _ _ _ from HL.out _).mono ?_
    rintro e w2 ⟨rfl, hw2⟩
    obtain rfl := hw2.symm
    clear HL
    go_wp2
    go_ret2
    exact HV.out
   ·rw [if_neg h4]
    have hkd : ¬ kd t = 8 := fun h => h4 ((kd_4 t).1 h)
    have hne : t.k ≠ 8 := by omega
    clear hl hi
    obtain ⟨K, hK⟩ : ∃ K, K = kd t := ⟨_, rfl⟩
    rw [← hK] at hkd
    go_enter Tryz.func55, Tryz.ntmps55
    go_wp2_with fail
    refine (show Cz 56 _ _ _ from HP.out).mono ?_
    rintro e w1 ⟨v, rfl, ⟨S1, ht, hS1⟩, hsm, o1⟩
    have HK : Hid (∀ W, Cz 28 #[v] W fun e w' => e = .returned (.int .i64 K) ∧ w' = W) := by rw [hK]; exact kind_any ht
    have HV : Hid (MdP (.ok t) D w (.returned (.tuple #[v, .int .i64 0])) w1) := ⟨v, rfl, ⟨S1, ht, hS1⟩, hsm, o1⟩
    obtain ⟨T1, y1, rfl⟩ := ht.iface (by omega)
    clear ht hS1 hsm o1 HP hk h4 hne hK
    go_wp2_with fail
    refine (show Cz 28 _ _ _ from HK.out _).mono ?_
    rintro e w2 ⟨rfl, hw2⟩
    obtain rfl := hw2.symm
    clear HK
    go_wp2
    go_ret2
    exact HV.out
theorem md_nth : MdC ⟨#[110, 116, 104]⟩ [1, 10] (fun _ l => ntR (l.getD 0 zT).n (l.getD 1 zT)) := by
 intro d l G q w S hl hS hlen hsm hsd hf hT
 obtain ⟨x, y, rfl, hk, hk2⟩ := fit2 hlen hf
 obtain ⟨g, k, u, ha, hg, hc, ht⟩ := hl 0 x rfl
 cases ha
 obtain ⟨g2, k2, u2, ha2, hg2, hc2, ht2⟩ := hl 1 y rfl
 cases ha2
 have hu := ti_1 ht (fb_1 hk)
 subst hu
 have hsd' : sdB d x = true ∧ sdB d y = true := by simpa using hsd
 have f1 := sd_fit hsd'.1 (fb_1 hk)
 show Cz 33 #[_, .slice (some ⟨G, q, none⟩) 2 2] w fun e w' => MdP (ntR x.n y) (d + 2) w e w'
 obtain ⟨n, hn⟩ : ∃ n, n = x.n := ⟨_, rfl⟩
 rw [← hn] at f1 hc ⊢
 obtain ⟨Y, hY⟩ : ∃ Y, Y = ntR n y := ⟨_, rfl⟩
 have HE : Hid (∀ W, Oz w W → Cz 55 #[.int .i64 n, u2] W fun e w' => MdP Y (d + 2) W e w') := fun W o => by
  rw [hY]
  exact nth_any ((ht2.only o (fun _ _ g => g)).step (fun _ g => g) (fun _ _ _ g => g) (by omega)) (fun b hb => Nat.lt_of_lt_of_le (hS b hb) o.size) (fb_10 hk2) (sd_q hsd'.2) (sd_str hsd'.2) (by have := sd_len hsd'.2; omega) (hsm y (by simp)) n f1
 have HC : Hid (∀ W, Oz w W → W.cell? ⟨G, q, none⟩ = some (.iface 35 (.agg #[.int .i64 n])) ∧ W.cell? ⟨G, q + 1, none⟩ = some u2) := fun W o => ⟨o.cell hc (fun g => g), o.cell hc2 (fun g => g)⟩
 obtain ⟨T2, y2, rfl⟩ := ht2.iface (by have := fb_10 hk2; omega)
 have HN : Hid (∀ W, Cz 51 #[.iface 35 (.agg #[.int .i64 n])] W fun e w' => e = .returned (.int .i64 n) ∧ w' = W) := g_number n
 rw [← hY]
 have O0 : Hid (Oz w w) := Only.refl _ _
 obtain ⟨c0, c1⟩ := HC.out w (Only.refl _ _)
 clear hl hS hlen hsm hsd hf hT hk hg hc ht hk2 hg2 hc2 ht2 hsd' hY f1 hn
 cases Y with
 | error er =>
   have HP : Hid (∀ w1 w' v, Oz w w1 → Oz w1 w' → (v = .nilIface ∨ ∃ T y, v = .iface T y) → (er == 0) = false → MdP (.error er) (d + 2) w (.returned (.tuple #[v, .int .i64 er])) w') := fun w1 w' v o o' a b => ⟨v, rfl, a, b, o.trans o' (fun _ _ g => g)⟩
   go_enter Tryz.func33, Tryz.ntmps33
   go_wp2
   go_region_held3 (fun W => W.cell? ⟨G, q, none⟩ = some (.iface 35 (.agg #[.int .i64 n])) ∧ W.cell? ⟨G, q + 1, none⟩ = some (.iface T2 y2))
    (first | with_reducible exact HC.out _ O0.out | with_reducible exact HC.out _ O0.out.drew | with_reducible exact HC.out _ O0.out.drew.drew | with_reducible exact HC.out _ O4.out)
    (first
     | (go_at_call 55; refine (show Cz 55 _ _ _ from HE.out _ (by first | exact O0.out | exact O0.out.drew | exact O0.out.drew.drew)).mono ?_; rintro ex w4 ⟨v, rfl, hv, hn, o4⟩; have O4 : Hid (Oz w w4) := (by first | exact O0.out.drew.trans o4 (fun _ _ g => g) | exact O0.out.trans o4 (fun _ _ g => g)))
     | (go_at_call 51; refine (show Cz 51 _ _ _ from HN.out _).mono ?_; rintro ex w4 ⟨rfl, rfl⟩))
   all_goals
    go_wp2
    go_ret2
    exact HP.out _ _ _ O0.out O4.out hv hn
 | ok t =>
   go_enter Tryz.func33, Tryz.ntmps33
   go_wp2
   go_region_held3 (fun W => W.cell? ⟨G, q, none⟩ = some (.iface 35 (.agg #[.int .i64 n])) ∧ W.cell? ⟨G, q + 1, none⟩ = some (.iface T2 y2))
    (first | with_reducible exact HC.out _ O0.out | with_reducible exact HC.out _ O0.out.drew | with_reducible exact HC.out _ O0.out.drew.drew | with_reducible exact HC.out _ O4.out)
    (first
     | (go_at_call 55; refine (show Cz 55 _ _ _ from HE.out _ (by first | exact O0.out | exact O0.out.drew | exact O0.out.drew.drew)).mono ?_; rintro ex w4 ⟨v, rfl, hv, hm, o4⟩; have O4 : Hid (Oz w w4) := (by first | exact O0.out.drew.trans o4 (fun _ _ g => g) | exact O0.out.trans o4 (fun _ _ g => g)); have HV : Hid ((∃ S, TiAt w4 S (d + 2) false t v ∧ ∀ b, S b → b < w4.heap.size) ∧ ∃ e, SmT e t) := ⟨hv, hm⟩; clear hv hm o4)
     | (go_at_call 51; refine (show Cz 51 _ _ _ from HN.out _).mono ?_; rintro ex w4 ⟨rfl, rfl⟩))
   all_goals
    go_wp2
    go_ret2
    exact ⟨_, rfl, HV.out.1, HV.out.2, O4.out⟩
def rvI (n k j : Nat) : Nat := if j < k ∨ n - k ≤ j then n - 1 - j else j
def RoP (w w' : World) (g n : Nat) (f : Nat → Option Value) : Prop := w.heap.size ≤ g ∧ (∀ j, j < n → w'.cell? ⟨g, j, none⟩ = f j ∧ w'.frozen? ⟨g, j, none⟩ = false) ∧ Oz w w'
theorem RoP.swap {w w' : World} {g n k : Nat} {us : List Value} {x y : Value} (h : RoP w w' g n (fun j => us[rvI n k j]?)) (hk : 2 * k + 1 < n) (hl : us.length = n) (hx : us[k]? = some x) (hy : us[n - 1 - k]? = some y) : RoP w ((w'.setCell ⟨g, k, none⟩ y).setCell ⟨g, n - 1 - k, none⟩ x) g n (fun j => us[rvI n (k + 1) j]?) := by
 obtain ⟨h1, h2, h3⟩ := h
 refine ⟨h1, fun j hj => ⟨?_, ?_⟩, (h3.setCell _ _ (fun q => absurd q (by dsimp only; omega))).setCell _ _ (fun q => absurd q (by dsimp only; omega))⟩
 ·have ne : ∀ (W : World) (i j : Nat) (v : Value), i ≠ j → (W.setCell ⟨g, i, none⟩ v).cell? ⟨g, j, none⟩ = W.cell? ⟨g, j, none⟩ := fun W i j v g => by apply World.cell?_setCell_other; intro e; exact g (by injection e)
  have hs : ∀ i, i < n → ∃ u, w'.cell? ⟨g, i, none⟩ = some u := fun i hi => by
   have h4 := (h2 i hi).1
   dsimp only at h4
   have h5 : rvI n k i < us.length := by unfold rvI; split <;> omega
   rw [List.getElem?_eq_getElem h5] at h4
   exact ⟨_, h4⟩
  by_cases e1 : j = n - 1 - k
  ·subst e1
   obtain ⟨u, hu⟩ := hs (n - 1 - k) hj
   rw [World.cell?_setCell_same' _ _ _ (by rw [ne _ _ _ _ (by omega), hu]; rfl)]
   dsimp only
   rw [show rvI n (k + 1) (n - 1 - k) = k by unfold rvI; split <;> omega, hx]
  ·rw [ne _ _ _ _ (fun e => e1 e.symm)]
   by_cases e2 : j = k
   ·subst e2
    obtain ⟨u, hu⟩ := hs j hj
    rw [World.cell?_setCell_same' _ _ _ (by rw [hu]; rfl)]
    dsimp only
    rw [show rvI n (j + 1) j = n - 1 - j by unfold rvI; split <;> omega, hy]
   ·rw [ne _ _ _ _ (fun e => e2 e.symm), (h2 j hj).1]
    have : rvI n (k + 1) j = rvI n k j := by
     unfold rvI
     split <;> split <;> omega
    dsimp only
    rw [this]
 ·rw [World.frozen?_setCell, World.frozen?_setCell]
  exact (h2 j hj).2
theorem inf_r : ∃ i z, Tryz.prog.info? 21 = some i ∧ i.zero = some z ∧ i.size = 1 ∧ i.bytes = 4 := ⟨_, _, rfl, rfl, rfl, rfl⟩
theorem clone_r {n c : Nat} {us : List Value} {ad : Addr} {w : World} (hl : us.length = n) (h0 : 0 < n) (hn : n ≤ 10000) (hu : ∀ j u, us[j]? = some u → w.cell? (ad.add j) = some u) : Cz 111 #[.slice (some ad) n c] w fun e w' => ∃ g c', e = .returned (.slice (some ⟨g, 0, none⟩) n c') ∧ Hid (n ≤ c' ∧ RoP w w' g n (fun j => us[j]?)) := by
 obtain ⟨i, z, hi, hz, hs, hb⟩ := inf_r
 have hap : ∀ (W : World) (b : Addr), Oz w W → ∃ c' cur, (∀ ty, (Builtin.append_ #[144, 144] ty #[.slice (some b) 0 0, .slice (some ad) n c]).run Tryz.prog W = .ok (.slice (some ⟨W.heap.size, 0, none⟩) n c') (W.drew.alloc (.cells cur 21))) ∧ n ≤ c' ∧ ∀ j, j < n → cur[j]? = us[j]? := fun W b o => by
  refine ⟨grownCap W n 0 21, us.toArray ++ Builtin.zeroCells z.cells (grownCap W n 0 21 - n), fun ty => ?_, grownCap_ge W n 0 21, fun j hj => ?_⟩
  ·have h := run_append_grow (P := Tryz.prog) (w := W) 144 ty 21 i z Tryz.underlying144 hi hz b 0 0 [] (by simp) (fun j v h => by simp at h) ad n c us (by rw [hs, hl, Nat.mul_one]) (fun j u h => o.cell (hu j u h) (fun g => g)) (by omega) (by omega) (by rw [hb, Nat.zero_add, nextslicecap_zero h0]; omega)
   simpa using h
  ·rw [Array.getElem?_append_left (by simp; omega)]
   simp
 have O0 : Hid (Oz w w) := Only.refl _ _
 have HH : Hid (∀ (W : World) (c' g : Nat) (cur : Array Value), g = W.heap.size → Oz w W → n ≤ c' → (∀ j, j < n → cur[j]? = us[j]?) → n ≤ c' ∧ RoP w (W.alloc (.cells cur 21)).drew g n (fun j => us[j]?)) := fun W c' g cur hg o a1 a3 => by
  have hb : (W.alloc (.cells cur 21)).drew.heap[g]? = some (.cells cur 21) := valloc_at W _ _ hg
  exact ⟨a1, by have := o.size; omega, fun j hj => ⟨(blk_cells hb j).trans (a3 j hj), blk_froz hb j⟩, (o.alloc _).drew⟩
 obtain ⟨c1, cur1, hap1, hc1, hcu1⟩ := hap (w.alloc (.cells #[] 21)) ⟨w.heap.size, 0, none⟩ (O0.out.alloc _)
 have HR : Hid _ := HH.out (w.alloc (.cells #[] 21)) c1 (w.heap.size + 1) cur1 (by simp) (O0.out.alloc _) hc1 hcu1
 have hne : ¬ n = 0 := by omega
 have hne2 : ¬ n ≤ 0 := by omega
 clear hi hz hs hb hl hn hu hap HH hc1 hcu1
 go_enter Tryz.func111, Tryz.ntmps111
 have hnil : ∀ W, (binOp .eql 144 (.slice (some ad) n c) (.slice none 0 0)).run Tryz.prog W = .ok (.bool false) W := fun W => by
  have := Lib.run_eql_slice_nil (P := Tryz.prog) W 144 21 (some ad) n c 0 0 Tryz.underlying144
  simpa using this
 have HA : Hid (∀ ty, (Builtin.append_ #[144, 144] ty #[.slice (some ⟨w.heap.size, 0, none⟩) 0 0, .slice (some ad) n c]).run Tryz.prog (w.alloc (.cells #[] 21)) = .ok (.slice (some ⟨(w.alloc (.cells #[] 21)).heap.size, 0, none⟩) n c1) ((w.alloc (.cells #[] 21)).drew.alloc (.cells cur1 21))) := hap1
 clear hap1
 go_wp2_with (at_builtin; refine vwpList_append_run rfl _ _ 144 rfl _ _ _ rfl rfl HA.out ?_)
 go_wp2
 go_ret
 exact ⟨_, _, rfl, HR⟩
theorem reverse_r {n c g : Nat} {us : List Value} {w0 w : World} (hl : us.length = n) (h0 : 0 < n) (hn : n ≤ 10000) (h1 : ∀ u ∈ us, ∃ b : Int, u = .int .i32 b) (h : RoP w0 w g n (fun j => us[j]?)) : Cz 112 #[.slice (some ⟨g, 0, none⟩) n c] w fun e w' => e = .returned (.tuple #[]) ∧ Hid (RoP w0 w' g n (fun j => us[n - 1 - j]?)) := by
 have HI0 : Hid (RoP w0 w g n (fun j => us[rvI n 0 j]?)) := ⟨h.1, fun j hj => ⟨(h.2.1 j hj).1.trans (by dsimp only; rw [show rvI n 0 j = j by unfold rvI; split <;> omega]), (h.2.1 j hj).2⟩, h.2.2⟩
 have HS : Hid (∀ k W, 2 * k + 1 < n → RoP w0 W g n (fun j => us[rvI n k j]?) → ∃ x y, W.cell? ⟨g, k, none⟩ = some x ∧ W.cell? ⟨g, n - 1 - k, none⟩ = some y ∧ (∃ b : Int, x = .int .i32 b) ∧ (∃ b : Int, y = .int .i32 b) ∧ W.frozen? ⟨g, k, none⟩ = false ∧ W.frozen? ⟨g, n - 1 - k, none⟩ = false ∧ Hid (RoP w0 ((W.setCell ⟨g, k, none⟩ y).setCell ⟨g, n - 1 - k, none⟩ x) g n (fun j => us[rvI n (k + 1) j]?))) := fun k W hk hR => by
  have hx : us[k]? = some (us[k]'(by omega)) := List.getElem?_eq_getElem _
  have hy : us[n - 1 - k]? = some (us[n - 1 - k]'(by omega)) := List.getElem?_eq_getElem _
  refine ⟨_, _, (hR.2.1 k (by omega)).1.trans ((congrArg (fun i => us[i]?) (show rvI n k k = k by unfold rvI; split <;> omega)).trans hx), (hR.2.1 (n - 1 - k) (by omega)).1.trans ((congrArg (fun i => us[i]?) (show rvI n k (n - 1 - k) = n - 1 - k by unfold rvI; split <;> omega)).trans hy), h1 _ (List.getElem_mem _), h1 _ (List.getElem_mem _), (hR.2.1 k (by omega)).2, (hR.2.1 (n - 1 - k) (by omega)).2, hR.swap hk hl hx hy⟩
 have HE : Hid (∀ k W, ¬ 2 * k + 1 < n → 2 * k ≤ n → RoP w0 W g n (fun j => us[rvI n k j]?) → RoP w0 W g n (fun j => us[n - 1 - j]?)) := fun k W hk hk2 hR => ⟨hR.1, fun j hj => ⟨(hR.2.1 j hj).1.trans (congrArg (fun i => us[i]?) (show rvI n k j = n - 1 - j by unfold rvI; split <;> omega)), (hR.2.1 j hj).2⟩, hR.2.2⟩
 have i0 : IntKind.i64.wrap ((n : Int) - 1) = ((n - 1 : Nat) : Int) := by rw [IntKind.wrap_i64]; omega
 clear hl h1 h
 go_enter Tryz.func112, Tryz.ntmps112
 go_wp2
 go_loopw [2, 3] (fun r x wr => ∃ k : Nat, r = .int .i64 (k : Int) ∧ x = .int .i64 ((n - 1 - k : Nat) : Int) ∧ 2 * k ≤ n ∧ Hid (RoP w0 wr g n (fun j => us[rvI n k j]?))) (fun r _ _ => n - vuOf r)
 case atStart => exact ⟨0, rfl, rfl, by omega, HI0⟩
 case round =>
  obtain ⟨k, rfl, rfl, hk, HI⟩ := hrel
  obtain ⟨w5, hw5⟩ : ∃ w5, w5 = wr := ⟨_, rfl⟩
  rw [← hw5] at HI ⊢
  clear hw5 HI0
  by_cases hk2 : 2 * k + 1 < n
  ·obtain ⟨x, y, hx, hy, ox, oy, fx, fy, HN⟩ := HS.out k w5 hk2 HI.out
   obtain ⟨m, hm⟩ : ∃ m, m = n - 1 - k := ⟨_, rfl⟩
   rw [← hm] at hy fy HN ⊢
   have i1 : (k : Int) < (m : Int) := by omega
   have i2 : (k : Int) < (n : Int) := by omega
   have i3 : (m : Int) < (n : Int) := by omega
   have i4 : (0 : Int) ≤ (k : Int) := by omega
   have i5 : (0 : Int) ≤ (m : Int) := by omega
   have i6 : IntKind.i64.wrap ((m : Int) - 1) = ((n - 1 - (k + 1) : Nat) : Int) := by rw [IntKind.wrap_i64]; omega
   have fy2 : (w5.setCell ⟨g, k, none⟩ y).frozen? ⟨g, m, none⟩ = false := by rw [World.frozen?_setCell]; exact fy
   have hy2 : (w5.setCell ⟨g, k, none⟩ y).cell? ⟨g, m, none⟩ = some y := by rw [World.cell?_setCell_other _ _ _ _ (by intro e; injection e; omega)]; exact hy
   have hxd : w5.drew.cell? ⟨g, k, none⟩ = some x := hx
   have hyd : w5.drew.cell? ⟨g, m, none⟩ = some y := hy
   have fxd : w5.drew.frozen? ⟨g, k, none⟩ = false := fx
   have hyd2 : (w5.setCell ⟨g, k, none⟩ y).drew.cell? ⟨g, m, none⟩ = some y := hy2
   have fyd2 : (w5.setCell ⟨g, k, none⟩ y).drew.frozen? ⟨g, m, none⟩ = false := fy2
   subst hm
   clear HI
   obtain ⟨x0, rfl⟩ := ox; obtain ⟨y0, rfl⟩ := oy
   all_goals
    go_wp2
    go_region
    go_wp2
    go_roundw
    case rel => exact ⟨k + 1, by go_num, rfl, by omega, HN.out.1, HN.out.2.1, HN.out.2.2.drew⟩
    case measure => simp only [vuOf]; omega
  ·have i1 : ¬ (k : Int) < ((n - 1 - k : Nat) : Int) := by omega
   have HR : Hid _ := HE.out k w5 hk2 hk HI.out
   clear HI HS HE
   go_wp2
   go_end0
   exact ⟨rfl, HR⟩
theorem inf_v : ∃ i z, Tryz.prog.info? 41 = some i ∧ i.zero = some z ∧ i.size = 1 ∧ i.bytes = 16 := ⟨_, _, rfl, rfl, rfl, rfl⟩
theorem clone_v {n c : Nat} {us : List Value} {ad : Addr} {w : World} (hl : us.length = n) (h0 : 0 < n) (hn : n ≤ 10000) (hu : ∀ j u, us[j]? = some u → w.cell? (ad.add j) = some u) : Cz 113 #[.slice (some ad) n c] w fun e w' => ∃ g c', e = .returned (.slice (some ⟨g, 0, none⟩) n c') ∧ Hid (n ≤ c' ∧ RoP w w' g n (fun j => us[j]?)) := by
 obtain ⟨i, z, hi, hz, hs, hb⟩ := inf_v
 have hap : ∀ (W : World) (b : Addr), Oz w W → ∃ c' cur, (∀ ty, (Builtin.append_ #[25, 25] ty #[.slice (some b) 0 0, .slice (some ad) n c]).run Tryz.prog W = .ok (.slice (some ⟨W.heap.size, 0, none⟩) n c') (W.drew.alloc (.cells cur 41))) ∧ n ≤ c' ∧ ∀ j, j < n → cur[j]? = us[j]? := fun W b o => by
  refine ⟨grownCap W n 0 41, us.toArray ++ Builtin.zeroCells z.cells (grownCap W n 0 41 - n), fun ty => ?_, grownCap_ge W n 0 41, fun j hj => ?_⟩
  ·have h := run_append_grow (P := Tryz.prog) (w := W) 25 ty 41 i z Tryz.underlying25 hi hz b 0 0 [] (by simp) (fun j v h => by simp at h) ad n c us (by rw [hs, hl, Nat.mul_one]) (fun j u h => o.cell (hu j u h) (fun g => g)) (by omega) (by omega) (by rw [hb, Nat.zero_add, nextslicecap_zero h0]; omega)
   simpa using h
  ·rw [Array.getElem?_append_left (by simp; omega)]
   simp
 have O0 : Hid (Oz w w) := Only.refl _ _
 have HH : Hid (∀ (W : World) (c' g : Nat) (cur : Array Value), g = W.heap.size → Oz w W → n ≤ c' → (∀ j, j < n → cur[j]? = us[j]?) → n ≤ c' ∧ RoP w (W.alloc (.cells cur 41)).drew g n (fun j => us[j]?)) := fun W c' g cur hg o a1 a3 => by
  have hb : (W.alloc (.cells cur 41)).drew.heap[g]? = some (.cells cur 41) := valloc_at W _ _ hg
  exact ⟨a1, by have := o.size; omega, fun j hj => ⟨(blk_cells hb j).trans (a3 j hj), blk_froz hb j⟩, (o.alloc _).drew⟩
 obtain ⟨c1, cur1, hap1, hc1, hcu1⟩ := hap (w.alloc (.cells #[] 41)) ⟨w.heap.size, 0, none⟩ (O0.out.alloc _)
 have HR : Hid _ := HH.out (w.alloc (.cells #[] 41)) c1 (w.heap.size + 1) cur1 (by simp) (O0.out.alloc _) hc1 hcu1
 have hne : ¬ n = 0 := by omega
 have hne2 : ¬ n ≤ 0 := by omega
 clear hi hz hs hb hl hn hu hap HH hc1 hcu1
 go_enter Tryz.func113, Tryz.ntmps113
 have hnil : ∀ W, (binOp .eql 25 (.slice (some ad) n c) (.slice none 0 0)).run Tryz.prog W = .ok (.bool false) W := fun W => by
  have := Lib.run_eql_slice_nil (P := Tryz.prog) W 25 41 (some ad) n c 0 0 Tryz.underlying25
  simpa using this
 have HA : Hid (∀ ty, (Builtin.append_ #[25, 25] ty #[.slice (some ⟨w.heap.size, 0, none⟩) 0 0, .slice (some ad) n c]).run Tryz.prog (w.alloc (.cells #[] 41)) = .ok (.slice (some ⟨(w.alloc (.cells #[] 41)).heap.size, 0, none⟩) n c1) ((w.alloc (.cells #[] 41)).drew.alloc (.cells cur1 41))) := hap1
 clear hap1
 go_wp2_with (at_builtin; refine vwpList_append_run rfl _ _ 25 rfl _ _ _ rfl rfl HA.out ?_)
 go_wp2
 go_ret
 exact ⟨_, _, rfl, HR⟩
theorem reverse_v {n c g : Nat} {us : List Value} {w0 w : World} (hl : us.length = n) (h0 : 0 < n) (hn : n ≤ 10000) (h1 : ∀ u ∈ us, u = .nilIface ∨ ∃ T z, u = .iface T z) (h : RoP w0 w g n (fun j => us[j]?)) : Cz 114 #[.slice (some ⟨g, 0, none⟩) n c] w fun e w' => e = .returned (.tuple #[]) ∧ Hid (RoP w0 w' g n (fun j => us[n - 1 - j]?)) := by
 have HI0 : Hid (RoP w0 w g n (fun j => us[rvI n 0 j]?)) := ⟨h.1, fun j hj => ⟨(h.2.1 j hj).1.trans (by dsimp only; rw [show rvI n 0 j = j by unfold rvI; split <;> omega]), (h.2.1 j hj).2⟩, h.2.2⟩
 have HS : Hid (∀ k W, 2 * k + 1 < n → RoP w0 W g n (fun j => us[rvI n k j]?) → ∃ x y, W.cell? ⟨g, k, none⟩ = some x ∧ W.cell? ⟨g, n - 1 - k, none⟩ = some y ∧ (x = .nilIface ∨ ∃ T z, x = .iface T z) ∧ (y = .nilIface ∨ ∃ T z, y = .iface T z) ∧ W.frozen? ⟨g, k, none⟩ = false ∧ W.frozen? ⟨g, n - 1 - k, none⟩ = false ∧ Hid (RoP w0 ((W.setCell ⟨g, k, none⟩ y).setCell ⟨g, n - 1 - k, none⟩ x) g n (fun j => us[rvI n (k + 1) j]?))) := fun k W hk hR => by
  have hx : us[k]? = some (us[k]'(by omega)) := List.getElem?_eq_getElem _
  have hy : us[n - 1 - k]? = some (us[n - 1 - k]'(by omega)) := List.getElem?_eq_getElem _
  refine ⟨_, _, (hR.2.1 k (by omega)).1.trans ((congrArg (fun i => us[i]?) (show rvI n k k = k by unfold rvI; split <;> omega)).trans hx), (hR.2.1 (n - 1 - k) (by omega)).1.trans ((congrArg (fun i => us[i]?) (show rvI n k (n - 1 - k) = n - 1 - k by unfold rvI; split <;> omega)).trans hy), h1 _ (List.getElem_mem _), h1 _ (List.getElem_mem _), (hR.2.1 k (by omega)).2, (hR.2.1 (n - 1 - k) (by omega)).2, hR.swap hk hl hx hy⟩
 have HE : Hid (∀ k W, ¬ 2 * k + 1 < n → 2 * k ≤ n → RoP w0 W g n (fun j => us[rvI n k j]?) → RoP w0 W g n (fun j => us[n - 1 - j]?)) := fun k W hk hk2 hR => ⟨hR.1, fun j hj => ⟨(hR.2.1 j hj).1.trans (congrArg (fun i => us[i]?) (show rvI n k j = n - 1 - j by unfold rvI; split <;> omega)), (hR.2.1 j hj).2⟩, hR.2.2⟩
 have i0 : IntKind.i64.wrap ((n : Int) - 1) = ((n - 1 : Nat) : Int) := by rw [IntKind.wrap_i64]; omega
 clear hl h1 h
 go_enter Tryz.func114, Tryz.ntmps114
 go_wp2
 go_loopw [2, 3] (fun r x wr => ∃ k : Nat, r = .int .i64 (k : Int) ∧ x = .int .i64 ((n - 1 - k : Nat) : Int) ∧ 2 * k ≤ n ∧ Hid (RoP w0 wr g n (fun j => us[rvI n k j]?))) (fun r _ _ => n - vuOf r)
 case atStart => exact ⟨0, rfl, rfl, by omega, HI0⟩
 case round =>
  obtain ⟨k, rfl, rfl, hk, HI⟩ := hrel
  obtain ⟨w5, hw5⟩ : ∃ w5, w5 = wr := ⟨_, rfl⟩
  rw [← hw5] at HI ⊢
  clear hw5 HI0
  by_cases hk2 : 2 * k + 1 < n
  ·obtain ⟨x, y, hx, hy, ox, oy, fx, fy, HN⟩ := HS.out k w5 hk2 HI.out
   obtain ⟨m, hm⟩ : ∃ m, m = n - 1 - k := ⟨_, rfl⟩
   rw [← hm] at hy fy HN ⊢
   have i1 : (k : Int) < (m : Int) := by omega
   have i2 : (k : Int) < (n : Int) := by omega
   have i3 : (m : Int) < (n : Int) := by omega
   have i4 : (0 : Int) ≤ (k : Int) := by omega
   have i5 : (0 : Int) ≤ (m : Int) := by omega
   have i6 : IntKind.i64.wrap ((m : Int) - 1) = ((n - 1 - (k + 1) : Nat) : Int) := by rw [IntKind.wrap_i64]; omega
   have fy2 : (w5.setCell ⟨g, k, none⟩ y).frozen? ⟨g, m, none⟩ = false := by rw [World.frozen?_setCell]; exact fy
   have hy2 : (w5.setCell ⟨g, k, none⟩ y).cell? ⟨g, m, none⟩ = some y := by rw [World.cell?_setCell_other _ _ _ _ (by intro e; injection e; omega)]; exact hy
   have hxd : w5.drew.cell? ⟨g, k, none⟩ = some x := hx
   have hyd : w5.drew.cell? ⟨g, m, none⟩ = some y := hy
   have fxd : w5.drew.frozen? ⟨g, k, none⟩ = false := fx
   have hyd2 : (w5.setCell ⟨g, k, none⟩ y).drew.cell? ⟨g, m, none⟩ = some y := hy2
   have fyd2 : (w5.setCell ⟨g, k, none⟩ y).drew.frozen? ⟨g, m, none⟩ = false := fy2
   subst hm
   clear HI
   rcases ox with rfl | ⟨T1, z1, rfl⟩ <;> rcases oy with rfl | ⟨T2, z2, rfl⟩
   all_goals
    go_wp2
    go_region
    go_wp2
    go_roundw
    case rel => exact ⟨k + 1, by go_num, rfl, by omega, HN.out.1, HN.out.2.1, HN.out.2.2.drew⟩
    case measure => simp only [vuOf]; omega
  ·have i1 : ¬ (k : Int) < ((n - 1 - k : Nat) : Int) := by omega
   have HR : Hid _ := HE.out k w5 hk2 hk HI.out
   clear HI HS HE
   go_wp2
   go_end0
   exact ⟨rfl, HR⟩
end Go.Proofs.YtenjollhlgjjdaaGreatDoor
