import Derived.Test.YtenjollhlgjjdaaGreatDoorGaa
import Derived.Test.YtenjollhlgjjdaaGreatDoorGav
import Derived.BigQuiet
import Derived.Deep.RegionHeld3
import Derived.Test.YtenjollhlgjjdaaGreatDoorGaj
import Derived.Deep.QuietTactic
/-     -/
set_option linter.unusedSimpArgs false
set_option linter.unusedVariables false
set_option maxRecDepth 100000
set_option maxHeartbeats 40000000
namespace Go.Proofs.YtenjollhlgjjdaaGreatDoor
open Go.RowKit Go.Lib
theorem rro_nth_neg (g o c : Nat) (n : Int) (xk xn : Int) (xs : ByteArray) (a0 : Option Addr) (L0 c0 : Nat) (hn : n < 0) (w : World) (h0 : w.cell? ⟨g, o + 1, none⟩ = some (.int .i64 n)) (h2 : V4 w g (o + 4) xk xn xs (.slice a0 L0 c0)) :
  Cz 42 #[.string ⟨#[110, 116, 104]⟩, .slice (some ⟨g, o, none⟩) 2 c] w (fun e w' => DcP (oneR (.error 4)) 2 w e w') := by
 have HC : Hid (∀ W, Oz w W → W.cell? ⟨g, o + 1, none⟩ = some (.int .i64 n) ∧ (W.cell? ⟨g, o + 4, none⟩ = some (.int .i64 xk) ∧ W.cell? ⟨g, o + 4 + 1, none⟩ = some (.int .i64 xn) ∧ W.cell? ⟨g, o + 4 + 2, none⟩ = some (.string xs) ∧ W.cell? ⟨g, o + 4 + 3, none⟩ = some (.slice a0 L0 c0))) := fun W q => ⟨q.cell h0 (fun g => g), q.cell h2.1 (fun g => g), q.cell h2.2.1 (fun g => g), q.cell h2.2.2.1 (fun g => g), q.cell h2.2.2.2 (fun g => g)⟩
 have O0 : Hid (Oz w w) := Only.refl _ _
 obtain ⟨x0, x1, x2, x3⟩ := h2
 clear HC x0 x1 x2 x3
 go_enter Tryz.func42, Tryz.ntmps42
 go_wp2
 go_quiet (fail)
 all_goals
  go_wp2
  go_ret2
  first
   | exact dc_er (by decide) O0.out
   | exact dc_er (by decide) (O0.out.drewN _)
theorem rro_nth_out (g o c : Nat) (n : Int) (xk xn : Int) (xs : ByteArray) (a0 : Option Addr) (L0 c0 : Nat) (N : Nat) (hn : ¬ n < 0) (hN : (N : Int) ≤ n) (w : World) (h0 : w.cell? ⟨g, o + 1, none⟩ = some (.int .i64 n)) (h2 : V4 w g (o + 4) xk xn xs (.slice a0 L0 c0)) (HR0 : ∀ W, Cz 66 #[.agg #[.int .i64 xk, .int .i64 xn, .string xs, .slice a0 L0 c0]] W fun e w' => e = .returned (.int .i64 (N : Int)) ∧ Oz W w') :
  Cz 42 #[.string ⟨#[110, 116, 104]⟩, .slice (some ⟨g, o, none⟩) 2 c] w (fun e w' => DcP (oneR (.error 4)) 2 w e w') := by
 have HC : Hid (∀ W, Oz w W → W.cell? ⟨g, o + 1, none⟩ = some (.int .i64 n) ∧ (W.cell? ⟨g, o + 4, none⟩ = some (.int .i64 xk) ∧ W.cell? ⟨g, o + 4 + 1, none⟩ = some (.int .i64 xn) ∧ W.cell? ⟨g, o + 4 + 2, none⟩ = some (.string xs) ∧ W.cell? ⟨g, o + 4 + 3, none⟩ = some (.slice a0 L0 c0))) := fun W q => ⟨q.cell h0 (fun g => g), q.cell h2.1 (fun g => g), q.cell h2.2.1 (fun g => g), q.cell h2.2.2.1 (fun g => g), q.cell h2.2.2.2 (fun g => g)⟩
 have O0 : Hid (Oz w w) := Only.refl _ _
 obtain ⟨x0, x1, x2, x3⟩ := h2
 have HR : Hid _ := HR0
 have hd : decide (n < 0) = false := by simpa using hn
 have hD : decide (n ≥ (N : Int)) = true := by simpa using hN
 clear HR0
 go_enter Tryz.func42, Tryz.ntmps42
 go_wp2
 go_region_held3 (fun W => W.cell? ⟨g, o + 1, none⟩ = some (.int .i64 n) ∧ (W.cell? ⟨g, o + 4, none⟩ = some (.int .i64 xk) ∧ W.cell? ⟨g, o + 4 + 1, none⟩ = some (.int .i64 xn) ∧ W.cell? ⟨g, o + 4 + 2, none⟩ = some (.string xs) ∧ W.cell? ⟨g, o + 4 + 3, none⟩ = some (.slice a0 L0 c0)))
  (first | with_reducible exact HC.out _ O0.out | with_reducible exact HC.out _ O0.out.drew | with_reducible exact HC.out _ O4.out | with_reducible exact HC.out _ O4.out.drew)
  (first | (have h := O4; clear h; fail) | (go_at_call 66; refine (show Cz 66 _ _ _ from HR.out _).mono ?_; rintro ex w4 ⟨rfl, o4⟩; have O4 : Hid (Oz w w4) := (by first | exact O0.out.drew.trans o4 (fun _ _ g => g) | exact O0.out.trans o4 (fun _ _ g => g)); clear o4))
 all_goals
  clear HC x0 x1 x2 x3 h0
  go_wp2
  go_ret2
  first
   | exact dc_er (by decide) O4.out
   | exact dc_er (by decide) O4.out.drew
theorem rro_nth_str (g o c a : Nat) (xn : Int) (a0 : Option Addr) (L0 c0 : Nat) {q : List Nat} (hv : VL q) (hq : (tx q).size ≤ 4096) (ha : a < q.length) (xs : ByteArray) (hxs : xs = tx q) (w : World) (h0 : w.cell? ⟨g, o + 1, none⟩ = some (.int .i64 (a : Int))) (h2 : V4 w g (o + 4) 2 xn xs (.slice a0 L0 c0)) :
  Cz 42 #[.string ⟨#[110, 116, 104]⟩, .slice (some ⟨g, o, none⟩) 2 c] w (fun e w' => DcP (oneR (.ok (stT (tx [q.getD a 0])))) 2 w e w') := by
 have HC : Hid (∀ W, Oz w W → W.cell? ⟨g, o + 1, none⟩ = some (.int .i64 (a : Int)) ∧ (W.cell? ⟨g, o + 4, none⟩ = some (.int .i64 2) ∧ W.cell? ⟨g, o + 4 + 1, none⟩ = some (.int .i64 xn) ∧ W.cell? ⟨g, o + 4 + 2, none⟩ = some (.string xs) ∧ W.cell? ⟨g, o + 4 + 3, none⟩ = some (.slice a0 L0 c0))) := fun W q => ⟨q.cell h0 (fun g => g), q.cell h2.1 (fun g => g), q.cell h2.2.1 (fun g => g), q.cell h2.2.2.1 (fun g => g), q.cell h2.2.2.2 (fun g => g)⟩
 have O0 : Hid (Oz w w) := Only.refl _ _
 obtain ⟨x0, x1, x2, x3⟩ := h2
 have HN : Hid (∀ s w, Cz 67 #[.string s] w fun e w' => R1P (stT s) w e w') := str_any
 have hrn : rns (tx q) = q := rns_tx hv
 obtain ⟨N, hN⟩ : ∃ N, N = q.length := ⟨_, rfl⟩
 obtain ⟨y, hy⟩ : ∃ y, y = tx [q.getD a 0] := ⟨_, rfl⟩
 have HR : Hid (∀ W, Cz 66 #[.agg #[.int .i64 2, .int .i64 xn, .string xs, .slice a0 L0 c0]] W fun e w' => e = .returned (.int .i64 (N : Int)) ∧ Oz W w') := fun W => by
  have := rlen_any 2 xn (tx q) (by omega) a0 L0 c0 W
  rw [if_pos rfl, hrn, ← hxs, ← hN] at this
  exact this
 have hct : (chT (tx q)).length = q.length := by unfold chT; rw [hrn, List.length_map]
 have HCH : Hid (∀ W, Cz 68 #[.string xs] W fun e w' => ∃ gg cap, e = .returned (.slice (some ⟨gg, 0, none⟩) N cap) ∧ w'.cell? ⟨gg, a, none⟩ = some (.string y) ∧ Hid (Oz W w')) := fun W => by
  rw [hxs]
  refine (characters_any (tx q) (by omega) W).mono fun e w' g => ?_
  obtain ⟨a1, c1, he, g⟩ := g
  have hcl := g.out.1.cells
  rw [hct] at he
  have hq2 : (chT (tx q))[a]? = some y := by
   unfold chT
   rw [hrn, hy, List.getElem?_map, List.getElem?_eq_getElem ha]
   simp [List.getD, List.getElem?_eq_getElem ha]
  obtain ⟨gg, e1, _, e2⟩ := hcl a y hq2
  rw [e1] at he
  rw [← hN] at he
  rw [Nat.zero_add] at e2
  exact ⟨gg, c1, he, e2, only_of g.out.2⟩
 rw [← hy]
 rw [← hN] at ha
 have hd : decide ((a : Int) < 0) = false := by simp
 have hD : decide ((a : Int) ≥ (N : Int)) = false := by simp; omega
 have i1 : (a : Int) < (N : Int) := by omega
 have i2 : ¬ (N : Int) ≤ (a : Int) := by omega
 have i3 : (0 : Int) ≤ (a : Int) := by omega
 clear hv hq hrn hct hN hxs hy
 go_enter Tryz.func42, Tryz.ntmps42
 go_wp2
 go_region_held3 (fun W => W.cell? ⟨g, o + 1, none⟩ = some (.int .i64 (a : Int)) ∧ (W.cell? ⟨g, o + 4, none⟩ = some (.int .i64 2) ∧ W.cell? ⟨g, o + 4 + 1, none⟩ = some (.int .i64 xn) ∧ W.cell? ⟨g, o + 4 + 2, none⟩ = some (.string xs) ∧ W.cell? ⟨g, o + 4 + 3, none⟩ = some (.slice a0 L0 c0)))
  (first  | with_reducible exact HC.out _ O0.out | with_reducible exact HC.out _ O0.out.drew | with_reducible exact HC.out _ O4.out | with_reducible exact HC.out _ O4.out.drew)
  (first | (have h := O4; clear h; fail) | (go_at_call 66; refine (show Cz 66 _ _ _ from HR.out _).mono ?_; rintro ex w4 ⟨rfl, o4⟩; have O4 : Hid (Oz w w4) := (by first | exact O0.out.drew.trans o4 (fun _ _ g => g) | exact O0.out.trans o4 (fun _ _ g => g)); clear o4))
 all_goals
  obtain ⟨e0, e1, e2, e3, e4⟩ := HC.out w4 O4.out
  clear O0 HR x0 x1 x2 x3 h0
  go_wp2
  have ed0 : w4.drew.cell? ⟨g, o + 1, none⟩ = some (.int .i64 (a : Int)) := e0
  have ed3 : w4.drew.cell? ⟨g, o + 4 + 2, none⟩ = some (.string xs) := e3
  go_region_with
   (first
    | (have h := O6; clear h; go_at_call 67; refine (show Cz 67 _ _ _ from HN.out _ _).mono ?_; rintro ex w7 ⟨a2, c2, rfl, G7⟩; have O7 : Hid (Oz w w7) := (by first | exact O6.out.trans G7.out.2 (fun _ _ g => g) | exact O6.out.drew.trans G7.out.2 (fun _ _ g => g)))
    | (go_at_call 68; refine (show Cz 68 _ _ _ from HCH.out _).mono ?_; rintro ex w6 ⟨gg, cc, rfl, g6, o6⟩; have g6d : w6.drew.cell? ⟨gg, a, none⟩ = some (.string y) := g6; have O6 : Hid (Oz w w6) := (by first | exact O4.out.trans o6.out (fun _ _ g => g) | exact O4.out.drew.trans o6.out (fun _ _ g => g)); obtain ⟨f0, f1, f2, f3, f4⟩ := HC.out w6 O6.out; clear o6))
  all_goals
   have HZ : Hid (DcP (oneR (.ok (stT y))) 2 w (.returned (.tuple #[.slice a2 1 c2, .int .i64 0])) w7) := ⟨a2, c2, rfl, G7.out.1, O7.out⟩
   clear O4 O6 O7 G7 HC HCH HN
   go_wp2
   go_ret2
   exact HZ.out
theorem rro_nth_list (g o c a : Nat) (xn : Int) (a0 : Option Addr) (L0 c0 : Nat) (x : Vt) {d : Nat} {S : Nat → Prop} (ha : a < x.l.length) (xs : ByteArray) (hs : xs.size ≤ 268435456) (hL : L0 = x.l.length) (hb : x.l.length ≤ 10000) (w : World) (h0 : w.cell? ⟨g, o + 1, none⟩ = some (.int .i64 (a : Int))) (h2 : V4 w g (o + 4) 4 xn xs (.slice a0 L0 c0)) (hl : VsAt w S (d + 1) x.l (.slice a0 L0 c0)) :
  Cz 42 #[.string ⟨#[110, 116, 104]⟩, .slice (some ⟨g, o, none⟩) 2 c] w (fun e w' => DcP (oneR (.ok (x.l.getD a zT))) (d + 1) w e w') := by
 have HC : Hid (∀ W, Oz w W → W.cell? ⟨g, o + 1, none⟩ = some (.int .i64 (a : Int)) ∧ (W.cell? ⟨g, o + 4, none⟩ = some (.int .i64 4) ∧ W.cell? ⟨g, o + 4 + 1, none⟩ = some (.int .i64 xn) ∧ W.cell? ⟨g, o + 4 + 2, none⟩ = some (.string xs) ∧ W.cell? ⟨g, o + 4 + 3, none⟩ = some (.slice a0 L0 c0))) := fun W q => ⟨q.cell h0 (fun g => g), q.cell h2.1 (fun g => g), q.cell h2.2.1 (fun g => g), q.cell h2.2.2.1 (fun g => g), q.cell h2.2.2.2 (fun g => g)⟩
 have O0 : Hid (Oz w w) := Only.refl _ _
 obtain ⟨x0, x1, x2, x3⟩ := h2
 have HR : Hid (∀ W, Cz 66 #[.agg #[.int .i64 4, .int .i64 xn, .string xs, .slice a0 L0 c0]] W fun e w' => e = .returned (.int .i64 (L0 : Int)) ∧ Oz W w') := fun W => by
  have := rlen_any 4 xn xs hs a0 L0 c0 W
  rw [if_neg (by decide)] at this
  exact this
 rw [hL] at hl
 obtain ⟨ao0, c00, he0, hcap, hel⟩ := id hl
 cases he0
 have hxa : x.l[a]? = some (x.l.getD a zT) := by rw [List.getD, List.getElem?_eq_getElem ha]; rfl
 obtain ⟨g1, k1, lx1, f1, f2, f3, f4⟩ := hel a _ hxa
 have hvs : VsAt w S (d + 1) [x.l.getD a zT] (.slice (some ⟨g1, k1 + a * 4, none⟩) 1 (c0 - a)) := by
  refine ⟨_, _, rfl, by simp; omega, fun i y hy => ?_⟩
  have hi : i = 0 := by have := (List.getElem?_eq_some_iff.1 hy).1; simp at this; exact this
  subst hi
  simp only [List.getElem?_cons_zero, Option.some.injEq] at hy
  subst hy
  refine ⟨g1, k1 + a * 4, lx1, rfl, f2, ?_, f4⟩
  rw [show k1 + a * 4 + 0 * 4 = k1 + a * 4 by omega]
  exact f3
 obtain ⟨T, hT⟩ : ∃ T, T = x.l.getD a zT := ⟨_, rfl⟩
 rw [← hT] at hvs ⊢
 have HZ : Hid (∀ W, Oz w W → DcP (oneR (.ok T)) (d + 1) w (.returned (.tuple #[.slice (some ⟨g1, k1 + a * 4, none⟩) 1 (c0 - a), .int .i64 0])) W) := fun W o => ⟨_, _, rfl, ⟨S, hvs.only o⟩, o⟩
 rw [← hL] at ha
 have hd : decide ((a : Int) < 0) = false := by simp
 have hD : decide ((a : Int) ≥ (L0 : Int)) = false := by simp; omega
 have i1 : (a : Int) < (L0 : Int) := by omega
 have i2 : ¬ (L0 : Int) ≤ (a : Int) := by omega
 have w1 : IntKind.i64.wrap ((a : Int) + 1) = ((a + 1 : Nat) : Int) := by rw [IntKind.wrap_i64]; omega
 have w2 : wrap64 ((a : Int) + 1) = ((a + 1 : Nat) : Int) := by unfold wrap64; omega
 subst f1
 have j1 : ¬ c0 = a := by omega
 have j2 : (a : Int) + 1 ≤ (c0 : Int) := by omega
 have j3 : (0 : Int) ≤ (a : Int) + 1 := by omega
 clear hb hs hL hl hcap hel hxa hvs hT f2 f3 f4
 go_enter Tryz.func42, Tryz.ntmps42
 go_wp2
 go_region_held3 (fun W => W.cell? ⟨g, o + 1, none⟩ = some (.int .i64 (a : Int)) ∧ (W.cell? ⟨g, o + 4, none⟩ = some (.int .i64 4) ∧ W.cell? ⟨g, o + 4 + 1, none⟩ = some (.int .i64 xn) ∧ W.cell? ⟨g, o + 4 + 2, none⟩ = some (.string xs) ∧ W.cell? ⟨g, o + 4 + 3, none⟩ = some (.slice (some ⟨g1, k1, none⟩) L0 c0)))
  (first  | with_reducible exact HC.out _ O0.out | with_reducible exact HC.out _ O0.out.drew | with_reducible exact HC.out _ O4.out | with_reducible exact HC.out _ O4.out.drew)
  (first | (have h := O4; clear h; fail) | (go_at_call 66; refine (show Cz 66 _ _ _ from HR.out _).mono ?_; rintro ex w4 ⟨rfl, o4⟩; have O4 : Hid (Oz w w4) := (by first | exact O0.out.drew.trans o4 (fun _ _ g => g) | exact O0.out.trans o4 (fun _ _ g => g)); clear o4))
 all_goals
  obtain ⟨e0, e1, e2, e3, e4⟩ := HC.out w4 O4.out
  have HY : Hid _ := HZ.out w4 O4.out
  have HY2 : Hid _ := HZ.out w4.drew O4.out.drew
  clear O0 HR x0 x1 x2 x3 h0 HC O4 HZ
  go_wp2
  go_region
  all_goals
   go_wp2
   go_ret2
   first
    | exact HY.out
    | exact HY2.out
def mayB : List Vt → List (List Int) → Bool
 | x :: l, ds :: dss => ds.any (· == x.k) && mayB l dss
 | _, _ => true
theorem mayB_no : ∀ (l : List Vt) (dss : List (List Int)) (i : Nat) (x : Vt) (ds : List Int), l[i]? = some x → dss[i]? = some ds → ds.any (· == x.k) = false → mayB l dss = false
 | [], _, i, _, _, h, _, _ => by simp at h
 | _ :: _, [], i, _, _, _, h, _ => by simp at h
 | y :: l, es :: dss, 0, x, ds, h1, h2, h3 => by
   simp only [List.getElem?_cons_zero, Option.some.injEq] at h1 h2
   subst h1
   subst h2
   unfold mayB
   rw [h3, Bool.false_and]
 | y :: l, es :: dss, i + 1, x, ds, h1, h2, h3 => by
   simp only [List.getElem?_cons_succ] at h1 h2
   unfold mayB
   rw [mayB_no l dss i x ds h1 h2 h3, Bool.and_false]
theorem mayB_yes : ∀ (l : List Vt) (dss : List (List Int)), (∀ (i : Nat) (x : Vt) (ds : List Int), l[i]? = some x → dss[i]? = some ds → ds.any (· == x.k) = true) → mayB l dss = true
 | [], _, _ => by unfold mayB; rfl
 | _ :: _, [], _ => by unfold mayB; rfl
 | y :: l, es :: dss, h => by
   unfold mayB
   rw [h 0 y es rfl rfl, Bool.true_and]
   exact mayB_yes l dss (fun i x ds h1 h2 => h (i + 1) x ds h1 h2)
def apR (sd : Vt → Bool) (fit : Bool) (R : Except Int (List Vt)) : Except Int (List Vt) :=
 if fit = false then .error 17 else match R with
 | .error n => .error n
 | .ok ls => if ls.all sd then .ok ls else .error 11
def WyM (nm : ByteArray) (v : Value) (d : Nat) (R : Except Int (List Vt)) (w : World) : Prop := ∃ ls, R = .ok ls ∧ ∀ W, Oz w W → Cz 39 #[.string nm, v] W fun e w' => ∃ a c, e = .returned (.tuple #[.slice a ls.length c, .bool true]) ∧ Hid ((∃ S, VsAt w' S (d + 1) ls (.slice a ls.length c)) ∧ Oz W w')
def WyN (nm : ByteArray) (v : Value) (w : World) : Prop := ∀ W, Oz w W → Cz 39 #[.string nm, v] W fun e w' => e = .returned (.tuple #[.slice none 0 0, .bool false]) ∧ w' = W
theorem ap_17 {sd : Vt → Bool} {fit : Bool} {R : Except Int (List Vt)} (h : fit = false) : apR sd fit R = .error 17 := by unfold apR; rw [if_pos h]
theorem ap_er {sd : Vt → Bool} {fit : Bool} {n : Int} (h : fit = true) : apR sd fit (.error n) = .error n := by unfold apR; rw [h]; rfl
theorem ap_11 {sd : Vt → Bool} {fit : Bool} {ls : List Vt} (h : fit = true) {i : Nat} {x : Vt} (hx : ls[i]? = some x) (hs : sd x = false) : apR sd fit (.ok ls) = .error 11 := by
 unfold apR
 rw [if_neg (by rw [h]; decide)]
 have : ls.all sd = false := List.all_eq_false.2 ⟨x, List.mem_of_getElem? hx, by rw [hs]; decide⟩
 simp only [this]
 rfl
theorem ap_ok {sd : Vt → Bool} {fit : Bool} {ls : List Vt} (h : fit = true) (hs : ∀ (j : Nat) (x : Vt), j < ls.length → ls[j]? = some x → sd x = true) : apR sd fit (.ok ls) = .ok ls := by
 unfold apR
 rw [if_neg (by rw [h]; decide)]
 have : ls.all sd = true := List.all_eq_true.2 fun x hx => by
  obtain ⟨j, hj⟩ := List.getElem?_of_mem hx
  exact hs j x (List.getElem?_eq_some_iff.1 hj).1 hj
 simp only [this]
 rfl
theorem drsv_any (s : ByteArray) (w : World) : Cz 97 #[.string s] w fun x w' => x = .returned (.bool (resB s)) ∧ w' = w := by
 go_enter Tryz.func97, Tryz.ntmps97
 go_wp2
 all_goals
  go_ret
  refine ⟨?_, rfl⟩
  first
   | (exfalso; simp_all; done)
   | (unfold resB; simp only [*, Bool.or_true, Bool.or_false, Bool.true_or, Bool.false_or]; done)
   | (unfold resB; simp_all; done)
   | (simp only [Ending.returned.injEq, Value.bool.injEq]; unfold resB; ac_rfl)
   | (unfold resB; simp [Bool.or_comm, Bool.or_left_comm, Bool.or_assoc]; done)
theorem din_any (n : Int) (w : World) : Cz 61 #[.int .i64 n] w fun x w' => x = .returned (.bool (decide (-1152921504606846976 ≤ n) && decide (n ≤ 1152921504606846975))) ∧ w' = w := by
 by_cases h1 : -1152921504606846976 ≤ n
 ·by_cases h2 : n ≤ 1152921504606846975
  ·rw [decide_eq_true h1, decide_eq_true h2]
   go_enter Tryz.func61, Tryz.ntmps61
   go_wp2
   all_goals
    go_ret
    exact ⟨by simp [*], rfl⟩
  ·rw [decide_eq_true h1, decide_eq_false h2]
   go_enter Tryz.func61, Tryz.ntmps61
   go_wp2
   all_goals
    go_ret
    exact ⟨by simp [*], rfl⟩
 ·rw [decide_eq_false h1, Bool.false_and]
  go_enter Tryz.func61, Tryz.ntmps61
  go_wp2
  all_goals
   go_ret
   exact ⟨by simp [*], rfl⟩
theorem dname_any (s : ByteArray) (hs : s.size ≤ 268435456) (w : World) : Cz 63 #[.string s] w fun x w' => x = .returned (.bool (clB s)) ∧ Oz w w' := by
 have HC : Hid (Cz 96 #[.string s] w fun e w' => e = .returned (.bool (nameB s)) ∧ Oz w w') := rName_any s hs w
 have HR : Hid (∀ w1, Cz 97 #[.string s] w1 fun e w' => e = .returned (.bool (resB s)) ∧ w' = w1) := fun w1 => drsv_any s w1
 unfold clB
 obtain ⟨b1, hb1⟩ : ∃ b, b = nameB s := ⟨_, rfl⟩
 obtain ⟨b2, hb2⟩ : ∃ b, b = resB s := ⟨_, rfl⟩
 rw [← hb1] at HC ⊢
 rw [← hb2] at HR ⊢
 clear hb1 hb2 hs
 go_enter Tryz.func63, Tryz.ntmps63
 go_wp2_with fail
 refine (show Cz 96 _ _ _ from HC.out).mono ?_
 rintro e w1 ⟨rfl, o1⟩
 have O1 : Hid (Oz w w1) := o1
 clear HC o1
 cases b1 with
 | false =>
   go_wp2
   go_ret
   exact ⟨rfl, O1.out⟩
 | true =>
   go_wp2_with fail
   refine (show Cz 97 _ _ _ from HR.out _).mono ?_
   rintro e w2 ⟨rfl, rfl⟩
   clear HR
   go_wp2
   go_ret
   exact ⟨rfl, O1.out⟩
def mP (r : Int × Int × Bool) (w : World) (e : Ending) (w' : World) : Prop := e = .returned (.tuple #[.int .i64 r.1, .int .i64 r.2.1, .bool r.2.2]) ∧ Oz w w'
theorem dz_left (k n : Int) (s : ByteArray) (ao : Option Addr) (L c : Nat) (left nest : Int) (h : left < 1) (w : World) : Cz 35 #[vV k n s (.slice ao L c), .int .i64 left, .int .i64 nest] w (mP (0, 0, false) w) := by
 unfold vV mP
 have O0 : Hid (Oz w w) := Only.refl _ _
 go_enter Tryz.func35, Tryz.ntmps35
 go_wp2
 go_ret3
 exact ⟨rfl, O0.out.alloc _⟩
theorem dz_nest (k n : Int) (s : ByteArray) (ao : Option Addr) (L c : Nat) (left nest : Int) (h1 : 1 ≤ left) (h : 32 < nest) (w : World) : Cz 35 #[vV k n s (.slice ao L c), .int .i64 left, .int .i64 nest] w (mP (0, 0, false) w) := by
 unfold vV mP
 have O0 : Hid (Oz w w) := Only.refl _ _
 go_enter Tryz.func35, Tryz.ntmps35
 go_wp2
 go_ret3
 exact ⟨rfl, O0.out.alloc _⟩
theorem dz_int (n : Int) (s : ByteArray) (ao : Option Addr) (L c : Nat) (left nest : Int) (h1 : 1 ≤ left) (h4 : nest ≤ 32) (w : World) : Cz 35 #[vV 1 n s (.slice ao L c), .int .i64 left, .int .i64 nest] w (mP (1, 0, decide (-1152921504606846976 ≤ n) && decide (n ≤ 1152921504606846975)) w) := by
 unfold vV mP
 have O0 : Hid (Oz w w) := Only.refl _ _
 have HI : Hid (∀ w1, Cz 61 #[.int .i64 n] w1 fun x w' => x = .returned (.bool (decide (-1152921504606846976 ≤ n) && decide (n ≤ 1152921504606846975))) ∧ w' = w1) := din_any n
 obtain ⟨b, hb⟩ : ∃ b, b = (decide (-1152921504606846976 ≤ n) && decide (n ≤ 1152921504606846975)) := ⟨_, rfl⟩
 rw [← hb] at HI ⊢
 clear hb
 go_enter Tryz.func35, Tryz.ntmps35
 go_wp2_with fail
 refine (show Cz 61 _ _ _ from HI.out _).mono ?_
 rintro e w1 ⟨rfl, rfl⟩
 clear HI
 go_wp2
 go_ret3
 exact ⟨rfl, O0.out.alloc _⟩
theorem dz_long (n : Int) (s : ByteArray) (ao : Option Addr) (L c : Nat) (left nest : Int) (h1 : 1 ≤ left) (h4 : nest ≤ 32) (g1 : 4096 < s.size) (w : World) : Cz 35 #[vV 2 n s (.slice ao L c), .int .i64 left, .int .i64 nest] w (mP (1, 0, false) w) := by
 unfold vV mP
 have O0 : Hid (Oz w w) := Only.refl _ _
 have g3 : ¬ (s.size : Int) ≤ 4096 := by omega
 clear g1
 go_enter Tryz.func35, Tryz.ntmps35
 go_wp2
 go_ret3
 exact ⟨rfl, O0.out.alloc _⟩
theorem dz_str (n : Int) (s : ByteArray) (ao : Option Addr) (L c : Nat) (left nest : Int) (h1 : 1 ≤ left) (h4 : nest ≤ 32) (g1 : s.size ≤ 4096) (g2 : ¬ stR s < s.size) (w : World) : Cz 35 #[vV 2 n s (.slice ao L c), .int .i64 left, .int .i64 nest] w (mP (1, 0, true) w) := by
 unfold vV mP
 have O0 : Hid (Oz w w) := Only.refl _ _
 obtain ⟨z, hz⟩ : ∃ z : Int, z = badR s := ⟨_, rfl⟩
 have HI : Hid (∀ w1, Cz 62 #[.string s] w1 fun x w' => x = .returned (.int .i64 z) ∧ Oz w1 w') := fun w1 => by
  have := bad_any s (by omega) w1
  rwa [← hz] at this
 have g3 : (s.size : Int) ≤ 4096 := by omega
 have g4 : z < 0 := by
  rw [hz]
  unfold badR
  rw [if_neg g2]
  omega
 clear g1 g2 hz
 go_enter Tryz.func35, Tryz.ntmps35
 go_wp2_with fail
 refine (show Cz 62 _ _ _ from HI.out _).mono ?_
 rintro e w1 ⟨rfl, o1⟩
 have O1 : Hid (Oz w w1) := (O0.out.alloc _).trans o1 (fun _ _ g => g)
 clear HI o1
 go_wp2
 go_ret3
 refine ⟨?_, O1.out⟩
 rfl
theorem dz_bad (n : Int) (s : ByteArray) (ao : Option Addr) (L c : Nat) (left nest : Int) (h1 : 1 ≤ left) (h4 : nest ≤ 32) (g1 : s.size ≤ 4096) (g2 : stR s < s.size) (w : World) : Cz 35 #[vV 2 n s (.slice ao L c), .int .i64 left, .int .i64 nest] w (mP (1, 0, false) w) := by
 unfold vV mP
 have O0 : Hid (Oz w w) := Only.refl _ _
 obtain ⟨z, hz⟩ : ∃ z : Int, z = badR s := ⟨_, rfl⟩
 have HI : Hid (∀ w1, Cz 62 #[.string s] w1 fun x w' => x = .returned (.int .i64 z) ∧ Oz w1 w') := fun w1 => by
  have := bad_any s (by omega) w1
  rwa [← hz] at this
 have g3 : (s.size : Int) ≤ 4096 := by omega
 have g4 : ¬ z < 0 := by
  rw [hz]
  unfold badR
  rw [if_pos g2]
  omega
 clear g1 g2 hz
 go_enter Tryz.func35, Tryz.ntmps35
 go_wp2_with fail
 refine (show Cz 62 _ _ _ from HI.out _).mono ?_
 rintro e w1 ⟨rfl, o1⟩
 have O1 : Hid (Oz w w1) := (O0.out.alloc _).trans o1 (fun _ _ g => g)
 clear HI o1
 go_wp2
 go_ret3
 refine ⟨?_, O1.out⟩
 show Ending.returned (.tuple #[.int .i64 1, .int .i64 0, .bool (decide (z < 0))]) = _
 rw [decide_eq_false (p := z < 0) (by omega)]
theorem dz_bool (n : Int) (s : ByteArray) (ao : Option Addr) (L c : Nat) (left nest : Int) (h1 : 1 ≤ left) (h4 : nest ≤ 32) (w : World) : Cz 35 #[vV 3 n s (.slice ao L c), .int .i64 left, .int .i64 nest] w (mP (1, 0, true) w) := by
 unfold vV mP
 have O0 : Hid (Oz w w) := Only.refl _ _
 go_enter Tryz.func35, Tryz.ntmps35
 go_wp2
 go_ret3
 exact ⟨rfl, O0.out.alloc _⟩
theorem dz_box_lo (n : Int) (s : ByteArray) (ao : Option Addr) (L c : Nat) (left nest : Int) (h1 : 1 ≤ left) (h4 : nest ≤ 32) (g1 : decide (1 ≤ n) = false) (w : World) : Cz 35 #[vV 6 n s (.slice ao L c), .int .i64 left, .int .i64 nest] w (mP (1, 0, false) w) := by
 unfold vV mP
 have O0 : Hid (Oz w w) := Only.refl _ _
 go_enter Tryz.func35, Tryz.ntmps35
 go_wp2_with fail
 go_quiet (fail)
 go_wp2
 go_ret3
 exact ⟨rfl, (O0.out.alloc _).drewN _⟩
theorem dz_box_hi (n : Int) (s : ByteArray) (ao : Option Addr) (L c : Nat) (left nest : Int) (h1 : 1 ≤ left) (h4 : nest ≤ 32) (g1 : decide (1 ≤ n) = true) (g2 : decide (n ≤ 1048576) = false) (w : World) : Cz 35 #[vV 6 n s (.slice ao L c), .int .i64 left, .int .i64 nest] w (mP (1, 0, false) w) := by
 unfold vV mP
 have O0 : Hid (Oz w w) := Only.refl _ _
 go_enter Tryz.func35, Tryz.ntmps35
 go_wp2_with fail
 go_quiet (fail)
 go_wp2
 go_ret3
 exact ⟨rfl, (O0.out.alloc _).drewN _⟩
theorem dz_box (n : Int) (s : ByteArray) (ao : Option Addr) (L c : Nat) (left nest : Int) (h1 : 1 ≤ left) (h4 : nest ≤ 32) (g1 : decide (1 ≤ n) = true) (g2 : decide (n ≤ 1048576) = true) (w : World) : Cz 35 #[vV 6 n s (.slice ao L c), .int .i64 left, .int .i64 nest] w (mP (1, 0, true) w) := by
 unfold vV mP
 have O0 : Hid (Oz w w) := Only.refl _ _
 go_enter Tryz.func35, Tryz.ntmps35
 go_wp2_with fail
 go_quiet (fail)
 go_wp2
 go_ret3
 exact ⟨rfl, (O0.out.alloc _).drewN _⟩
theorem dz_call (n : Int) (s : ByteArray) (ao : Option Addr) (L c : Nat) (left nest : Int) (h1 : 1 ≤ left) (h4 : nest ≤ 32) (g1 : s.size ≤ 268435456) (w : World) : Cz 35 #[vV 7 n s (.slice ao L c), .int .i64 left, .int .i64 nest] w (mP (1, 0, clB s) w) := by
 unfold vV mP
 have O0 : Hid (Oz w w) := Only.refl _ _
 have HI : Hid (∀ w1, Cz 63 #[.string s] w1 fun x w' => x = .returned (.bool (clB s)) ∧ Oz w1 w') := dname_any s g1
 obtain ⟨b, hb⟩ : ∃ b, b = clB s := ⟨_, rfl⟩
 rw [← hb] at HI ⊢
 clear hb g1
 go_enter Tryz.func35, Tryz.ntmps35
 go_wp2_with fail
 refine (show Cz 63 _ _ _ from HI.out _).mono ?_
 rintro e w1 ⟨rfl, o1⟩
 have O1 : Hid (Oz w w1) := (O0.out.alloc _).trans o1 (fun _ _ g => g)
 clear HI o1
 go_wp2
 go_ret3
 exact ⟨rfl, O1.out⟩
theorem dz_none (k n : Int) (s : ByteArray) (ao : Option Addr) (L c : Nat) (left nest : Int) (h1 : 1 ≤ left) (h4 : nest ≤ 32) (e1 : (k == 1) = false) (e2 : (k == 2) = false) (e3 : (k == 3) = false) (e4 : (k == 4) = false) (e5 : (k == 5) = false) (e6 : (k == 6) = false) (e7 : (k == 7) = false) (w : World) : Cz 35 #[vV k n s (.slice ao L c), .int .i64 left, .int .i64 nest] w (mP (0, 0, false) w) := by
 unfold vV mP
 have O0 : Hid (Oz w w) := Only.refl _ _
 go_enter Tryz.func35, Tryz.ntmps35
 go_wp2
 go_ret3
 exact ⟨rfl, O0.out.alloc _⟩
def MzC (d : Nat) : Prop := ∀ (t : Vt) (lv : Value) (w : World) (S : Nat → Prop) (left nest : Int), VsAt w S d t.l lv → (∃ e, SmT e t) → 0 ≤ left → left ≤ 1024 → 0 ≤ nest → nest ≤ 1000 → Cz 35 #[vV t.k t.n t.s lv, .int .i64 left, .int .i64 nest] w (mP (mz d t left nest) w)
theorem dz_list4 (d : Nat) (l : List Vt) (n : Int) (s : ByteArray) (ao : Option Addr) (c : Nat) (left nest : Int) (h1 : 1 ≤ left) (h2 : left ≤ 1024) (h3 : 0 ≤ nest) (h4 : nest ≤ 32) (hL : l.length ≤ 1048576) (hsm : ∀ x ∈ l, ∃ e, SmT e x) (w : World) (S : Nat → Prop) (hv : VsAt w S (d + 1) l (.slice ao l.length c)) (H : MzC d) : Cz 35 #[vV 4 n s (.slice ao l.length c), .int .i64 left, .int .i64 nest] w (mP (mzL (fun x lf => mz d x lf (nest + 1)) true left l 1 0) w) := by
 obtain ⟨ao', cap', hva, hcap, hl⟩ := hv
 obtain ⟨rfl, rfl⟩ : ao = ao' ∧ c = cap' := by
  injection hva with q1 q2 q3
  exact ⟨q1, q3⟩
 obtain ⟨f, hf⟩ : ∃ f : Vt → Int → Int × Int × Bool, f = fun x lf => mz d x lf (nest + 1) := ⟨_, rfl⟩
 have HP : Hid (∀ (i : Nat) (x : Vt), l[i]? = some x → ∃ g k lx, ao = some ⟨g, k, none⟩ ∧ (w.cell? ⟨g, k + i * 4, none⟩ = some (.int .i64 x.k) ∧ w.cell? ⟨g, k + i * 4 + 1, none⟩ = some (.int .i64 x.n) ∧ w.cell? ⟨g, k + i * 4 + 2, none⟩ = some (.string x.s) ∧ w.cell? ⟨g, k + i * 4 + 3, none⟩ = some lx) ∧ ∀ w1 lf, Oz w w1 → 0 ≤ lf → lf ≤ 1024 → Cz 35 #[.agg #[.int .i64 x.k, .int .i64 x.n, .string x.s, lx], .int .i64 lf, .int .i64 (nest + 1)] w1 fun e w' => e = .returned (.tuple #[.int .i64 (f x lf).1, .int .i64 (f x lf).2.1, .bool (f x lf).2.2]) ∧ Oz w1 w') := by
  intro i x hx
  obtain ⟨g, k, lx, p1, p2, p3, p4⟩ := hl i x hx
  refine ⟨g, k, lx, p1, p3, fun w1 lf o1 q1 q2 => ?_⟩
  rw [hf]
  exact H x lx w1 S lf (nest + 1) (p4.only o1) (hsm x (List.mem_of_getElem? hx)) q1 q2 (by omega) (by omega)
 have HF : Hid (∀ x lf, (f x lf).2.2 = true → 1 ≤ (f x lf).1 ∧ (f x lf).1 ≤ lf ∧ 0 ≤ (f x lf).2.1 ∧ (f x lf).2.1 ≤ 32) := by
  intro x lf
  rw [hf]
  exact mz_bd d x lf (nest + 1)
 rw [← hf]
 obtain ⟨R, hR⟩ : ∃ R, R = mzL f true left l 1 0 := ⟨_, rfl⟩
 have HR : Hid (R = mzL f true left l 1 0) := hR
 obtain ⟨N, hN⟩ : ∃ N, N = l.length := ⟨_, rfl⟩
 have HNN : Hid (N = l.length ∧ N ≤ 1048576) := ⟨hN, by omega⟩
 rw [← hN, ← hR]
 clear hN hR hL hsm H hl hcap hva hf
 unfold mP vV
 obtain ⟨B, hB⟩ : ∃ B, B = w.heap.size := ⟨_, rfl⟩
 obtain ⟨w0, hw0⟩ : ∃ w0, w0 = w.alloc (.cells #[.int .i64 4, .int .i64 n, .string s, .slice ao N c] 38) := ⟨_, rfl⟩
 have HO : Hid (Oz w w0) := by rw [hw0]; exact (Only.refl _ w).alloc _
 have HX : Hid (w0.heap[B]? = some (.cells #[.int .i64 4, .int .i64 n, .string s, .slice ao N c] 38)) := by rw [hw0]; exact valloc_at _ _ _ hB
 go_enter Tryz.func35, Tryz.ntmps35
 go_wp2
 rw [← hB, ← hw0]
 clear hB hw0
 go_loopw [6, 7, 9] (fun r6 r7 r9 wr => ∃ (i : Nat) (z p : Int), r6 = .int .i64 z ∧ r7 = .int .i64 p ∧ r9 = .int .i64 (i : Int) ∧ i ≤ N ∧ Hid (R = mzL f true left (l.drop i) z p ∧ (1 ≤ z ∧ z ≤ left ∧ 0 ≤ p ∧ p ≤ 32) ∧ Oz w0 wr)) (fun _ _ r9 _ => N - vuOf r9)
 case atStart => exact ⟨0, 1, 0, rfl, rfl, rfl, Nat.zero_le _, HR.out, ⟨by decide, h1, by decide, by decide⟩, Only.refl _ _⟩
 case round =>
  obtain ⟨i, z, p, rfl, rfl, rfl, hi, HI⟩ := hrel
  obtain ⟨w1, hw1⟩ : ∃ w1, w1 = wr := ⟨_, rfl⟩
  rw [← hw1] at HI ⊢
  clear hw1
  obtain ⟨hRz, ⟨b1, b2, b3, b4⟩, oI⟩ := HI.out
  have hX := (oI.block B (Array.getElem?_eq_some_iff.1 HX.out).1 (fun g => g)).trans HX.out
  have b0 := vblk_cells hX 0
  have b5 := vblk_cells hX 3
  simp only [List.getElem?_toArray, List.getElem?_cons_zero, List.getElem?_cons_succ] at b0 b5
  clear hX
  have hNl := HNN.out.1
  have hN4 := HNN.out.2
  have OI : Hid (Oz w0 w1) := oI
  by_cases hiN : i < N
  ·obtain ⟨x, hx⟩ : ∃ x, l[i]? = some x := ⟨l[i]'(by omega), List.getElem?_eq_getElem (by omega)⟩
   obtain ⟨g, k, lx, rfl, ⟨c0, c1, c2, c3⟩, hcall⟩ := HP.out i x hx
   have oo := HO.out.trans oI (fun _ _ g => g)
   have c0 := oo.cell c0 (fun g => g)
   have c1 := oo.cell c1 (fun g => g)
   have c2 := oo.cell c2 (fun g => g)
   have c3 := oo.cell c3 (fun g => g)
   have hdr : l.drop i = x :: l.drop (i + 1) := by
    have hlt : i < l.length := by omega
    rw [List.drop_eq_getElem_cons hlt]
    have := List.getElem?_eq_getElem hlt
    rw [hx] at this
    injection this with this
    rw [← this]
   rw [hdr] at hRz
   unfold mzL at hRz
   have HFx := HF.out x (left - z)
   have HC0 := hcall w1 (left - z) oo (by omega) (by omega)
   obtain ⟨q, hq⟩ : ∃ q, q = f x (left - z) := ⟨_, rfl⟩
   rw [← hq] at hRz HFx HC0
   obtain ⟨n1, d1, ok⟩ := q
   dsimp only at hRz HFx HC0
   have HC : Hid _ := HC0
   have i1 : (i : Int) < (N : Int) := by omega
   have i0 : (0 : Int) ≤ (i : Int) := by omega
   have hi4 : i ≤ 1048576 := by omega
   have HBd : Hid (i < N) := hiN
   obtain ⟨x0, hx0⟩ : ∃ x0, x0 = x.k := ⟨_, rfl⟩
   obtain ⟨x1, hx1⟩ : ∃ x1, x1 = x.n := ⟨_, rfl⟩
   obtain ⟨x2, hx2⟩ : ∃ x2, x2 = x.s := ⟨_, rfl⟩
   rw [← hx0, ← hx1, ← hx2] at HC
   rw [← hx0] at c0 hRz
   rw [← hx1] at c1
   rw [← hx2] at c2
   clear hx0 hx1 hx2 hcall oo hx hdr hq HC0 HI oI hNl hN4 hiN hi HP
   by_cases h7 : x0 = 7
   ·rw [if_pos ⟨rfl, h7⟩] at hRz
    have HE : Hid (R = (0, 0, false)) := hRz
    subst h7
    clear hRz HFx HC b1 b2 b3 b4
    go_wp2
    go_ret3
    refine ⟨by rw [HE.out]; rfl, HO.out.trans OI.out (fun _ _ g => g)⟩
   rw [if_neg (fun g => h7 g.2)] at hRz
   have f1 : left - z ≤ 1024 := by omega
   have f2 : 0 ≤ left - z := by omega
   go_wp2_with fail
   refine (show Cz 35 _ _ _ from HC.out).mono ?_
   rintro e w2 ⟨rfl, o2⟩
   have HK : Hid (Oz w0 w2) := OI.out.trans o2 (fun _ _ g => g)
   clear HC OI o2 c0 c1 c2 c3 b0 b5
   cases ok with
   | false =>
     rw [if_neg (by decide)] at hRz
     have HE : Hid (R = (0, 0, false)) := hRz
     clear hRz HFx b1 b2 b3 b4 f1 f2
     go_wp2
     go_ret3
     refine ⟨by rw [HE.out]; rfl, HO.out.trans HK.out (fun _ _ g => g)⟩
   | true =>
     rw [if_pos rfl] at hRz
     obtain ⟨a1, a2, a3, a4⟩ := HFx rfl
     have HE : Hid (R = mzL f true left (l.drop (i + 1)) (z + n1) (max p d1) ∧ (1 ≤ z + n1 ∧ z + n1 ≤ left ∧ 0 ≤ max p d1 ∧ max p d1 ≤ 32)) := ⟨hRz, by omega, by omega, by omega, by omega⟩
     have f3 : z + n1 ≤ 1024 := by omega
     clear hRz HFx
     go_wp2
     all_goals
      go_roundw
      case rel => exact ⟨i + 1, z + n1, max p d1, rfl, rfl, by go_num, by have := HBd.out; omega, HE.out.1, HE.out.2, HK.out⟩
      case measure => simp only [vuOf]; have := HBd.out; omega
  ·obtain rfl : i = N := by omega
   have i1 : ¬ (i : Int) < (i : Int) := by omega
   rw [List.drop_eq_nil_of_le (show l.length ≤ i by omega)] at hRz
   have HE : Hid (R = (z, p + 1, decide (p < 32))) := hRz
   clear hRz HI oI hNl hN4 hiN hi
   go_wp2
   go_ret3
   exact ⟨by rw [HE.out]; rfl, HO.out.trans OI.out (fun _ _ g => g)⟩
theorem dz_list5 (d : Nat) (l : List Vt) (n : Int) (s : ByteArray) (ao : Option Addr) (c : Nat) (left nest : Int) (h1 : 1 ≤ left) (h2 : left ≤ 1024) (h3 : 0 ≤ nest) (h4 : nest ≤ 32) (hL : l.length ≤ 1048576) (hsm : ∀ x ∈ l, ∃ e, SmT e x) (w : World) (S : Nat → Prop) (hv : VsAt w S (d + 1) l (.slice ao l.length c)) (H : MzC d) : Cz 35 #[vV 5 n s (.slice ao l.length c), .int .i64 left, .int .i64 nest] w (mP (mzL (fun x lf => mz d x lf (nest + 1)) false left l 1 0) w) := by
 obtain ⟨ao', cap', hva, hcap, hl⟩ := hv
 obtain ⟨rfl, rfl⟩ : ao = ao' ∧ c = cap' := by
  injection hva with q1 q2 q3
  exact ⟨q1, q3⟩
 obtain ⟨f, hf⟩ : ∃ f : Vt → Int → Int × Int × Bool, f = fun x lf => mz d x lf (nest + 1) := ⟨_, rfl⟩
 have HP : Hid (∀ (i : Nat) (x : Vt), l[i]? = some x → ∃ g k lx, ao = some ⟨g, k, none⟩ ∧ (w.cell? ⟨g, k + i * 4, none⟩ = some (.int .i64 x.k) ∧ w.cell? ⟨g, k + i * 4 + 1, none⟩ = some (.int .i64 x.n) ∧ w.cell? ⟨g, k + i * 4 + 2, none⟩ = some (.string x.s) ∧ w.cell? ⟨g, k + i * 4 + 3, none⟩ = some lx) ∧ ∀ w1 lf, Oz w w1 → 0 ≤ lf → lf ≤ 1024 → Cz 35 #[.agg #[.int .i64 x.k, .int .i64 x.n, .string x.s, lx], .int .i64 lf, .int .i64 (nest + 1)] w1 fun e w' => e = .returned (.tuple #[.int .i64 (f x lf).1, .int .i64 (f x lf).2.1, .bool (f x lf).2.2]) ∧ Oz w1 w') := by
  intro i x hx
  obtain ⟨g, k, lx, p1, p2, p3, p4⟩ := hl i x hx
  refine ⟨g, k, lx, p1, p3, fun w1 lf o1 q1 q2 => ?_⟩
  rw [hf]
  exact H x lx w1 S lf (nest + 1) (p4.only o1) (hsm x (List.mem_of_getElem? hx)) q1 q2 (by omega) (by omega)
 have HF : Hid (∀ x lf, (f x lf).2.2 = true → 1 ≤ (f x lf).1 ∧ (f x lf).1 ≤ lf ∧ 0 ≤ (f x lf).2.1 ∧ (f x lf).2.1 ≤ 32) := by
  intro x lf
  rw [hf]
  exact mz_bd d x lf (nest + 1)
 rw [← hf]
 obtain ⟨R, hR⟩ : ∃ R, R = mzL f false left l 1 0 := ⟨_, rfl⟩
 have HR : Hid (R = mzL f false left l 1 0) := hR
 obtain ⟨N, hN⟩ : ∃ N, N = l.length := ⟨_, rfl⟩
 have HNN : Hid (N = l.length ∧ N ≤ 1048576) := ⟨hN, by omega⟩
 rw [← hN, ← hR]
 clear hN hR hL hsm H hl hcap hva hf
 unfold mP vV
 obtain ⟨B, hB⟩ : ∃ B, B = w.heap.size := ⟨_, rfl⟩
 obtain ⟨w0, hw0⟩ : ∃ w0, w0 = w.alloc (.cells #[.int .i64 5, .int .i64 n, .string s, .slice ao N c] 38) := ⟨_, rfl⟩
 have HO : Hid (Oz w w0) := by rw [hw0]; exact (Only.refl _ w).alloc _
 have HX : Hid (w0.heap[B]? = some (.cells #[.int .i64 5, .int .i64 n, .string s, .slice ao N c] 38)) := by rw [hw0]; exact valloc_at _ _ _ hB
 go_enter Tryz.func35, Tryz.ntmps35
 go_wp2
 rw [← hB, ← hw0]
 clear hB hw0
 go_loopw [6, 7, 9] (fun r6 r7 r9 wr => ∃ (i : Nat) (z p : Int), r6 = .int .i64 z ∧ r7 = .int .i64 p ∧ r9 = .int .i64 (i : Int) ∧ i ≤ N ∧ Hid (R = mzL f false left (l.drop i) z p ∧ (1 ≤ z ∧ z ≤ left ∧ 0 ≤ p ∧ p ≤ 32) ∧ Oz w0 wr)) (fun _ _ r9 _ => N - vuOf r9)
 case atStart => exact ⟨0, 1, 0, rfl, rfl, rfl, Nat.zero_le _, HR.out, ⟨by decide, h1, by decide, by decide⟩, Only.refl _ _⟩
 case round =>
  obtain ⟨i, z, p, rfl, rfl, rfl, hi, HI⟩ := hrel
  obtain ⟨w1, hw1⟩ : ∃ w1, w1 = wr := ⟨_, rfl⟩
  rw [← hw1] at HI ⊢
  clear hw1
  obtain ⟨hRz, ⟨b1, b2, b3, b4⟩, oI⟩ := HI.out
  have hX := (oI.block B (Array.getElem?_eq_some_iff.1 HX.out).1 (fun g => g)).trans HX.out
  have b0 := vblk_cells hX 0
  have b5 := vblk_cells hX 3
  simp only [List.getElem?_toArray, List.getElem?_cons_zero, List.getElem?_cons_succ] at b0 b5
  clear hX
  have hNl := HNN.out.1
  have hN4 := HNN.out.2
  have OI : Hid (Oz w0 w1) := oI
  by_cases hiN : i < N
  ·obtain ⟨x, hx⟩ : ∃ x, l[i]? = some x := ⟨l[i]'(by omega), List.getElem?_eq_getElem (by omega)⟩
   obtain ⟨g, k, lx, rfl, ⟨c0, c1, c2, c3⟩, hcall⟩ := HP.out i x hx
   have oo := HO.out.trans oI (fun _ _ g => g)
   have c0 := oo.cell c0 (fun g => g)
   have c1 := oo.cell c1 (fun g => g)
   have c2 := oo.cell c2 (fun g => g)
   have c3 := oo.cell c3 (fun g => g)
   have hdr : l.drop i = x :: l.drop (i + 1) := by
    have hlt : i < l.length := by omega
    rw [List.drop_eq_getElem_cons hlt]
    have := List.getElem?_eq_getElem hlt
    rw [hx] at this
    injection this with this
    rw [← this]
   rw [hdr] at hRz
   unfold mzL at hRz
   have HFx := HF.out x (left - z)
   have HC0 := hcall w1 (left - z) oo (by omega) (by omega)
   obtain ⟨q, hq⟩ : ∃ q, q = f x (left - z) := ⟨_, rfl⟩
   rw [← hq] at hRz HFx HC0
   obtain ⟨n1, d1, ok⟩ := q
   dsimp only at hRz HFx HC0
   have HC : Hid _ := HC0
   have i1 : (i : Int) < (N : Int) := by omega
   have i0 : (0 : Int) ≤ (i : Int) := by omega
   have hi4 : i ≤ 1048576 := by omega
   have HBd : Hid (i < N) := hiN
   obtain ⟨x0, hx0⟩ : ∃ x0, x0 = x.k := ⟨_, rfl⟩
   obtain ⟨x1, hx1⟩ : ∃ x1, x1 = x.n := ⟨_, rfl⟩
   obtain ⟨x2, hx2⟩ : ∃ x2, x2 = x.s := ⟨_, rfl⟩
   rw [← hx0, ← hx1, ← hx2] at HC
   rw [← hx0] at c0 hRz
   rw [← hx1] at c1
   rw [← hx2] at c2
   clear hx0 hx1 hx2 hcall oo hx hdr hq HC0 HI oI hNl hN4 hiN hi HP
   rw [if_neg (fun g => by cases g.1)] at hRz
   have f1 : left - z ≤ 1024 := by omega
   have f2 : 0 ≤ left - z := by omega
   go_wp2_with fail
   refine (show Cz 35 _ _ _ from HC.out).mono ?_
   rintro e w2 ⟨rfl, o2⟩
   have HK : Hid (Oz w0 w2) := OI.out.trans o2 (fun _ _ g => g)
   clear HC OI o2 c0 c1 c2 c3 b0 b5
   cases ok with
   | false =>
     rw [if_neg (by decide)] at hRz
     have HE : Hid (R = (0, 0, false)) := hRz
     clear hRz HFx b1 b2 b3 b4 f1 f2
     go_wp2
     go_ret3
     refine ⟨by rw [HE.out]; rfl, HO.out.trans HK.out (fun _ _ g => g)⟩
   | true =>
     rw [if_pos rfl] at hRz
     obtain ⟨a1, a2, a3, a4⟩ := HFx rfl
     have HE : Hid (R = mzL f false left (l.drop (i + 1)) (z + n1) (max p d1) ∧ (1 ≤ z + n1 ∧ z + n1 ≤ left ∧ 0 ≤ max p d1 ∧ max p d1 ≤ 32)) := ⟨hRz, by omega, by omega, by omega, by omega⟩
     have f3 : z + n1 ≤ 1024 := by omega
     clear hRz HFx
     go_wp2
     all_goals
      go_roundw
      case rel => exact ⟨i + 1, z + n1, max p d1, rfl, rfl, by go_num, by have := HBd.out; omega, HE.out.1, HE.out.2, HK.out⟩
      case measure => simp only [vuOf]; have := HBd.out; omega
  ·obtain rfl : i = N := by omega
   have i1 : ¬ (i : Int) < (i : Int) := by omega
   rw [List.drop_eq_nil_of_le (show l.length ≤ i by omega)] at hRz
   have HE : Hid (R = (z, p + 1, decide (p < 32))) := hRz
   clear hRz HI oI hNl hN4 hiN hi
   go_wp2
   go_ret3
   exact ⟨by rw [HE.out]; rfl, HO.out.trans OI.out (fun _ _ g => g)⟩
theorem dz_any : ∀ d : Nat, MzC d
 | 0 => fun t lv w S left nest h => h.elim
 | d + 1 => by
   intro t lv w S left nest hv hs h1 h2 h3 h4
   have ih := dz_any d
   obtain ⟨e, hs⟩ := hs
   cases e with
   | zero => exact hs.elim
   | succ e =>
   obtain ⟨s1, s2, s3, s4, s5⟩ := hs
   obtain ⟨ao, cap, rfl⟩ := hv.form
   unfold mz
   by_cases c1 : left < 1 ∨ 32 < nest
   ·rw [if_pos c1]
    by_cases c : left < 1
    ·exact dz_left _ _ _ ao _ cap left nest c w
    ·exact dz_nest _ _ _ ao _ cap left nest (by omega) (by omega) w
   rw [if_neg c1]
   have l1 : 1 ≤ left := by omega
   have n1 : nest ≤ 32 := by omega
   by_cases c2 : t.k = 4 ∨ t.k = 5
   ·rw [if_pos c2]
    rcases c2 with c | c
    ·rw [c]
     exact dz_list4 d t.l _ _ ao cap left nest l1 h2 h3 n1 s2 (fun x hx => ⟨e, s5 x hx⟩) w S hv ih
    ·rw [c]
     exact dz_list5 d t.l _ _ ao cap left nest l1 h2 h3 n1 s2 (fun x hx => ⟨e, s5 x hx⟩) w S hv ih
   rw [if_neg c2]
   by_cases k1 : t.k = 1
   ·rw [if_pos (by omega), if_neg (by omega), show alB t = (decide (-1152921504606846976 ≤ t.n) && decide (t.n ≤ 1152921504606846975)) from if_pos k1, k1]
    exact dz_int _ _ ao _ cap left nest l1 n1 w
   by_cases k2 : t.k = 2
   ·rw [if_pos (by omega), if_neg (by omega), show alB t = (decide (t.s.size ≤ 4096) && vlB t.s) from (if_neg k1).trans (if_pos k2), k2]
    by_cases g : t.s.size ≤ 4096
    ·rw [decide_eq_true g, Bool.true_and]
     by_cases b : stR t.s < t.s.size
     ·rw [show vlB t.s = false from by cases hb : vlB t.s with | false => rfl | true => exact absurd b ((vl_st _).1 hb)]
      exact dz_bad _ _ ao _ cap left nest l1 n1 g b w
     ·rw [(vl_st _).2 b]
      exact dz_str _ _ ao _ cap left nest l1 n1 g b w
    ·rw [decide_eq_false g, Bool.false_and]
     exact dz_long _ _ ao _ cap left nest l1 n1 (by omega) w
   by_cases k3 : t.k = 3
   ·rw [if_pos (by omega), if_neg (by omega), show alB t = true from (if_neg k1).trans ((if_neg k2).trans ((if_neg (by omega)).trans (decide_eq_true k3))), k3]
    exact dz_bool _ _ ao _ cap left nest l1 n1 w
   by_cases k6 : t.k = 6
   ·rw [if_pos (by omega), if_neg (by omega), show alB t = (decide (1 ≤ t.n) && decide (t.n ≤ 1048576)) from (if_neg k1).trans ((if_neg k2).trans (if_pos k6)), k6]
    cases g1 : decide (1 ≤ t.n) with
    | false => rw [Bool.false_and]; exact dz_box_lo _ _ ao _ cap left nest l1 n1 g1 w
    | true =>
      cases g2 : decide (t.n ≤ 1048576) with
      | false => rw [Bool.and_false]; exact dz_box_hi _ _ ao _ cap left nest l1 n1 g1 g2 w
      | true => exact dz_box _ _ ao _ cap left nest l1 n1 g1 g2 w
   by_cases k7 : t.k = 7
   ·rw [if_pos (by omega), if_pos k7, k7]
    exact dz_call _ _ ao _ cap left nest l1 n1 (by omega) w
   rw [if_neg (by omega)]
   have b : ∀ j : Int, t.k ≠ j → (t.k == j) = false := fun j h => beq_false_of_ne h
   exact dz_none _ _ _ ao _ cap left nest l1 n1 (b 1 k1) (b 2 k2) (b 3 k3) (b 4 (fun g => c2 (.inl g))) (b 5 (fun g => c2 (.inr g))) (b 6 k6) (b 7 k7) w
theorem dsound_any {d : Nat} {t : Vt} {lv : Value} {w : World} {S : Nat → Prop} (hv : VsAt w S d t.l lv) (hs : ∃ e, SmT e t) : Cz 18 #[vV t.k t.n t.s lv] w fun e w' => e = .returned (.bool (dsB d t)) ∧ Oz w w' := by
 obtain ⟨ao, cap, rfl⟩ := hv.form
 obtain ⟨k, n, s, l⟩ := t
 dsimp only at hv ⊢
 obtain ⟨r, hr⟩ : ∃ r, r = mz d ⟨k, n, s, l⟩ 1024 0 := ⟨_, rfl⟩
 have HC : Hid (∀ w1, Oz w w1 → Cz 35 #[.agg #[.int .i64 k, .int .i64 n, .string s, .slice ao l.length cap], .int .i64 1024, .int .i64 0] w1 fun e w' => e = .returned (.tuple #[.int .i64 r.1, .int .i64 r.2.1, .bool r.2.2]) ∧ Oz w1 w') := fun w1 o1 => by
  rw [hr]
  exact dz_any d ⟨k, n, s, l⟩ _ w1 S 1024 0 (hv.only o1) hs (by decide) (by decide) (by decide) (by decide)
 unfold dsB vV
 rw [← hr]
 obtain ⟨r1, r2, r3⟩ := r
 dsimp only at HC ⊢
 have O0 : Hid (Oz w w) := Only.refl _ _
 obtain ⟨L, hL⟩ : ∃ L, L = l.length := ⟨_, rfl⟩
 rw [← hL] at HC ⊢
 clear hv hs hr hL
 go_enter Tryz.func18, Tryz.ntmps18
 go_wp2_with fail
 refine (show Cz 35 _ _ _ from HC.out _ (O0.out.alloc _)).mono ?_
 rintro e w1 ⟨rfl, o1⟩
 have O1 : Hid (Oz w w1) := (O0.out.alloc _).trans o1 (fun _ _ g => g)
 have cc : w1.cell? ⟨w.heap.size, 0, none⟩ = some (.int .i64 k) := by
  have R := (o1.block w.heap.size (by simp) (fun h => h)).trans (valloc_at _ _ _ rfl)
  exact vblk_cells R 0
 clear HC o1
 cases r3 with
 | false =>
   go_wp2
   go_ret
   exact ⟨rfl, O1.out⟩
 | true =>
   by_cases h7 : k = 7
   ·subst h7
    go_wp2
    go_ret
    exact ⟨rfl, O1.out⟩
   ·have e7 : (k != 7) = true := by simp [h7]
    have H7 : Hid (k ≠ 7) := h7
    clear h7
    go_wp2
    go_ret
    exact ⟨by simp [H7.out], O1.out⟩
end Go.Proofs.YtenjollhlgjjdaaGreatDoor
