/- Equal values: those that hold no others; items; all; Equal. The document's SameAll: the loop. value.Text of the number 7. -/
import Derived.Test.YthlloenonjagbaaGreatDoorGat
import Derived.Test.YthlloenonjagbaaGreatDoorGan
import Derived.Deep.RegionHeld3
import Derived.Test.YthlloenonjagbaaGreatDoorGal
namespace Go.Proofs.YthlloenonjagbaaGreatDoor
open Go.RowKit Go.Lib
set_option linter.unusedSimpArgs false
set_option linter.unusedVariables false
theorem sm_ne (d : Nat) {a b : Vt} (h : a.k ≠ b.k) : smV (d + 1) false a b = false := by
  show (decide (a.k = b.k) && _) = _
  rw [decide_eq_false h, Bool.false_and]
theorem eq_leaf {w : World} {S : Nat → Prop} {d : Nat} {a b : Vt} {va vb : Value} (h1 : TiAt w S (d + 1) false a va) (h2 : TiAt w S (d + 1) false b vb) (hk : ¬ (a.k = 4 ∨ a.k = 5)) (ha8 : a.k ≠ 8) (hb8 : b.k ≠ 8) (W : World) : (binOp .eql 27 va vb).run Tryz.prog W = .ok (.bool (smV (d + 1) false a b)) W := by
  obtain ⟨k, n, s, l⟩ := a
  obtain ⟨k', n', s', l'⟩ := b
  have hU := Tryz.underlying27
  rcases h1 with ⟨e, _, rfl⟩ | ⟨e, _, rfl⟩ | ⟨e, _, rfl⟩ | ⟨e, _, rfl⟩ | ⟨e, _, rfl⟩ | ⟨e, _⟩
  · simp only at e
    subst e
    rcases h2 with ⟨e', _, rfl⟩ | ⟨e', _, rfl⟩ | ⟨e', _, rfl⟩ | ⟨e', _, rfl⟩ | ⟨e', _, rfl⟩ | ⟨e', ao, cap, rfl, _⟩
    · simp only at e'
      subst e'
      exact eqv_int _ hU n n' W
    · simp only at e'
      subst e'
      exact eqv_ne _ _ _ hU _ _ (by decide) W
    · simp only at e'
      subst e'
      exact eqv_ne _ _ _ hU _ _ (by decide) W
    · simp only at e'
      subst e'
      exact eqv_ne _ _ _ hU _ _ (by decide) W
    · exact absurd e' hb8
    · simp only at e'
      rw [sm_ne d (by simp only; omega)]
      rcases e' with rfl | rfl <;> exact eqv_ne _ _ _ hU _ _ (by simp) W
  · simp only at e
    subst e
    rcases h2 with ⟨e', _, rfl⟩ | ⟨e', _, rfl⟩ | ⟨e', _, rfl⟩ | ⟨e', _, rfl⟩ | ⟨e', _, rfl⟩ | ⟨e', ao, cap, rfl, _⟩
    · simp only at e'
      subst e'
      exact eqv_ne _ _ _ hU _ _ (by decide) W
    · simp only at e'
      subst e'
      exact eqv_str _ hU s s' W
    · simp only at e'
      subst e'
      exact eqv_ne _ _ _ hU _ _ (by decide) W
    · simp only at e'
      subst e'
      exact eqv_ne _ _ _ hU _ _ (by decide) W
    · exact absurd e' hb8
    · simp only at e'
      rw [sm_ne d (by simp only; omega)]
      rcases e' with rfl | rfl <;> exact eqv_ne _ _ _ hU _ _ (by simp) W
  · simp only at e
    subst e
    rcases h2 with ⟨e', _, rfl⟩ | ⟨e', _, rfl⟩ | ⟨e', _, rfl⟩ | ⟨e', _, rfl⟩ | ⟨e', _, rfl⟩ | ⟨e', ao, cap, rfl, _⟩
    · simp only at e'
      subst e'
      exact eqv_ne _ _ _ hU _ _ (by decide) W
    · simp only at e'
      subst e'
      exact eqv_ne _ _ _ hU _ _ (by decide) W
    · simp only at e'
      subst e'
      exact eqv_bool _ hU (n != 0) (n' != 0) W
    · simp only at e'
      subst e'
      exact eqv_ne _ _ _ hU _ _ (by decide) W
    · exact absurd e' hb8
    · simp only at e'
      rw [sm_ne d (by simp only; omega)]
      rcases e' with rfl | rfl <;> exact eqv_ne _ _ _ hU _ _ (by simp) W
  · simp only at e
    subst e
    rcases h2 with ⟨e', _, rfl⟩ | ⟨e', _, rfl⟩ | ⟨e', _, rfl⟩ | ⟨e', _, rfl⟩ | ⟨e', _, rfl⟩ | ⟨e', ao, cap, rfl, _⟩
    · simp only at e'
      subst e'
      exact eqv_ne _ _ _ hU _ _ (by decide) W
    · simp only at e'
      subst e'
      exact eqv_ne _ _ _ hU _ _ (by decide) W
    · simp only at e'
      subst e'
      exact eqv_ne _ _ _ hU _ _ (by decide) W
    · simp only at e'
      subst e'
      exact eqv_box _ hU n n' W
    · exact absurd e' hb8
    · simp only at e'
      rw [sm_ne d (by simp only; omega)]
      rcases e' with rfl | rfl <;> exact eqv_ne _ _ _ hU _ _ (by simp) W
  · exact absurd e ha8
  · exact absurd e hk
set_option maxRecDepth 100000 in
theorem same_leaf (d : Nat) (a b : Vt) (va vb : Value) (w : World) (S : Nat → Prop) (h1 : TiAt w S (d + 1) false a va) (h2 : TiAt w S (d + 1) false b vb) (hk : ¬ (a.k = 4 ∨ a.k = 5)) (ha8 : a.k ≠ 8) (hb8 : b.k ≠ 8) : Calls Tryz.prog 46 #[va, vb] w fun e w' => e = .returned (.bool (smV (d + 1) false a b)) ∧ Only (fun _ => False) w w' := by
  have hEq := eq_leaf h1 h2 hk ha8 hb8
  obtain ⟨⟨hl, hq⟩, _⟩ := leaf_lq h1 hk
  have O0 : Hid (Only (fun _ => False) w w) := Only.refl _ _
  obtain ⟨Z, hZ⟩ : ∃ Z, Z = smV (d + 1) false a b := ⟨_, rfl⟩
  rw [← hZ] at hEq ⊢
  have HS : Hid (∃ T y, va = .iface T y) := h1.iface ha8
  have HS2 : Hid (∃ T y, vb = .iface T y) := h2.iface hb8
  clear h1 h2 hk ha8 hb8 hZ
  obtain ⟨T1, y1, rfl⟩ := HS.out
  obtain ⟨T2, y2, rfl⟩ := HS2.out
  go_enter Tryz.func46, Tryz.ntmps46
  go_wp2
  go_ret
  exact ⟨rfl, (by repeat' first | exact O0.out | apply Only.alloc)⟩
set_option maxRecDepth 100000 in
set_option maxHeartbeats 1000000 in
theorem same_item (d : Nat) (H : SaV d false 46) : SaV (d + 1) true 68 := by
  intro a b va vb w S h1 h2 ho1 ho2
  have hP := va_hit 108 94 _ Tryz.underlying108 (by intro m h; cases h)
  have mP := va_miss 111 108 94 _ Tryz.underlying108 (by intro m h; cases h) (by decide) _ vzero_Push
  have O0 : Hid (Only (fun _ => False) w w) := Only.refl _ _
  have no8 : ∀ t : Vt, okV (d + 1) true t = true → t.k ≠ 8 := by
    intro t h e
    have h : (if t.k = 7 then clB t.s else if t.k = 8 then false else okV d false t) = true := h
    rw [if_neg (by omega), if_pos e] at h
    cases h
  have okd : ∀ t : Vt, t.k ≠ 7 → okV (d + 1) true t = true → okV d false t = true := by
    intro t h7 h
    have h : (if t.k = 7 then clB t.s else if t.k = 8 then false else okV d false t) = true := h
    rw [if_neg h7] at h
    split at h
    · cases h
    · exact h
  rcases h1 with ⟨a7, _, rfl⟩ | ⟨a8, _, rfl⟩ | ⟨a7, a8, u, rfl, hu⟩
  · rcases h2 with ⟨b7, _, rfl⟩ | ⟨b8, _, rfl⟩ | ⟨b7, b8, u', rfl, hu'⟩
    · have hsm : smV (d + 1) true a b = (a.s.toList == b.s.toList) := by
        show (if a.k = 7 ∨ b.k = 7 then _ else _) = _
        rw [if_pos (.inl a7), decide_eq_true a7, decide_eq_true b7]
        rfl
      have hEq := eqv_call _ Tryz.underlying94 a.s b.s
      rw [hsm]
      obtain ⟨Z, hZ⟩ : ∃ Z, Z = (a.s.toList == b.s.toList) := ⟨_, rfl⟩
      rw [← hZ] at hEq ⊢
      obtain ⟨s, hs⟩ : ∃ s, s = a.s := ⟨_, rfl⟩
      obtain ⟨r, hr⟩ : ∃ r, r = b.s := ⟨_, rfl⟩
      rw [← hs, ← hr] at hEq ⊢
      clear ho1 ho2 no8 okd a7 b7 hsm hZ hs hr hP
      go_enter Tryz.func68, Tryz.ntmps68
      go_wp2
      go_ret
      exact ⟨rfl, (by repeat' first | exact O0.out | apply Only.alloc)⟩
    · exact absurd b8 (no8 b ho2.1)
    · have hsm : smV (d + 1) true a b = false := by
        show (if a.k = 7 ∨ b.k = 7 then _ else _) = _
        rw [if_pos (.inl a7), decide_eq_false b7]
        simp
      have hEq := eqv_ne 94 111 108 Tryz.underlying94 (.agg #[.string a.s]) (.agg #[u']) (by decide)
      rw [hsm]
      obtain ⟨s, hs⟩ : ∃ s, s = a.s := ⟨_, rfl⟩
      rw [← hs] at hEq ⊢
      clear ho1 ho2 no8 okd a7 b7 hsm hs hP hu'
      go_enter Tryz.func68, Tryz.ntmps68
      go_wp2
      go_ret
      exact ⟨rfl, (by repeat' first | exact O0.out | apply Only.alloc)⟩
  · exact absurd a8 (no8 a ho1.1)
  · obtain ⟨T1, y1, rfl⟩ := hu.iface a8
    rcases h2 with ⟨b7, _, rfl⟩ | ⟨b8, _, rfl⟩ | ⟨b7, b8, u', rfl, hu'⟩
    · have hsm : smV (d + 1) true a b = false := by
        show (if a.k = 7 ∨ b.k = 7 then _ else _) = _
        rw [if_pos (.inr b7), decide_eq_false a7]
        simp
      rw [hsm]
      obtain ⟨s, hs⟩ : ∃ s, s = b.s := ⟨_, rfl⟩
      rw [← hs]
      clear ho1 ho2 no8 okd a7 a8 b7 hsm hs hu
      go_enter Tryz.func68, Tryz.ntmps68
      go_wp2
      go_ret
      exact ⟨rfl, (by repeat' first | exact O0.out | apply Only.alloc)⟩
    · exact absurd b8 (no8 b ho2.1)
    · obtain ⟨T2, y2, rfl⟩ := hu'.iface b8
      have hsm : smV (d + 1) true a b = smV d false a b := by
        show (if a.k = 7 ∨ b.k = 7 then _ else _) = _
        rw [if_neg (by omega)]
      have HC : Hid (∀ w1, Only (fun _ => False) w w1 → Calls Tryz.prog 46 #[.iface T1 y1, .iface T2 y2] w1 fun e w' => e = .returned (.bool (smV d false a b)) ∧ Only (fun _ => False) w1 w') := fun w1 o1 => H a b _ _ w1 S (hu.only o1 (fun _ _ g => g)) (hu'.only o1 (fun _ _ g => g)) ⟨okd a a7 ho1.1, ho1.2⟩ ⟨okd b b7 ho2.1, ho2.2⟩
      rw [hsm]
      obtain ⟨Z, hZ⟩ : ∃ Z, Z = smV d false a b := ⟨_, rfl⟩
      rw [← hZ] at HC ⊢
      clear ho1 ho2 no8 okd a7 a8 b7 b8 hsm hZ hu hu' H
      go_enter Tryz.func68, Tryz.ntmps68
      go_wp2_with fail
      refine (show Calls Tryz.prog 46 _ _ _ from HC.out _ (by repeat' first | exact O0.out | apply Only.alloc)).mono ?_
      rintro e w1 ⟨rfl, o1⟩
      have O1 : Hid (Only (fun _ => False) w w1) := Only.trans (show Only (fun _ => False) w _ by repeat' first | exact (Only.refl _ _) | apply Only.alloc) o1 (fun _ _ g => g)
      clear HC o1
      go_wp2
      go_ret
      exact ⟨rfl, O1.out⟩
theorem same_val (d : Nat) (H1 : SaV d false 46) (H2 : SaV d true 68) : SaV (d + 1) false 46 := by
  intro a b va vb w S h1 h2 ho1 ho2
  by_cases h4 : a.k = 4
  · exact same_list d (ef_values d H1) a b va vb w S h1 h2 ho1 ho2 h4
  by_cases h5 : a.k = 5
  · exact same_quot d (ef_items d H2) a b va vb w S h1 h2 ho1 ho2 h5
  exact same_leaf d a b va vb w S h1 h2 (by omega) (ok_ne8 ho1.1) (ok_ne8 ho2.1)
theorem same_all : ∀ d : Nat, SaV d false 46 ∧ SaV d true 68
  | 0 => ⟨fun a b va vb w S h => h.elim, fun a b va vb w S h => h.elim⟩
  | d + 1 => ⟨same_val d (same_all d).1 (same_all d).2, same_item d (same_all d).1⟩
set_option maxRecDepth 100000 in
/-- Equal, of any two values -/
theorem vequal_any {d : Nat} {a b : Vt} {va vb : Value} {w : World} {S : Nat → Prop} (h1 : TiAt w S d false a va) (h2 : TiAt w S d false b vb) (hS : ∀ x, S x → x < w.heap.size) (hs1 : ∃ e, SmT e a) (hs2 : ∃ e, SmT e b) (hT : Tb w) : Calls Tryz.prog 27 #[va, vb] w fun e w' => e = .returned (.tuple #[.bool (sdB d a && sdB d b && smV d false a b), .int .i64 (if sdB d a && sdB d b then 0 else 1)]) ∧ Only (fun _ => False) w w' := by
  have ok : ∀ t, sdB d t = true → okV d false t = true := by
    intro t h
    unfold sdB msB at h
    simp only [Bool.and_eq_true] at h
    exact h.1.1
  have HA : Hid _ := vcheck_any h1 hS hs1 hT
  have HB : Hid (∀ w1, Only (fun _ => False) w w1 → Calls Tryz.prog 12 #[vb] w1 fun e w' => e = .returned (.int .i64 (if sdB d b then 0 else 1)) ∧ Only (fun _ => False) w1 w') := fun w1 o => vcheck_any (h2.only o (fun _ _ g => g)) (fun x hx => Nat.lt_of_lt_of_le (hS x hx) o.size) hs2 (hT.frame o)
  have HC : Hid (sdB d a = true → sdB d b = true → ∀ w1, Only (fun _ => False) w w1 → Calls Tryz.prog 46 #[va, vb] w1 fun e w' => e = .returned (.bool (smV d false a b)) ∧ Only (fun _ => False) w1 w') := fun p q w1 o => (same_all d).1 a b va vb w1 S (h1.only o (fun _ _ g => g)) (h2.only o (fun _ _ g => g)) ⟨ok a p, hs1⟩ ⟨ok b q, hs2⟩
  obtain ⟨X, hX⟩ : ∃ X, X = sdB d a := ⟨_, rfl⟩
  obtain ⟨Y, hY⟩ : ∃ Y, Y = sdB d b := ⟨_, rfl⟩
  obtain ⟨Z, hZ⟩ : ∃ Z, Z = smV d false a b := ⟨_, rfl⟩
  rw [← hX] at HA HC ⊢
  rw [← hY] at HB HC ⊢
  rw [← hZ] at HC ⊢
  clear h1 h2 hS hs1 hs2 hT ok hX hY hZ
  cases X with
  | false =>
    clear HB HC
    go_enter Tryz.func27, Tryz.ntmps27
    go_wp2_with fail
    refine (show Calls Tryz.prog 12 _ _ _ from HA.out).mono ?_
    rintro e w1 ⟨rfl, o1⟩
    have O1 : Hid (Only (fun _ => False) w w1) := o1
    clear HA o1
    go_wp2
    go_ret2
    exact ⟨rfl, O1.out⟩
  | true =>
    go_enter Tryz.func27, Tryz.ntmps27
    go_wp2_with fail
    refine (show Calls Tryz.prog 12 _ _ _ from HA.out).mono ?_
    rintro e w1 ⟨rfl, o1⟩
    have O1 : Hid (Only (fun _ => False) w w1) := o1
    have HB1 : Hid _ := HB.out w1 o1
    clear HA HB o1
    go_wp2_with fail
    refine (show Calls Tryz.prog 12 _ _ _ from HB1.out).mono ?_
    rintro e w2 ⟨rfl, o2⟩
    have O2 : Hid (Only (fun _ => False) w w2) := O1.out.trans o2 (fun _ _ g => g)
    clear HB1 o2 O1
    cases Y with
    | false =>
      go_wp2
      go_ret2
      exact ⟨rfl, O2.out⟩
    | true =>
      have HC2 : Hid _ := HC.out (by simp) (by simp) w2 O2.out
      clear HC
      go_wp2_with fail
      refine (show Calls Tryz.prog 46 _ _ _ from HC2.out).mono ?_
      rintro e w3 ⟨rfl, o3⟩
      have O3 : Hid (Only (fun _ => False) w w3) := O2.out.trans o3 (fun _ _ g => g)
      clear HC2 o3 O2
      go_wp2
      go_ret2
      exact ⟨by simp, O3.out⟩
end Go.Proofs.YthlloenonjagbaaGreatDoor
namespace Go.Proofs.YthlloenonjagbaaGreatDoor
open Go.RowKit Go.Lib
set_option linter.unusedSimpArgs false
set_option linter.unusedVariables false
set_option maxRecDepth 100000 in
set_option maxHeartbeats 4000000 in
theorem sameall_ne (a1 a2 : Option Addr) (La Lb c1 c2 : Nat) (w : World) (h : ¬ (La : Int) = (Lb : Int)) : Calls Tryz.prog 30 #[.slice a1 La c1, .slice a2 Lb c2] w fun e w' => e = .returned (.bool false) ∧ Only (fun _ => False) w w' := by
  have O0 : Hid (Only (fun _ => False) w w) := Only.refl _ _
  go_enter Tryz.func30, Tryz.ntmps30
  go_wp2
  go_ret
  exact ⟨rfl, O0.out⟩
set_option maxRecDepth 100000 in
set_option maxHeartbeats 40000000 in
theorem dsameall_of (d : Nat) (H : DmC d) : DaC (d + 1) := by
  intro la lb va vb w S S' h1 h2 hla hlb gla glb
  obtain ⟨aa, ca, rfl, hca, ha⟩ := h1
  obtain ⟨ab, cb, rfl, hcb, hb⟩ := h2
  by_cases hlen : la.length = lb.length
  · have HE : Hid (∀ (j : Nat) (x y : Vt), la[j]? = some x → lb[j]? = some y → ∃ g k lx g' k' lx', aa = some ⟨g, k, none⟩ ∧ ab = some ⟨g', k', none⟩ ∧ (w.cell? ⟨g, k + j * 4, none⟩ = some (.int .i64 x.k) ∧ w.cell? ⟨g, k + j * 4 + 1, none⟩ = some (.int .i64 x.n) ∧ w.cell? ⟨g, k + j * 4 + 2, none⟩ = some (.string x.s) ∧ w.cell? ⟨g, k + j * 4 + 3, none⟩ = some lx) ∧ (w.cell? ⟨g', k' + j * 4, none⟩ = some (.int .i64 y.k) ∧ w.cell? ⟨g', k' + j * 4 + 1, none⟩ = some (.int .i64 y.n) ∧ w.cell? ⟨g', k' + j * 4 + 2, none⟩ = some (.string y.s) ∧ w.cell? ⟨g', k' + j * 4 + 3, none⟩ = some lx') ∧ ∀ w1, Only (fun _ => False) w w1 → Calls Tryz.prog 24 #[.agg #[.int .i64 x.k, .int .i64 x.n, .string x.s, lx], .agg #[.int .i64 y.k, .int .i64 y.n, .string y.s, lx']] w1 fun e w' => e = .returned (.bool (saV d x y)) ∧ Only (fun _ => False) w1 w') := by
      intro j x y hx hy
      obtain ⟨g, k, lx, p1, p2, p3, p4⟩ := ha j x hx
      obtain ⟨g', k', lx', q1, q2, q3, q4⟩ := hb j y hy
      exact ⟨g, k, lx, g', k', lx', p1, q1, p3, q3, fun w1 o1 => H x y lx lx' w1 S S' (p4.only o1) (q4.only o1) (gla x (List.mem_of_getElem? hx)) (glb y (List.mem_of_getElem? hy))⟩
    have HLB : Hid (la.length ≤ 1048576 ∧ la.length = lb.length) := ⟨hla, hlen⟩
    clear ha hb H hca hcb gla glb hla hlb
    rw [← hlen]
    obtain ⟨N, hN⟩ : ∃ N, N = la.length := ⟨_, rfl⟩
    have HNN : Hid (N = la.length) := hN
    rw [← hN]
    show Calls Tryz.prog 30 #[.slice aa N ca, .slice ab N cb] w fun e w' => e = .returned (.bool (smL (saV d) la lb)) ∧ Only (fun _ => False) w w'
    obtain ⟨R, hR⟩ : ∃ R, R = smL (saV d) la lb := ⟨_, rfl⟩
    rw [← hR]
    have HR : Hid (R = smL (saV d) (la.drop 0) (lb.drop 0)) := hR
    clear hN hlen hR
    go_enter Tryz.func30, Tryz.ntmps30
    go_wp2
    go_loopw [5] (fun r5 wr => ∃ i : Nat, r5 = .int .i64 (i : Int) ∧ i ≤ N ∧ Hid (R = smL (saV d) (la.drop i) (lb.drop i)) ∧ Hid (Only (fun _ => False) w wr)) (fun r5 _ => N - uOf r5)
    case atStart => exact ⟨0, rfl, Nat.zero_le _, HR, Only.refl _ _⟩
    case round =>
      clear HR
      obtain ⟨i, rfl, hi, HR, HI⟩ := hrel
      obtain ⟨w1, rfl⟩ : ∃ w1, w1 = wr := ⟨_, rfl⟩
      have hNl : N = la.length := HNN.out
      have hN4 : la.length ≤ 1048576 ∧ la.length = lb.length := HLB.out
      by_cases hiN : i < N
      · obtain ⟨x, hx⟩ : ∃ x, la[i]? = some x := ⟨la[i]'(by omega), List.getElem?_eq_getElem (by omega)⟩
        obtain ⟨y, hy⟩ : ∃ y, lb[i]? = some y := ⟨lb[i]'(by omega), List.getElem?_eq_getElem (by omega)⟩
        obtain ⟨g, k, lx, g', k', lx', rfl, rfl, ⟨h0, h1, h2, h3⟩, ⟨h4, h5, h6, h7⟩, hcall⟩ := HE.out i x y hx hy
        have o1 := HI.out
        have HS : Hid (∀ w', Only (fun _ => False) w1 w' → (w'.cell? ⟨g, k + i * 4, none⟩ = some (.int .i64 x.k) ∧ w'.cell? ⟨g, k + i * 4 + 1, none⟩ = some (.int .i64 x.n) ∧ w'.cell? ⟨g, k + i * 4 + 2, none⟩ = some (.string x.s) ∧ w'.cell? ⟨g, k + i * 4 + 3, none⟩ = some lx) ∧ (w'.cell? ⟨g', k' + i * 4, none⟩ = some (.int .i64 y.k) ∧ w'.cell? ⟨g', k' + i * 4 + 1, none⟩ = some (.int .i64 y.n) ∧ w'.cell? ⟨g', k' + i * 4 + 2, none⟩ = some (.string y.s) ∧ w'.cell? ⟨g', k' + i * 4 + 3, none⟩ = some lx')) := fun w' o => by
          have oo := o1.trans o (fun _ _ g => g)
          exact ⟨⟨oo.cell h0 (fun g => g), oo.cell h1 (fun g => g), oo.cell h2 (fun g => g), oo.cell h3 (fun g => g)⟩, ⟨oo.cell h4 (fun g => g), oo.cell h5 (fun g => g), oo.cell h6 (fun g => g), oo.cell h7 (fun g => g)⟩⟩
        obtain ⟨Z, hZ⟩ : ∃ Z, Z = saV d x y := ⟨_, rfl⟩
        rw [← hZ] at hcall
        have HR2 : Hid (R = (Z && smL (saV d) (la.drop (i + 1)) (lb.drop (i + 1)))) := by
          have := HR.out
          rw [drop_at hx, drop_at hy] at this
          rw [hZ]
          exact this
        have HCC : Hid (∀ w1, Only (fun _ => False) w w1 → Calls Tryz.prog 24 #[.agg #[.int .i64 x.k, .int .i64 x.n, .string x.s, lx], .agg #[.int .i64 y.k, .int .i64 y.n, .string y.s, lx']] w1 fun e w' => e = .returned (.bool Z) ∧ Only (fun _ => False) w1 w') := hcall
        obtain ⟨⟨c0, c1, c2, c3⟩, ⟨c4, c5, c6, c7⟩⟩ := HS.out w1 (Only.refl _ _)
        have HB : Hid (i < N ∧ N ≤ 1048576) := ⟨hiN, by omega⟩
        have i1 : (i : Int) < (N : Int) := by omega
        have i0 : (0 : Int) ≤ (i : Int) := by omega
        have hi4 : i ≤ 1048576 := by omega
        obtain ⟨x0, hx0⟩ : ∃ x0, x0 = x.k := ⟨_, rfl⟩
        obtain ⟨x1, hx1⟩ : ∃ x1, x1 = x.n := ⟨_, rfl⟩
        obtain ⟨x2, hx2⟩ : ∃ x2, x2 = x.s := ⟨_, rfl⟩
        obtain ⟨y0, hy0⟩ : ∃ y0, y0 = y.k := ⟨_, rfl⟩
        obtain ⟨y1, hy1⟩ : ∃ y1, y1 = y.n := ⟨_, rfl⟩
        obtain ⟨y2, hy2⟩ : ∃ y2, y2 = y.s := ⟨_, rfl⟩
        rw [← hx0, ← hx1, ← hx2, ← hy0, ← hy1, ← hy2] at HCC HS
        rw [← hx0] at c0
        rw [← hx1] at c1
        rw [← hx2] at c2
        rw [← hy0] at c4
        rw [← hy1] at c5
        rw [← hy2] at c6
        clear hx0 hx1 hx2 hy0 hy1 hy2 HE h0 h1 h2 h3 h4 h5 h6 h7 hcall o1 hx hy hZ hNl hN4 hi hiN HR
        go_wp2_with fail
        have OR : Hid (Only (fun _ => False) w1 w1) := Only.refl _ _
        go_region_held3 (fun w' => (w'.cell? ⟨g, k + i * 4, none⟩ = some (.int .i64 x0) ∧ w'.cell? ⟨g, k + i * 4 + 1, none⟩ = some (.int .i64 x1) ∧ w'.cell? ⟨g, k + i * 4 + 2, none⟩ = some (.string x2) ∧ w'.cell? ⟨g, k + i * 4 + 3, none⟩ = some lx) ∧ (w'.cell? ⟨g', k' + i * 4, none⟩ = some (.int .i64 y0) ∧ w'.cell? ⟨g', k' + i * 4 + 1, none⟩ = some (.int .i64 y1) ∧ w'.cell? ⟨g', k' + i * 4 + 2, none⟩ = some (.string y2) ∧ w'.cell? ⟨g', k' + i * 4 + 3, none⟩ = some lx'))
          (first
            | with_reducible exact HS.out _ OR.out.drew
            | with_reducible exact HS.out _ O2.out)
          (first | (go_at_call 24; refine (show Calls Tryz.prog 24 _ _ _ from HCC.out _ HI.out.drew).mono ?_; rintro ex w2 ⟨rfl, o2⟩; have O2 : Hid (Only (fun _ => False) w1 w2) := OR.out.drew.trans o2 (fun _ _ g => g)))
        have HK : Hid (Only (fun _ => False) w w2) := HI.out.trans O2.out (fun _ _ g => g)
        clear HI O2 OR HS HCC c0 c1 c2 c3 c4 c5 c6 c7 o2
        cases Z with
        | false =>
          go_wp2
          go_ret
          exact ⟨by rw [HR2.out]; rfl, HK.out⟩
        | true =>
          go_wp2
          go_roundw
          case rel => exact ⟨i + 1, by go_num, by have := HB.out; omega, HR2.out.trans (Bool.true_and _), HK⟩
          case measure => simp only [uOf]; have := HB.out; omega
      · obtain rfl : i = N := by omega
        have i1 : ¬ (i : Int) < (i : Int) := by omega
        have HR2 : Hid (R = true) := by
          have := HR.out
          rw [List.drop_eq_nil_of_le (show la.length ≤ i by omega), List.drop_eq_nil_of_le (show lb.length ≤ i by omega)] at this
          exact this
        clear HE hNl hN4 hi hiN HR
        go_wp2
        go_ret
        exact ⟨by rw [HR2.out]; rfl, HI.out⟩
  · show Calls Tryz.prog 30 _ w fun e w' => e = .returned (.bool (smL (saV d) la lb)) ∧ Only (fun _ => False) w w'
    rw [smL_len _ _ _ hlen]
    exact sameall_ne _ _ _ _ _ _ w (by omega)
theorem dsame_all : ∀ (d : Nat), DaC d ∧ DmC d
  | 0 => ⟨fun la lb va vb w S S' h => h.elim, fun a b va vb w S S' h => h.elim⟩
  | d + 1 => ⟨dsameall_of d (dsame_all d).2, dsame_of d (dsameall_of d (dsame_all d).2)⟩
end Go.Proofs.YthlloenonjagbaaGreatDoor
namespace Go.Proofs.YthlloenonjagbaaGreatDoor
open Go.RowKit Go.Lib
set_option linter.unusedSimpArgs false
set_option linter.unusedVariables false
set_option maxRecDepth 100000 in
theorem measured7 (w : World) : Calls Tryz.prog 35 #[i7] w fun e w' => e = .returned (.tuple #[.agg #[.int .i64 1, .int .i64 0], .int .i64 0]) ∧ Only (fun _ => False) w w' := by
  have HV : Hid (Calls Tryz.prog 53 #[.pointer (some ⟨w.heap.size + 1, 0, none⟩), i7, .int .i64 0] ((w.alloc (.cells #[.int .i64 0, .int .i64 0] 86)).alloc (.cells #[.int .i64 0, .int .i64 0] 86)) fun e w' => e = .returned (.bool true) ∧ Only (fun b => b = w.heap.size + 1) ((w.alloc (.cells #[.int .i64 0, .int .i64 0] 86)).alloc (.cells #[.int .i64 0, .int .i64 0] 86)) w' ∧ VmB w' (w.heap.size + 1) (0 + 1) 0) := vval_int 7 (by omega) (by omega) (w.heap.size + 1) 0 0 0 _ (va_at (w.alloc (.cells #[.int .i64 0, .int .i64 0] 86)) _ _ (Array.size_push ..).symm) (by omega) (by omega)
  have ca : ((w.alloc (.cells #[.int .i64 0, .int .i64 0] 86)).alloc (.cells #[.int .i64 0, .int .i64 0] 86)).heap[w.heap.size]? = some (.cells #[.int .i64 0, .int .i64 0] 86) := (((Only.refl (fun _ => False) (w.alloc (.cells #[.int .i64 0, .int .i64 0] 86))).alloc _).block w.heap.size (by rw [show (w.alloc (.cells #[.int .i64 0, .int .i64 0] 86)).heap.size = w.heap.size + 1 from Array.size_push ..]; omega) (fun h => h)).trans (va_at w _ _ rfl)
  have CA : Hid (((w.alloc (.cells #[.int .i64 0, .int .i64 0] 86)).alloc (.cells #[.int .i64 0, .int .i64 0] 86)).heap[w.heap.size]? = some (.cells #[.int .i64 0, .int .i64 0] 86)) := ca
  have CZ : Hid (((w.alloc (.cells #[.int .i64 0, .int .i64 0] 86)).alloc (.cells #[.int .i64 0, .int .i64 0] 86)).heap.size = w.heap.size + 2) := (Array.size_push ..).trans (congrArg (· + 1) (Array.size_push ..))
  clear ca
  go_enter Tryz.func35, Tryz.ntmps35
  go_wp2_with fail
  refine (show Calls Tryz.prog 53 _ _ _ from HV.out).mono ?_
  rintro e w1 ⟨rfl, o1, m1⟩
  have O1 : Hid (Only (fun _ => False) w w1) := (((Only.refl (fun _ => False) w).alloc _).alloc _).trans o1 (fun k hk e => by omega)
  have h0 := (o1.block w.heap.size (by rw [CZ.out]; omega) (by omega)).trans CA.out
  have c0 := wr_cell h0 0
  have c1 := wr_cell h0 1
  have f0 := wr_froz h0 0
  have f1 := wr_froz h0 1
  have d0 := wr_cell m1 0
  have d1 := wr_cell m1 1
  simp only [List.getElem?_toArray, List.getElem?_cons_succ, List.getElem?_cons_zero, Int.zero_add] at c0 c1 d0 d1
  have q := set2 c0 c1 (.int .i64 1) (.int .i64 0)
  have Q : Hid (((w1.setCell ⟨w.heap.size, 0, none⟩ (.int .i64 1)).setCell ⟨w.heap.size, 1, none⟩ (.int .i64 0)).cell? ⟨w.heap.size, 0, none⟩ = some (.int .i64 1) ∧ ((w1.setCell ⟨w.heap.size, 0, none⟩ (.int .i64 1)).setCell ⟨w.heap.size, 1, none⟩ (.int .i64 0)).cell? ⟨w.heap.size, 1, none⟩ = some (.int .i64 0)) := q
  clear h0 CA CZ HV o1 m1 q
  go_wp2
  refine bodyPost_ret (results_two rfl _ _ w.heap.size Q.out.1 Q.out.2 rfl) rfl ?_
  exact ⟨rfl, (O1.out.setCell _ _ (fun g => by simp only at g; omega)).setCell _ _ (fun g => by simp only at g; omega)⟩
set_option maxRecDepth 100000 in
theorem check7 (w : World) : Calls Tryz.prog 12 #[i7] w fun e w' => e = .returned (.int .i64 0) ∧ Only (fun _ => False) w w' := by
  have HV : Hid (Calls Tryz.prog 35 #[i7] w fun e w' => e = .returned (.tuple #[.agg #[.int .i64 1, .int .i64 0], .int .i64 0]) ∧ Only (fun _ => False) w w') := measured7 w
  go_enter Tryz.func12, Tryz.ntmps12
  go_wp2_with fail
  refine (show Calls Tryz.prog 35 _ _ _ from HV.out).mono ?_
  rintro e w1 ⟨rfl, o1⟩
  have O1 : Hid (Only (fun _ => False) w w1) := o1
  clear HV o1
  go_wp2
  go_ret
  exact ⟨rfl, O1.out.alloc _⟩
set_option maxRecDepth 100000 in
theorem word7 (w : World) : Calls Tryz.prog 58 #[p7] w fun e w' => e = .returned (.string ⟨#[55]⟩) ∧ Only (fun _ => False) w w' := by
  have HV : Hid (∀ w1 g, w1.cell? ⟨g, 0, none⟩ = some p7 → Calls Tryz.prog 82 #[.slice (some ⟨g, 0, none⟩) 1 1] w1 fun e w' => e = .returned (.tuple #[.string ⟨#[55]⟩, .int .i64 0]) ∧ Only (fun _ => False) w1 w') := fun w1 g => text7 g w1
  go_enter Tryz.func58, Tryz.ntmps58
  go_wp2_with fail
  have hc : (w.alloc (.cells #[p7] 94)).cell? ⟨w.heap.size, 0, none⟩ = some p7 := (wr_cell (va_at w (.cells #[p7] 94) _ rfl) 0).trans rfl
  refine (show Calls Tryz.prog 82 _ _ _ from HV.out _ _ hc).mono ?_
  rintro e w1 ⟨rfl, o1⟩
  have O1 : Hid (Only (fun _ => False) w w1) := ((Only.refl (fun _ => False) w).alloc _).trans o1 (fun _ _ g => g)
  clear HV o1 hc
  go_wp2
  go_ret
  exact ⟨rfl, O1.out⟩
set_option maxRecDepth 100000 in
theorem join1 (w : World) (g : Nat) (c : Int) (hc : 1 ≤ c) (s : ByteArray) (hg : w.cell? ⟨g, 0, none⟩ = some (.string s)) : Calls Tryz.prog 36 #[.slice (some ⟨g, 0, none⟩) 1 c.toNat, .string ⟨#[32]⟩] w fun e w' => e = .returned (.string s) ∧ w' = w := by
  go_enter Tryz.func36, Tryz.ntmps36
  go_wp2
  go_ret
  exact ⟨rfl, rfl⟩
end Go.Proofs.YthlloenonjagbaaGreatDoor
