import Derived.Test.YtenjollhlgjjdaaGreatDoorGaa
import Derived.Test.YtenjollhlgjjdaaGreatDoorGaf
import Derived.Test.YtenjollhlgjjdaaGreatDoorGae
/-     -/
set_option linter.unusedSimpArgs false
set_option linter.unusedVariables false
set_option maxRecDepth 100000
set_option maxHeartbeats 40000000
namespace Go.Proofs.YtenjollhlgjjdaaGreatDoor
open Go.RowKit Go.Lib
theorem ok_ne8 {d : Nat} {t : Vt} (h : okV d false t = true) : t.k ≠ 8 := by
 cases d with
 | zero => cases h
 | succ d =>
   intro e
   have : okV (d + 1) false t = alB t := by
    show (if t.k = 4 ∨ t.k = 5 then _ else alB t) = _
    rw [if_neg (by omega)]
   rw [this] at h
   unfold alB at h
   rw [if_neg (by omega), if_neg (by omega), if_neg (by omega)] at h
   simp only [decide_eq_true_eq] at h
   omega
theorem ti_list {w : World} {S : Nat → Prop} {d : Nat} {t : Vt} {v : Value} {k : Int} (h : TiAt w S (d + 1) false t v) (hk : t.k = k) (hk4 : k = 4 ∨ k = 5) : ∃ ao cap, v = .iface (if k = 4 then 63 else 66) (.agg #[.slice ao t.l.length cap]) ∧ t.l.length ≤ cap ∧ ∀ i x, t.l[i]? = some x → ∃ g q u, ao = some ⟨g, q, none⟩ ∧ S g ∧ w.cell? ⟨g, q + i, none⟩ = some u ∧ TiAt w S d (decide (k = 5)) x u := by
 rcases h with ⟨e, _⟩ | ⟨e, _⟩ | ⟨e, _⟩ | ⟨e, _⟩ | ⟨e, _⟩ | ⟨_, ao, cap, h1, h2, h3⟩
 ·omega
 ·omega
 ·omega
 ·omega
 ·omega
 ·rw [hk] at h1 h3
  exact ⟨ao, cap, h1, h2, h3⟩
theorem miss_list {w : World} {S : Nat → Prop} {d : Nat} {t : Vt} {v : Value} (h : TiAt w S (d + 1) false t v) (hk : ¬ t.k = 4) (h8 : t.k ≠ 8) : ∀ W : World, (Instr.typeAssert v 41 63 true).run Tryz.prog W = .ok (.tuple #[.agg #[.slice none 0 0], .bool false]) W := by
 by_cases h5 : t.k = 5
 ·obtain ⟨ao, cap, rfl, _⟩ := ti_list h h5 (.inr rfl)
  exact va_miss 66 63 41 _ Tryz.underlying63 (by intro m h; cases h) (by decide) _ zL _
 ·exact (leaf_lq h (by omega)).1.1
theorem miss_quot {w : World} {S : Nat → Prop} {d : Nat} {t : Vt} {v : Value} (h : TiAt w S (d + 1) false t v) (hk : ¬ t.k = 5) (h8 : t.k ≠ 8) : ∀ W : World, (Instr.typeAssert v 41 66 true).run Tryz.prog W = .ok (.tuple #[.agg #[.slice none 0 0], .bool false]) W := by
 by_cases h4 : t.k = 4
 ·obtain ⟨ao, cap, rfl, _⟩ := ti_list h h4 (.inl rfl)
  exact va_miss 63 66 41 _ Tryz.underlying66 (by intro m h; cases h) (by decide) _ zQ _
 ·exact (leaf_lq h (by omega)).1.2
theorem same_list (d : Nat) (H : EfV d false 138 109) (a b : Vt) (va vb : Value) (w : World) (S : Nat → Prop) (h1 : TiAt w S (d + 1) false a va) (h2 : TiAt w S (d + 1) false b vb) (ho1 : okV (d + 1) false a = true ∧ ∃ e, SmT e a) (ho2 : okV (d + 1) false b = true ∧ ∃ e, SmT e b) (hk : a.k = 4) : Cz 109 #[va, vb] w fun e w' => e = .returned (.bool (smV (d + 1) false a b)) ∧ Oz w w' := by
 obtain ⟨ao, ca, rfl, _, hea⟩ := ti_list h1 hk (by decide)
 have hHit := va_hit 63 41 _ Tryz.underlying63 (by intro m h; cases h)
 have O0 : Hid (Oz w w) := Only.refl _ _
 by_cases hb : b.k = 4
 ·obtain ⟨bo, cb, rfl, _, heb⟩ := ti_list h2 hb (by decide)
  have hsm : smV (d + 1) false a b = smL (smV d false) a.l b.l := by
   show (decide (a.k = b.k) && _) = _
   rw [hk, hb]
   rfl
  have hall : ∀ t : Vt, t.k = 4 → okV (d + 1) false t = true ∧ (∃ e, SmT e t) → (∀ x ∈ t.l, okV d false x = true ∧ ∃ e, SmT e x) ∧ t.l.length ≤ 1048576 := by
   rintro t ht ⟨hok, e, he⟩
   have : okV (d + 1) false t = t.l.all (okV d false) := by
    show (if t.k = 4 ∨ t.k = 5 then t.l.all (okV d (decide (t.k = 5))) else alB t) = _
    rw [if_pos (by omega), ht]
    rfl
   rw [this, List.all_eq_true] at hok
   exact ⟨fun x hx => ⟨hok x hx, he.parts x hx⟩, he.len⟩
  have HE : Hid (∀ w1, Oz w w1 → Cz 138 #[.slice ao a.l.length ca, .slice bo b.l.length cb, .func (.func 109) #[] #[]] w1 fun e w' => e = .returned (.bool (smL (smV d false) a.l b.l)) ∧ Oz w1 w') := fun w1 o1 => H a.l b.l ao bo ca cb w1 S (fun j x hx => by obtain ⟨g, q, u, p1, p2, p3, p4⟩ := hea j x hx; exact ⟨g, q, u, p1, p2, o1.cell p3 (fun g => g), p4.only o1 (fun _ _ g => g)⟩) (fun j x hx => by obtain ⟨g, q, u, p1, p2, p3, p4⟩ := heb j x hx; exact ⟨g, q, u, p1, p2, o1.cell p3 (fun g => g), p4.only o1 (fun _ _ g => g)⟩) (hall a hk ho1).1 (hall b hb ho2).1 (hall a hk ho1).2 (hall b hb ho2).2
  rw [hsm]
  obtain ⟨Z, hZ⟩ : ∃ Z, Z = smL (smV d false) a.l b.l := ⟨_, rfl⟩
  obtain ⟨L, hL⟩ : ∃ L, L = a.l.length := ⟨_, rfl⟩
  obtain ⟨K, hK⟩ : ∃ K, K = b.l.length := ⟨_, rfl⟩
  rw [← hZ, ← hL, ← hK] at HE
  rw [← hZ, ← hL, ← hK]
  clear h1 h2 ho1 ho2 hk hb hea heb hsm hall hZ hL hK H
  go_enter Tryz.func109, Tryz.ntmps109
  go_wp2_with fail
  refine (show Cz 138 _ _ _ from HE.out _ (by repeat' first | exact O0.out | apply Only.alloc)).mono ?_
  rintro e w1 ⟨rfl, o1⟩
  have O1 : Hid (Oz w w1) := Only.trans (show Oz w _ by repeat' first | exact (Only.refl _ _) | apply Only.alloc) o1 (fun _ _ g => g)
  clear HE o1
  go_wp2
  go_ret
  exact ⟨rfl, O1.out⟩
 ·have hsm : smV (d + 1) false a b = false := by
   show (decide (a.k = b.k) && _) = _
   rw [decide_eq_false (by omega), Bool.false_and]
  have hbm := miss_list h2 hb (ok_ne8 ho2.1)
  rw [hsm]
  obtain ⟨L, hL⟩ : ∃ L, L = a.l.length := ⟨_, rfl⟩
  rw [← hL]
  clear h1 h2 ho1 ho2 hk hb hea hsm hL H
  go_enter Tryz.func109, Tryz.ntmps109
  go_wp2
  go_ret
  exact ⟨rfl, (by repeat' first | exact O0.out | apply Only.alloc)⟩
theorem same_quot (d : Nat) (H : EfV d true 139 140) (a b : Vt) (va vb : Value) (w : World) (S : Nat → Prop) (h1 : TiAt w S (d + 1) false a va) (h2 : TiAt w S (d + 1) false b vb) (ho1 : okV (d + 1) false a = true ∧ ∃ e, SmT e a) (ho2 : okV (d + 1) false b = true ∧ ∃ e, SmT e b) (hk : a.k = 5) : Cz 109 #[va, vb] w fun e w' => e = .returned (.bool (smV (d + 1) false a b)) ∧ Oz w w' := by
 obtain ⟨ao, ca, rfl, _, hea⟩ := ti_list h1 hk (by decide)
 have hHit := va_hit 66 41 _ Tryz.underlying66 (by intro m h; cases h)
 have hMissA := va_miss 66 63 41 _ Tryz.underlying63 (by intro m h; cases h) (by decide) _ zL
 have O0 : Hid (Oz w w) := Only.refl _ _
 by_cases hb : b.k = 5
 ·obtain ⟨bo, cb, rfl, _, heb⟩ := ti_list h2 hb (by decide)
  have hsm : smV (d + 1) false a b = smL (smV d true) a.l b.l := by
   show (decide (a.k = b.k) && _) = _
   rw [hk, hb]
   rfl
  have hall : ∀ t : Vt, t.k = 5 → okV (d + 1) false t = true ∧ (∃ e, SmT e t) → (∀ x ∈ t.l, okV d true x = true ∧ ∃ e, SmT e x) ∧ t.l.length ≤ 1048576 := by
   rintro t ht ⟨hok, e, he⟩
   have : okV (d + 1) false t = t.l.all (okV d true) := by
    show (if t.k = 4 ∨ t.k = 5 then t.l.all (okV d (decide (t.k = 5))) else alB t) = _
    rw [if_pos (by omega), ht]
    rfl
   rw [this, List.all_eq_true] at hok
   exact ⟨fun x hx => ⟨hok x hx, he.parts x hx⟩, he.len⟩
  have HE : Hid (∀ w1, Oz w w1 → Cz 139 #[.slice ao a.l.length ca, .slice bo b.l.length cb, .func (.func 140) #[] #[]] w1 fun e w' => e = .returned (.bool (smL (smV d true) a.l b.l)) ∧ Oz w1 w') := fun w1 o1 => H a.l b.l ao bo ca cb w1 S (fun j x hx => by obtain ⟨g, q, u, p1, p2, p3, p4⟩ := hea j x hx; exact ⟨g, q, u, p1, p2, o1.cell p3 (fun g => g), p4.only o1 (fun _ _ g => g)⟩) (fun j x hx => by obtain ⟨g, q, u, p1, p2, p3, p4⟩ := heb j x hx; exact ⟨g, q, u, p1, p2, o1.cell p3 (fun g => g), p4.only o1 (fun _ _ g => g)⟩) (hall a hk ho1).1 (hall b hb ho2).1 (hall a hk ho1).2 (hall b hb ho2).2
  rw [hsm]
  obtain ⟨Z, hZ⟩ : ∃ Z, Z = smL (smV d true) a.l b.l := ⟨_, rfl⟩
  obtain ⟨L, hL⟩ : ∃ L, L = a.l.length := ⟨_, rfl⟩
  obtain ⟨K, hK⟩ : ∃ K, K = b.l.length := ⟨_, rfl⟩
  rw [← hZ, ← hL, ← hK] at HE
  rw [← hZ, ← hL, ← hK]
  clear h1 h2 ho1 ho2 hk hb hea heb hsm hall hZ hL hK H
  go_enter Tryz.func109, Tryz.ntmps109
  go_wp2_with fail
  refine (show Cz 139 _ _ _ from HE.out _ (by repeat' first | exact O0.out | apply Only.alloc)).mono ?_
  rintro e w1 ⟨rfl, o1⟩
  have O1 : Hid (Oz w w1) := Only.trans (show Oz w _ by repeat' first | exact (Only.refl _ _) | apply Only.alloc) o1 (fun _ _ g => g)
  clear HE o1
  go_wp2
  go_ret
  exact ⟨rfl, O1.out⟩
 ·have hsm : smV (d + 1) false a b = false := by
   show (decide (a.k = b.k) && _) = _
   rw [decide_eq_false (by omega), Bool.false_and]
  have hbm := miss_quot h2 hb (ok_ne8 ho2.1)
  rw [hsm]
  obtain ⟨L, hL⟩ : ∃ L, L = a.l.length := ⟨_, rfl⟩
  rw [← hL]
  clear h1 h2 ho1 ho2 hk hb hea hsm hL H
  go_enter Tryz.func109, Tryz.ntmps109
  go_wp2
  go_ret
  exact ⟨rfl, (by repeat' first | exact O0.out | apply Only.alloc)⟩
theorem sm_ne (d : Nat) {a b : Vt} (h : a.k ≠ b.k) : smV (d + 1) false a b = false := by
 show (decide (a.k = b.k) && _) = _
 rw [decide_eq_false h, Bool.false_and]
theorem eq_leaf {w : World} {S : Nat → Prop} {d : Nat} {a b : Vt} {va vb : Value} (h1 : TiAt w S (d + 1) false a va) (h2 : TiAt w S (d + 1) false b vb) (hk : ¬ (a.k = 4 ∨ a.k = 5)) (ha8 : a.k ≠ 8) (hb8 : b.k ≠ 8) (W : World) : (binOp .eql 41 va vb).run Tryz.prog W = .ok (.bool (smV (d + 1) false a b)) W := by
 obtain ⟨k, n, s, l⟩ := a
 obtain ⟨k', n', s', l'⟩ := b
 have hU := Tryz.underlying41
 rcases h1 with ⟨e, _, rfl⟩ | ⟨e, _, rfl⟩ | ⟨e, _, rfl⟩ | ⟨e, _, rfl⟩ | ⟨e, _, rfl⟩ | ⟨e, _⟩
 ·simp only at e
  subst e
  rcases h2 with ⟨e', _, rfl⟩ | ⟨e', _, rfl⟩ | ⟨e', _, rfl⟩ | ⟨e', _, rfl⟩ | ⟨e', _, rfl⟩ | ⟨e', ao, cap, rfl, _⟩
  ·simp only at e'
   subst e'
   exact eqv_int _ hU n n' W
  ·simp only at e'
   subst e'
   exact eqv_ne _ _ _ hU _ _ (by decide) W
  ·simp only at e'
   subst e'
   exact eqv_ne _ _ _ hU _ _ (by decide) W
  ·simp only at e'
   subst e'
   exact eqv_ne _ _ _ hU _ _ (by decide) W
  ·exact absurd e' hb8
  ·simp only at e'
   rw [sm_ne d (by simp only; omega)]
   rcases e' with rfl | rfl <;> exact eqv_ne _ _ _ hU _ _ (by simp) W
 ·simp only at e
  subst e
  rcases h2 with ⟨e', _, rfl⟩ | ⟨e', _, rfl⟩ | ⟨e', _, rfl⟩ | ⟨e', _, rfl⟩ | ⟨e', _, rfl⟩ | ⟨e', ao, cap, rfl, _⟩
  ·simp only at e'
   subst e'
   exact eqv_ne _ _ _ hU _ _ (by decide) W
  ·simp only at e'
   subst e'
   exact eqv_str _ hU s s' W
  ·simp only at e'
   subst e'
   exact eqv_ne _ _ _ hU _ _ (by decide) W
  ·simp only at e'
   subst e'
   exact eqv_ne _ _ _ hU _ _ (by decide) W
  ·exact absurd e' hb8
  ·simp only at e'
   rw [sm_ne d (by simp only; omega)]
   rcases e' with rfl | rfl <;> exact eqv_ne _ _ _ hU _ _ (by simp) W
 ·simp only at e
  subst e
  rcases h2 with ⟨e', _, rfl⟩ | ⟨e', _, rfl⟩ | ⟨e', _, rfl⟩ | ⟨e', _, rfl⟩ | ⟨e', _, rfl⟩ | ⟨e', ao, cap, rfl, _⟩
  ·simp only at e'
   subst e'
   exact eqv_ne _ _ _ hU _ _ (by decide) W
  ·simp only at e'
   subst e'
   exact eqv_ne _ _ _ hU _ _ (by decide) W
  ·simp only at e'
   subst e'
   exact eqv_bool _ hU (n != 0) (n' != 0) W
  ·simp only at e'
   subst e'
   exact eqv_ne _ _ _ hU _ _ (by decide) W
  ·exact absurd e' hb8
  ·simp only at e'
   rw [sm_ne d (by simp only; omega)]
   rcases e' with rfl | rfl <;> exact eqv_ne _ _ _ hU _ _ (by simp) W
 ·simp only at e
  subst e
  rcases h2 with ⟨e', _, rfl⟩ | ⟨e', _, rfl⟩ | ⟨e', _, rfl⟩ | ⟨e', _, rfl⟩ | ⟨e', _, rfl⟩ | ⟨e', ao, cap, rfl, _⟩
  ·simp only at e'
   subst e'
   exact eqv_ne _ _ _ hU _ _ (by decide) W
  ·simp only at e'
   subst e'
   exact eqv_ne _ _ _ hU _ _ (by decide) W
  ·simp only at e'
   subst e'
   exact eqv_ne _ _ _ hU _ _ (by decide) W
  ·simp only at e'
   subst e'
   exact eqv_box _ hU n n' W
  ·exact absurd e' hb8
  ·simp only at e'
   rw [sm_ne d (by simp only; omega)]
   rcases e' with rfl | rfl <;> exact eqv_ne _ _ _ hU _ _ (by simp) W
 ·exact absurd e ha8
 ·exact absurd e hk
theorem same_leaf (d : Nat) (a b : Vt) (va vb : Value) (w : World) (S : Nat → Prop) (h1 : TiAt w S (d + 1) false a va) (h2 : TiAt w S (d + 1) false b vb) (hk : ¬ (a.k = 4 ∨ a.k = 5)) (ha8 : a.k ≠ 8) (hb8 : b.k ≠ 8) : Cz 109 #[va, vb] w fun e w' => e = .returned (.bool (smV (d + 1) false a b)) ∧ Oz w w' := by
 have hEq := eq_leaf h1 h2 hk ha8 hb8
 obtain ⟨⟨hl, hq⟩, _⟩ := leaf_lq h1 hk
 have O0 : Hid (Oz w w) := Only.refl _ _
 obtain ⟨Z, hZ⟩ : ∃ Z, Z = smV (d + 1) false a b := ⟨_, rfl⟩
 rw [← hZ] at hEq ⊢
 have HS : Hid (∃ T y, va = .iface T y) := h1.iface ha8
 have HS2 : Hid (∃ T y, vb = .iface T y) := h2.iface hb8
 clear h1 h2 hk ha8 hb8 hZ
 obtain ⟨T1, y1, rfl⟩ := HS.out
 obtain ⟨T2, y2, rfl⟩ := HS2.out
 go_enter Tryz.func109, Tryz.ntmps109
 go_wp2
 go_ret
 exact ⟨rfl, (by repeat' first | exact O0.out | apply Only.alloc)⟩
theorem same_item (d : Nat) (H : SaV d false 109) : SaV (d + 1) true 140 := by
 intro a b va vb w S h1 h2 ho1 ho2
 have hP := va_hit 109 97 _ Tryz.underlying109 (by intro m h; cases h)
 have mP := va_miss 127 109 97 _ Tryz.underlying109 (by intro m h; cases h) (by decide) _ vzero_Push
 have O0 : Hid (Oz w w) := Only.refl _ _
 have no8 : ∀ t : Vt, okV (d + 1) true t = true → t.k ≠ 8 := by
  intro t h e
  have h : (if t.k = 7 then clB t.s else if t.k = 8 then false else okV d false t) = true := h
  rw [if_neg (by omega), if_pos e] at h
  cases h
 have okd : ∀ t : Vt, t.k ≠ 7 → okV (d + 1) true t = true → okV d false t = true := by
  intro t h7 h
  have h : (if t.k = 7 then clB t.s else if t.k = 8 then false else okV d false t) = true := h
  rw [if_neg h7] at h
  split at h
  ·cases h
  ·exact h
 rcases h1 with ⟨a7, _, rfl⟩ | ⟨a8, _, rfl⟩ | ⟨a7, a8, u, rfl, hu⟩
 ·rcases h2 with ⟨b7, _, rfl⟩ | ⟨b8, _, rfl⟩ | ⟨b7, b8, u', rfl, hu'⟩
  ·have hsm : smV (d + 1) true a b = (a.s.toList == b.s.toList) := by
    show (if a.k = 7 ∨ b.k = 7 then _ else _) = _
    rw [if_pos (.inl a7), decide_eq_true a7, decide_eq_true b7]
    rfl
   have hEq := eqv_call _ Tryz.underlying97 a.s b.s
   rw [hsm]
   obtain ⟨Z, hZ⟩ : ∃ Z, Z = (a.s.toList == b.s.toList) := ⟨_, rfl⟩
   rw [← hZ] at hEq ⊢
   obtain ⟨s, hs⟩ : ∃ s, s = a.s := ⟨_, rfl⟩
   obtain ⟨r, hr⟩ : ∃ r, r = b.s := ⟨_, rfl⟩
   rw [← hs, ← hr] at hEq ⊢
   clear ho1 ho2 no8 okd a7 b7 hsm hZ hs hr hP
   go_enter Tryz.func140, Tryz.ntmps140
   go_wp2
   go_ret
   exact ⟨rfl, (by repeat' first | exact O0.out | apply Only.alloc)⟩
  ·exact absurd b8 (no8 b ho2.1)
  ·have hsm : smV (d + 1) true a b = false := by
    show (if a.k = 7 ∨ b.k = 7 then _ else _) = _
    rw [if_pos (.inl a7), decide_eq_false b7]
    simp
   have hEq := eqv_ne 97 127 109 Tryz.underlying97 (.agg #[.string a.s]) (.agg #[u']) (by decide)
   rw [hsm]
   obtain ⟨s, hs⟩ : ∃ s, s = a.s := ⟨_, rfl⟩
   rw [← hs] at hEq ⊢
   clear ho1 ho2 no8 okd a7 b7 hsm hs hP hu'
   go_enter Tryz.func140, Tryz.ntmps140
   go_wp2
   go_ret
   exact ⟨rfl, (by repeat' first | exact O0.out | apply Only.alloc)⟩
 ·exact absurd a8 (no8 a ho1.1)
 ·obtain ⟨T1, y1, rfl⟩ := hu.iface a8
  rcases h2 with ⟨b7, _, rfl⟩ | ⟨b8, _, rfl⟩ | ⟨b7, b8, u', rfl, hu'⟩
  ·have hsm : smV (d + 1) true a b = false := by
    show (if a.k = 7 ∨ b.k = 7 then _ else _) = _
    rw [if_pos (.inr b7), decide_eq_false a7]
    simp
   rw [hsm]
   obtain ⟨s, hs⟩ : ∃ s, s = b.s := ⟨_, rfl⟩
   rw [← hs]
   clear ho1 ho2 no8 okd a7 a8 b7 hsm hs hu
   go_enter Tryz.func140, Tryz.ntmps140
   go_wp2
   go_ret
   exact ⟨rfl, (by repeat' first | exact O0.out | apply Only.alloc)⟩
  ·exact absurd b8 (no8 b ho2.1)
  ·obtain ⟨T2, y2, rfl⟩ := hu'.iface b8
   have hsm : smV (d + 1) true a b = smV d false a b := by
    show (if a.k = 7 ∨ b.k = 7 then _ else _) = _
    rw [if_neg (by omega)]
   have HC : Hid (∀ w1, Oz w w1 → Cz 109 #[.iface T1 y1, .iface T2 y2] w1 fun e w' => e = .returned (.bool (smV d false a b)) ∧ Oz w1 w') := fun w1 o1 => H a b _ _ w1 S (hu.only o1 (fun _ _ g => g)) (hu'.only o1 (fun _ _ g => g)) ⟨okd a a7 ho1.1, ho1.2⟩ ⟨okd b b7 ho2.1, ho2.2⟩
   rw [hsm]
   obtain ⟨Z, hZ⟩ : ∃ Z, Z = smV d false a b := ⟨_, rfl⟩
   rw [← hZ] at HC ⊢
   clear ho1 ho2 no8 okd a7 a8 b7 b8 hsm hZ hu hu' H
   go_enter Tryz.func140, Tryz.ntmps140
   go_wp2_with fail
   refine (show Cz 109 _ _ _ from HC.out _ (by repeat' first | exact O0.out | apply Only.alloc)).mono ?_
   rintro e w1 ⟨rfl, o1⟩
   have O1 : Hid (Oz w w1) := Only.trans (show Oz w _ by repeat' first | exact (Only.refl _ _) | apply Only.alloc) o1 (fun _ _ g => g)
   clear HC o1
   go_wp2
   go_ret
   exact ⟨rfl, O1.out⟩
theorem same_val (d : Nat) (H1 : SaV d false 109) (H2 : SaV d true 140) : SaV (d + 1) false 109 := by
 intro a b va vb w S h1 h2 ho1 ho2
 by_cases h4 : a.k = 4
 ·exact same_list d (ef_values d H1) a b va vb w S h1 h2 ho1 ho2 h4
 by_cases h5 : a.k = 5
 ·exact same_quot d (ef_items d H2) a b va vb w S h1 h2 ho1 ho2 h5
 exact same_leaf d a b va vb w S h1 h2 (by omega) (ok_ne8 ho1.1) (ok_ne8 ho2.1)
theorem same_all : ∀ d : Nat, SaV d false 109 ∧ SaV d true 140
 | 0 => ⟨fun a b va vb w S h => h.elim, fun a b va vb w S h => h.elim⟩
 | d + 1 => ⟨same_val d (same_all d).1 (same_all d).2, same_item d (same_all d).1⟩
theorem vequal_any {d : Nat} {a b : Vt} {va vb : Value} {w : World} {S : Nat → Prop} (h1 : TiAt w S d false a va) (h2 : TiAt w S d false b vb) (hS : ∀ x, S x → x < w.heap.size) (hs1 : ∃ e, SmT e a) (hs2 : ∃ e, SmT e b) (hT : Tb w) : Cz 81 #[va, vb] w fun e w' => e = .returned (.tuple #[.bool (sdB d a && sdB d b && smV d false a b), .int .i64 (if sdB d a && sdB d b then 0 else 1)]) ∧ Oz w w' := by
 have ok : ∀ t, sdB d t = true → okV d false t = true := by
  intro t h
  unfold sdB msB at h
  simp only [Bool.and_eq_true] at h
  exact h.1.1
 have HA : Hid _ := vcheck_any h1 hS hs1 hT
 have HB : Hid (∀ w1, Oz w w1 → Cz 48 #[vb] w1 fun e w' => e = .returned (.int .i64 (if sdB d b then 0 else 1)) ∧ Oz w1 w') := fun w1 o => vcheck_any (h2.only o (fun _ _ g => g)) (fun x hx => Nat.lt_of_lt_of_le (hS x hx) o.size) hs2 (hT.frame o)
 have HC : Hid (sdB d a = true → sdB d b = true → ∀ w1, Oz w w1 → Cz 109 #[va, vb] w1 fun e w' => e = .returned (.bool (smV d false a b)) ∧ Oz w1 w') := fun p q w1 o => (same_all d).1 a b va vb w1 S (h1.only o (fun _ _ g => g)) (h2.only o (fun _ _ g => g)) ⟨ok a p, hs1⟩ ⟨ok b q, hs2⟩
 obtain ⟨X, hX⟩ : ∃ X, X = sdB d a := ⟨_, rfl⟩
 obtain ⟨Y, hY⟩ : ∃ Y, Y = sdB d b := ⟨_, rfl⟩
 obtain ⟨Z, hZ⟩ : ∃ Z, Z = smV d false a b := ⟨_, rfl⟩
 rw [← hX] at HA HC ⊢
 rw [← hY] at HB HC ⊢
 rw [← hZ] at HC ⊢
 clear h1 h2 hS hs1 hs2 hT ok hX hY hZ
 cases X with
 | false =>
   clear HB HC
   go_enter Tryz.func81, Tryz.ntmps81
   go_wp2_with fail
   refine (show Cz 48 _ _ _ from HA.out).mono ?_
   rintro e w1 ⟨rfl, o1⟩
   have O1 : Hid (Oz w w1) := o1
   clear HA o1
   go_wp2
   go_ret2
   exact ⟨rfl, O1.out⟩
 | true =>
   go_enter Tryz.func81, Tryz.ntmps81
   go_wp2_with fail
   refine (show Cz 48 _ _ _ from HA.out).mono ?_
   rintro e w1 ⟨rfl, o1⟩
   have O1 : Hid (Oz w w1) := o1
   have HB1 : Hid _ := HB.out w1 o1
   clear HA HB o1
   go_wp2_with fail
   refine (show Cz 48 _ _ _ from HB1.out).mono ?_
   rintro e w2 ⟨rfl, o2⟩
   have O2 : Hid (Oz w w2) := O1.out.trans o2 (fun _ _ g => g)
   clear HB1 o2 O1
   cases Y with
   | false =>
     go_wp2
     go_ret2
     exact ⟨rfl, O2.out⟩
   | true =>
     have HC2 : Hid _ := HC.out (by simp) (by simp) w2 O2.out
     clear HC
     go_wp2_with fail
     refine (show Cz 109 _ _ _ from HC2.out).mono ?_
     rintro e w3 ⟨rfl, o3⟩
     have O3 : Hid (Oz w w3) := O2.out.trans o3 (fun _ _ g => g)
     clear HC2 o3 O2
     go_wp2
     go_ret2
     exact ⟨by simp, O3.out⟩
theorem PsAt.only {w w' : World} {S bs : Nat → Prop} {d : Nat} {i : Bool} {l : List Vt} {ao : Option Addr} (h : PsAt w S d i l ao) (o : Only bs w w') (hb : ∀ b, S b → ¬ bs b) : PsAt w' S d i l ao := fun j x hx => by
 obtain ⟨g, q, u, h1, h2, h3, h4⟩ := h j x hx
 exact ⟨g, q, u, h1, h2, o.cell h3 (hb g h2), h4.only o hb⟩
theorem ps_nil {w : World} {S : Nat → Prop} {d : Nat} {i : Bool} {l : List Vt} {ao : Option Addr} (h : PsAt w S d i l ao) (e : ao = none) : l = [] := by
 cases l with
 | nil => rfl
 | cons x r =>
   obtain ⟨g, q, u, h1, _⟩ := h 0 x rfl
   rw [e] at h1
   cases h1
theorem cp_other (T : TypeId) (x : Value) (hL : T ≠ 63) (hQ : T ≠ 66) (w : World) : Cz 49 #[.iface T x] w fun e w' => e = .returned (.iface T x) ∧ Oz w w' := by
 have mList := va_miss T 63 41 _ Tryz.underlying63 (by intro m h; cases h) hL _ zL
 have mQuot := va_miss T 66 41 _ Tryz.underlying66 (by intro m h; cases h) hQ _ zQ
 have O : Hid (Oz w w) := Only.refl _ _
 clear hL hQ
 go_enter Tryz.func49, Tryz.ntmps49
 go_wp2
 go_ret
 exact ⟨rfl, by repeat' first | exact O.out | apply Only.alloc⟩
theorem cp_nil (w : World) : Cz 49 #[.nilIface] w fun e w' => e = .returned .nilIface ∧ Oz w w' := by
 have mList := uas_nil 63 41 _ Tryz.underlying63 (by intro m h; cases h) _ zL
 have mQuot := uas_nil 66 41 _ Tryz.underlying66 (by intro m h; cases h) _ zQ
 have O : Hid (Oz w w) := Only.refl _ _
 go_enter Tryz.func49, Tryz.ntmps49
 go_wp2
 go_ret
 exact ⟨rfl, by repeat' first | exact O.out | apply Only.alloc⟩
theorem cp_v (d : Nat) (H : CeC d false 49 77) (l : List Vt) (ao : Option Addr) (cap : Nat) (w : World) (S : Nat → Prop) (hl : PsAt w S d false l ao) (hS : ∀ b, S b → b < w.heap.size) (hsm : ∀ x ∈ l, ∃ e, SmT e x) (hlen : l.length ≤ 1048576) :
  Cz 49 #[.iface 63 (.agg #[.slice ao l.length cap])] w fun e w' => ∃ ao' cap', e = .returned (.iface 63 (.agg #[.slice ao' l.length cap'])) ∧ Hid (l.length ≤ cap' ∧ (∃ S', PsAt w' S' d false l ao' ∧ ∀ b, S' b → w.heap.size ≤ b ∧ Liv w' b) ∧ Oz w w') := by
 have HC : Hid (∀ w1, Oz w w1 → Cz 77 #[.slice ao l.length cap, .func (.func 49) #[] #[]] w1 fun e w' => ∃ ao' cap', e = .returned (.slice ao' l.length cap') ∧ Hid (l.length ≤ cap' ∧ (∃ S', PsAt w' S' d false l ao' ∧ ∀ b, S' b → w.heap.size ≤ b ∧ Liv w' b) ∧ Oz w w')) := fun w1 o1 => by
  refine (H l ao cap w1 S (hl.only o1 (fun _ _ g => g)) (fun b hb => Nat.lt_of_lt_of_le (hS b hb) o1.size) hsm hlen (ps_nil hl)).mono fun e w' g => ?_
  obtain ⟨ao', cap', he, g⟩ := g
  obtain ⟨g1, ⟨S', g2, g3⟩, g4⟩ := g.out
  exact ⟨ao', cap', he, g1, ⟨S', g2, fun b hb => ⟨Nat.le_trans o1.size (g3 b hb).1, (g3 b hb).2⟩⟩, o1.trans g4 (fun _ _ g => g)⟩
 have hList := va_hit 63 41 _ Tryz.underlying63 (by intro m h; cases h)
 have O : Hid (Oz w w) := Only.refl _ _
 obtain ⟨N, hN⟩ : ∃ N, N = l.length := ⟨_, rfl⟩
 rw [← hN] at HC ⊢
 clear hl hS hsm hlen hN H
 go_enter Tryz.func49, Tryz.ntmps49
 go_wp2_with fail
 refine (show Cz 77 _ _ _ from HC.out _ (by repeat' first | exact O.out | apply Only.alloc)).mono ?_
 rintro e w1 ⟨ao', cap', rfl, G⟩
 clear HC O
 go_wp2
 go_ret
 exact ⟨ao', cap', rfl, G⟩
theorem cp_i (d : Nat) (H : CeC d true 79 78) (l : List Vt) (ao : Option Addr) (cap : Nat) (w : World) (S : Nat → Prop) (hl : PsAt w S d true l ao) (hS : ∀ b, S b → b < w.heap.size) (hsm : ∀ x ∈ l, ∃ e, SmT e x) (hlen : l.length ≤ 1048576) :
  Cz 49 #[.iface 66 (.agg #[.slice ao l.length cap])] w fun e w' => ∃ ao' cap', e = .returned (.iface 66 (.agg #[.slice ao' l.length cap'])) ∧ Hid (l.length ≤ cap' ∧ (∃ S', PsAt w' S' d true l ao' ∧ ∀ b, S' b → w.heap.size ≤ b ∧ Liv w' b) ∧ Oz w w') := by
 have HC : Hid (∀ w1, Oz w w1 → Cz 78 #[.slice ao l.length cap, .func (.func 79) #[] #[]] w1 fun e w' => ∃ ao' cap', e = .returned (.slice ao' l.length cap') ∧ Hid (l.length ≤ cap' ∧ (∃ S', PsAt w' S' d true l ao' ∧ ∀ b, S' b → w.heap.size ≤ b ∧ Liv w' b) ∧ Oz w w')) := fun w1 o1 => by
  refine (H l ao cap w1 S (hl.only o1 (fun _ _ g => g)) (fun b hb => Nat.lt_of_lt_of_le (hS b hb) o1.size) hsm hlen (ps_nil hl)).mono fun e w' g => ?_
  obtain ⟨ao', cap', he, g⟩ := g
  obtain ⟨g1, ⟨S', g2, g3⟩, g4⟩ := g.out
  exact ⟨ao', cap', he, g1, ⟨S', g2, fun b hb => ⟨Nat.le_trans o1.size (g3 b hb).1, (g3 b hb).2⟩⟩, o1.trans g4 (fun _ _ g => g)⟩
 have mList := va_miss 66 63 41 _ Tryz.underlying63 (by intro m h; cases h) (by decide) _ zL
 have hQuot := va_hit 66 41 _ Tryz.underlying66 (by intro m h; cases h)
 have O : Hid (Oz w w) := Only.refl _ _
 obtain ⟨N, hN⟩ : ∃ N, N = l.length := ⟨_, rfl⟩
 rw [← hN] at HC ⊢
 clear hl hS hsm hlen hN H
 go_enter Tryz.func49, Tryz.ntmps49
 go_wp2_with fail
 refine (show Cz 78 _ _ _ from HC.out _ (by repeat' first | exact O.out | apply Only.alloc)).mono ?_
 rintro e w1 ⟨ao', cap', rfl, G⟩
 clear HC O
 go_wp2
 go_ret
 exact ⟨ao', cap', rfl, G⟩
theorem cp_of (d : Nat) (H1 : CpC d false 49) (H2 : CpC d true 79) : CpC (d + 1) false 49 := by
 intro t v w S h hsm hS
 have leaf : ∀ w', TiAt w' (fun _ => False) (d + 1) false t v → Oz w w' → ∃ v', (Ending.returned v) = .returned v' ∧ Hid (NiAt w' w.heap.size (d + 1) false t v' ∧ Oz w w') := fun w' ht o => ⟨v, rfl, ⟨_, ht, fun b hb => hb.elim⟩, o⟩
 rcases h with ⟨h1, h2, rfl⟩ | ⟨h1, h2, rfl⟩ | ⟨h1, h2, rfl⟩ | ⟨h1, h2, rfl⟩ | ⟨h1, h2, rfl⟩ | ⟨h1, ao, cap, rfl, hc, hl⟩
 ·exact (cp_other _ _ (by decide) (by decide) w).mono fun e w' g => by obtain ⟨rfl, o⟩ := g; exact leaf w' (.inl ⟨h1, h2, rfl⟩) o
 ·exact (cp_other _ _ (by decide) (by decide) w).mono fun e w' g => by obtain ⟨rfl, o⟩ := g; exact leaf w' (.inr (.inl ⟨h1, h2, rfl⟩)) o
 ·exact (cp_other _ _ (by decide) (by decide) w).mono fun e w' g => by obtain ⟨rfl, o⟩ := g; exact leaf w' (.inr (.inr (.inl ⟨h1, h2, rfl⟩))) o
 ·exact (cp_other _ _ (by decide) (by decide) w).mono fun e w' g => by obtain ⟨rfl, o⟩ := g; exact leaf w' (.inr (.inr (.inr (.inl ⟨h1, h2, rfl⟩)))) o
 ·exact (cp_nil w).mono fun e w' g => by obtain ⟨rfl, o⟩ := g; exact leaf w' (.inr (.inr (.inr (.inr (.inl ⟨h1, h2, rfl⟩))))) o
 ·obtain ⟨e, hs⟩ := hsm
  have hlen := hs.len
  have hparts := hs.parts
  by_cases h4 : t.k = 4
  ·rw [if_pos h4]
   rw [show decide (t.k = 5) = false by simp [h4]] at hl
   refine (cp_v d (ce_v d H1) t.l ao cap w S hl hS hparts hlen).mono fun e w' g => ?_
   obtain ⟨ao', cap', rfl, g⟩ := g
   obtain ⟨g1, ⟨S', g2, g3⟩, g4⟩ := g.out
   refine ⟨_, rfl, ⟨S', .inr (.inr (.inr (.inr (.inr ⟨h1, ao', cap', by rw [if_pos h4], g1, ?_⟩)))), g3⟩, g4⟩
   rw [show decide (t.k = 5) = false by simp [h4]]
   exact g2
  ·have h5 : t.k = 5 := by rcases h1 with g | g; exact absurd g h4; exact g
   rw [if_neg h4]
   rw [show decide (t.k = 5) = true by simp [h5]] at hl
   refine (cp_i d (ce_i d H2) t.l ao cap w S hl hS hparts hlen).mono fun e w' g => ?_
   obtain ⟨ao', cap', rfl, g⟩ := g
   obtain ⟨g1, ⟨S', g2, g3⟩, g4⟩ := g.out
   refine ⟨_, rfl, ⟨S', .inr (.inr (.inr (.inr (.inr ⟨h1, ao', cap', by rw [if_neg h4], g1, ?_⟩)))), g3⟩, g4⟩
   rw [show decide (t.k = 5) = true by simp [h5]]
   exact g2
theorem ci_call (s : ByteArray) (w : World) : Cz 79 #[.iface 127 (.agg #[.string s])] w fun e w' => e = .returned (.iface 127 (.agg #[.string s])) ∧ Oz w w' := by
 have mP := va_miss 127 109 97 _ Tryz.underlying109 (by intro m h; cases h) (by decide) _ vzero_Push
 have O : Hid (Oz w w) := Only.refl _ _
 go_enter Tryz.func79, Tryz.ntmps79
 go_wp2
 go_ret
 exact ⟨rfl, by repeat' first | exact O.out | apply Only.alloc⟩
theorem ci_nil (w : World) : Cz 79 #[.nilIface] w fun e w' => e = .returned .nilIface ∧ Oz w w' := by
 have mP := uas_nil 109 97 _ Tryz.underlying109 (by intro m h; cases h) _ vzero_Push
 have O : Hid (Oz w w) := Only.refl _ _
 go_enter Tryz.func79, Tryz.ntmps79
 go_wp2
 go_ret
 exact ⟨rfl, by repeat' first | exact O.out | apply Only.alloc⟩
theorem ci_push (u : Value) (Q : Value → World → Prop) (w : World) (hu : u = .nilIface ∨ ∃ T y, u = .iface T y) (HC0 : ∀ w1, Oz w w1 → Cz 49 #[u] w1 fun e w' => ∃ v', e = .returned v' ∧ (v' = .nilIface ∨ ∃ T y, v' = .iface T y) ∧ Hid (Q v' w')) : Cz 79 #[.iface 109 (.agg #[u])] w fun e w' => ∃ v', e = .returned (.iface 109 (.agg #[v'])) ∧ Hid (Q v' w') := by
 have mP := va_hit 109 97 _ Tryz.underlying109 (by intro m h; cases h)
 have HC : Hid _ := HC0
 have O : Hid (Oz w w) := Only.refl _ _
 clear HC0
 rcases hu with rfl | ⟨T, y, rfl⟩
 all_goals
  go_enter Tryz.func79, Tryz.ntmps79
  go_wp2_with fail
  refine (show Cz 49 _ _ _ from HC.out _ (by repeat' first | exact O.out | apply Only.alloc)).mono ?_
  rintro e w1 ⟨v', rfl, hv, G⟩
  clear HC O
  rcases hv with rfl | ⟨T', y', rfl⟩
  all_goals
   go_wp2
   go_ret
   exact ⟨_, rfl, G⟩
theorem ci_of (d : Nat) (H : CpC d false 49) : CpC (d + 1) true 79 := by
 intro t v w S h hsm hS
 rcases h with ⟨h1, h2, rfl⟩ | ⟨h1, h2, rfl⟩ | ⟨h1, h2, u, rfl, hu⟩
 ·exact (ci_call _ w).mono fun e w' g => by obtain ⟨rfl, o⟩ := g; exact ⟨_, rfl, ⟨fun _ => False, .inl ⟨h1, h2, rfl⟩, fun b hb => hb.elim⟩, o⟩
 ·exact (ci_nil w).mono fun e w' g => by obtain ⟨rfl, o⟩ := g; exact ⟨_, rfl, ⟨fun _ => False, .inr (.inl ⟨h1, h2, rfl⟩), fun b hb => hb.elim⟩, o⟩
 ·refine (ci_push u (fun v' w' => NiAt w' w.heap.size d false t v' ∧ Oz w w') w hu.shape2 (fun w1 o1 => ?_)).mono fun e w' g => ?_
  ·refine (H t u w1 S (hu.only o1 (fun _ _ g => g)) hsm (fun b hb => Nat.lt_of_lt_of_le (hS b hb) o1.size)).mono fun e w' g => ?_
   obtain ⟨v', he, g⟩ := g
   exact ⟨v', he, (by obtain ⟨_, t, _⟩ := g.out.1; exact t.shape2), g.out.1.lower o1.size, o1.trans g.out.2 (fun _ _ g => g)⟩
  ·obtain ⟨v', rfl, g⟩ := g
   obtain ⟨⟨S', g1, g2⟩, g3⟩ := g.out
   exact ⟨_, rfl, ⟨S', .inr (.inr ⟨h1, h2, v', rfl, g1⟩), g2⟩, g3⟩
theorem cp_all : ∀ (D d : Nat), d < D → CpC d false 49 ∧ CpC d true 79
 | 0, d, h => by omega
 | D + 1, d, h => by
   cases d with
   | zero => exact ⟨fun t v w0 S h => h.elim, fun t v w0 S h => h.elim⟩
   | succ d =>
     have ih := cp_all D d (by omega)
     exact ⟨cp_of d ih.1 ih.2, ci_of d ih.1⟩
def CoP (Z : Bool) (d : Nat) (t : Vt) (w : World) (e : Ending) (w' : World) : Prop := ∃ v', e = .returned (.tuple #[v', .int .i64 (if Z then 0 else 1)]) ∧ (Z = true → NiAt w' w.heap.size d false t v') ∧ (Z = false → v' = .nilIface) ∧ Oz w w'
theorem vcopy_any {d : Nat} {t : Vt} {v : Value} {w : World} {S : Nat → Prop} (h : TiAt w S d false t v) (hS : ∀ b, S b → b < w.heap.size) (hsm : ∃ e, SmT e t) (hT : Tb w) : Cz 27 #[v] w fun e w' => CoP (sdB d t) d t w e w' := by
 have HC : Hid _ := vcheck_any h hS hsm hT
 have HK : Hid (∀ w1, Oz w w1 → Cz 49 #[v] w1 fun e w' => ∃ v', e = .returned v' ∧ Hid (NiAt w' w.heap.size d false t v' ∧ Oz w w')) := fun w1 o1 => by
  refine ((cp_all (d + 1) d (by omega)).1 t v w1 S (h.only o1 (fun _ _ g => g)) hsm (fun b hb => Nat.lt_of_lt_of_le (hS b hb) o1.size)).mono fun e w' g => ?_
  obtain ⟨v', he, g⟩ := g
  exact ⟨v', he, g.out.1.lower o1.size, o1.trans g.out.2 (fun _ _ g => g)⟩
 cases hZ : sdB d t with
 | false =>
   rw [hZ] at HC
   have HP : Hid (∀ w', Oz w w' → CoP false d t w (.returned (.tuple #[.nilIface, .int .i64 1])) w') := fun w' o => ⟨_, rfl, fun g => (by cases g), fun _ => rfl, o⟩
   clear h hS hsm hT hZ HK
   go_enter Tryz.func27, Tryz.ntmps27
   go_wp2_with fail
   refine (show Cz 48 _ _ _ from HC.out).mono ?_
   rintro e w1 ⟨rfl, o1⟩
   have O1 : Hid (Oz w w1) := o1
   clear HC o1
   go_wp2
   go_ret2
   exact HP.out _ O1.out
 | true =>
   rw [hZ] at HC
   have HP : Hid (∀ v' w', NiAt w' w.heap.size d false t v' → Oz w w' → CoP true d t w (.returned (.tuple #[v', .int .i64 0])) w') := fun v' w' hn o => ⟨_, rfl, fun _ => hn, fun g => (by cases g), o⟩
   clear h hS hsm hT hZ
   go_enter Tryz.func27, Tryz.ntmps27
   go_wp2_with fail
   refine (show Cz 48 _ _ _ from HC.out).mono ?_
   rintro e w1 ⟨rfl, o1⟩
   have O1 : Hid (Oz w w1) := o1
   clear HC o1
   go_wp2_with fail
   refine (show Cz 49 _ _ _ from HK.out _ O1.out).mono ?_
   rintro e w2 ⟨v', rfl, G2⟩
   clear HK O1
   go_wp2
   go_ret2
   exact HP.out _ _ G2.out.1 G2.out.2
def SkAt (w : World) (B d : Nat) (l : List Vt) (G : Nat) : Prop := ∃ (us : List Value) (S : Nat → Prop), us.length = l.length ∧ w.heap[G]? = some (.cells us.toArray 41) ∧ B ≤ G ∧ (∀ b, S b → B ≤ b ∧ Liv w b ∧ b ≠ G) ∧ ∀ (j : Nat) (x : Vt), l[j]? = some x → ∃ u, us[j]? = some u ∧ TiAt w S d false x u
theorem SkAt.only {w w' : World} {B d G : Nat} {l : List Vt} {bs : Nat → Prop} (h : SkAt w B d l G) (o : Only bs w w') (hb : ∀ b, B ≤ b → ¬ bs b) : SkAt w' B d l G := by
 obtain ⟨us, S, h1, h2, h3, h4, h5⟩ := h
 refine ⟨us, S, h1, (o.block G (Array.getElem?_eq_some_iff.1 h2).1 (hb G h3)).trans h2, h3, fun b g => ?_, fun j x hx => ?_⟩
 ·obtain ⟨a1, a2, a3⟩ := h4 b g
  exact ⟨a1, a2.only o (hb b a1), a3⟩
 ·obtain ⟨u, p1, p2⟩ := h5 j x hx
  exact ⟨u, p1, p2.only o (fun b g => hb b (h4 b g).1)⟩
theorem SkAt.lower {w : World} {B C d G : Nat} {l : List Vt} (h : SkAt w B d l G) (hC : C ≤ B) : SkAt w C d l G := by
 obtain ⟨us, S, h1, h2, h3, h4, h5⟩ := h
 exact ⟨us, S, h1, h2, Nat.le_trans hC h3, fun b g => ⟨Nat.le_trans hC (h4 b g).1, (h4 b g).2⟩, h5⟩
theorem SkAt.lt {w : World} {B d G : Nat} {l : List Vt} (h : SkAt w B d l G) : G < w.heap.size := by
 obtain ⟨us, S, h1, h2, _⟩ := h
 exact (Array.getElem?_eq_some_iff.1 h2).1
theorem SkAt.ps {w : World} {B d G : Nat} {l : List Vt} (h : SkAt w B d l G) (k : Nat) : ∃ S, PsAt w S d false (l.drop k) (some ⟨G, k, none⟩) ∧ ∀ b, S b → B ≤ b ∧ b < w.heap.size := by
 have hlt := h.lt
 obtain ⟨us, S, h1, h2, h3, h4, h5⟩ := h
 refine ⟨fun b => S b ∨ b = G, fun j x hx => ?_, fun b hb => ?_⟩
 ·rw [List.getElem?_drop] at hx
  obtain ⟨u, p1, p2⟩ := h5 _ x hx
  refine ⟨G, k, u, rfl, .inr rfl, ?_, p2.step (fun _ g => .inl g) (fun _ _ _ g => g) (Nat.le_refl _)⟩
  rw [cell_of_row _ _ _ _ _ _ h2]
  simpa using p1
 ·rcases hb with g | rfl
  ·exact ⟨(h4 b g).1, (h4 b g).2.1.1⟩
  ·exact ⟨h3, hlt⟩
def CkI (w wr : World) (d : Nat) (l : List Vt) (G j : Nat) : Prop :=
 ∃ (vs : List Value) (S' : Nat → Prop), vs.length = l.length ∧ wr.heap[G]? = some (.cells vs.toArray 41) ∧ Oz w wr ∧ w.heap.size ≤ G ∧
   (∀ b, S' b → w.heap.size ≤ b ∧ Liv wr b ∧ b ≠ G) ∧ ∀ (k : Nat) (x : Vt), l[k]? = some x → k < j → ∃ u, vs[k]? = some u ∧ TiAt wr S' d false x u
theorem CkI.step {w wr w2 : World} {d : Nat} {l : List Vt} {G j : Nat} {x : Vt} {v' : Value} (h : CkI w wr d l G j) (hx : l[j]? = some x) (hn : NiAt w2 wr.heap.size d false x v') (o : Oz wr w2) : CkI w (w2.setCell ⟨G, j, none⟩ v') d l G (j + 1) := by
 obtain ⟨vs, S', h1, h2, h3, h4, h5, h7⟩ := h
 obtain ⟨S2, t2, s2⟩ := hn
 have hGlt : G < wr.heap.size := (Array.getElem?_eq_some_iff.1 h2).1
 have hw2 : w2.heap[G]? = some (.cells vs.toArray 41) := (o.block G hGlt (fun g => g)).trans h2
 have hjl : j < l.length := (List.getElem?_eq_some_iff.1 hx).1
 have oo : Only (fun b => b = G) w2 (w2.setCell ⟨G, j, none⟩ v') := (Only.refl _ _).setCell ⟨G, j, none⟩ v' (fun _ => rfl)
 have hsz : (w2.setCell ⟨G, j, none⟩ v').heap.size = w2.heap.size := by simp
 refine ⟨vs.set j v', fun b => S' b ∨ S2 b, by simpa using h1, ?_, (h3.trans o (fun _ _ g => g)).trans oo (fun b hb e => by omega), h4, fun b hb => ?_, fun k y hy hk => ?_⟩
 ·rw [heap_setCell_same w2 G j vs.toArray 41 v' hw2]
  simp
 ·rcases hb with g | g
  ·obtain ⟨a1, a2, a3⟩ := h5 b g
   exact ⟨a1, (a2.only o (fun g => g)).only oo a3, a3⟩
  ·obtain ⟨a1, a2⟩ := s2 b g
   have a3 : b ≠ G := by omega
   exact ⟨Nat.le_trans h3.size a1, a2.only oo a3, a3⟩
 ·by_cases hk2 : k = j
  ·subst hk2
   rw [hx] at hy
   injection hy with hy
   subst hy
   refine ⟨v', by rw [List.getElem?_set_self (by omega)], ?_⟩
   exact (t2.only oo (fun b g e => by have := (s2 b g).1; omega)).step (fun _ g => .inr g) (fun _ _ _ g => g) (Nat.le_refl _)
  ·obtain ⟨u, p1, p2⟩ := h7 k y hy (by omega)
   refine ⟨u, by rw [List.getElem?_set_ne (fun e => hk2 e.symm)]; exact p1, ?_⟩
   exact ((p2.only o (fun _ _ g => g)).only oo (fun b g => (h5 b g).2.2)).step (fun _ g => .inl g) (fun _ _ _ g => g) (Nat.le_refl _)
def CsP (Z : Bool) (d : Nat) (l : List Vt) (w : World) (e : Ending) (w' : World) : Prop := ∃ v, e = .returned (.tuple #[v, .bool Z]) ∧ (Z = true → ∃ G, v = .slice (some ⟨G, 0, none⟩) l.length l.length ∧ SkAt w' w.heap.size d l G) ∧ (Z = false → v = .slice none 0 0) ∧ Oz w w'
theorem mk_full {sT eT : TypeId} (hT : Tryz.prog.underlying sT = some (.slice eT)) (hI : (Tryz.prog.info? eT).map (fun i => (i.zero, i.size, i.bytes)) = some (some .nilIface, 1, 16)) (n : Nat) (hn : n ≤ 1048576) : ∃ M : Array Value, M.size = n ∧ ∀ w : World, (Instr.makeSlice sT (.int .i64 n) (.int .i64 n)).run Tryz.prog w = .ok (.slice (some ⟨w.heap.size, 0, none⟩) n n) (w.alloc (.cells M eT)) := by
 obtain ⟨i0, hi0, hz0, hz1, hz2⟩ := vinfo_parts hI
 refine ⟨madeCells (Value.nilIface).cells n, size_madeCells _ _, fun w => ?_⟩
 have := run_make (P := Tryz.prog) w sT eT i0 _ hT hi0 hz0 .i64 .i64 (n : Int) (n : Int) (by omega) (by omega) (by rw [hz2]; omega) (by omega)
 rw [hz1, show ((n : Int)).toNat = n by omega, Nat.mul_one] at this
 exact this
theorem copies_any {d : Nat} {l : List Vt} {ao : Option Addr} {cap : Nat} {w : World} {S : Nat → Prop} (hl : PsAt w S d false l ao) (hS : ∀ b, S b → b < w.heap.size) (hsm : ∀ x ∈ l, ∃ e, SmT e x) (hlen : l.length ≤ 1048576) (hT : Tb w) :
  Cz 13 #[.slice ao l.length cap] w fun e w' => CsP (l.all (sdB d)) d l w e w' := by
 obtain ⟨N, hN⟩ : ∃ N, N = l.length := ⟨_, rfl⟩
 obtain ⟨Z, hZ⟩ : ∃ Z, Z = l.all (sdB d) := ⟨_, rfl⟩
 obtain ⟨M, hM, hmk0⟩ := mk_full Tryz.underlying25 vinfoV N (by omega)
 have hmk := hmk0 w
 obtain ⟨W, hW⟩ : ∃ W, W = w.alloc (.cells M 41) := ⟨_, rfl⟩
 obtain ⟨G, hG⟩ : ∃ G, G = w.heap.size := ⟨_, rfl⟩
 have HI0 : Hid (CkI w W d l G 0 ∧ ∀ (k : Nat) (x : Vt), l[k]? = some x → k < 0 → sdB d x = true) := by
  refine ⟨⟨M.toList, fun _ => False, by rw [Array.length_toList, hM, hN], ?_, by rw [hW]; exact (Only.refl _ w).alloc _, by omega, fun b hb => hb.elim, fun k x _ g => by omega⟩, fun k x _ g => by omega⟩
  rw [hW, hG]
  simpa using heap_alloc_new w (.cells M 41)
 rw [← hW, ← hG] at hmk
 have HN : Hid (N = l.length ∧ N ≤ 1048576) := ⟨hN, by omega⟩
 have HT : Hid (PsAt w S d false l ao ∧ (∀ b, S b → b < w.heap.size) ∧ (∀ x ∈ l, ∃ e, SmT e x) ∧ Tb w) := ⟨hl, hS, hsm, hT⟩
 have HPF : Hid (∀ w', (∃ x ∈ l, sdB d x = false) → Oz w w' → CsP Z d l w (.returned (.tuple #[.slice none 0 0, .bool false])) w') := fun w' ⟨x, hx, h1⟩ h3 => by
  have e : Z = false := by rw [hZ, List.all_eq_false]; exact ⟨x, hx, by simp [h1]⟩
  rw [e]
  exact ⟨_, rfl, (fun h => by cases h), fun _ => rfl, h3⟩
 have HPT : Hid (∀ w', (∀ (k : Nat) (x : Vt), l[k]? = some x → sdB d x = true) → CkI w w' d l G N → CsP Z d l w (.returned (.tuple #[.slice (some ⟨G, 0, none⟩) N N, .bool true])) w') := fun w' h1 h3 => by
  have e : Z = true := by
   rw [hZ, List.all_eq_true]
   intro x hx
   obtain ⟨k, hk⟩ := List.getElem?_of_mem hx
   exact h1 k x hk
  rw [e]
  obtain ⟨vs, S', q1, q2, q3, q4, q5, q7⟩ := h3
  exact ⟨_, rfl, fun _ => ⟨G, by rw [hN], vs, S', q1, q2, q4, q5, fun j x hx => q7 j x hx (by rw [hN]; exact (List.getElem?_eq_some_iff.1 hx).1)⟩, (fun h => by cases h), q3⟩
 rw [← hN, ← hZ]
 clear hl hS hsm hlen hT hN hZ hM hmk0 hW hG
 go_enter Tryz.func13, Tryz.ntmps13
 go_wp2
 go_loopw [14] (fun r wr => ∃ j : Nat, r = .int .i64 (j : Int) ∧ j ≤ N ∧ Hid (CkI w wr d l G j ∧ ∀ (k : Nat) (x : Vt), l[k]? = some x → k < j → sdB d x = true)) (fun r _ => N - vuOf r)
 case atStart => exact ⟨0, rfl, Nat.zero_le _, HI0.out⟩
 case round =>
  obtain ⟨j, rfl, hj, HI⟩ := hrel
  obtain ⟨w2, hw2⟩ : ∃ w2, w2 = wr := ⟨_, rfl⟩
  rw [← hw2] at HI ⊢
  clear hw2 HI0 hmk
  have hNl := HN.out.1
  by_cases hjN : j < N
  ·obtain ⟨x, hx⟩ : ∃ x, l[j]? = some x := ⟨l[j]'(by omega), List.getElem?_eq_getElem (by omega)⟩
   obtain ⟨g, q, u, ha, hSg, hcw, ht⟩ := HT.out.1 j x hx
   obtain ⟨vs, S', q1, q2, q3, q4, q5, q7⟩ := HI.out.1
   have hcell : w2.cell? ⟨g, q + j, none⟩ = some u := q3.cell hcw (fun g => g)
   have HC : Hid _ := vcopy_any (ht.only q3 (fun _ _ g => g)) (fun b g => Nat.lt_of_lt_of_le (HT.out.2.1 b g) q3.size) (HT.out.2.2.1 x (List.mem_of_getElem? hx)) (HT.out.2.2.2.frame q3)
   have O2 : Hid (Oz w w2) := q3
   have HX : Hid (j < N ∧ l[j]? = some x) := ⟨hjN, hx⟩
   have i1 : (j : Int) < (N : Int) := by omega
   have i0 : (0 : Int) ≤ (j : Int) := by omega
   have i4 : j ≤ 1048576 := by have := HN.out.2; omega
   subst ha
   clear q1 q2 q3 q4 q5 q7 hx hNl hjN hj hSg hcw ht
   cases hs : sdB d x with
   | false =>
     rw [hs] at HC
     have HB : Hid (∃ x ∈ l, sdB d x = false) := ⟨x, List.mem_of_getElem? HX.out.2, hs⟩
     clear hs
     go_wp2_with fail
     refine (show Cz 27 _ _ _ from HC.out).mono ?_
     rintro e w3 ⟨v', rfl, _, hv, o3⟩
     obtain rfl := hv rfl
     have O3 : Hid (Oz w w3) := O2.out.trans o3 (fun _ _ g => g)
     clear HC o3 hv
     go_wp2
     go_ret2
     exact HPF.out _ HB.out O3.out
   | true =>
     rw [hs] at HC
     have HB : Hid (sdB d x = true) := hs
     clear hs
     go_wp2_with fail
     refine (show Cz 27 _ _ _ from HC.out).mono ?_
     rintro e w3 ⟨v', rfl, hv, _, o3⟩
     have hn := hv rfl
     have HI2 : Hid (CkI w (w3.setCell ⟨G, j, none⟩ v') d l G (j + 1) ∧ ∀ (k : Nat) (y : Vt), l[k]? = some y → k < j + 1 → sdB d y = true) := by
      refine ⟨HI.out.1.step HX.out.2 hn o3, fun k y hy hk => ?_⟩
      by_cases e : k = j
      ·subst e
       have := HX.out.2
       rw [hy] at this
       injection this with this
       subst this
       exact HB.out
      ·exact HI.out.2 k y hy (by omega)
     obtain ⟨z, hc3⟩ : ∃ z, w3.cell? ⟨G, j, none⟩ = some z := by
      obtain ⟨vs, S', q1, q2, _⟩ := HI.out.1
      refine ⟨vs[j]'(by rw [q1, ← HN.out.1]; exact HX.out.1), ?_⟩
      rw [cell_of_row _ _ _ _ _ _ ((o3.block G (Array.getElem?_eq_some_iff.1 q2).1 (fun g => g)).trans q2)]
      simp
     have hf3 : w3.frozen? ⟨G, j, none⟩ = false := by
      obtain ⟨vs, S', q1, q2, _⟩ := HI.out.1
      exact frozen_of_row _ _ _ _ _ ((o3.block G (Array.getElem?_eq_some_iff.1 q2).1 (fun g => g)).trans q2)
     have HJ : Hid (j < N) := HX.out.1
     have hform : v' = .nilIface ∨ ∃ T y, v' = .iface T y := by obtain ⟨_, t, _⟩ := hn; exact t.shape2
     clear HC HX HI hn hv o3 hcell O2 HB
     rcases hform with rfl | ⟨T, y, rfl⟩
     all_goals
      go_wp2
      go_roundw
      case rel => exact ⟨j + 1, by go_num, by have := HJ.out; omega, HI2⟩
      case measure => simp only [vuOf]; have := HJ.out; omega
  ·obtain rfl : j = N := by omega
   have i1 : ¬ (j : Int) < (j : Int) := by omega
   have HE : Hid (∀ (k : Nat) (x : Vt), l[k]? = some x → sdB d x = true) := fun k x hx => HI.out.2 k x hx (by rw [HN.out.1]; exact (List.getElem?_eq_some_iff.1 hx).1)
   clear hNl hjN hj
   go_wp2
   go_ret2
   exact HPT.out _ HE.out HI.out.1
end Go.Proofs.YtenjollhlgjjdaaGreatDoor
