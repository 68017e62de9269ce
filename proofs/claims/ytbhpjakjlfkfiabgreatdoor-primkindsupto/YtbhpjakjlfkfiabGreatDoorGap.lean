/- The document's SameAll: the loop. Two values in their normal form are equal just if they are the same tree. What trees that came in become as values. Trees of values, and depths. Primitives one after the other, and values held against trees. What words that move values, pair and unpair make of sound values. law12.awake; rows of trees. -/
import Derived.Test.YtbhpjakjlfkfiabGreatDoorGam
import Derived.Deep.RegionHeld3
import Derived.Test.YtbhpjakjlfkfiabGreatDoorGah
import Derived.Test.YtbhpjakjlfkfiabGreatDoorGaa
import Derived.Test.YtbhpjakjlfkfiabGreatDoorGai
import Derived.Test.YtbhpjakjlfkfiabGreatDoorGao
import Derived.Test.YtbhpjakjlfkfiabGreatDoorGan
namespace Go.Proofs.YtbhpjakjlfkfiabGreatDoor
open Go.RowKit Go.Lib
set_option linter.unusedSimpArgs false
set_option linter.unusedVariables false
set_option maxRecDepth 100000 in
set_option maxHeartbeats 4000000 in
theorem sameall_ne (a1 a2 : Option Addr) (La Lb c1 c2 : Nat) (w : World) (h : ¬ (La : Int) = (Lb : Int)) : Calls Tryz.prog 9 #[.slice a1 La c1, .slice a2 Lb c2] w fun e w' => e = .returned (.bool false) ∧ Only (fun _ => False) w w' := by
  have O0 : Hid (Only (fun _ => False) w w) := Only.refl _ _
  go_enter Tryz.func9, Tryz.ntmps9
  go_wp2
  go_ret
  exact ⟨rfl, O0.out⟩
set_option maxRecDepth 100000 in
set_option maxHeartbeats 40000000 in
theorem dsameall_of (d : Nat) (H : DmC d) : DaC (d + 1) := by
  intro la lb va vb w S S' h1 h2 hla hlb gla glb
  obtain ⟨aa, ca, rfl, hca, ha⟩ := h1
  obtain ⟨ab, cb, rfl, hcb, hb⟩ := h2
  by_cases hlen : la.length = lb.length
  · have HE : Hid (∀ (j : Nat) (x y : Vt), la[j]? = some x → lb[j]? = some y → ∃ g k lx g' k' lx', aa = some ⟨g, k, none⟩ ∧ ab = some ⟨g', k', none⟩ ∧ (w.cell? ⟨g, k + j * 4, none⟩ = some (.int .i64 x.k) ∧ w.cell? ⟨g, k + j * 4 + 1, none⟩ = some (.int .i64 x.n) ∧ w.cell? ⟨g, k + j * 4 + 2, none⟩ = some (.string x.s) ∧ w.cell? ⟨g, k + j * 4 + 3, none⟩ = some lx) ∧ (w.cell? ⟨g', k' + j * 4, none⟩ = some (.int .i64 y.k) ∧ w.cell? ⟨g', k' + j * 4 + 1, none⟩ = some (.int .i64 y.n) ∧ w.cell? ⟨g', k' + j * 4 + 2, none⟩ = some (.string y.s) ∧ w.cell? ⟨g', k' + j * 4 + 3, none⟩ = some lx') ∧ ∀ w1, Only (fun _ => False) w w1 → Calls Tryz.prog 20 #[.agg #[.int .i64 x.k, .int .i64 x.n, .string x.s, lx], .agg #[.int .i64 y.k, .int .i64 y.n, .string y.s, lx']] w1 fun e w' => e = .returned (.bool (saV d x y)) ∧ Only (fun _ => False) w1 w') := by
      intro j x y hx hy
      obtain ⟨g, k, lx, p1, p2, p3, p4⟩ := ha j x hx
      obtain ⟨g', k', lx', q1, q2, q3, q4⟩ := hb j y hy
      exact ⟨g, k, lx, g', k', lx', p1, q1, p3, q3, fun w1 o1 => H x y lx lx' w1 S S' (p4.only o1) (q4.only o1) (gla x (List.mem_of_getElem? hx)) (glb y (List.mem_of_getElem? hy))⟩
    have HLB : Hid (la.length ≤ 1048576 ∧ la.length = lb.length) := ⟨hla, hlen⟩
    clear ha hb H hca hcb gla glb hla hlb
    rw [← hlen]
    obtain ⟨N, hN⟩ : ∃ N, N = la.length := ⟨_, rfl⟩
    have HNN : Hid (N = la.length) := hN
    rw [← hN]
    show Calls Tryz.prog 9 #[.slice aa N ca, .slice ab N cb] w fun e w' => e = .returned (.bool (smL (saV d) la lb)) ∧ Only (fun _ => False) w w'
    obtain ⟨R, hR⟩ : ∃ R, R = smL (saV d) la lb := ⟨_, rfl⟩
    rw [← hR]
    have HR : Hid (R = smL (saV d) (la.drop 0) (lb.drop 0)) := hR
    clear hN hlen hR
    go_enter Tryz.func9, Tryz.ntmps9
    go_wp2
    go_loopw [5] (fun r5 wr => ∃ i : Nat, r5 = .int .i64 (i : Int) ∧ i ≤ N ∧ Hid (R = smL (saV d) (la.drop i) (lb.drop i)) ∧ Hid (Only (fun _ => False) w wr)) (fun r5 _ => N - uOf r5)
    case atStart => exact ⟨0, rfl, Nat.zero_le _, HR, Only.refl _ _⟩
    case round =>
      clear HR
      obtain ⟨i, rfl, hi, HR, HI⟩ := hrel
      obtain ⟨w1, rfl⟩ : ∃ w1, w1 = wr := ⟨_, rfl⟩
      have hNl : N = la.length := HNN.out
      have hN4 : la.length ≤ 1048576 ∧ la.length = lb.length := HLB.out
      by_cases hiN : i < N
      · obtain ⟨x, hx⟩ : ∃ x, la[i]? = some x := ⟨la[i]'(by omega), List.getElem?_eq_getElem (by omega)⟩
        obtain ⟨y, hy⟩ : ∃ y, lb[i]? = some y := ⟨lb[i]'(by omega), List.getElem?_eq_getElem (by omega)⟩
        obtain ⟨g, k, lx, g', k', lx', rfl, rfl, ⟨h0, h1, h2, h3⟩, ⟨h4, h5, h6, h7⟩, hcall⟩ := HE.out i x y hx hy
        have o1 := HI.out
        have HS : Hid (∀ w', Only (fun _ => False) w1 w' → (w'.cell? ⟨g, k + i * 4, none⟩ = some (.int .i64 x.k) ∧ w'.cell? ⟨g, k + i * 4 + 1, none⟩ = some (.int .i64 x.n) ∧ w'.cell? ⟨g, k + i * 4 + 2, none⟩ = some (.string x.s) ∧ w'.cell? ⟨g, k + i * 4 + 3, none⟩ = some lx) ∧ (w'.cell? ⟨g', k' + i * 4, none⟩ = some (.int .i64 y.k) ∧ w'.cell? ⟨g', k' + i * 4 + 1, none⟩ = some (.int .i64 y.n) ∧ w'.cell? ⟨g', k' + i * 4 + 2, none⟩ = some (.string y.s) ∧ w'.cell? ⟨g', k' + i * 4 + 3, none⟩ = some lx')) := fun w' o => by
          have oo := o1.trans o (fun _ _ g => g)
          exact ⟨⟨oo.cell h0 (fun g => g), oo.cell h1 (fun g => g), oo.cell h2 (fun g => g), oo.cell h3 (fun g => g)⟩, ⟨oo.cell h4 (fun g => g), oo.cell h5 (fun g => g), oo.cell h6 (fun g => g), oo.cell h7 (fun g => g)⟩⟩
        obtain ⟨Z, hZ⟩ : ∃ Z, Z = saV d x y := ⟨_, rfl⟩
        rw [← hZ] at hcall
        have HR2 : Hid (R = (Z && smL (saV d) (la.drop (i + 1)) (lb.drop (i + 1)))) := by
          have := HR.out
          rw [drop_at hx, drop_at hy] at this
          rw [hZ]
          exact this
        have HCC : Hid (∀ w1, Only (fun _ => False) w w1 → Calls Tryz.prog 20 #[.agg #[.int .i64 x.k, .int .i64 x.n, .string x.s, lx], .agg #[.int .i64 y.k, .int .i64 y.n, .string y.s, lx']] w1 fun e w' => e = .returned (.bool Z) ∧ Only (fun _ => False) w1 w') := hcall
        obtain ⟨⟨c0, c1, c2, c3⟩, ⟨c4, c5, c6, c7⟩⟩ := HS.out w1 (Only.refl _ _)
        have HB : Hid (i < N ∧ N ≤ 1048576) := ⟨hiN, by omega⟩
        have i1 : (i : Int) < (N : Int) := by omega
        have i0 : (0 : Int) ≤ (i : Int) := by omega
        have hi4 : i ≤ 1048576 := by omega
        obtain ⟨x0, hx0⟩ : ∃ x0, x0 = x.k := ⟨_, rfl⟩
        obtain ⟨x1, hx1⟩ : ∃ x1, x1 = x.n := ⟨_, rfl⟩
        obtain ⟨x2, hx2⟩ : ∃ x2, x2 = x.s := ⟨_, rfl⟩
        obtain ⟨y0, hy0⟩ : ∃ y0, y0 = y.k := ⟨_, rfl⟩
        obtain ⟨y1, hy1⟩ : ∃ y1, y1 = y.n := ⟨_, rfl⟩
        obtain ⟨y2, hy2⟩ : ∃ y2, y2 = y.s := ⟨_, rfl⟩
        rw [← hx0, ← hx1, ← hx2, ← hy0, ← hy1, ← hy2] at HCC HS
        rw [← hx0] at c0
        rw [← hx1] at c1
        rw [← hx2] at c2
        rw [← hy0] at c4
        rw [← hy1] at c5
        rw [← hy2] at c6
        clear hx0 hx1 hx2 hy0 hy1 hy2 HE h0 h1 h2 h3 h4 h5 h6 h7 hcall o1 hx hy hZ hNl hN4 hi hiN HR
        go_wp2_with fail
        have OR : Hid (Only (fun _ => False) w1 w1) := Only.refl _ _
        go_region_held3 (fun w' => (w'.cell? ⟨g, k + i * 4, none⟩ = some (.int .i64 x0) ∧ w'.cell? ⟨g, k + i * 4 + 1, none⟩ = some (.int .i64 x1) ∧ w'.cell? ⟨g, k + i * 4 + 2, none⟩ = some (.string x2) ∧ w'.cell? ⟨g, k + i * 4 + 3, none⟩ = some lx) ∧ (w'.cell? ⟨g', k' + i * 4, none⟩ = some (.int .i64 y0) ∧ w'.cell? ⟨g', k' + i * 4 + 1, none⟩ = some (.int .i64 y1) ∧ w'.cell? ⟨g', k' + i * 4 + 2, none⟩ = some (.string y2) ∧ w'.cell? ⟨g', k' + i * 4 + 3, none⟩ = some lx'))
          (first
            | with_reducible exact HS.out _ OR.out.drew
            | with_reducible exact HS.out _ O2.out)
          (first | (go_at_call 20; refine (show Calls Tryz.prog 20 _ _ _ from HCC.out _ HI.out.drew).mono ?_; rintro ex w2 ⟨rfl, o2⟩; have O2 : Hid (Only (fun _ => False) w1 w2) := OR.out.drew.trans o2 (fun _ _ g => g)))
        have HK : Hid (Only (fun _ => False) w w2) := HI.out.trans O2.out (fun _ _ g => g)
        clear HI O2 OR HS HCC c0 c1 c2 c3 c4 c5 c6 c7 o2
        cases Z with
        | false =>
          go_wp2
          go_ret
          exact ⟨by rw [HR2.out]; rfl, HK.out⟩
        | true =>
          go_wp2
          go_roundw
          case rel => exact ⟨i + 1, by go_num, by have := HB.out; omega, HR2.out.trans (Bool.true_and _), HK⟩
          case measure => simp only [uOf]; have := HB.out; omega
      · obtain rfl : i = N := by omega
        have i1 : ¬ (i : Int) < (i : Int) := by omega
        have HR2 : Hid (R = true) := by
          have := HR.out
          rw [List.drop_eq_nil_of_le (show la.length ≤ i by omega), List.drop_eq_nil_of_le (show lb.length ≤ i by omega)] at this
          exact this
        clear HE hNl hN4 hi hiN HR
        go_wp2
        go_ret
        exact ⟨by rw [HR2.out]; rfl, HI.out⟩
  · show Calls Tryz.prog 9 _ w fun e w' => e = .returned (.bool (smL (saV d) la lb)) ∧ Only (fun _ => False) w w'
    rw [smL_len _ _ _ hlen]
    exact sameall_ne _ _ _ _ _ _ w (by omega)
theorem dsame_all : ∀ (d : Nat), DaC d ∧ DmC d
  | 0 => ⟨fun la lb va vb w S S' h => h.elim, fun a b va vb w S S' h => h.elim⟩
  | d + 1 => ⟨dsameall_of d (dsame_all d).2, dsame_of d (dsameall_of d (dsame_all d).2)⟩
end Go.Proofs.YtbhpjakjlfkfiabGreatDoor
namespace Go.Proofs.YtbhpjakjlfkfiabGreatDoor
open Go.RowKit Go.Lib
set_option linter.unusedSimpArgs false
set_option linter.unusedVariables false
theorem vt_ext {a b : Vt} (h1 : a.k = b.k) (h2 : a.n = b.n) (h3 : a.s = b.s) (h4 : a.l = b.l) : a = b := by
  cases a; cases b
  simp only at h1 h2 h3 h4
  subst h1 h2 h3 h4
  rfl
theorem bytes_same {a b : ByteArray} : (a.toList == b.toList) = true ↔ a = b := by
  constructor
  · intro h
    have h := beq_iff_eq.1 h
    rw [ByteArray.toList_eq, ByteArray.toList_eq] at h
    exact ByteArray.ext (Array.toList_inj.1 h)
  · intro h; rw [h]; simp
theorem smL_eq (f : Vt → Vt → Bool) : ∀ (a b : List Vt), (∀ x ∈ a, ∀ y ∈ b, (f x y = true ↔ x = y)) → (smL f a b = true ↔ a = b)
  | [], [], _ => by simp [smL]
  | [], y :: b, _ => by simp [smL]
  | x :: a, [], _ => by simp [smL]
  | x :: a, y :: b, h => by
    have h1 := h x (.head _) y (.head _)
    have h2 := smL_eq f a b (fun x' hx y' hy => h x' (.tail _ hx) y' (.tail _ hy))
    rw [show smL f (x :: a) (y :: b) = (f x y && smL f a b) from rfl, Bool.and_eq_true, h1, h2]
    simp
theorem ok_kind {d : Nat} {t : Vt} (h : okV (d + 1) false t = true) : t.k = 1 ∨ t.k = 2 ∨ t.k = 3 ∨ t.k = 4 ∨ t.k = 5 ∨ t.k = 6 := by
  by_cases hk : t.k = 4 ∨ t.k = 5
  · omega
  · rw [show okV (d + 1) false t = alB t from if_neg hk] at h
    unfold alB at h
    split at h
    · omega
    split at h
    · omega
    split at h
    · omega
    · have := of_decide_eq_true h
      omega
theorem sm_eq : ∀ (D : Nat) (i : Bool) (a b : Vt) (e : Nat), okV D i a = true → okV D i b = true → NfT e a → NfT e b → LfT e a → LfT e b → (smV D i a b = true ↔ a = b)
  | 0, _, _, _, _, h, _, _, _, _, _ => by cases h
  | D + 1, true, a, b, e, h1, h2, n1, n2, l1, l2 => by
    cases e with
    | zero => exact n1.elim
    | succ e =>
      by_cases h7 : a.k = 7 ∨ b.k = 7
      · rw [show smV (D + 1) true a b = (decide (a.k = 7) && decide (b.k = 7) && (a.s.toList == b.s.toList)) from if_pos h7]
        simp only [Bool.and_eq_true, decide_eq_true_eq, bytes_same]
        constructor
        · rintro ⟨⟨ka, kb⟩, hs⟩
          refine vt_ext (ka.trans kb.symm) ?_ hs ?_
          · have va : vnn a = 0 := (if_neg (by omega)).trans (if_neg (by omega))
            have vb : vnn b = 0 := (if_neg (by omega)).trans (if_neg (by omega))
            rw [n1.2.2.1, n2.2.2.1, va, vb]
          · rw [l1.1 (by omega), l2.1 (by omega)]
        · intro he
          subst he
          exact ⟨⟨by omega, by omega⟩, rfl⟩
      · have ka : a.k ≠ 7 := fun g => h7 (.inl g)
        have kb : b.k ≠ 7 := fun g => h7 (.inr g)
        have e1 : okV (D + 1) true a = if a.k = 8 then false else okV D false a := if_neg ka
        have e2 : okV (D + 1) true b = if b.k = 8 then false else okV D false b := if_neg kb
        rw [e1] at h1
        rw [e2] at h2
        split at h1
        · cases h1
        split at h2
        · cases h2
        rw [show smV (D + 1) true a b = smV D false a b from if_neg h7]
        exact sm_eq D false a b (e + 1) h1 h2 n1 n2 l1 l2
  | D + 1, false, a, b, e, h1, h2, n1, n2, l1, l2 => by
    cases e with
    | zero => exact n1.elim
    | succ e =>
      have ka := ok_kind h1
      have kb := ok_kind h2
      obtain ⟨_, _, na, sa, pa⟩ := n1
      obtain ⟨_, _, nb, sb, pb⟩ := n2
      have es : smV (D + 1) false a b = (decide (a.k = b.k) && (if a.k = 1 ∨ a.k = 6 then a.n == b.n else if a.k = 2 then a.s.toList == b.s.toList else if a.k = 3 then (a.n != 0) == (b.n != 0) else smL (smV D (decide (a.k = 5))) a.l b.l)) := rfl
      rw [es, Bool.and_eq_true, decide_eq_true_eq]
      by_cases hk : a.k = b.k
      · have hs2 : a.k ≠ 2 → a.s = b.s := fun g => by
          have va : vss a = ⟨#[]⟩ := if_neg (by omega)
          have vb : vss b = ⟨#[]⟩ := if_neg (by omega)
          rw [sa, sb, va, vb]
        have hl0 : ¬ (a.k = 4 ∨ a.k = 5) → a.l = b.l := fun g => by rw [l1.1 g, l2.1 (by omega)]
        have hn0 : ¬ (a.k = 1 ∨ a.k = 6) → a.k ≠ 3 → a.n = b.n := fun g g3 => by
          have va : vnn a = 0 := (if_neg g).trans (if_neg g3)
          have vb : vnn b = 0 := (if_neg (by omega)).trans (if_neg (by omega))
          rw [na, nb, va, vb]
        by_cases k1 : a.k = 1 ∨ a.k = 6
        · rw [if_pos k1, beq_iff_eq]
          exact ⟨fun g => vt_ext hk g.2 (hs2 (by omega)) (hl0 (by omega)), fun g => by subst g; exact ⟨rfl, rfl⟩⟩
        · rw [if_neg k1]
          by_cases k2 : a.k = 2
          · rw [if_pos k2, bytes_same]
            exact ⟨fun g => vt_ext hk (hn0 k1 (by omega)) g.2 (hl0 (by omega)), fun g => by subst g; exact ⟨rfl, rfl⟩⟩
          · rw [if_neg k2]
            by_cases k3 : a.k = 3
            · rw [if_pos k3, beq_iff_eq]
              refine ⟨fun g => vt_ext hk ?_ (hs2 k2) (hl0 (by omega)), fun g => by subst g; exact ⟨rfl, rfl⟩⟩
              have va : vnn a = if a.n != 0 then 1 else 0 := (if_neg k1).trans (if_pos k3)
              have vb : vnn b = if b.n != 0 then 1 else 0 := (if_neg (by omega)).trans (if_pos (by omega))
              rw [na, nb, va, vb, g.2]
            · rw [if_neg k3]
              have k45 : a.k = 4 ∨ a.k = 5 := by omega
              rw [show okV (D + 1) false a = a.l.all (okV D (decide (a.k = 5))) from if_pos k45] at h1
              rw [show okV (D + 1) false b = b.l.all (okV D (decide (b.k = 5))) from if_pos (by omega), ← hk] at h2
              rw [smL_eq (smV D (decide (a.k = 5))) a.l b.l (fun x hx y hy => sm_eq D _ x y e (List.all_eq_true.1 h1 x hx) (List.all_eq_true.1 h2 y hy) (pa x hx) (pb y hy) (l1.2 x hx) (l2.2 y hy))]
              exact ⟨fun g => vt_ext hk (hn0 k1 k3) (hs2 k2) g.2, fun g => by subst g; exact ⟨rfl, rfl⟩⟩
      · exact ⟨fun g => absurd g.1 hk, fun g => by subst g; exact absurd rfl hk⟩
/-- the same of what comes in as trees -/
theorem sm_nm {d D : Nat} {a b : Vt} (sa : SmT d a) (sb : SmT d b) (h1 : sdB D (nm d false a) = true) (h2 : sdB D (nm d false b) = true) : smV D false (nm d false a) (nm d false b) = true ↔ nm d false a = nm d false b := by
  unfold sdB msB at h1 h2
  simp only [Bool.and_eq_true] at h1 h2
  exact sm_eq D false _ _ d h1.1.1 h2.1.1 (nm_nf d false a sa) (nm_nf d false b sb) (nm_lf d false a sa) (nm_lf d false b sb)
end Go.Proofs.YtbhpjakjlfkfiabGreatDoor
namespace Go.Proofs.YtbhpjakjlfkfiabGreatDoor
open Go.RowKit Go.Lib
set_option linter.unusedSimpArgs false
set_option linter.unusedVariables false
theorem nm_sm : ∀ (d : Nat) (i : Bool) (t : Vt), SmT d t → SmT d (nm d i t)
  | 0, _, _, h => h.elim
  | d + 1, i, t, h => by
    obtain ⟨k, n, s, l⟩ := t
    obtain ⟨h1, h2, h3, h4, h5⟩ := h
    dsimp only at h1 h2 h3 h4 h5
    have z : ∀ m : Int, m ∈ [0, 1, 2, 3, 4, 5, 6, 7, 8] → (-9223372036854775808 : Int) ≤ m ∧ m ≤ 9223372036854775807 := fun m hm => by
      simp only [List.mem_cons, List.not_mem_nil, or_false] at hm
      omega
    have e0 : (⟨#[]⟩ : ByteArray).size ≤ 268435456 := Nat.zero_le _
    unfold nm
    dsimp only
    split
    · exact ⟨e0, Nat.zero_le _, z 1 (by simp), h4, fun x hx => by cases hx⟩
    split
    · exact ⟨h1, Nat.zero_le _, z 2 (by simp), z 0 (by simp), fun x hx => by cases hx⟩
    split
    · refine ⟨e0, Nat.zero_le _, z 3 (by simp), ?_, fun x hx => by cases hx⟩
      dsimp only
      split
      · exact z 1 (by simp)
      · exact z 0 (by simp)
    split
    · refine ⟨e0, by simpa using h2, z 4 (by simp), z 0 (by simp), fun x hx => ?_⟩
      obtain ⟨y, hy, rfl⟩ := List.mem_map.1 hx
      exact nm_sm d false y (h5 y hy)
    split
    · refine ⟨e0, by simpa using h2, z 5 (by simp), z 0 (by simp), fun x hx => ?_⟩
      obtain ⟨y, hy, rfl⟩ := List.mem_map.1 hx
      exact nm_sm d true y (h5 y hy)
    split
    · exact ⟨e0, Nat.zero_le _, z 6 (by simp), h4, fun x hx => by cases hx⟩
    split
    · exact ⟨h1, Nat.zero_le _, z 7 (by simp), z 0 (by simp), fun x hx => by cases hx⟩
    · exact ⟨e0, Nat.zero_le _, z 8 (by simp), z 0 (by simp), fun x hx => by cases hx⟩
/-- what a tree that came in has become as a value x, since block B: its own blocks, and what is known of its tree -/
def Vx (w : World) (B d : Nat) (t : Vt) (x : Value) : Prop := NiAt w B (2 * d + 1) false (nm d false t) x
theorem Vx.only {w w' : World} {B d : Nat} {t : Vt} {x : Value} {bs : Nat → Prop} (h : Vx w B d t x) (o : Only bs w w') (hb : ∀ b, B ≤ b → ¬ bs b) : Vx w' B d t x := NiAt.only h o hb
theorem value_calls {a : Vt} {va : Value} {d : Nat} {w : World} (ha : VsAt w (fun _ => True) d a.l va) (sa : SmT d a) : ∀ w1, Only (fun _ => False) w w1 → Calls Tryz.prog 10 #[.agg #[.int .i64 a.k, .int .i64 a.n, .string a.s, va]] w1 fun e w' => ∃ v, e = .returned v ∧ Hid (Vx w' w1.heap.size d a v ∧ Only (fun _ => False) w1 w') := fun w1 o1 => value_all d a va w1 _ (ha.only o1) sa
end Go.Proofs.YtbhpjakjlfkfiabGreatDoor
namespace Go.Proofs.YtbhpjakjlfkfiabGreatDoor
open Go.RowKit Go.Lib
set_option linter.unusedSimpArgs false
set_option linter.unusedVariables false
theorem LfT.mono : ∀ {d d' : Nat} {t : Vt}, d ≤ d' → LfT d t → LfT d' t
  | 0, _, _, _, h => h.elim
  | d + 1, 0, t, hd, h => by omega
  | d + 1, e + 1, t, hd, h => ⟨h.1, fun x hx => (h.2 x hx).mono (by omega)⟩
theorem tree_calls {a : Vt} {x : Value} {d B : Nat} {w : World} (h : Vx w B d a x) (sa : SmT d a) : ∀ w1, (∃ bs : Nat → Prop, Only bs w w1 ∧ ∀ b, B ≤ b → ¬ bs b) → Calls Tryz.prog 12 #[x] w1 fun e w' => ∃ lv, e = .returned (.agg #[.int .i64 (nm d false a).k, .int .i64 (nm d false a).n, .string (nm d false a).s, lv]) ∧ Hid ((∃ ao cap, lv = .slice ao (nm d false a).l.length cap) ∧ NuAt w' w1.heap.size (2 * d + 1) (nm d false a) lv ∧ Only (fun _ => False) w1 w') := fun w1 ⟨bs, o1, hb⟩ => by
  obtain ⟨S, h1, h2⟩ := h.only o1 hb
  refine ((utrees_any (2 * d + 2) (2 * d + 1) (by omega)).1 x (nm d false a) w1 S h1 ⟨d, nm_nf d false a sa⟩).mono fun e w' g => ?_
  obtain ⟨lv, he, g⟩ := g
  exact ⟨lv, he, g.out.1.form, g.out⟩
end Go.Proofs.YtbhpjakjlfkfiabGreatDoor
namespace Go.Proofs.YtbhpjakjlfkfiabGreatDoor
open Go.RowKit Go.Lib
set_option linter.unusedSimpArgs false
set_option linter.unusedVariables false
/-- a primitive: its name, its kinds, its work -/
structure Pr where
  name : ByteArray
  ks : List Int
  cy : Nat → List Vt → Except Int (List Vt)
structure PrC (p : Pr) : Prop where
  wt : WtC p.name p.ks
  cy : CyC p.name p.ks p.cy
  one : 1 ≤ p.ks.length
  few : p.ks.length ≤ 3
/-- primitives one after the other; d: how deep the values may be -/
def doL : Nat → List Pr → List Vt → Except Int (List Vt)
  | _, [], l => .ok l
  | d, p :: r, l =>
    match doR d p.ks p.cy l with
    | .error n => .error n
    | .ok l' => doL (d + 2) r l'
theorem doL_error {d : Nat} {p : Pr} {r : List Pr} {l : List Vt} {n : Int} (h : doR d p.ks p.cy l = .error n) : doL d (p :: r) l = .error n := by simp only [doL, h]
theorem doL_ok {d : Nat} {p : Pr} {r : List Pr} {l l' : List Vt} (h : doR d p.ks p.cy l = .ok l') : doL d (p :: r) l = doL (d + 2) r l' := by simp only [doL, h]
/-- what they leave -/
def DlP (r : Except Int (List Vt)) (D : Nat) (w : World) (e : Ending) (w' : World) : Prop :=
  match r with
  | .error n => e = .returned (.tuple #[.slice none 0 0, .int .i64 n]) ∧ (n == 0) = false ∧ Only (fun _ => False) w w'
  | .ok ls => ∃ ao cap, e = .returned (.tuple #[.slice ao ls.length cap, .int .i64 0]) ∧ Hid ((∃ S, QiAt w' S D false (.slice ao ls.length cap) ls ∧ ∀ b, S b → b < w'.heap.size) ∧ (∀ x ∈ ls, ∃ e, SmT e x) ∧ Only (fun _ => False) w w')
theorem QiAt.ps {w : World} {S : Nat → Prop} {d n : Nat} {i : Bool} {ao : Option Addr} {cap : Nat} {l : List Vt} (h : QiAt w S d i (.slice ao n cap) l) : PsAt w S d i l ao := by
  obtain ⟨a, c, he, _, h2⟩ := h
  cases he
  exact h2
theorem RiAt.qi {w : World} {B d : Nat} {T : TypeId} {i : Bool} {ao : Option Addr} {cap : Nat} {l : List Vt} (h : RiAt w B T d i (.slice ao l.length cap) l) : ∃ S, QiAt w S d i (.slice ao l.length cap) l ∧ ∀ b, S b → B ≤ b ∧ b < w.heap.size := by
  obtain ⟨S, h1, h2⟩ := h.ps
  refine ⟨S, ⟨ao, cap, rfl, ?_, h1⟩, h2⟩
  obtain ⟨us, S', ho, _⟩ := h
  rcases ho.2 with ⟨h3, h4⟩ | ⟨g, cp, cur, hv, hB, hg, hn, hcm, hcs, htk⟩
  · omega
  · cases hv
    exact hn
/-- where a row of primitives stands -/
def DnI (w wr : World) (d : Nat) (ps : List Pr) (l : List Vt) (j : Nat) (v : Value) (k : Nat) : Prop := ∃ lj : List Vt, (∃ S, QiAt wr S (d + 2 * j) false v lj ∧ ∀ b, S b → b < wr.heap.size) ∧ lj.length = k ∧ doL d ps l = doL (d + 2 * j) (ps.drop j) lj ∧ (∀ x ∈ lj, ∃ e, SmT e x) ∧ k ≤ l.length + 3 * j ∧ Only (fun _ => False) w wr
theorem smL_self (f : Vt → Vt → Bool) : ∀ (l : List Vt), (∀ x ∈ l, f x x = true) → smL f l l = true
  | [], _ => rfl
  | t :: l, h => by
    have h1 := h t (List.mem_cons_self ..)
    have h2 := smL_self f l (fun x hx => h x (List.mem_cons_of_mem _ hx))
    simp only [smL, h1, h2, Bool.and_true]
theorem saV_self : ∀ (d : Nat) (t : Vt), LfT d t → saV d t t = true
  | 0, _, h => h.elim
  | d + 1, t, h => by
    have h1 : smL (saV d) t.l t.l = true := smL_self _ _ (fun x hx => saV_self d x (h.2 x hx))
    have h2 : saL t.k t.n t.n t.s t.s = true := by
      unfold saL
      split
      · simp
      split
      · simp
      split
      · simp
      · rfl
    simp only [saV, h1, h2, decide_true, Bool.and_true]
theorem UrAt.vs {w : World} {B d : Nat} {v : Value} {l : List Vt} (h : UrAt w B d v l) : ∃ S, VsAt w S (d + 1) l v := by
  obtain ⟨S, h1, _⟩ := h.tree (t := ⟨0, 0, ⟨#[]⟩, l⟩) rfl
  exact ⟨S, h1⟩
set_option maxRecDepth 100000 in
theorem same_self {D E : Nat} {la : List Vt} {a : Option Addr} {c : Nat} {vb : Value} {w : World} {S Sb : Nat → Prop} (ha : QiAt w S D false (.slice a la.length c) la) (hb : VsAt w Sb (E + 1) la vb) (hl : la.length ≤ 1048576) (hsm : ∀ x ∈ la, ∃ e, SmT e x) (hnf : ∀ x ∈ la, ∃ e, NfT e x) (hlf : ∀ x ∈ la, LfT D x) : Calls Tryz.prog 13 #[.slice a la.length c, vb] w fun e w' => e = .returned (.bool true) ∧ Only (fun _ => False) w w' := by
  obtain ⟨F, hF⟩ : ∃ F, F = D + E := ⟨_, rfl⟩
  have HT : Hid _ := utrees_of D (utrees_any (D + 1) D (by omega)).1 (.slice a la.length c) la w S ha hl hnf
  have HS : Hid (∀ w1 va, Only (fun _ => False) w w1 → (∃ S, VsAt w1 S (D + 1) la va) → Calls Tryz.prog 9 #[va, vb] w1 fun e w' => e = .returned (.bool true) ∧ Only (fun _ => False) w1 w') := fun w1 va o1 ⟨S1, h1⟩ => by
    have := (dsame_all (F + 1)).1 la la va vb w1 S1 Sb (h1.step (fun _ g => g) (fun _ _ _ g => g) (by omega)) ((hb.only o1).step (fun _ g => g) (fun _ _ _ g => g) (by omega)) hl hl hsm hsm
    rw [show F + 1 - 1 = F by omega, smL_self _ _ (fun x hx => saV_self F x ((hlf x hx).mono (by omega)))] at this
    exact this
  obtain ⟨L, hL⟩ : ∃ L, L = la.length := ⟨_, rfl⟩
  rw [← hL] at HT
  rw [← hL]
  clear ha hl hsm hnf hlf hL hF
  obtain ⟨ab, cb, rfl⟩ := hb.form
  clear hb
  obtain ⟨n, hn⟩ : ∃ n, n = la.length := ⟨_, rfl⟩
  rw [← hn] at HS
  rw [← hn]
  clear hn
  go_enter Tryz.func13, Tryz.ntmps13
  go_wp2_with fail
  refine (show Calls Tryz.prog 7 _ _ _ from HT.out).mono ?_
  rintro e w1 ⟨a1, c1, rfl, G1⟩
  have HV : Hid (∃ S, VsAt w1 S (D + 1) la (.slice a1 L c1)) := G1.out.1.vs
  have HO : Hid (Only (fun _ => False) w w1) := G1.out.2
  clear HT G1
  go_wp2_with fail
  refine (show Calls Tryz.prog 9 _ _ _ from HS.out _ _ HO.out HV.out).mono ?_
  rintro e w2 ⟨rfl, o2⟩
  have HO2 : Hid (Only (fun _ => False) w w2) := HO.out.trans o2 (fun _ _ g => g)
  clear o2 HS HV HO
  go_wp2
  go_ret
  exact ⟨rfl, HO2.out⟩
end Go.Proofs.YtbhpjakjlfkfiabGreatDoor
namespace Go.Proofs.YtbhpjakjlfkfiabGreatDoor
open Go.RowKit Go.Lib
set_option linter.unusedSimpArgs false
set_option linter.unusedVariables false
def pDup : Pr := ⟨⟨#[100, 117, 112]⟩, [63], fun _ l => .ok (lsR [0, 0] l)⟩
theorem cDup : PrC pDup := ⟨wt_0, cy_mv mv_0 (by decide) (by decide) (by decide), by decide, by decide⟩
def pDrop : Pr := ⟨⟨#[100, 114, 111, 112]⟩, [63], fun _ l => .ok (lsR [] l)⟩
theorem cDrop : PrC pDrop := ⟨wt_1, cy_mv mv_1 (by decide) (by decide) (by decide), by decide, by decide⟩
def pSwap : Pr := ⟨⟨#[115, 119, 97, 112]⟩, [63, 63], fun _ l => .ok (lsR [1, 0] l)⟩
theorem cSwap : PrC pSwap := ⟨wt_2, cy_mv mv_2 (by decide) (by decide) (by decide), by decide, by decide⟩
def pOver : Pr := ⟨⟨#[111, 118, 101, 114]⟩, [63, 63], fun _ l => .ok (lsR [0, 1, 0] l)⟩
theorem cOver : PrC pOver := ⟨wt_3, cy_mv mv_3 (by decide) (by decide) (by decide), by decide, by decide⟩
def pRot : Pr := ⟨⟨#[114, 111, 116]⟩, [63, 63, 63], fun _ l => .ok (lsR [1, 2, 0] l)⟩
theorem cRot : PrC pRot := ⟨wt_4, cy_mv mv_4 (by decide) (by decide) (by decide), by decide, by decide⟩
def pNip : Pr := ⟨⟨#[110, 105, 112]⟩, [63, 63], fun _ l => .ok (lsR [1] l)⟩
theorem cNip : PrC pNip := ⟨wt_5, cy_mv mv_5 (by decide) (by decide) (by decide), by decide, by decide⟩
def pTuck : Pr := ⟨⟨#[116, 117, 99, 107]⟩, [63, 63], fun _ l => .ok (lsR [1, 0, 1] l)⟩
theorem cTuck : PrC pTuck := ⟨wt_6, cy_mv mv_6 (by decide) (by decide) (by decide), by decide, by decide⟩
def pPair : Pr := ⟨⟨#[112, 97, 105, 114]⟩, [63, 63], fun _ l => oneR (.ok (lisT l))⟩
theorem cPair : PrC pPair := ⟨wt_33, cy_md mn_33 (by kernel_rfl) md_pair, by decide, by decide⟩
def pUnpair : Pr := ⟨⟨#[117, 110, 112, 97, 105, 114]⟩, [8], fun _ => unR⟩
theorem cUnpair : PrC pUnpair := ⟨wt_34, cy_unpair mn_34, by decide, by decide⟩
/-- a sound value, of depth e -/
def Gs (e : Nat) (t : Vt) : Prop := LfT e t ∧ dsB e t = true
theorem Gs.sd {e D : Nat} {t : Vt} (h : Gs e t) (hD : 2 * e + 1 ≤ D) : sdB D t = true := (ds_sd h.1 hD).trans h.2
theorem Gs.fb {e : Nat} {t : Vt} (h : Gs e t) : fb t 63 = true := by
  have h1 := h.sd (Nat.le_refl _)
  unfold sdB msB at h1
  simp only [Bool.and_eq_true] at h1
  have h2 := ok_kind h1.1.1
  rw [fb_63]
  simpa using h2
theorem doR_ok {d : Nat} {ks : List Int} {cy : Nat → List Vt → Except Int (List Vt)} {l ls l' : List Vt} (h1 : l.all (sdB d) = true) (h2 : ks.length ≤ l.length) (h3 : fitB (l.drop (l.length - ks.length)) ks = true) (h4 : cy d (l.drop (l.length - ks.length)) = .ok ls) (h5 : ls.all (sdB (d + 2)) = true) (h6 : l.take (l.length - ks.length) ++ ls = l') : doR d ks cy l = .ok l' := by
  unfold doR
  rw [if_neg (by rw [h1]; simp), if_neg (by omega), if_neg (by rw [h3]; simp), h4]
  simp only [fnR]
  rw [if_pos h5, h6]
theorem doR_form {d : Nat} {ks : List Int} {cy : Nat → List Vt → Except Int (List Vt)} {l : List Vt} (h1 : l.all (sdB d) = false) : doR d ks cy l = .error 1 := by
  unfold doR
  rw [if_pos h1]
theorem gs_all {e D : Nat} {l : List Vt} (h : ∀ x ∈ l, Gs e x) (hD : 2 * e + 1 ≤ D) : l.all (sdB D) = true := List.all_eq_true.2 fun x hx => (h x hx).sd hD
theorem fit_63 {e : Nat} : ∀ (l : List Vt) (ks : List Int), (∀ x ∈ l, Gs e x) → (∀ k ∈ ks, k = 63) → fitB l ks = true
  | [], _, _, _ => rfl
  | _ :: _, [], _, _ => rfl
  | t :: l, k :: ks, h, hk => by
    obtain rfl := hk k (List.mem_cons_self ..)
    simp only [fitB, (h t (List.mem_cons_self ..)).fb, Bool.true_and]
    exact fit_63 l ks (fun x hx => h x (List.mem_cons_of_mem _ hx)) (fun x hx => hk x (List.mem_cons_of_mem _ hx))
/-- a word that moves values -/
theorem mv_do {e D : Nat} {l l' : List Vt} {ks ps : List Int} (hl : ∀ x ∈ l, Gs e x) (hD : 2 * e + 1 ≤ D) (hk : ∀ k ∈ ks, k = 63) (h2 : ks.length ≤ l.length) (h6 : l.take (l.length - ks.length) ++ lsR ps (l.drop (l.length - ks.length)) = l') (hl' : ∀ x ∈ l', Gs e x) : doR D ks (fun _ l => .ok (lsR ps l)) l = .ok l' :=
  doR_ok (gs_all hl hD) h2 (fit_63 _ _ (fun x hx => hl x (List.mem_of_mem_drop hx)) hk) rfl (gs_all (fun x hx => hl' x (by rw [← h6]; exact List.mem_append_right _ hx)) (by omega)) h6
section
variable {e D : Nat} {x y z : Vt} (hx : Gs e x) (hy : Gs e y) (hz : Gs e z) (hD : 2 * e + 1 ≤ D)
theorem gs3 : ∀ t ∈ [x, y, z], Gs e x → Gs e y → Gs e z → Gs e t := by
  intro t ht hx hy hz
  simp only [List.mem_cons, List.not_mem_nil, or_false] at ht
  rcases ht with rfl | rfl | rfl <;> assumption
theorem gs2 : ∀ t ∈ [x, y], Gs e x → Gs e y → Gs e t := by
  intro t ht hx hy
  simp only [List.mem_cons, List.not_mem_nil, or_false] at ht
  rcases ht with rfl | rfl <;> assumption
theorem gs4 {u : Vt} : ∀ t ∈ [x, y, z, u], Gs e x → Gs e y → Gs e z → Gs e u → Gs e t := by
  intro t ht hx hy hz hu
  simp only [List.mem_cons, List.not_mem_nil, or_false] at ht
  rcases ht with rfl | rfl | rfl | rfl <;> assumption
theorem k63 {ks : List Int} (h : ks.all (fun k => decide (k = 63)) = true) : ∀ k ∈ ks, k = 63 := fun k hk => by simpa using List.all_eq_true.1 h k hk
theorem do_swaps (hx : Gs e x) (hy : Gs e y) (hz : Gs e z) (hD : 2 * e + 1 ≤ D) : doL D [pSwap, pSwap] [x, y, z] = .ok [x, y, z] := by
  rw [doL_ok (l' := [x, z, y]) (mv_do (e := e) (l := [x, y, z]) (l' := [x, z, y]) (ks := pSwap.ks) (ps := [1, 0]) (fun t ht => gs3 t ht hx hy hz) (by omega) (k63 (by decide)) (by show 2 ≤ 3; omega) rfl (fun t ht => gs3 t ht hx hz hy))]
  rw [doL_ok (l' := [x, y, z]) (mv_do (e := e) (l := [x, z, y]) (l' := [x, y, z]) (ks := pSwap.ks) (ps := [1, 0]) (fun t ht => gs3 t ht hx hz hy) (by omega) (k63 (by decide)) (by show 2 ≤ 3; omega) rfl (fun t ht => gs3 t ht hx hy hz))]
  rfl
theorem do_rots (hx : Gs e x) (hy : Gs e y) (hz : Gs e z) (hD : 2 * e + 1 ≤ D) : doL D [pRot, pRot, pRot] [x, y, z] = .ok [x, y, z] := by
  rw [doL_ok (l' := [y, z, x]) (mv_do (e := e) (l := [x, y, z]) (l' := [y, z, x]) (ks := pRot.ks) (ps := [1, 2, 0]) (fun t ht => gs3 t ht hx hy hz) (by omega) (k63 (by decide)) (by show 3 ≤ 3; omega) rfl (fun t ht => gs3 t ht hy hz hx))]
  rw [doL_ok (l' := [z, x, y]) (mv_do (e := e) (l := [y, z, x]) (l' := [z, x, y]) (ks := pRot.ks) (ps := [1, 2, 0]) (fun t ht => gs3 t ht hy hz hx) (by omega) (k63 (by decide)) (by show 3 ≤ 3; omega) rfl (fun t ht => gs3 t ht hz hx hy))]
  rw [doL_ok (l' := [x, y, z]) (mv_do (e := e) (l := [z, x, y]) (l' := [x, y, z]) (ks := pRot.ks) (ps := [1, 2, 0]) (fun t ht => gs3 t ht hz hx hy) (by omega) (k63 (by decide)) (by show 3 ≤ 3; omega) rfl (fun t ht => gs3 t ht hx hy hz))]
  rfl
theorem do_dups (hx : Gs e x) (hy : Gs e y) (hz : Gs e z) (hD : 2 * e + 1 ≤ D) : doL D [pDup, pDrop] [x, y, z] = .ok [x, y, z] := by
  rw [doL_ok (l' := [x, y, z, z]) (mv_do (e := e) (l := [x, y, z]) (l' := [x, y, z, z]) (ks := pDup.ks) (ps := [0, 0]) (fun t ht => gs3 t ht hx hy hz) (by omega) (k63 (by decide)) (by show 1 ≤ 3; omega) rfl (fun t ht => gs4 t ht hx hy hz hz))]
  rw [doL_ok (l' := [x, y, z]) (mv_do (e := e) (l := [x, y, z, z]) (l' := [x, y, z]) (ks := pDrop.ks) (ps := []) (fun t ht => gs4 t ht hx hy hz hz) (by omega) (k63 (by decide)) (by show 1 ≤ 4; omega) rfl (fun t ht => gs3 t ht hx hy hz))]
  rfl
theorem do_overs (hx : Gs e x) (hy : Gs e y) (hz : Gs e z) (hD : 2 * e + 1 ≤ D) : doL D [pOver, pNip, pSwap, pDrop, pOver] [x, y, z] = .ok [x, y, x] := by
  rw [doL_ok (l' := [x, y, z, y]) (mv_do (e := e) (l := [x, y, z]) (l' := [x, y, z, y]) (ks := pOver.ks) (ps := [0, 1, 0]) (fun t ht => gs3 t ht hx hy hz) (by omega) (k63 (by decide)) (by show 2 ≤ 3; omega) rfl (fun t ht => gs4 t ht hx hy hz hy))]
  rw [doL_ok (l' := [x, y, y]) (mv_do (e := e) (l := [x, y, z, y]) (l' := [x, y, y]) (ks := pNip.ks) (ps := [1]) (fun t ht => gs4 t ht hx hy hz hy) (by omega) (k63 (by decide)) (by show 2 ≤ 4; omega) rfl (fun t ht => gs3 t ht hx hy hy))]
  rw [doL_ok (l' := [x, y, y]) (mv_do (e := e) (l := [x, y, y]) (l' := [x, y, y]) (ks := pSwap.ks) (ps := [1, 0]) (fun t ht => gs3 t ht hx hy hy) (by omega) (k63 (by decide)) (by show 2 ≤ 3; omega) rfl (fun t ht => gs3 t ht hx hy hy))]
  rw [doL_ok (l' := [x, y]) (mv_do (e := e) (l := [x, y, y]) (l' := [x, y]) (ks := pDrop.ks) (ps := []) (fun t ht => gs3 t ht hx hy hy) (by omega) (k63 (by decide)) (by show 1 ≤ 3; omega) rfl (fun t ht => gs2 t ht hx hy))]
  rw [doL_ok (l' := [x, y, x]) (mv_do (e := e) (l := [x, y]) (l' := [x, y, x]) (ks := pOver.ks) (ps := [0, 1, 0]) (fun t ht => gs2 t ht hx hy) (by omega) (k63 (by decide)) (by show 2 ≤ 2; omega) rfl (fun t ht => gs3 t ht hx hy hx))]
  rfl
theorem fb_lis (l : List Vt) : fb (lisT l) 8 = true := by
  show (!(bits BinOp.and IntKind.i64 8 8 == 0)) = true
  decide
theorem do_pairs (hx : Gs e x) (hy : Gs e y) (hz : Gs e z) (hD : 2 * e + 1 ≤ D) : doL D [pPair, pUnpair] [x, y, z] = .ok [x, y, z] ∨ doL D [pPair, pUnpair] [x, y, z] = .error 11 := by
  have hl := gs_all (fun t ht => gs3 t ht hx hy hz) hD
  have hf := fit_63 (e := e) [y, z] [63, 63] (fun t ht => gs2 t ht hy hz) (k63 (by decide))
  cases hp : sdB (D + 2) (lisT [y, z]) with
  | false =>
    right
    refine doL_error ?_
    unfold doR
    rw [if_neg (by rw [hl]; simp), if_neg (by show ¬ (3 < 2); omega), if_neg (by rw [show fitB ([x, y, z].drop ([x, y, z].length - pPair.ks.length)) pPair.ks = true from hf]; simp)]
    show fnR D _ (.ok [lisT [y, z]]) = _
    simp only [fnR, List.all_cons, hp]
    rfl
  | true =>
    left
    rw [doL_ok (p := pPair) (l' := [x, lisT [y, z]]) (doR_ok (ls := [lisT [y, z]]) hl (by show 2 ≤ 3; omega) hf rfl (by simp [hp]) rfl)]
    rw [doL_ok (p := pUnpair) (l' := [x, y, z]) (doR_ok (ls := [y, z]) (by simp [hp, hx.sd (show 2 * e + 1 ≤ D + 2 by omega)]) (by show 1 ≤ 2; omega) (by show (fb (lisT [y, z]) 8 && true) = true; rw [fb_lis]; rfl) rfl (gs_all (fun t ht => gs2 t ht hy hz) (by omega)) rfl)]
    rfl
end
end Go.Proofs.YtbhpjakjlfkfiabGreatDoor
namespace Go.Proofs.YtbhpjakjlfkfiabGreatDoor
open Go.RowKit Go.Lib
set_option linter.unusedSimpArgs false
set_option linter.unusedVariables false
def t7 : Vt := ⟨1, 7, ⟨#[]⟩, []⟩
theorem do7 : doR 1 [63] (fun _ l => .ok (lsR [0, 0] l)) [t7] = .ok [t7, t7] := by kernel_rfl
theorem sm7 : ∀ x ∈ [t7], ∃ e, SmT e x := fun x hx => by
  simp only [List.mem_cons, List.not_mem_nil, or_false] at hx
  subst hx
  exact ⟨1, Nat.zero_le _, Nat.zero_le _, ⟨(by decide : (-9223372036854775808 : Int) ≤ 1), (by decide : (1 : Int) ≤ 9223372036854775807)⟩, ⟨(by decide : (-9223372036854775808 : Int) ≤ 7), (by decide : (7 : Int) ≤ 9223372036854775807)⟩, fun x hx => by cases hx⟩
set_option maxRecDepth 100000 in
theorem awake12 (w : World) (hT : Ty w) : Calls Tryz.prog 5 #[] w fun e w' => e = .returned (.bool true) ∧ Only (fun _ => False) w w' := by
  have HD : Hid (∀ (W : World) (Q : Nat), Only (fun _ => False) w W → W.cell? ⟨Q, 0, none⟩ = some (.iface 27 (.agg #[.int .i64 7])) → Calls Tryz.prog 8 #[.string ⟨#[100, 117, 112]⟩, .slice (some ⟨Q, 0, none⟩) 1 1] W fun e w' => ∃ a c, e = .returned (.tuple #[.slice a 2 c, .int .i64 0]) ∧ Hid (Only (fun _ => False) w w')) := fun W Q o hc => by
    have hl : PsAt W (fun b => b = Q) 1 false [t7] (some ⟨Q, 0, none⟩) := fun j x hx => by
      have hj : j = 0 := by have := (List.getElem?_eq_some_iff.1 hx).1; simp at this; exact this
      subst hj
      simp at hx
      subst hx
      exact ⟨Q, 0, _, rfl, rfl, hc, .inl ⟨rfl, rfl, rfl⟩⟩
    have := do_any (cap := 1) cDup.wt cDup.cy cDup.one cDup.few hl (fun b hb => by subst hb; exact World.block_lt_of_cell? W _ hc) sm7 (by simp) (hT.1.frame o)
    refine this.mono fun e w' g => ?_
    rw [show doR 1 pDup.ks pDup.cy [t7] = .ok [t7, t7] from do7] at g
    obtain ⟨a, c, he, g⟩ := g
    exact ⟨a, c, he, o.trans g.out.2.1 (fun _ _ g => g)⟩
  have HIs : Hid (∀ W, Only (fun _ => False) w W → Calls Tryz.prog 14 #[.string ⟨#[100, 117, 112]⟩] W fun e w' => e = .returned (.bool true) ∧ Only (fun _ => False) W w') := fun W o => by
    have := is_any ⟨#[100, 117, 112]⟩ W (hT.2.frame o)
    rw [show isB ⟨#[100, 117, 112]⟩ = true by kernel_rfl] at this
    exact this
  have O0 : Hid (Only (fun _ => False) w w) := Only.refl _ _
  clear hT
  go_enter Tryz.func5, Tryz.ntmps5
  go_wp2_with fail
  refine (show Calls Tryz.prog 8 _ _ _ from HD.out _ _ (O0.out.alloc _) (by simp [go_sem])).mono ?_
  rintro e w1 ⟨a, c, rfl, o1⟩
  clear HD O0
  go_wp2_with fail
  refine (show Calls Tryz.prog 14 _ _ _ from HIs.out _ o1.out).mono ?_
  rintro e w2 ⟨rfl, o2⟩
  have O2 : Hid (Only (fun _ => False) w w2) := o1.out.trans o2 (fun _ _ g => g)
  clear o1 o2 HIs
  go_wp2
  go_ret
  exact ⟨rfl, O2.out⟩
/-- three trees in a row: their cells -/
def C3 (w : World) (g : Nat) (x y z : Vt) (lx ly lz : Value) : Prop := (w.cell? ⟨g, 0, none⟩ = some (.int .i64 x.k) ∧ w.cell? ⟨g, 1, none⟩ = some (.int .i64 x.n) ∧ w.cell? ⟨g, 2, none⟩ = some (.string x.s) ∧ w.cell? ⟨g, 3, none⟩ = some lx) ∧ (w.cell? ⟨g, 4, none⟩ = some (.int .i64 y.k) ∧ w.cell? ⟨g, 5, none⟩ = some (.int .i64 y.n) ∧ w.cell? ⟨g, 6, none⟩ = some (.string y.s) ∧ w.cell? ⟨g, 7, none⟩ = some ly) ∧ (w.cell? ⟨g, 8, none⟩ = some (.int .i64 z.k) ∧ w.cell? ⟨g, 9, none⟩ = some (.int .i64 z.n) ∧ w.cell? ⟨g, 10, none⟩ = some (.string z.s) ∧ w.cell? ⟨g, 11, none⟩ = some lz)
theorem C3.only {w w' : World} {g : Nat} {x y z : Vt} {lx ly lz : Value} (h : C3 w g x y z lx ly lz) (o : Only (fun _ => False) w w') : C3 w' g x y z lx ly lz :=
  ⟨⟨o.cell h.1.1 (fun g => g), o.cell h.1.2.1 (fun g => g), o.cell h.1.2.2.1 (fun g => g), o.cell h.1.2.2.2 (fun g => g)⟩, ⟨o.cell h.2.1.1 (fun g => g), o.cell h.2.1.2.1 (fun g => g), o.cell h.2.1.2.2.1 (fun g => g), o.cell h.2.1.2.2.2 (fun g => g)⟩, o.cell h.2.2.1 (fun g => g), o.cell h.2.2.2.1 (fun g => g), o.cell h.2.2.2.2.1 (fun g => g), o.cell h.2.2.2.2.2 (fun g => g)⟩
theorem ur3 {w : World} {B d : Nat} {v : Value} {x y z : Vt} (h : UrAt w B d v [x, y, z]) : ∃ g cap lx ly lz S, v = .slice (some ⟨g, 0, none⟩) 3 cap ∧ C3 w g x y z lx ly lz ∧ VsAt w S d x.l lx ∧ VsAt w S d y.l ly ∧ VsAt w S d z.l lz ∧ B ≤ g := by
  obtain ⟨us, S, ho, ht, hS⟩ := h
  obtain ⟨lx, ⟨x0, x1, x2, x3⟩, tx⟩ := ht 0 x rfl
  obtain ⟨ly, ⟨y0, y1, y2, y3⟩, ty⟩ := ht 1 y rfl
  obtain ⟨lz, ⟨z0, z1, z2, z3⟩, tz⟩ := ht 2 z rfl
  rcases ho.2 with ⟨h3, h4⟩ | ⟨g, cp, cur, hv, hB, hg, hn, hcm, hcs, htk⟩
  · simp at h4
  · subst hv
    have hc := fun j u hu => ho.cells (g := g) rfl j u hu
    simp only [addr_ad] at hc
    exact ⟨g, cp, lx, ly, lz, S, rfl, ⟨⟨hc _ _ x0, hc _ _ x1, hc _ _ x2, hc _ _ x3⟩, ⟨hc _ _ y0, hc _ _ y1, hc _ _ y2, hc _ _ y3⟩, hc _ _ z0, hc _ _ z1, hc _ _ z2, hc _ _ z3⟩, tx, ty, tz, hB⟩
theorem vs3 {w : World} {S : Nat → Prop} {d g : Nat} {x y z : Vt} {lx ly lz : Value} (h : C3 w g x y z lx ly lz) (hx : VsAt w S d x.l lx) (hy : VsAt w S d y.l ly) (hz : VsAt w S d z.l lz) (c : Nat) (hc : 3 ≤ c) : VsAt w (fun b => S b ∨ b = g) (d + 1) [x, y, z] (.slice (some ⟨g, 0, none⟩) 3 c) := by
  have up : ∀ {l v}, VsAt w S d l v → VsAt w (fun b => S b ∨ b = g) d l v := fun h => h.step (fun _ g => .inl g) (fun _ _ _ g => g) (Nat.le_refl _)
  refine ⟨_, _, rfl, hc, fun i t ht => ?_⟩
  have hi := (List.getElem?_eq_some_iff.1 ht).1
  match i, hi with
  | 0, _ => simp at ht; subst ht; exact ⟨g, 0, lx, rfl, .inr rfl, h.1, up hx⟩
  | 1, _ => simp at ht; subst ht; exact ⟨g, 0, ly, rfl, .inr rfl, h.2.1, up hy⟩
  | 2, _ => simp at ht; subst ht; exact ⟨g, 0, lz, rfl, .inr rfl, h.2.2, up hz⟩
theorem names_new (ps : List Pr) (t : TypeId) (w : World) : ∀ (j : Nat) (p : Pr), ps[j]? = some p → (w.alloc (.cells (ps.map fun p => Value.string p.name).toArray t)).cell? ⟨w.heap.size, j, none⟩ = some (.string p.name) := fun j p hp => by
  rw [vblk_cells (valloc_at w _ _ rfl)]
  simp [hp]
end Go.Proofs.YtbhpjakjlfkfiabGreatDoor
