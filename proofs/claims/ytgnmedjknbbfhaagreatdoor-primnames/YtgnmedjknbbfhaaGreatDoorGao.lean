/- The document's SameAll: the loop. Two values in their normal form are equal just if they are the same tree. Measure and Sound of the document, of any tree, in both verdicts. What trees that came in become as values. value.Text of the number 7. value.Text of the number 7. -/
import Derived.Test.YtgnmedjknbbfhaaGreatDoorGan
import Derived.Test.YtgnmedjknbbfhaaGreatDoorGal
import Derived.Deep.RegionHeld3
import Derived.Test.YtgnmedjknbbfhaaGreatDoorGag
import Derived.BigQuiet
import Derived.Deep.QuietTactic
import Derived.Test.YtgnmedjknbbfhaaGreatDoorGaa
import Derived.Test.YtgnmedjknbbfhaaGreatDoorGah
namespace Go.Proofs.YtgnmedjknbbfhaaGreatDoor
open Go.RowKit Go.Lib
set_option linter.unusedSimpArgs false
set_option linter.unusedVariables false
set_option maxRecDepth 100000 in
set_option maxHeartbeats 4000000 in
theorem sameall_ne (a1 a2 : Option Addr) (La Lb c1 c2 : Nat) (w : World) (h : ¬ (La : Int) = (Lb : Int)) : Calls Tryz.prog 14 #[.slice a1 La c1, .slice a2 Lb c2] w fun e w' => e = .returned (.bool false) ∧ Only (fun _ => False) w w' := by
  have O0 : Hid (Only (fun _ => False) w w) := Only.refl _ _
  go_enter Tryz.func14, Tryz.ntmps14
  go_wp2
  go_ret
  exact ⟨rfl, O0.out⟩
set_option maxRecDepth 100000 in
set_option maxHeartbeats 40000000 in
theorem dsameall_of (d : Nat) (H : DmC d) : DaC (d + 1) := by
  intro la lb va vb w S S' h1 h2 hla hlb gla glb
  obtain ⟨aa, ca, rfl, hca, ha⟩ := h1
  obtain ⟨ab, cb, rfl, hcb, hb⟩ := h2
  by_cases hlen : la.length = lb.length
  · have HE : Hid (∀ (j : Nat) (x y : Vt), la[j]? = some x → lb[j]? = some y → ∃ g k lx g' k' lx', aa = some ⟨g, k, none⟩ ∧ ab = some ⟨g', k', none⟩ ∧ (w.cell? ⟨g, k + j * 4, none⟩ = some (.int .i64 x.k) ∧ w.cell? ⟨g, k + j * 4 + 1, none⟩ = some (.int .i64 x.n) ∧ w.cell? ⟨g, k + j * 4 + 2, none⟩ = some (.string x.s) ∧ w.cell? ⟨g, k + j * 4 + 3, none⟩ = some lx) ∧ (w.cell? ⟨g', k' + j * 4, none⟩ = some (.int .i64 y.k) ∧ w.cell? ⟨g', k' + j * 4 + 1, none⟩ = some (.int .i64 y.n) ∧ w.cell? ⟨g', k' + j * 4 + 2, none⟩ = some (.string y.s) ∧ w.cell? ⟨g', k' + j * 4 + 3, none⟩ = some lx') ∧ ∀ w1, Only (fun _ => False) w w1 → Calls Tryz.prog 36 #[.agg #[.int .i64 x.k, .int .i64 x.n, .string x.s, lx], .agg #[.int .i64 y.k, .int .i64 y.n, .string y.s, lx']] w1 fun e w' => e = .returned (.bool (saV d x y)) ∧ Only (fun _ => False) w1 w') := by
      intro j x y hx hy
      obtain ⟨g, k, lx, p1, p2, p3, p4⟩ := ha j x hx
      obtain ⟨g', k', lx', q1, q2, q3, q4⟩ := hb j y hy
      exact ⟨g, k, lx, g', k', lx', p1, q1, p3, q3, fun w1 o1 => H x y lx lx' w1 S S' (p4.only o1) (q4.only o1) (gla x (List.mem_of_getElem? hx)) (glb y (List.mem_of_getElem? hy))⟩
    have HLB : Hid (la.length ≤ 1048576 ∧ la.length = lb.length) := ⟨hla, hlen⟩
    clear ha hb H hca hcb gla glb hla hlb
    rw [← hlen]
    obtain ⟨N, hN⟩ : ∃ N, N = la.length := ⟨_, rfl⟩
    have HNN : Hid (N = la.length) := hN
    rw [← hN]
    show Calls Tryz.prog 14 #[.slice aa N ca, .slice ab N cb] w fun e w' => e = .returned (.bool (smL (saV d) la lb)) ∧ Only (fun _ => False) w w'
    obtain ⟨R, hR⟩ : ∃ R, R = smL (saV d) la lb := ⟨_, rfl⟩
    rw [← hR]
    have HR : Hid (R = smL (saV d) (la.drop 0) (lb.drop 0)) := hR
    clear hN hlen hR
    go_enter Tryz.func14, Tryz.ntmps14
    go_wp2
    go_loopw [5] (fun r5 wr => ∃ i : Nat, r5 = .int .i64 (i : Int) ∧ i ≤ N ∧ Hid (R = smL (saV d) (la.drop i) (lb.drop i)) ∧ Hid (Only (fun _ => False) w wr)) (fun r5 _ => N - uOf r5)
    case atStart => exact ⟨0, rfl, Nat.zero_le _, HR, Only.refl _ _⟩
    case round =>
      clear HR
      obtain ⟨i, rfl, hi, HR, HI⟩ := hrel
      obtain ⟨w1, rfl⟩ : ∃ w1, w1 = wr := ⟨_, rfl⟩
      have hNl : N = la.length := HNN.out
      have hN4 : la.length ≤ 1048576 ∧ la.length = lb.length := HLB.out
      by_cases hiN : i < N
      · obtain ⟨x, hx⟩ : ∃ x, la[i]? = some x := ⟨la[i]'(by omega), List.getElem?_eq_getElem (by omega)⟩
        obtain ⟨y, hy⟩ : ∃ y, lb[i]? = some y := ⟨lb[i]'(by omega), List.getElem?_eq_getElem (by omega)⟩
        obtain ⟨g, k, lx, g', k', lx', rfl, rfl, ⟨h0, h1, h2, h3⟩, ⟨h4, h5, h6, h7⟩, hcall⟩ := HE.out i x y hx hy
        have o1 := HI.out
        have HS : Hid (∀ w', Only (fun _ => False) w1 w' → (w'.cell? ⟨g, k + i * 4, none⟩ = some (.int .i64 x.k) ∧ w'.cell? ⟨g, k + i * 4 + 1, none⟩ = some (.int .i64 x.n) ∧ w'.cell? ⟨g, k + i * 4 + 2, none⟩ = some (.string x.s) ∧ w'.cell? ⟨g, k + i * 4 + 3, none⟩ = some lx) ∧ (w'.cell? ⟨g', k' + i * 4, none⟩ = some (.int .i64 y.k) ∧ w'.cell? ⟨g', k' + i * 4 + 1, none⟩ = some (.int .i64 y.n) ∧ w'.cell? ⟨g', k' + i * 4 + 2, none⟩ = some (.string y.s) ∧ w'.cell? ⟨g', k' + i * 4 + 3, none⟩ = some lx')) := fun w' o => by
          have oo := o1.trans o (fun _ _ g => g)
          exact ⟨⟨oo.cell h0 (fun g => g), oo.cell h1 (fun g => g), oo.cell h2 (fun g => g), oo.cell h3 (fun g => g)⟩, ⟨oo.cell h4 (fun g => g), oo.cell h5 (fun g => g), oo.cell h6 (fun g => g), oo.cell h7 (fun g => g)⟩⟩
        obtain ⟨Z, hZ⟩ : ∃ Z, Z = saV d x y := ⟨_, rfl⟩
        rw [← hZ] at hcall
        have HR2 : Hid (R = (Z && smL (saV d) (la.drop (i + 1)) (lb.drop (i + 1)))) := by
          have := HR.out
          rw [drop_at hx, drop_at hy] at this
          rw [hZ]
          exact this
        have HCC : Hid (∀ w1, Only (fun _ => False) w w1 → Calls Tryz.prog 36 #[.agg #[.int .i64 x.k, .int .i64 x.n, .string x.s, lx], .agg #[.int .i64 y.k, .int .i64 y.n, .string y.s, lx']] w1 fun e w' => e = .returned (.bool Z) ∧ Only (fun _ => False) w1 w') := hcall
        obtain ⟨⟨c0, c1, c2, c3⟩, ⟨c4, c5, c6, c7⟩⟩ := HS.out w1 (Only.refl _ _)
        have HB : Hid (i < N ∧ N ≤ 1048576) := ⟨hiN, by omega⟩
        have i1 : (i : Int) < (N : Int) := by omega
        have i0 : (0 : Int) ≤ (i : Int) := by omega
        have hi4 : i ≤ 1048576 := by omega
        obtain ⟨x0, hx0⟩ : ∃ x0, x0 = x.k := ⟨_, rfl⟩
        obtain ⟨x1, hx1⟩ : ∃ x1, x1 = x.n := ⟨_, rfl⟩
        obtain ⟨x2, hx2⟩ : ∃ x2, x2 = x.s := ⟨_, rfl⟩
        obtain ⟨y0, hy0⟩ : ∃ y0, y0 = y.k := ⟨_, rfl⟩
        obtain ⟨y1, hy1⟩ : ∃ y1, y1 = y.n := ⟨_, rfl⟩
        obtain ⟨y2, hy2⟩ : ∃ y2, y2 = y.s := ⟨_, rfl⟩
        rw [← hx0, ← hx1, ← hx2, ← hy0, ← hy1, ← hy2] at HCC HS
        rw [← hx0] at c0
        rw [← hx1] at c1
        rw [← hx2] at c2
        rw [← hy0] at c4
        rw [← hy1] at c5
        rw [← hy2] at c6
        clear hx0 hx1 hx2 hy0 hy1 hy2 HE h0 h1 h2 h3 h4 h5 h6 h7 hcall o1 hx hy hZ hNl hN4 hi hiN HR
        go_wp2_with fail
        have OR : Hid (Only (fun _ => False) w1 w1) := Only.refl _ _
        go_region_held3 (fun w' => (w'.cell? ⟨g, k + i * 4, none⟩ = some (.int .i64 x0) ∧ w'.cell? ⟨g, k + i * 4 + 1, none⟩ = some (.int .i64 x1) ∧ w'.cell? ⟨g, k + i * 4 + 2, none⟩ = some (.string x2) ∧ w'.cell? ⟨g, k + i * 4 + 3, none⟩ = some lx) ∧ (w'.cell? ⟨g', k' + i * 4, none⟩ = some (.int .i64 y0) ∧ w'.cell? ⟨g', k' + i * 4 + 1, none⟩ = some (.int .i64 y1) ∧ w'.cell? ⟨g', k' + i * 4 + 2, none⟩ = some (.string y2) ∧ w'.cell? ⟨g', k' + i * 4 + 3, none⟩ = some lx'))
          (first
            | with_reducible exact HS.out _ OR.out.drew
            | with_reducible exact HS.out _ O2.out)
          (first | (go_at_call 36; refine (show Calls Tryz.prog 36 _ _ _ from HCC.out _ HI.out.drew).mono ?_; rintro ex w2 ⟨rfl, o2⟩; have O2 : Hid (Only (fun _ => False) w1 w2) := OR.out.drew.trans o2 (fun _ _ g => g)))
        have HK : Hid (Only (fun _ => False) w w2) := HI.out.trans O2.out (fun _ _ g => g)
        clear HI O2 OR HS HCC c0 c1 c2 c3 c4 c5 c6 c7 o2
        cases Z with
        | false =>
          go_wp2
          go_ret
          exact ⟨by rw [HR2.out]; rfl, HK.out⟩
        | true =>
          go_wp2
          go_roundw
          case rel => exact ⟨i + 1, by go_num, by have := HB.out; omega, HR2.out.trans (Bool.true_and _), HK⟩
          case measure => simp only [uOf]; have := HB.out; omega
      · obtain rfl : i = N := by omega
        have i1 : ¬ (i : Int) < (i : Int) := by omega
        have HR2 : Hid (R = true) := by
          have := HR.out
          rw [List.drop_eq_nil_of_le (show la.length ≤ i by omega), List.drop_eq_nil_of_le (show lb.length ≤ i by omega)] at this
          exact this
        clear HE hNl hN4 hi hiN HR
        go_wp2
        go_ret
        exact ⟨by rw [HR2.out]; rfl, HI.out⟩
  · show Calls Tryz.prog 14 _ w fun e w' => e = .returned (.bool (smL (saV d) la lb)) ∧ Only (fun _ => False) w w'
    rw [smL_len _ _ _ hlen]
    exact sameall_ne _ _ _ _ _ _ w (by omega)
theorem dsame_all : ∀ (d : Nat), DaC d ∧ DmC d
  | 0 => ⟨fun la lb va vb w S S' h => h.elim, fun a b va vb w S S' h => h.elim⟩
  | d + 1 => ⟨dsameall_of d (dsame_all d).2, dsame_of d (dsameall_of d (dsame_all d).2)⟩
end Go.Proofs.YtgnmedjknbbfhaaGreatDoor
namespace Go.Proofs.YtgnmedjknbbfhaaGreatDoor
open Go.RowKit Go.Lib
set_option linter.unusedSimpArgs false
set_option linter.unusedVariables false
theorem vt_ext {a b : Vt} (h1 : a.k = b.k) (h2 : a.n = b.n) (h3 : a.s = b.s) (h4 : a.l = b.l) : a = b := by
  cases a; cases b
  simp only at h1 h2 h3 h4
  subst h1 h2 h3 h4
  rfl
theorem bytes_same {a b : ByteArray} : (a.toList == b.toList) = true ↔ a = b := by
  constructor
  · intro h
    have h := beq_iff_eq.1 h
    rw [ByteArray.toList_eq, ByteArray.toList_eq] at h
    exact ByteArray.ext (Array.toList_inj.1 h)
  · intro h; rw [h]; simp
theorem smL_eq (f : Vt → Vt → Bool) : ∀ (a b : List Vt), (∀ x ∈ a, ∀ y ∈ b, (f x y = true ↔ x = y)) → (smL f a b = true ↔ a = b)
  | [], [], _ => by simp [smL]
  | [], y :: b, _ => by simp [smL]
  | x :: a, [], _ => by simp [smL]
  | x :: a, y :: b, h => by
    have h1 := h x (.head _) y (.head _)
    have h2 := smL_eq f a b (fun x' hx y' hy => h x' (.tail _ hx) y' (.tail _ hy))
    rw [show smL f (x :: a) (y :: b) = (f x y && smL f a b) from rfl, Bool.and_eq_true, h1, h2]
    simp
theorem ok_kind {d : Nat} {t : Vt} (h : okV (d + 1) false t = true) : t.k = 1 ∨ t.k = 2 ∨ t.k = 3 ∨ t.k = 4 ∨ t.k = 5 ∨ t.k = 6 := by
  by_cases hk : t.k = 4 ∨ t.k = 5
  · omega
  · rw [show okV (d + 1) false t = alB t from if_neg hk] at h
    unfold alB at h
    split at h
    · omega
    split at h
    · omega
    split at h
    · omega
    · have := of_decide_eq_true h
      omega
theorem sm_eq : ∀ (D : Nat) (i : Bool) (a b : Vt) (e : Nat), okV D i a = true → okV D i b = true → NfT e a → NfT e b → LfT e a → LfT e b → (smV D i a b = true ↔ a = b)
  | 0, _, _, _, _, h, _, _, _, _, _ => by cases h
  | D + 1, true, a, b, e, h1, h2, n1, n2, l1, l2 => by
    cases e with
    | zero => exact n1.elim
    | succ e =>
      by_cases h7 : a.k = 7 ∨ b.k = 7
      · rw [show smV (D + 1) true a b = (decide (a.k = 7) && decide (b.k = 7) && (a.s.toList == b.s.toList)) from if_pos h7]
        simp only [Bool.and_eq_true, decide_eq_true_eq, bytes_same]
        constructor
        · rintro ⟨⟨ka, kb⟩, hs⟩
          refine vt_ext (ka.trans kb.symm) ?_ hs ?_
          · have va : vnn a = 0 := (if_neg (by omega)).trans (if_neg (by omega))
            have vb : vnn b = 0 := (if_neg (by omega)).trans (if_neg (by omega))
            rw [n1.2.2.1, n2.2.2.1, va, vb]
          · rw [l1.1 (by omega), l2.1 (by omega)]
        · intro he
          subst he
          exact ⟨⟨by omega, by omega⟩, rfl⟩
      · have ka : a.k ≠ 7 := fun g => h7 (.inl g)
        have kb : b.k ≠ 7 := fun g => h7 (.inr g)
        have e1 : okV (D + 1) true a = if a.k = 8 then false else okV D false a := if_neg ka
        have e2 : okV (D + 1) true b = if b.k = 8 then false else okV D false b := if_neg kb
        rw [e1] at h1
        rw [e2] at h2
        split at h1
        · cases h1
        split at h2
        · cases h2
        rw [show smV (D + 1) true a b = smV D false a b from if_neg h7]
        exact sm_eq D false a b (e + 1) h1 h2 n1 n2 l1 l2
  | D + 1, false, a, b, e, h1, h2, n1, n2, l1, l2 => by
    cases e with
    | zero => exact n1.elim
    | succ e =>
      have ka := ok_kind h1
      have kb := ok_kind h2
      obtain ⟨_, _, na, sa, pa⟩ := n1
      obtain ⟨_, _, nb, sb, pb⟩ := n2
      have es : smV (D + 1) false a b = (decide (a.k = b.k) && (if a.k = 1 ∨ a.k = 6 then a.n == b.n else if a.k = 2 then a.s.toList == b.s.toList else if a.k = 3 then (a.n != 0) == (b.n != 0) else smL (smV D (decide (a.k = 5))) a.l b.l)) := rfl
      rw [es, Bool.and_eq_true, decide_eq_true_eq]
      by_cases hk : a.k = b.k
      · have hs2 : a.k ≠ 2 → a.s = b.s := fun g => by
          have va : vss a = ⟨#[]⟩ := if_neg (by omega)
          have vb : vss b = ⟨#[]⟩ := if_neg (by omega)
          rw [sa, sb, va, vb]
        have hl0 : ¬ (a.k = 4 ∨ a.k = 5) → a.l = b.l := fun g => by rw [l1.1 g, l2.1 (by omega)]
        have hn0 : ¬ (a.k = 1 ∨ a.k = 6) → a.k ≠ 3 → a.n = b.n := fun g g3 => by
          have va : vnn a = 0 := (if_neg g).trans (if_neg g3)
          have vb : vnn b = 0 := (if_neg (by omega)).trans (if_neg (by omega))
          rw [na, nb, va, vb]
        by_cases k1 : a.k = 1 ∨ a.k = 6
        · rw [if_pos k1, beq_iff_eq]
          exact ⟨fun g => vt_ext hk g.2 (hs2 (by omega)) (hl0 (by omega)), fun g => by subst g; exact ⟨rfl, rfl⟩⟩
        · rw [if_neg k1]
          by_cases k2 : a.k = 2
          · rw [if_pos k2, bytes_same]
            exact ⟨fun g => vt_ext hk (hn0 k1 (by omega)) g.2 (hl0 (by omega)), fun g => by subst g; exact ⟨rfl, rfl⟩⟩
          · rw [if_neg k2]
            by_cases k3 : a.k = 3
            · rw [if_pos k3, beq_iff_eq]
              refine ⟨fun g => vt_ext hk ?_ (hs2 k2) (hl0 (by omega)), fun g => by subst g; exact ⟨rfl, rfl⟩⟩
              have va : vnn a = if a.n != 0 then 1 else 0 := (if_neg k1).trans (if_pos k3)
              have vb : vnn b = if b.n != 0 then 1 else 0 := (if_neg (by omega)).trans (if_pos (by omega))
              rw [na, nb, va, vb, g.2]
            · rw [if_neg k3]
              have k45 : a.k = 4 ∨ a.k = 5 := by omega
              rw [show okV (D + 1) false a = a.l.all (okV D (decide (a.k = 5))) from if_pos k45] at h1
              rw [show okV (D + 1) false b = b.l.all (okV D (decide (b.k = 5))) from if_pos (by omega), ← hk] at h2
              rw [smL_eq (smV D (decide (a.k = 5))) a.l b.l (fun x hx y hy => sm_eq D _ x y e (List.all_eq_true.1 h1 x hx) (List.all_eq_true.1 h2 y hy) (pa x hx) (pb y hy) (l1.2 x hx) (l2.2 y hy))]
              exact ⟨fun g => vt_ext hk (hn0 k1 k3) (hs2 k2) g.2, fun g => by subst g; exact ⟨rfl, rfl⟩⟩
      · exact ⟨fun g => absurd g.1 hk, fun g => by subst g; exact absurd rfl hk⟩
/-- the same of what comes in as trees -/
theorem sm_nm {d D : Nat} {a b : Vt} (sa : SmT d a) (sb : SmT d b) (h1 : sdB D (nm d false a) = true) (h2 : sdB D (nm d false b) = true) : smV D false (nm d false a) (nm d false b) = true ↔ nm d false a = nm d false b := by
  unfold sdB msB at h1 h2
  simp only [Bool.and_eq_true] at h1 h2
  exact sm_eq D false _ _ d h1.1.1 h2.1.1 (nm_nf d false a sa) (nm_nf d false b sb) (nm_lf d false a sa) (nm_lf d false b sb)
end Go.Proofs.YtgnmedjknbbfhaaGreatDoor
namespace Go.Proofs.YtgnmedjknbbfhaaGreatDoor
open Go.RowKit Go.Lib
set_option linter.unusedSimpArgs false
set_option linter.unusedVariables false
set_option maxRecDepth 100000 in
set_option maxHeartbeats 4000000 in
theorem drsv_any (s : ByteArray) (w : World) : Calls Tryz.prog 92 #[.string s] w fun x w' => x = .returned (.bool (resB s)) ∧ w' = w := by
  go_enter Tryz.func92, Tryz.ntmps92
  go_wp2
  all_goals
    go_ret
    refine ⟨?_, rfl⟩
    first
      | (exfalso; simp_all; done)
      | (unfold resB; simp only [*, Bool.or_true, Bool.or_false, Bool.true_or, Bool.false_or]; done)
      | (unfold resB; simp_all; done)
      | (simp only [Ending.returned.injEq, Value.bool.injEq]; unfold resB; ac_rfl)
      | (unfold resB; simp [Bool.or_comm, Bool.or_left_comm, Bool.or_assoc]; done)
set_option maxRecDepth 100000 in
theorem din_any (n : Int) (w : World) : Calls Tryz.prog 27 #[.int .i64 n] w fun x w' => x = .returned (.bool (decide (-1152921504606846976 ≤ n) && decide (n ≤ 1152921504606846975))) ∧ w' = w := by
  by_cases h1 : -1152921504606846976 ≤ n
  · by_cases h2 : n ≤ 1152921504606846975
    · rw [decide_eq_true h1, decide_eq_true h2]
      go_enter Tryz.func27, Tryz.ntmps27
      go_wp2
      all_goals
        go_ret
        exact ⟨by simp [*], rfl⟩
    · rw [decide_eq_true h1, decide_eq_false h2]
      go_enter Tryz.func27, Tryz.ntmps27
      go_wp2
      all_goals
        go_ret
        exact ⟨by simp [*], rfl⟩
  · rw [decide_eq_false h1, Bool.false_and]
    go_enter Tryz.func27, Tryz.ntmps27
    go_wp2
    all_goals
      go_ret
      exact ⟨by simp [*], rfl⟩
set_option maxRecDepth 100000 in
theorem dname_any (s : ByteArray) (hs : s.size ≤ 268435456) (w : World) : Calls Tryz.prog 64 #[.string s] w fun x w' => x = .returned (.bool (clB s)) ∧ Only (fun _ => False) w w' := by
  have HC : Hid (Calls Tryz.prog 91 #[.string s] w fun e w' => e = .returned (.bool (nameB s)) ∧ Only (fun _ => False) w w') := rName_any s hs w
  have HR : Hid (∀ w1, Calls Tryz.prog 92 #[.string s] w1 fun e w' => e = .returned (.bool (resB s)) ∧ w' = w1) := fun w1 => drsv_any s w1
  unfold clB
  obtain ⟨b1, hb1⟩ : ∃ b, b = nameB s := ⟨_, rfl⟩
  obtain ⟨b2, hb2⟩ : ∃ b, b = resB s := ⟨_, rfl⟩
  rw [← hb1] at HC ⊢
  rw [← hb2] at HR ⊢
  clear hb1 hb2 hs
  go_enter Tryz.func64, Tryz.ntmps64
  go_wp2_with fail
  refine (show Calls Tryz.prog 91 _ _ _ from HC.out).mono ?_
  rintro e w1 ⟨rfl, o1⟩
  have O1 : Hid (Only (fun _ => False) w w1) := o1
  clear HC o1
  cases b1 with
  | false =>
    go_wp2
    go_ret
    exact ⟨rfl, O1.out⟩
  | true =>
    go_wp2_with fail
    refine (show Calls Tryz.prog 92 _ _ _ from HR.out _).mono ?_
    rintro e w2 ⟨rfl, rfl⟩
    clear HR
    go_wp2
    go_ret
    exact ⟨rfl, O1.out⟩
/-- what Measure answers, as values -/
def mP (r : Int × Int × Bool) (w : World) (e : Ending) (w' : World) : Prop := e = .returned (.tuple #[.int .i64 r.1, .int .i64 r.2.1, .bool r.2.2]) ∧ Only (fun _ => False) w w'
set_option maxRecDepth 100000 in
set_option maxHeartbeats 2000000 in
theorem dz_left (k n : Int) (s : ByteArray) (ao : Option Addr) (L c : Nat) (left nest : Int) (h : left < 1) (w : World) : Calls Tryz.prog 42 #[vV k n s (.slice ao L c), .int .i64 left, .int .i64 nest] w (mP (0, 0, false) w) := by
  unfold vV mP
  have O0 : Hid (Only (fun _ => False) w w) := Only.refl _ _
  go_enter Tryz.func42, Tryz.ntmps42
  go_wp2
  go_ret3
  exact ⟨rfl, O0.out.alloc _⟩
set_option maxRecDepth 100000 in
set_option maxHeartbeats 2000000 in
theorem dz_nest (k n : Int) (s : ByteArray) (ao : Option Addr) (L c : Nat) (left nest : Int) (h1 : 1 ≤ left) (h : 32 < nest) (w : World) : Calls Tryz.prog 42 #[vV k n s (.slice ao L c), .int .i64 left, .int .i64 nest] w (mP (0, 0, false) w) := by
  unfold vV mP
  have O0 : Hid (Only (fun _ => False) w w) := Only.refl _ _
  go_enter Tryz.func42, Tryz.ntmps42
  go_wp2
  go_ret3
  exact ⟨rfl, O0.out.alloc _⟩
set_option maxRecDepth 100000 in
set_option maxHeartbeats 2000000 in
theorem dz_int (n : Int) (s : ByteArray) (ao : Option Addr) (L c : Nat) (left nest : Int) (h1 : 1 ≤ left) (h4 : nest ≤ 32) (w : World) : Calls Tryz.prog 42 #[vV 1 n s (.slice ao L c), .int .i64 left, .int .i64 nest] w (mP (1, 0, decide (-1152921504606846976 ≤ n) && decide (n ≤ 1152921504606846975)) w) := by
  unfold vV mP
  have O0 : Hid (Only (fun _ => False) w w) := Only.refl _ _
  have HI : Hid (∀ w1, Calls Tryz.prog 27 #[.int .i64 n] w1 fun x w' => x = .returned (.bool (decide (-1152921504606846976 ≤ n) && decide (n ≤ 1152921504606846975))) ∧ w' = w1) := din_any n
  obtain ⟨b, hb⟩ : ∃ b, b = (decide (-1152921504606846976 ≤ n) && decide (n ≤ 1152921504606846975)) := ⟨_, rfl⟩
  rw [← hb] at HI ⊢
  clear hb
  go_enter Tryz.func42, Tryz.ntmps42
  go_wp2_with fail
  refine (show Calls Tryz.prog 27 _ _ _ from HI.out _).mono ?_
  rintro e w1 ⟨rfl, rfl⟩
  clear HI
  go_wp2
  go_ret3
  exact ⟨rfl, O0.out.alloc _⟩
set_option maxRecDepth 100000 in
set_option maxHeartbeats 2000000 in
theorem dz_long (n : Int) (s : ByteArray) (ao : Option Addr) (L c : Nat) (left nest : Int) (h1 : 1 ≤ left) (h4 : nest ≤ 32) (g1 : 4096 < s.size) (w : World) : Calls Tryz.prog 42 #[vV 2 n s (.slice ao L c), .int .i64 left, .int .i64 nest] w (mP (1, 0, false) w) := by
  unfold vV mP
  have O0 : Hid (Only (fun _ => False) w w) := Only.refl _ _
  have g3 : ¬ (s.size : Int) ≤ 4096 := by omega
  clear g1
  go_enter Tryz.func42, Tryz.ntmps42
  go_wp2
  go_ret3
  exact ⟨rfl, O0.out.alloc _⟩
set_option maxRecDepth 100000 in
set_option maxHeartbeats 2000000 in
theorem dz_str (n : Int) (s : ByteArray) (ao : Option Addr) (L c : Nat) (left nest : Int) (h1 : 1 ≤ left) (h4 : nest ≤ 32) (g1 : s.size ≤ 4096) (g2 : ¬ stR s < s.size) (w : World) : Calls Tryz.prog 42 #[vV 2 n s (.slice ao L c), .int .i64 left, .int .i64 nest] w (mP (1, 0, true) w) := by
  unfold vV mP
  have O0 : Hid (Only (fun _ => False) w w) := Only.refl _ _
  obtain ⟨z, hz⟩ : ∃ z : Int, z = badR s := ⟨_, rfl⟩
  have HI : Hid (∀ w1, Calls Tryz.prog 63 #[.string s] w1 fun x w' => x = .returned (.int .i64 z) ∧ Only (fun _ => False) w1 w') := fun w1 => by
    have := bad_any s (by omega) w1
    rwa [← hz] at this
  have g3 : (s.size : Int) ≤ 4096 := by omega
  have g4 : z < 0 := by
    rw [hz]
    unfold badR
    rw [if_neg g2]
    omega
  clear g1 g2 hz
  go_enter Tryz.func42, Tryz.ntmps42
  go_wp2_with fail
  refine (show Calls Tryz.prog 63 _ _ _ from HI.out _).mono ?_
  rintro e w1 ⟨rfl, o1⟩
  have O1 : Hid (Only (fun _ => False) w w1) := (O0.out.alloc _).trans o1 (fun _ _ g => g)
  clear HI o1
  go_wp2
  go_ret3
  refine ⟨?_, O1.out⟩
  rfl
set_option maxRecDepth 100000 in
set_option maxHeartbeats 2000000 in
theorem dz_bad (n : Int) (s : ByteArray) (ao : Option Addr) (L c : Nat) (left nest : Int) (h1 : 1 ≤ left) (h4 : nest ≤ 32) (g1 : s.size ≤ 4096) (g2 : stR s < s.size) (w : World) : Calls Tryz.prog 42 #[vV 2 n s (.slice ao L c), .int .i64 left, .int .i64 nest] w (mP (1, 0, false) w) := by
  unfold vV mP
  have O0 : Hid (Only (fun _ => False) w w) := Only.refl _ _
  obtain ⟨z, hz⟩ : ∃ z : Int, z = badR s := ⟨_, rfl⟩
  have HI : Hid (∀ w1, Calls Tryz.prog 63 #[.string s] w1 fun x w' => x = .returned (.int .i64 z) ∧ Only (fun _ => False) w1 w') := fun w1 => by
    have := bad_any s (by omega) w1
    rwa [← hz] at this
  have g3 : (s.size : Int) ≤ 4096 := by omega
  have g4 : ¬ z < 0 := by
    rw [hz]
    unfold badR
    rw [if_pos g2]
    omega
  clear g1 g2 hz
  go_enter Tryz.func42, Tryz.ntmps42
  go_wp2_with fail
  refine (show Calls Tryz.prog 63 _ _ _ from HI.out _).mono ?_
  rintro e w1 ⟨rfl, o1⟩
  have O1 : Hid (Only (fun _ => False) w w1) := (O0.out.alloc _).trans o1 (fun _ _ g => g)
  clear HI o1
  go_wp2
  go_ret3
  refine ⟨?_, O1.out⟩
  show Ending.returned (.tuple #[.int .i64 1, .int .i64 0, .bool (decide (z < 0))]) = _
  rw [decide_eq_false (p := z < 0) (by omega)]
set_option maxRecDepth 100000 in
set_option maxHeartbeats 2000000 in
theorem dz_bool (n : Int) (s : ByteArray) (ao : Option Addr) (L c : Nat) (left nest : Int) (h1 : 1 ≤ left) (h4 : nest ≤ 32) (w : World) : Calls Tryz.prog 42 #[vV 3 n s (.slice ao L c), .int .i64 left, .int .i64 nest] w (mP (1, 0, true) w) := by
  unfold vV mP
  have O0 : Hid (Only (fun _ => False) w w) := Only.refl _ _
  go_enter Tryz.func42, Tryz.ntmps42
  go_wp2
  go_ret3
  exact ⟨rfl, O0.out.alloc _⟩
set_option maxRecDepth 100000 in
set_option maxHeartbeats 2000000 in
theorem dz_box_lo (n : Int) (s : ByteArray) (ao : Option Addr) (L c : Nat) (left nest : Int) (h1 : 1 ≤ left) (h4 : nest ≤ 32) (g1 : decide (1 ≤ n) = false) (w : World) : Calls Tryz.prog 42 #[vV 6 n s (.slice ao L c), .int .i64 left, .int .i64 nest] w (mP (1, 0, false) w) := by
  unfold vV mP
  have O0 : Hid (Only (fun _ => False) w w) := Only.refl _ _
  go_enter Tryz.func42, Tryz.ntmps42
  go_wp2_with fail
  go_quiet (fail)
  go_wp2
  go_ret3
  exact ⟨rfl, (O0.out.alloc _).drewN _⟩
set_option maxRecDepth 100000 in
set_option maxHeartbeats 2000000 in
theorem dz_box_hi (n : Int) (s : ByteArray) (ao : Option Addr) (L c : Nat) (left nest : Int) (h1 : 1 ≤ left) (h4 : nest ≤ 32) (g1 : decide (1 ≤ n) = true) (g2 : decide (n ≤ 1048576) = false) (w : World) : Calls Tryz.prog 42 #[vV 6 n s (.slice ao L c), .int .i64 left, .int .i64 nest] w (mP (1, 0, false) w) := by
  unfold vV mP
  have O0 : Hid (Only (fun _ => False) w w) := Only.refl _ _
  go_enter Tryz.func42, Tryz.ntmps42
  go_wp2_with fail
  go_quiet (fail)
  go_wp2
  go_ret3
  exact ⟨rfl, (O0.out.alloc _).drewN _⟩
set_option maxRecDepth 100000 in
set_option maxHeartbeats 2000000 in
theorem dz_box (n : Int) (s : ByteArray) (ao : Option Addr) (L c : Nat) (left nest : Int) (h1 : 1 ≤ left) (h4 : nest ≤ 32) (g1 : decide (1 ≤ n) = true) (g2 : decide (n ≤ 1048576) = true) (w : World) : Calls Tryz.prog 42 #[vV 6 n s (.slice ao L c), .int .i64 left, .int .i64 nest] w (mP (1, 0, true) w) := by
  unfold vV mP
  have O0 : Hid (Only (fun _ => False) w w) := Only.refl _ _
  go_enter Tryz.func42, Tryz.ntmps42
  go_wp2_with fail
  go_quiet (fail)
  go_wp2
  go_ret3
  exact ⟨rfl, (O0.out.alloc _).drewN _⟩
set_option maxRecDepth 100000 in
set_option maxHeartbeats 2000000 in
theorem dz_call (n : Int) (s : ByteArray) (ao : Option Addr) (L c : Nat) (left nest : Int) (h1 : 1 ≤ left) (h4 : nest ≤ 32) (g1 : s.size ≤ 268435456) (w : World) : Calls Tryz.prog 42 #[vV 7 n s (.slice ao L c), .int .i64 left, .int .i64 nest] w (mP (1, 0, clB s) w) := by
  unfold vV mP
  have O0 : Hid (Only (fun _ => False) w w) := Only.refl _ _
  have HI : Hid (∀ w1, Calls Tryz.prog 64 #[.string s] w1 fun x w' => x = .returned (.bool (clB s)) ∧ Only (fun _ => False) w1 w') := dname_any s g1
  obtain ⟨b, hb⟩ : ∃ b, b = clB s := ⟨_, rfl⟩
  rw [← hb] at HI ⊢
  clear hb g1
  go_enter Tryz.func42, Tryz.ntmps42
  go_wp2_with fail
  refine (show Calls Tryz.prog 64 _ _ _ from HI.out _).mono ?_
  rintro e w1 ⟨rfl, o1⟩
  have O1 : Hid (Only (fun _ => False) w w1) := (O0.out.alloc _).trans o1 (fun _ _ g => g)
  clear HI o1
  go_wp2
  go_ret3
  exact ⟨rfl, O1.out⟩
set_option maxRecDepth 100000 in
set_option maxHeartbeats 2000000 in
theorem dz_none (k n : Int) (s : ByteArray) (ao : Option Addr) (L c : Nat) (left nest : Int) (h1 : 1 ≤ left) (h4 : nest ≤ 32) (e1 : (k == 1) = false) (e2 : (k == 2) = false) (e3 : (k == 3) = false) (e4 : (k == 4) = false) (e5 : (k == 5) = false) (e6 : (k == 6) = false) (e7 : (k == 7) = false) (w : World) : Calls Tryz.prog 42 #[vV k n s (.slice ao L c), .int .i64 left, .int .i64 nest] w (mP (0, 0, false) w) := by
  unfold vV mP
  have O0 : Hid (Only (fun _ => False) w w) := Only.refl _ _
  go_enter Tryz.func42, Tryz.ntmps42
  go_wp2
  go_ret3
  exact ⟨rfl, O0.out.alloc _⟩
/-- Measure, of trees of depth d -/
def MzC (d : Nat) : Prop := ∀ (t : Vt) (lv : Value) (w : World) (S : Nat → Prop) (left nest : Int), VsAt w S d t.l lv → (∃ e, SmT e t) → 0 ≤ left → left ≤ 1024 → 0 ≤ nest → nest ≤ 1000 → Calls Tryz.prog 42 #[vV t.k t.n t.s lv, .int .i64 left, .int .i64 nest] w (mP (mz d t left nest) w)
set_option maxRecDepth 100000 in
set_option maxHeartbeats 8000000 in
theorem dz_list4 (d : Nat) (l : List Vt) (n : Int) (s : ByteArray) (ao : Option Addr) (c : Nat) (left nest : Int) (h1 : 1 ≤ left) (h2 : left ≤ 1024) (h3 : 0 ≤ nest) (h4 : nest ≤ 32) (hL : l.length ≤ 1048576) (hsm : ∀ x ∈ l, ∃ e, SmT e x) (w : World) (S : Nat → Prop) (hv : VsAt w S (d + 1) l (.slice ao l.length c)) (H : MzC d) : Calls Tryz.prog 42 #[vV 4 n s (.slice ao l.length c), .int .i64 left, .int .i64 nest] w (mP (mzL (fun x lf => mz d x lf (nest + 1)) true left l 1 0) w) := by
  obtain ⟨ao', cap', hva, hcap, hl⟩ := hv
  obtain ⟨rfl, rfl⟩ : ao = ao' ∧ c = cap' := by
    injection hva with q1 q2 q3
    exact ⟨q1, q3⟩
  obtain ⟨f, hf⟩ : ∃ f : Vt → Int → Int × Int × Bool, f = fun x lf => mz d x lf (nest + 1) := ⟨_, rfl⟩
  have HP : Hid (∀ (i : Nat) (x : Vt), l[i]? = some x → ∃ g k lx, ao = some ⟨g, k, none⟩ ∧ (w.cell? ⟨g, k + i * 4, none⟩ = some (.int .i64 x.k) ∧ w.cell? ⟨g, k + i * 4 + 1, none⟩ = some (.int .i64 x.n) ∧ w.cell? ⟨g, k + i * 4 + 2, none⟩ = some (.string x.s) ∧ w.cell? ⟨g, k + i * 4 + 3, none⟩ = some lx) ∧ ∀ w1 lf, Only (fun _ => False) w w1 → 0 ≤ lf → lf ≤ 1024 → Calls Tryz.prog 42 #[.agg #[.int .i64 x.k, .int .i64 x.n, .string x.s, lx], .int .i64 lf, .int .i64 (nest + 1)] w1 fun e w' => e = .returned (.tuple #[.int .i64 (f x lf).1, .int .i64 (f x lf).2.1, .bool (f x lf).2.2]) ∧ Only (fun _ => False) w1 w') := by
    intro i x hx
    obtain ⟨g, k, lx, p1, p2, p3, p4⟩ := hl i x hx
    refine ⟨g, k, lx, p1, p3, fun w1 lf o1 q1 q2 => ?_⟩
    rw [hf]
    exact H x lx w1 S lf (nest + 1) (p4.only o1) (hsm x (List.mem_of_getElem? hx)) q1 q2 (by omega) (by omega)
  have HF : Hid (∀ x lf, (f x lf).2.2 = true → 1 ≤ (f x lf).1 ∧ (f x lf).1 ≤ lf ∧ 0 ≤ (f x lf).2.1 ∧ (f x lf).2.1 ≤ 32) := by
    intro x lf
    rw [hf]
    exact mz_bd d x lf (nest + 1)
  rw [← hf]
  obtain ⟨R, hR⟩ : ∃ R, R = mzL f true left l 1 0 := ⟨_, rfl⟩
  have HR : Hid (R = mzL f true left l 1 0) := hR
  obtain ⟨N, hN⟩ : ∃ N, N = l.length := ⟨_, rfl⟩
  have HNN : Hid (N = l.length ∧ N ≤ 1048576) := ⟨hN, by omega⟩
  rw [← hN, ← hR]
  clear hN hR hL hsm H hl hcap hva hf
  unfold mP vV
  obtain ⟨B, hB⟩ : ∃ B, B = w.heap.size := ⟨_, rfl⟩
  obtain ⟨w0, hw0⟩ : ∃ w0, w0 = w.alloc (.cells #[.int .i64 4, .int .i64 n, .string s, .slice ao N c] 45) := ⟨_, rfl⟩
  have HO : Hid (Only (fun _ => False) w w0) := by rw [hw0]; exact (Only.refl _ w).alloc _
  have HX : Hid (w0.heap[B]? = some (.cells #[.int .i64 4, .int .i64 n, .string s, .slice ao N c] 45)) := by rw [hw0]; exact valloc_at _ _ _ hB
  go_enter Tryz.func42, Tryz.ntmps42
  go_wp2
  rw [← hB, ← hw0]
  clear hB hw0
  go_loopw [6, 7, 9] (fun r6 r7 r9 wr => ∃ (i : Nat) (z p : Int), r6 = .int .i64 z ∧ r7 = .int .i64 p ∧ r9 = .int .i64 (i : Int) ∧ i ≤ N ∧ Hid (R = mzL f true left (l.drop i) z p ∧ (1 ≤ z ∧ z ≤ left ∧ 0 ≤ p ∧ p ≤ 32) ∧ Only (fun _ => False) w0 wr)) (fun _ _ r9 _ => N - vuOf r9)
  case atStart => exact ⟨0, 1, 0, rfl, rfl, rfl, Nat.zero_le _, HR.out, ⟨by decide, h1, by decide, by decide⟩, Only.refl _ _⟩
  case round =>
    obtain ⟨i, z, p, rfl, rfl, rfl, hi, HI⟩ := hrel
    obtain ⟨w1, hw1⟩ : ∃ w1, w1 = wr := ⟨_, rfl⟩
    rw [← hw1] at HI ⊢
    clear hw1
    obtain ⟨hRz, ⟨b1, b2, b3, b4⟩, oI⟩ := HI.out
    have hX := (oI.block B (Array.getElem?_eq_some_iff.1 HX.out).1 (fun g => g)).trans HX.out
    have b0 := vblk_cells hX 0
    have b5 := vblk_cells hX 3
    simp only [List.getElem?_toArray, List.getElem?_cons_zero, List.getElem?_cons_succ] at b0 b5
    clear hX
    have hNl := HNN.out.1
    have hN4 := HNN.out.2
    have OI : Hid (Only (fun _ => False) w0 w1) := oI
    by_cases hiN : i < N
    · obtain ⟨x, hx⟩ : ∃ x, l[i]? = some x := ⟨l[i]'(by omega), List.getElem?_eq_getElem (by omega)⟩
      obtain ⟨g, k, lx, rfl, ⟨c0, c1, c2, c3⟩, hcall⟩ := HP.out i x hx
      have oo := HO.out.trans oI (fun _ _ g => g)
      have c0 := oo.cell c0 (fun g => g)
      have c1 := oo.cell c1 (fun g => g)
      have c2 := oo.cell c2 (fun g => g)
      have c3 := oo.cell c3 (fun g => g)
      have hdr : l.drop i = x :: l.drop (i + 1) := by
        have hlt : i < l.length := by omega
        rw [List.drop_eq_getElem_cons hlt]
        have := List.getElem?_eq_getElem hlt
        rw [hx] at this
        injection this with this
        rw [← this]
      rw [hdr] at hRz
      unfold mzL at hRz
      have HFx := HF.out x (left - z)
      have HC0 := hcall w1 (left - z) oo (by omega) (by omega)
      obtain ⟨q, hq⟩ : ∃ q, q = f x (left - z) := ⟨_, rfl⟩
      rw [← hq] at hRz HFx HC0
      obtain ⟨n1, d1, ok⟩ := q
      dsimp only at hRz HFx HC0
      have HC : Hid _ := HC0
      have i1 : (i : Int) < (N : Int) := by omega
      have i0 : (0 : Int) ≤ (i : Int) := by omega
      have hi4 : i ≤ 1048576 := by omega
      have HBd : Hid (i < N) := hiN
      obtain ⟨x0, hx0⟩ : ∃ x0, x0 = x.k := ⟨_, rfl⟩
      obtain ⟨x1, hx1⟩ : ∃ x1, x1 = x.n := ⟨_, rfl⟩
      obtain ⟨x2, hx2⟩ : ∃ x2, x2 = x.s := ⟨_, rfl⟩
      rw [← hx0, ← hx1, ← hx2] at HC
      rw [← hx0] at c0 hRz
      rw [← hx1] at c1
      rw [← hx2] at c2
      clear hx0 hx1 hx2 hcall oo hx hdr hq HC0 HI oI hNl hN4 hiN hi HP
      by_cases h7 : x0 = 7
      · rw [if_pos ⟨rfl, h7⟩] at hRz
        have HE : Hid (R = (0, 0, false)) := hRz
        subst h7
        clear hRz HFx HC b1 b2 b3 b4
        go_wp2
        go_ret3
        refine ⟨by rw [HE.out]; rfl, HO.out.trans OI.out (fun _ _ g => g)⟩
      rw [if_neg (fun g => h7 g.2)] at hRz
      have f1 : left - z ≤ 1024 := by omega
      have f2 : 0 ≤ left - z := by omega
      go_wp2_with fail
      refine (show Calls Tryz.prog 42 _ _ _ from HC.out).mono ?_
      rintro e w2 ⟨rfl, o2⟩
      have HK : Hid (Only (fun _ => False) w0 w2) := OI.out.trans o2 (fun _ _ g => g)
      clear HC OI o2 c0 c1 c2 c3 b0 b5
      cases ok with
      | false =>
        rw [if_neg (by decide)] at hRz
        have HE : Hid (R = (0, 0, false)) := hRz
        clear hRz HFx b1 b2 b3 b4 f1 f2
        go_wp2
        go_ret3
        refine ⟨by rw [HE.out]; rfl, HO.out.trans HK.out (fun _ _ g => g)⟩
      | true =>
        rw [if_pos rfl] at hRz
        obtain ⟨a1, a2, a3, a4⟩ := HFx rfl
        have HE : Hid (R = mzL f true left (l.drop (i + 1)) (z + n1) (max p d1) ∧ (1 ≤ z + n1 ∧ z + n1 ≤ left ∧ 0 ≤ max p d1 ∧ max p d1 ≤ 32)) := ⟨hRz, by omega, by omega, by omega, by omega⟩
        have f3 : z + n1 ≤ 1024 := by omega
        clear hRz HFx
        go_wp2
        all_goals
          go_roundw
          case rel => exact ⟨i + 1, z + n1, max p d1, rfl, rfl, by go_num, by have := HBd.out; omega, HE.out.1, HE.out.2, HK.out⟩
          case measure => simp only [vuOf]; have := HBd.out; omega
    · obtain rfl : i = N := by omega
      have i1 : ¬ (i : Int) < (i : Int) := by omega
      rw [List.drop_eq_nil_of_le (show l.length ≤ i by omega)] at hRz
      have HE : Hid (R = (z, p + 1, decide (p < 32))) := hRz
      clear hRz HI oI hNl hN4 hiN hi
      go_wp2
      go_ret3
      exact ⟨by rw [HE.out]; rfl, HO.out.trans OI.out (fun _ _ g => g)⟩
set_option maxRecDepth 100000 in
set_option maxHeartbeats 8000000 in
theorem dz_list5 (d : Nat) (l : List Vt) (n : Int) (s : ByteArray) (ao : Option Addr) (c : Nat) (left nest : Int) (h1 : 1 ≤ left) (h2 : left ≤ 1024) (h3 : 0 ≤ nest) (h4 : nest ≤ 32) (hL : l.length ≤ 1048576) (hsm : ∀ x ∈ l, ∃ e, SmT e x) (w : World) (S : Nat → Prop) (hv : VsAt w S (d + 1) l (.slice ao l.length c)) (H : MzC d) : Calls Tryz.prog 42 #[vV 5 n s (.slice ao l.length c), .int .i64 left, .int .i64 nest] w (mP (mzL (fun x lf => mz d x lf (nest + 1)) false left l 1 0) w) := by
  obtain ⟨ao', cap', hva, hcap, hl⟩ := hv
  obtain ⟨rfl, rfl⟩ : ao = ao' ∧ c = cap' := by
    injection hva with q1 q2 q3
    exact ⟨q1, q3⟩
  obtain ⟨f, hf⟩ : ∃ f : Vt → Int → Int × Int × Bool, f = fun x lf => mz d x lf (nest + 1) := ⟨_, rfl⟩
  have HP : Hid (∀ (i : Nat) (x : Vt), l[i]? = some x → ∃ g k lx, ao = some ⟨g, k, none⟩ ∧ (w.cell? ⟨g, k + i * 4, none⟩ = some (.int .i64 x.k) ∧ w.cell? ⟨g, k + i * 4 + 1, none⟩ = some (.int .i64 x.n) ∧ w.cell? ⟨g, k + i * 4 + 2, none⟩ = some (.string x.s) ∧ w.cell? ⟨g, k + i * 4 + 3, none⟩ = some lx) ∧ ∀ w1 lf, Only (fun _ => False) w w1 → 0 ≤ lf → lf ≤ 1024 → Calls Tryz.prog 42 #[.agg #[.int .i64 x.k, .int .i64 x.n, .string x.s, lx], .int .i64 lf, .int .i64 (nest + 1)] w1 fun e w' => e = .returned (.tuple #[.int .i64 (f x lf).1, .int .i64 (f x lf).2.1, .bool (f x lf).2.2]) ∧ Only (fun _ => False) w1 w') := by
    intro i x hx
    obtain ⟨g, k, lx, p1, p2, p3, p4⟩ := hl i x hx
    refine ⟨g, k, lx, p1, p3, fun w1 lf o1 q1 q2 => ?_⟩
    rw [hf]
    exact H x lx w1 S lf (nest + 1) (p4.only o1) (hsm x (List.mem_of_getElem? hx)) q1 q2 (by omega) (by omega)
  have HF : Hid (∀ x lf, (f x lf).2.2 = true → 1 ≤ (f x lf).1 ∧ (f x lf).1 ≤ lf ∧ 0 ≤ (f x lf).2.1 ∧ (f x lf).2.1 ≤ 32) := by
    intro x lf
    rw [hf]
    exact mz_bd d x lf (nest + 1)
  rw [← hf]
  obtain ⟨R, hR⟩ : ∃ R, R = mzL f false left l 1 0 := ⟨_, rfl⟩
  have HR : Hid (R = mzL f false left l 1 0) := hR
  obtain ⟨N, hN⟩ : ∃ N, N = l.length := ⟨_, rfl⟩
  have HNN : Hid (N = l.length ∧ N ≤ 1048576) := ⟨hN, by omega⟩
  rw [← hN, ← hR]
  clear hN hR hL hsm H hl hcap hva hf
  unfold mP vV
  obtain ⟨B, hB⟩ : ∃ B, B = w.heap.size := ⟨_, rfl⟩
  obtain ⟨w0, hw0⟩ : ∃ w0, w0 = w.alloc (.cells #[.int .i64 5, .int .i64 n, .string s, .slice ao N c] 45) := ⟨_, rfl⟩
  have HO : Hid (Only (fun _ => False) w w0) := by rw [hw0]; exact (Only.refl _ w).alloc _
  have HX : Hid (w0.heap[B]? = some (.cells #[.int .i64 5, .int .i64 n, .string s, .slice ao N c] 45)) := by rw [hw0]; exact valloc_at _ _ _ hB
  go_enter Tryz.func42, Tryz.ntmps42
  go_wp2
  rw [← hB, ← hw0]
  clear hB hw0
  go_loopw [6, 7, 9] (fun r6 r7 r9 wr => ∃ (i : Nat) (z p : Int), r6 = .int .i64 z ∧ r7 = .int .i64 p ∧ r9 = .int .i64 (i : Int) ∧ i ≤ N ∧ Hid (R = mzL f false left (l.drop i) z p ∧ (1 ≤ z ∧ z ≤ left ∧ 0 ≤ p ∧ p ≤ 32) ∧ Only (fun _ => False) w0 wr)) (fun _ _ r9 _ => N - vuOf r9)
  case atStart => exact ⟨0, 1, 0, rfl, rfl, rfl, Nat.zero_le _, HR.out, ⟨by decide, h1, by decide, by decide⟩, Only.refl _ _⟩
  case round =>
    obtain ⟨i, z, p, rfl, rfl, rfl, hi, HI⟩ := hrel
    obtain ⟨w1, hw1⟩ : ∃ w1, w1 = wr := ⟨_, rfl⟩
    rw [← hw1] at HI ⊢
    clear hw1
    obtain ⟨hRz, ⟨b1, b2, b3, b4⟩, oI⟩ := HI.out
    have hX := (oI.block B (Array.getElem?_eq_some_iff.1 HX.out).1 (fun g => g)).trans HX.out
    have b0 := vblk_cells hX 0
    have b5 := vblk_cells hX 3
    simp only [List.getElem?_toArray, List.getElem?_cons_zero, List.getElem?_cons_succ] at b0 b5
    clear hX
    have hNl := HNN.out.1
    have hN4 := HNN.out.2
    have OI : Hid (Only (fun _ => False) w0 w1) := oI
    by_cases hiN : i < N
    · obtain ⟨x, hx⟩ : ∃ x, l[i]? = some x := ⟨l[i]'(by omega), List.getElem?_eq_getElem (by omega)⟩
      obtain ⟨g, k, lx, rfl, ⟨c0, c1, c2, c3⟩, hcall⟩ := HP.out i x hx
      have oo := HO.out.trans oI (fun _ _ g => g)
      have c0 := oo.cell c0 (fun g => g)
      have c1 := oo.cell c1 (fun g => g)
      have c2 := oo.cell c2 (fun g => g)
      have c3 := oo.cell c3 (fun g => g)
      have hdr : l.drop i = x :: l.drop (i + 1) := by
        have hlt : i < l.length := by omega
        rw [List.drop_eq_getElem_cons hlt]
        have := List.getElem?_eq_getElem hlt
        rw [hx] at this
        injection this with this
        rw [← this]
      rw [hdr] at hRz
      unfold mzL at hRz
      have HFx := HF.out x (left - z)
      have HC0 := hcall w1 (left - z) oo (by omega) (by omega)
      obtain ⟨q, hq⟩ : ∃ q, q = f x (left - z) := ⟨_, rfl⟩
      rw [← hq] at hRz HFx HC0
      obtain ⟨n1, d1, ok⟩ := q
      dsimp only at hRz HFx HC0
      have HC : Hid _ := HC0
      have i1 : (i : Int) < (N : Int) := by omega
      have i0 : (0 : Int) ≤ (i : Int) := by omega
      have hi4 : i ≤ 1048576 := by omega
      have HBd : Hid (i < N) := hiN
      obtain ⟨x0, hx0⟩ : ∃ x0, x0 = x.k := ⟨_, rfl⟩
      obtain ⟨x1, hx1⟩ : ∃ x1, x1 = x.n := ⟨_, rfl⟩
      obtain ⟨x2, hx2⟩ : ∃ x2, x2 = x.s := ⟨_, rfl⟩
      rw [← hx0, ← hx1, ← hx2] at HC
      rw [← hx0] at c0 hRz
      rw [← hx1] at c1
      rw [← hx2] at c2
      clear hx0 hx1 hx2 hcall oo hx hdr hq HC0 HI oI hNl hN4 hiN hi HP
      rw [if_neg (fun g => by cases g.1)] at hRz
      have f1 : left - z ≤ 1024 := by omega
      have f2 : 0 ≤ left - z := by omega
      go_wp2_with fail
      refine (show Calls Tryz.prog 42 _ _ _ from HC.out).mono ?_
      rintro e w2 ⟨rfl, o2⟩
      have HK : Hid (Only (fun _ => False) w0 w2) := OI.out.trans o2 (fun _ _ g => g)
      clear HC OI o2 c0 c1 c2 c3 b0 b5
      cases ok with
      | false =>
        rw [if_neg (by decide)] at hRz
        have HE : Hid (R = (0, 0, false)) := hRz
        clear hRz HFx b1 b2 b3 b4 f1 f2
        go_wp2
        go_ret3
        refine ⟨by rw [HE.out]; rfl, HO.out.trans HK.out (fun _ _ g => g)⟩
      | true =>
        rw [if_pos rfl] at hRz
        obtain ⟨a1, a2, a3, a4⟩ := HFx rfl
        have HE : Hid (R = mzL f false left (l.drop (i + 1)) (z + n1) (max p d1) ∧ (1 ≤ z + n1 ∧ z + n1 ≤ left ∧ 0 ≤ max p d1 ∧ max p d1 ≤ 32)) := ⟨hRz, by omega, by omega, by omega, by omega⟩
        have f3 : z + n1 ≤ 1024 := by omega
        clear hRz HFx
        go_wp2
        all_goals
          go_roundw
          case rel => exact ⟨i + 1, z + n1, max p d1, rfl, rfl, by go_num, by have := HBd.out; omega, HE.out.1, HE.out.2, HK.out⟩
          case measure => simp only [vuOf]; have := HBd.out; omega
    · obtain rfl : i = N := by omega
      have i1 : ¬ (i : Int) < (i : Int) := by omega
      rw [List.drop_eq_nil_of_le (show l.length ≤ i by omega)] at hRz
      have HE : Hid (R = (z, p + 1, decide (p < 32))) := hRz
      clear hRz HI oI hNl hN4 hiN hi
      go_wp2
      go_ret3
      exact ⟨by rw [HE.out]; rfl, HO.out.trans OI.out (fun _ _ g => g)⟩
theorem dz_any : ∀ d : Nat, MzC d
  | 0 => fun t lv w S left nest h => h.elim
  | d + 1 => by
    intro t lv w S left nest hv hs h1 h2 h3 h4
    have ih := dz_any d
    obtain ⟨e, hs⟩ := hs
    cases e with
    | zero => exact hs.elim
    | succ e =>
    obtain ⟨s1, s2, s3, s4, s5⟩ := hs
    obtain ⟨ao, cap, rfl⟩ := hv.form
    unfold mz
    by_cases c1 : left < 1 ∨ 32 < nest
    · rw [if_pos c1]
      by_cases c : left < 1
      · exact dz_left _ _ _ ao _ cap left nest c w
      · exact dz_nest _ _ _ ao _ cap left nest (by omega) (by omega) w
    rw [if_neg c1]
    have l1 : 1 ≤ left := by omega
    have n1 : nest ≤ 32 := by omega
    by_cases c2 : t.k = 4 ∨ t.k = 5
    · rw [if_pos c2]
      rcases c2 with c | c
      · rw [c]
        exact dz_list4 d t.l _ _ ao cap left nest l1 h2 h3 n1 s2 (fun x hx => ⟨e, s5 x hx⟩) w S hv ih
      · rw [c]
        exact dz_list5 d t.l _ _ ao cap left nest l1 h2 h3 n1 s2 (fun x hx => ⟨e, s5 x hx⟩) w S hv ih
    rw [if_neg c2]
    by_cases k1 : t.k = 1
    · rw [if_pos (by omega), if_neg (by omega), show alB t = (decide (-1152921504606846976 ≤ t.n) && decide (t.n ≤ 1152921504606846975)) from if_pos k1, k1]
      exact dz_int _ _ ao _ cap left nest l1 n1 w
    by_cases k2 : t.k = 2
    · rw [if_pos (by omega), if_neg (by omega), show alB t = (decide (t.s.size ≤ 4096) && vlB t.s) from (if_neg k1).trans (if_pos k2), k2]
      by_cases g : t.s.size ≤ 4096
      · rw [decide_eq_true g, Bool.true_and]
        by_cases b : stR t.s < t.s.size
        · rw [show vlB t.s = false from by cases hb : vlB t.s with | false => rfl | true => exact absurd b ((vl_st _).1 hb)]
          exact dz_bad _ _ ao _ cap left nest l1 n1 g b w
        · rw [(vl_st _).2 b]
          exact dz_str _ _ ao _ cap left nest l1 n1 g b w
      · rw [decide_eq_false g, Bool.false_and]
        exact dz_long _ _ ao _ cap left nest l1 n1 (by omega) w
    by_cases k3 : t.k = 3
    · rw [if_pos (by omega), if_neg (by omega), show alB t = true from (if_neg k1).trans ((if_neg k2).trans ((if_neg (by omega)).trans (decide_eq_true k3))), k3]
      exact dz_bool _ _ ao _ cap left nest l1 n1 w
    by_cases k6 : t.k = 6
    · rw [if_pos (by omega), if_neg (by omega), show alB t = (decide (1 ≤ t.n) && decide (t.n ≤ 1048576)) from (if_neg k1).trans ((if_neg k2).trans (if_pos k6)), k6]
      cases g1 : decide (1 ≤ t.n) with
      | false => rw [Bool.false_and]; exact dz_box_lo _ _ ao _ cap left nest l1 n1 g1 w
      | true =>
        cases g2 : decide (t.n ≤ 1048576) with
        | false => rw [Bool.and_false]; exact dz_box_hi _ _ ao _ cap left nest l1 n1 g1 g2 w
        | true => exact dz_box _ _ ao _ cap left nest l1 n1 g1 g2 w
    by_cases k7 : t.k = 7
    · rw [if_pos (by omega), if_pos k7, k7]
      exact dz_call _ _ ao _ cap left nest l1 n1 (by omega) w
    rw [if_neg (by omega)]
    have b : ∀ j : Int, t.k ≠ j → (t.k == j) = false := fun j h => beq_false_of_ne h
    exact dz_none _ _ _ ao _ cap left nest l1 n1 (b 1 k1) (b 2 k2) (b 3 k3) (b 4 (fun g => c2 (.inl g))) (b 5 (fun g => c2 (.inr g))) (b 6 k6) (b 7 k7) w
set_option maxRecDepth 100000 in
/-- Sound -/
theorem dsound_any {d : Nat} {t : Vt} {lv : Value} {w : World} {S : Nat → Prop} (hv : VsAt w S d t.l lv) (hs : ∃ e, SmT e t) : Calls Tryz.prog 22 #[vV t.k t.n t.s lv] w fun e w' => e = .returned (.bool (dsB d t)) ∧ Only (fun _ => False) w w' := by
  obtain ⟨ao, cap, rfl⟩ := hv.form
  obtain ⟨k, n, s, l⟩ := t
  dsimp only at hv ⊢
  obtain ⟨r, hr⟩ : ∃ r, r = mz d ⟨k, n, s, l⟩ 1024 0 := ⟨_, rfl⟩
  have HC : Hid (∀ w1, Only (fun _ => False) w w1 → Calls Tryz.prog 42 #[.agg #[.int .i64 k, .int .i64 n, .string s, .slice ao l.length cap], .int .i64 1024, .int .i64 0] w1 fun e w' => e = .returned (.tuple #[.int .i64 r.1, .int .i64 r.2.1, .bool r.2.2]) ∧ Only (fun _ => False) w1 w') := fun w1 o1 => by
    rw [hr]
    exact dz_any d ⟨k, n, s, l⟩ _ w1 S 1024 0 (hv.only o1) hs (by decide) (by decide) (by decide) (by decide)
  unfold dsB vV
  rw [← hr]
  obtain ⟨r1, r2, r3⟩ := r
  dsimp only at HC ⊢
  have O0 : Hid (Only (fun _ => False) w w) := Only.refl _ _
  obtain ⟨L, hL⟩ : ∃ L, L = l.length := ⟨_, rfl⟩
  rw [← hL] at HC ⊢
  clear hv hs hr hL
  go_enter Tryz.func22, Tryz.ntmps22
  go_wp2_with fail
  refine (show Calls Tryz.prog 42 _ _ _ from HC.out _ (O0.out.alloc _)).mono ?_
  rintro e w1 ⟨rfl, o1⟩
  have O1 : Hid (Only (fun _ => False) w w1) := (O0.out.alloc _).trans o1 (fun _ _ g => g)
  have cc : w1.cell? ⟨w.heap.size, 0, none⟩ = some (.int .i64 k) := by
    have R := (o1.block w.heap.size (by simp) (fun h => h)).trans (valloc_at _ _ _ rfl)
    exact vblk_cells R 0
  clear HC o1
  cases r3 with
  | false =>
    go_wp2
    go_ret
    exact ⟨rfl, O1.out⟩
  | true =>
    by_cases h7 : k = 7
    · subst h7
      go_wp2
      go_ret
      exact ⟨rfl, O1.out⟩
    · have e7 : (k != 7) = true := by simp [h7]
      have H7 : Hid (k ≠ 7) := h7
      clear h7
      go_wp2
      go_ret
      exact ⟨by simp [H7.out], O1.out⟩
end Go.Proofs.YtgnmedjknbbfhaaGreatDoor
namespace Go.Proofs.YtgnmedjknbbfhaaGreatDoor
open Go.RowKit Go.Lib
set_option linter.unusedSimpArgs false
set_option linter.unusedVariables false
theorem nm_sm : ∀ (d : Nat) (i : Bool) (t : Vt), SmT d t → SmT d (nm d i t)
  | 0, _, _, h => h.elim
  | d + 1, i, t, h => by
    obtain ⟨k, n, s, l⟩ := t
    obtain ⟨h1, h2, h3, h4, h5⟩ := h
    dsimp only at h1 h2 h3 h4 h5
    have z : ∀ m : Int, m ∈ [0, 1, 2, 3, 4, 5, 6, 7, 8] → (-9223372036854775808 : Int) ≤ m ∧ m ≤ 9223372036854775807 := fun m hm => by
      simp only [List.mem_cons, List.not_mem_nil, or_false] at hm
      omega
    have e0 : (⟨#[]⟩ : ByteArray).size ≤ 268435456 := Nat.zero_le _
    unfold nm
    dsimp only
    split
    · exact ⟨e0, Nat.zero_le _, z 1 (by simp), h4, fun x hx => by cases hx⟩
    split
    · exact ⟨h1, Nat.zero_le _, z 2 (by simp), z 0 (by simp), fun x hx => by cases hx⟩
    split
    · refine ⟨e0, Nat.zero_le _, z 3 (by simp), ?_, fun x hx => by cases hx⟩
      dsimp only
      split
      · exact z 1 (by simp)
      · exact z 0 (by simp)
    split
    · refine ⟨e0, by simpa using h2, z 4 (by simp), z 0 (by simp), fun x hx => ?_⟩
      obtain ⟨y, hy, rfl⟩ := List.mem_map.1 hx
      exact nm_sm d false y (h5 y hy)
    split
    · refine ⟨e0, by simpa using h2, z 5 (by simp), z 0 (by simp), fun x hx => ?_⟩
      obtain ⟨y, hy, rfl⟩ := List.mem_map.1 hx
      exact nm_sm d true y (h5 y hy)
    split
    · exact ⟨e0, Nat.zero_le _, z 6 (by simp), h4, fun x hx => by cases hx⟩
    split
    · exact ⟨h1, Nat.zero_le _, z 7 (by simp), z 0 (by simp), fun x hx => by cases hx⟩
    · exact ⟨e0, Nat.zero_le _, z 8 (by simp), z 0 (by simp), fun x hx => by cases hx⟩
/-- what a tree that came in has become as a value x, since block B: its own blocks, and what is known of its tree -/
def Vx (w : World) (B d : Nat) (t : Vt) (x : Value) : Prop := NiAt w B (2 * d + 1) false (nm d false t) x
theorem Vx.only {w w' : World} {B d : Nat} {t : Vt} {x : Value} {bs : Nat → Prop} (h : Vx w B d t x) (o : Only bs w w') (hb : ∀ b, B ≤ b → ¬ bs b) : Vx w' B d t x := NiAt.only h o hb
theorem value_calls {a : Vt} {va : Value} {d : Nat} {w : World} (ha : VsAt w (fun _ => True) d a.l va) (sa : SmT d a) : ∀ w1, Only (fun _ => False) w w1 → Calls Tryz.prog 25 #[.agg #[.int .i64 a.k, .int .i64 a.n, .string a.s, va]] w1 fun e w' => ∃ v, e = .returned v ∧ Hid (Vx w' w1.heap.size d a v ∧ Only (fun _ => False) w1 w') := fun w1 o1 => value_all d a va w1 _ (ha.only o1) sa
end Go.Proofs.YtgnmedjknbbfhaaGreatDoor
namespace Go.Proofs.YtgnmedjknbbfhaaGreatDoor
open Go.RowKit Go.Lib
set_option linter.unusedSimpArgs false
set_option linter.unusedVariables false
set_option maxRecDepth 100000 in
theorem measured7 (w : World) : Calls Tryz.prog 93 #[i7] w fun e w' => e = .returned (.tuple #[.agg #[.int .i64 1, .int .i64 0], .int .i64 0]) ∧ Only (fun _ => False) w w' := by
  have HV : Hid (Calls Tryz.prog 120 #[.pointer (some ⟨w.heap.size + 1, 0, none⟩), i7, .int .i64 0] ((w.alloc (.cells #[.int .i64 0, .int .i64 0] 149)).alloc (.cells #[.int .i64 0, .int .i64 0] 149)) fun e w' => e = .returned (.bool true) ∧ Only (fun b => b = w.heap.size + 1) ((w.alloc (.cells #[.int .i64 0, .int .i64 0] 149)).alloc (.cells #[.int .i64 0, .int .i64 0] 149)) w' ∧ VmB w' (w.heap.size + 1) (0 + 1) 0) := vval_int 7 (by omega) (by omega) (w.heap.size + 1) 0 0 0 _ (va_at (w.alloc (.cells #[.int .i64 0, .int .i64 0] 149)) _ _ (Array.size_push ..).symm) (by omega) (by omega)
  have ca : ((w.alloc (.cells #[.int .i64 0, .int .i64 0] 149)).alloc (.cells #[.int .i64 0, .int .i64 0] 149)).heap[w.heap.size]? = some (.cells #[.int .i64 0, .int .i64 0] 149) := (((Only.refl (fun _ => False) (w.alloc (.cells #[.int .i64 0, .int .i64 0] 149))).alloc _).block w.heap.size (by rw [show (w.alloc (.cells #[.int .i64 0, .int .i64 0] 149)).heap.size = w.heap.size + 1 from Array.size_push ..]; omega) (fun h => h)).trans (va_at w _ _ rfl)
  have CA : Hid (((w.alloc (.cells #[.int .i64 0, .int .i64 0] 149)).alloc (.cells #[.int .i64 0, .int .i64 0] 149)).heap[w.heap.size]? = some (.cells #[.int .i64 0, .int .i64 0] 149)) := ca
  have CZ : Hid (((w.alloc (.cells #[.int .i64 0, .int .i64 0] 149)).alloc (.cells #[.int .i64 0, .int .i64 0] 149)).heap.size = w.heap.size + 2) := (Array.size_push ..).trans (congrArg (· + 1) (Array.size_push ..))
  clear ca
  go_enter Tryz.func93, Tryz.ntmps93
  go_wp2_with fail
  refine (show Calls Tryz.prog 120 _ _ _ from HV.out).mono ?_
  rintro e w1 ⟨rfl, o1, m1⟩
  have O1 : Hid (Only (fun _ => False) w w1) := (((Only.refl (fun _ => False) w).alloc _).alloc _).trans o1 (fun k hk e => by omega)
  have h0 := (o1.block w.heap.size (by rw [CZ.out]; omega) (by omega)).trans CA.out
  have c0 := wr_cell h0 0
  have c1 := wr_cell h0 1
  have f0 := wr_froz h0 0
  have f1 := wr_froz h0 1
  have d0 := wr_cell m1 0
  have d1 := wr_cell m1 1
  simp only [List.getElem?_toArray, List.getElem?_cons_succ, List.getElem?_cons_zero, Int.zero_add] at c0 c1 d0 d1
  have q := set2 c0 c1 (.int .i64 1) (.int .i64 0)
  have Q : Hid (((w1.setCell ⟨w.heap.size, 0, none⟩ (.int .i64 1)).setCell ⟨w.heap.size, 1, none⟩ (.int .i64 0)).cell? ⟨w.heap.size, 0, none⟩ = some (.int .i64 1) ∧ ((w1.setCell ⟨w.heap.size, 0, none⟩ (.int .i64 1)).setCell ⟨w.heap.size, 1, none⟩ (.int .i64 0)).cell? ⟨w.heap.size, 1, none⟩ = some (.int .i64 0)) := q
  clear h0 CA CZ HV o1 m1 q
  go_wp2
  refine bodyPost_ret (results_two rfl _ _ w.heap.size Q.out.1 Q.out.2 rfl) rfl ?_
  exact ⟨rfl, (O1.out.setCell _ _ (fun g => by simp only at g; omega)).setCell _ _ (fun g => by simp only at g; omega)⟩
set_option maxRecDepth 100000 in
theorem check7 (w : World) : Calls Tryz.prog 67 #[i7] w fun e w' => e = .returned (.int .i64 0) ∧ Only (fun _ => False) w w' := by
  have HV : Hid (Calls Tryz.prog 93 #[i7] w fun e w' => e = .returned (.tuple #[.agg #[.int .i64 1, .int .i64 0], .int .i64 0]) ∧ Only (fun _ => False) w w') := measured7 w
  go_enter Tryz.func67, Tryz.ntmps67
  go_wp2_with fail
  refine (show Calls Tryz.prog 93 _ _ _ from HV.out).mono ?_
  rintro e w1 ⟨rfl, o1⟩
  have O1 : Hid (Only (fun _ => False) w w1) := o1
  clear HV o1
  go_wp2
  go_ret
  exact ⟨rfl, O1.out.alloc _⟩
set_option maxRecDepth 100000 in
theorem word7 (w : World) : Calls Tryz.prog 135 #[p7] w fun e w' => e = .returned (.string ⟨#[55]⟩) ∧ Only (fun _ => False) w w' := by
  have HV : Hid (∀ w1 g, w1.cell? ⟨g, 0, none⟩ = some p7 → Calls Tryz.prog 156 #[.slice (some ⟨g, 0, none⟩) 1 1] w1 fun e w' => e = .returned (.tuple #[.string ⟨#[55]⟩, .int .i64 0]) ∧ Only (fun _ => False) w1 w') := fun w1 g => text7 g w1
  go_enter Tryz.func135, Tryz.ntmps135
  go_wp2_with fail
  have hc : (w.alloc (.cells #[p7] 112)).cell? ⟨w.heap.size, 0, none⟩ = some p7 := (wr_cell (va_at w (.cells #[p7] 112) _ rfl) 0).trans rfl
  refine (show Calls Tryz.prog 156 _ _ _ from HV.out _ _ hc).mono ?_
  rintro e w1 ⟨rfl, o1⟩
  have O1 : Hid (Only (fun _ => False) w w1) := ((Only.refl (fun _ => False) w).alloc _).trans o1 (fun _ _ g => g)
  clear HV o1 hc
  go_wp2
  go_ret
  exact ⟨rfl, O1.out⟩
set_option maxRecDepth 100000 in
theorem join1 (w : World) (g : Nat) (c : Int) (hc : 1 ≤ c) (s : ByteArray) (hg : w.cell? ⟨g, 0, none⟩ = some (.string s)) : Calls Tryz.prog 108 #[.slice (some ⟨g, 0, none⟩) 1 c.toNat, .string ⟨#[32]⟩] w fun e w' => e = .returned (.string s) ∧ w' = w := by
  go_enter Tryz.func108, Tryz.ntmps108
  go_wp2
  go_ret
  exact ⟨rfl, rfl⟩
end Go.Proofs.YtgnmedjknbbfhaaGreatDoor
namespace Go.Proofs.YtgnmedjknbbfhaaGreatDoor
open Go.RowKit Go.Lib
set_option linter.unusedSimpArgs false
set_option linter.unusedVariables false
set_option maxRecDepth 100000 in
theorem add7 (w : World) : Calls Tryz.prog 109 #[.slice none 0 0, i7] w fun e w' => ∃ g c : Nat, e = .returned (.slice (some ⟨g, 0, none⟩) 1 c) ∧ w'.cell? ⟨g, 0, none⟩ = some (.string ⟨#[55]⟩) ∧ Only (fun _ => False) w w' := by
  have HV : Hid (∀ w1, Calls Tryz.prog 135 #[p7] w1 fun e w' => e = .returned (.string ⟨#[55]⟩) ∧ Only (fun _ => False) w1 w') := word7
  have hl := va_miss 55 81 51 _ Tryz.underlying81 (by intro m h; cases h) (by decide) (.agg #[.slice none 0 0]) (fun _ => rfl)
  have hq := va_miss 55 85 51 _ Tryz.underlying85 (by intro m h; cases h) (by decide) (.agg #[.slice none 0 0]) (fun _ => rfl)
  have hx := va_miss 55 87 51 _ Tryz.underlying87 (by intro m h; cases h) (by decide) (.agg #[.int .i64 0]) (fun _ => rfl)
  go_enter Tryz.func109, Tryz.ntmps109
  go_wp2_with fail
  refine (show Calls Tryz.prog 135 _ _ _ from HV.out _).mono ?_
  rintro e w1 ⟨rfl, o1⟩
  have O1 : Hid (Only (fun _ => False) w w1) := ((((Only.refl (fun _ => False) w).alloc _).alloc _).alloc _).trans o1 (fun _ _ g => g)
  clear HV o1 hl hq hx
  go_wp2
  go_ret
  refine ⟨_, _, rfl, ?_, ?_⟩
  · refine (wr_cell (va_at (w1.alloc (.cells #[.string ⟨#[55]⟩] 9)) _ _ (Array.size_push ..).symm) 0).trans ?_
    rw [Array.getElem?_append_left (by simp)]
    rfl
  · have o := (O1.out.alloc (.cells #[.string ⟨#[55]⟩] 9)).alloc (.cells (#[.string ⟨#[55]⟩] ++ Builtin.zeroCells #[.string ⟨#[]⟩] ((Question.appendCap 1 0 9).cut (w1.tape w1.drawn (Question.appendCap 1 0 9)) - 1)) 9)
    exact ⟨o.os, o.tape, o.output, o.size, o.block⟩
set_option maxRecDepth 100000 in
theorem joined1 (w : World) (g c : Nat) (s : ByteArray) (hg : w.cell? ⟨g, 0, none⟩ = some (.string s)) : Calls Tryz.prog 108 #[.slice (some ⟨g, 0, none⟩) 1 c, .string ⟨#[32]⟩] w fun e w' => e = .returned (.string s) ∧ w' = w := by
  go_enter Tryz.func108, Tryz.ntmps108
  go_wp2
  go_ret
  exact ⟨rfl, rfl⟩
set_option maxRecDepth 100000 in
theorem vtext7 (w : World) : Calls Tryz.prog 77 #[i7] w fun e w' => e = .returned (.tuple #[.string ⟨#[55]⟩, .int .i64 0]) ∧ Only (fun _ => False) w w' := by
  have HC : Hid (∀ w1, Calls Tryz.prog 67 #[i7] w1 fun e w' => e = .returned (.int .i64 0) ∧ Only (fun _ => False) w1 w') := check7
  have HA : Hid (∀ w1, Calls Tryz.prog 109 #[.slice none 0 0, i7] w1 fun e w' => ∃ g c : Nat, e = .returned (.slice (some ⟨g, 0, none⟩) 1 c) ∧ w'.cell? ⟨g, 0, none⟩ = some (.string ⟨#[55]⟩) ∧ Only (fun _ => False) w1 w') := add7
  have HJ : Hid (∀ w1 g c s, w1.cell? ⟨g, 0, none⟩ = some (.string s) → Calls Tryz.prog 108 #[.slice (some ⟨g, 0, none⟩) 1 c, .string ⟨#[32]⟩] w1 fun e w' => e = .returned (.string s) ∧ w' = w1) := joined1
  go_enter Tryz.func77, Tryz.ntmps77
  go_wp2_with fail
  refine (show Calls Tryz.prog 67 _ _ _ from HC.out _).mono ?_
  rintro e w1 ⟨rfl, o1⟩
  have O1 : Hid (Only (fun _ => False) w w1) := o1
  clear HC o1
  go_wp2_with fail
  refine (show Calls Tryz.prog 109 _ _ _ from HA.out _).mono ?_
  rintro e w2 ⟨g, c, rfl, hg, o2⟩
  have O2 : Hid (Only (fun _ => False) w w2) := O1.out.trans o2 (fun _ _ g => g)
  have HG : Hid (w2.cell? ⟨g, 0, none⟩ = some (.string ⟨#[55]⟩)) := hg
  clear HA o2 hg O1
  go_wp2_with fail
  refine (show Calls Tryz.prog 108 _ _ _ from HJ.out _ _ _ _ HG.out).mono ?_
  rintro e w3 ⟨rfl, rfl⟩
  clear HJ HG
  go_wp2
  go_ret2
  exact ⟨rfl, O2.out⟩
end Go.Proofs.YtgnmedjknbbfhaaGreatDoor
