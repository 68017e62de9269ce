/- ValueEqual: the law's walk. Primitives one after the other, and values held against trees. What words that move values, pair and unpair make of sound values. law12.awake; rows of trees. Effects: bounded, and one behind another. Primitives: which there are. Primitives, some of them. The document on primitives, some of them. Primitives, some of them. -/
import Derived.Test.YtgnmedjknbbfhaaGreatDoorGao
import Derived.Test.YtgnmedjknbbfhaaGreatDoorGan
import Derived.Test.YtgnmedjknbbfhaaGreatDoorGah
import Derived.Test.YtgnmedjknbbfhaaGreatDoorGam
import Derived.Test.YtgnmedjknbbfhaaGreatDoorGal
import Derived.Test.YtgnmedjknbbfhaaGreatDoorGaa
import Derived.Test.YtgnmedjknbbfhaaGreatDoorRows
namespace Go.Proofs.YtgnmedjknbbfhaaGreatDoor
open Go.RowKit Go.Lib
set_option linter.unusedSimpArgs false
set_option linter.unusedVariables false
theorem LfT.mono : ∀ {d d' : Nat} {t : Vt}, d ≤ d' → LfT d t → LfT d' t
  | 0, _, _, _, h => h.elim
  | d + 1, 0, t, hd, h => by omega
  | d + 1, e + 1, t, hd, h => ⟨h.1, fun x hx => (h.2 x hx).mono (by omega)⟩
theorem tree_calls {a : Vt} {x : Value} {d B : Nat} {w : World} (h : Vx w B d a x) (sa : SmT d a) : ∀ w1, (∃ bs : Nat → Prop, Only bs w w1 ∧ ∀ b, B ≤ b → ¬ bs b) → Calls Tryz.prog 26 #[x] w1 fun e w' => ∃ lv, e = .returned (.agg #[.int .i64 (nm d false a).k, .int .i64 (nm d false a).n, .string (nm d false a).s, lv]) ∧ Hid ((∃ ao cap, lv = .slice ao (nm d false a).l.length cap) ∧ NuAt w' w1.heap.size (2 * d + 1) (nm d false a) lv ∧ Only (fun _ => False) w1 w') := fun w1 ⟨bs, o1, hb⟩ => by
  obtain ⟨S, h1, h2⟩ := h.only o1 hb
  refine ((utrees_any (2 * d + 2) (2 * d + 1) (by omega)).1 x (nm d false a) w1 S h1 ⟨d, nm_nf d false a sa⟩).mono fun e w' g => ?_
  obtain ⟨lv, he, g⟩ := g
  exact ⟨lv, he, g.out.1.form, g.out⟩
/-- how the answers of Equal, Sound, Same of two trees hang together -/
theorem eq_pure {d : Nat} {a b : Vt} (sa : SmT d a) (sb : SmT d b) :
    sdB (2 * (2 * d + 1) + 1) (nm d false a) = dsB (2 * d + 1) (nm d false a) ∧ sdB (2 * (2 * d + 1) + 1) (nm d false b) = dsB (2 * d + 1) (nm d false b) ∧
    (dsB (2 * d + 1) (nm d false a) = true → smV (2 * (2 * d + 1) + 1) false (nm d false a) (nm d false b) = saV (2 * d + 1) (nm d false a) (nm d false b)) := by
  have la : LfT (2 * d + 1) (nm d false a) := (nm_lf d false a sa).mono (by omega)
  have lb : LfT (2 * d + 1) (nm d false b) := (nm_lf d false b sb).mono (by omega)
  have e1 := ds_sd la (Nat.le_refl (2 * (2 * d + 1) + 1))
  refine ⟨e1, ds_sd lb (Nat.le_refl _), fun h => ?_⟩
  refine sm_sa (2 * d + 1) _ _ la lb false _ (by simp) ?_
  rw [← e1] at h
  unfold sdB msB at h
  simp only [Bool.and_eq_true] at h
  rw [← (ok_eq (2 * d + 1) _ la false (2 * (2 * d + 1) + 1) (by simp)).1]
  exact h.1.1
end Go.Proofs.YtgnmedjknbbfhaaGreatDoor
namespace Go.Proofs.YtgnmedjknbbfhaaGreatDoor
open Go.RowKit Go.Lib
set_option linter.unusedSimpArgs false
set_option linter.unusedVariables false
/-- a primitive: its name, its kinds, its work -/
structure Pr where
  name : ByteArray
  ks : List Int
  cy : Nat → List Vt → Except Int (List Vt)
structure PrC (p : Pr) : Prop where
  wt : WtC p.name p.ks
  cy : CyC p.name p.ks p.cy
  one : 1 ≤ p.ks.length
  few : p.ks.length ≤ 3
/-- primitives one after the other; d: how deep the values may be -/
def doL : Nat → List Pr → List Vt → Except Int (List Vt)
  | _, [], l => .ok l
  | d, p :: r, l =>
    match doR d p.ks p.cy l with
    | .error n => .error n
    | .ok l' => doL (d + 2) r l'
theorem doL_error {d : Nat} {p : Pr} {r : List Pr} {l : List Vt} {n : Int} (h : doR d p.ks p.cy l = .error n) : doL d (p :: r) l = .error n := by simp only [doL, h]
theorem doL_ok {d : Nat} {p : Pr} {r : List Pr} {l l' : List Vt} (h : doR d p.ks p.cy l = .ok l') : doL d (p :: r) l = doL (d + 2) r l' := by simp only [doL, h]
/-- what they leave -/
def DlP (r : Except Int (List Vt)) (D : Nat) (w : World) (e : Ending) (w' : World) : Prop :=
  match r with
  | .error n => e = .returned (.tuple #[.slice none 0 0, .int .i64 n]) ∧ (n == 0) = false ∧ Only (fun _ => False) w w'
  | .ok ls => ∃ ao cap, e = .returned (.tuple #[.slice ao ls.length cap, .int .i64 0]) ∧ Hid ((∃ S, QiAt w' S D false (.slice ao ls.length cap) ls ∧ ∀ b, S b → b < w'.heap.size) ∧ (∀ x ∈ ls, ∃ e, SmT e x) ∧ Only (fun _ => False) w w')
theorem QiAt.ps {w : World} {S : Nat → Prop} {d n : Nat} {i : Bool} {ao : Option Addr} {cap : Nat} {l : List Vt} (h : QiAt w S d i (.slice ao n cap) l) : PsAt w S d i l ao := by
  obtain ⟨a, c, he, _, h2⟩ := h
  cases he
  exact h2
theorem RiAt.qi {w : World} {B d : Nat} {T : TypeId} {i : Bool} {ao : Option Addr} {cap : Nat} {l : List Vt} (h : RiAt w B T d i (.slice ao l.length cap) l) : ∃ S, QiAt w S d i (.slice ao l.length cap) l ∧ ∀ b, S b → B ≤ b ∧ b < w.heap.size := by
  obtain ⟨S, h1, h2⟩ := h.ps
  refine ⟨S, ⟨ao, cap, rfl, ?_, h1⟩, h2⟩
  obtain ⟨us, S', ho, _⟩ := h
  rcases ho.2 with ⟨h3, h4⟩ | ⟨g, cp, cur, hv, hB, hg, hn, hcm, hcs, htk⟩
  · omega
  · cases hv
    exact hn
/-- where a row of primitives stands -/
def DnI (w wr : World) (d : Nat) (ps : List Pr) (l : List Vt) (j : Nat) (v : Value) (k : Nat) : Prop := ∃ lj : List Vt, (∃ S, QiAt wr S (d + 2 * j) false v lj ∧ ∀ b, S b → b < wr.heap.size) ∧ lj.length = k ∧ doL d ps l = doL (d + 2 * j) (ps.drop j) lj ∧ (∀ x ∈ lj, ∃ e, SmT e x) ∧ k ≤ l.length + 3 * j ∧ Only (fun _ => False) w wr
set_option maxRecDepth 100000 in
set_option maxHeartbeats 4000000 in
theorem do_names {d : Nat} {ps : List Pr} (hp : ∀ p ∈ ps, PrC p) (h5 : ps.length ≤ 5) {l : List Vt} {ao : Option Addr} {cap Q : Nat} {w : World} {S : Nat → Prop} (hl : QiAt w S d false (.slice ao l.length cap) l) (hS : ∀ b, S b → b < w.heap.size) (hsm : ∀ x ∈ l, ∃ e, SmT e x) (hlen : l.length ≤ 1000) (hn : ∀ (j : Nat) (p : Pr), ps[j]? = some p → w.cell? ⟨Q, j, none⟩ = some (.string p.name)) (hT : Tx w) :
    Calls Tryz.prog 23 #[.slice ao l.length cap, .slice (some ⟨Q, 0, none⟩) ps.length ps.length] w fun e w' => DlP (doL d ps l) (d + 2 * ps.length) w e w' := by
  obtain ⟨R, hR⟩ : ∃ R, R = doL d ps l := ⟨_, rfl⟩
  obtain ⟨N, hN⟩ : ∃ N, N = ps.length := ⟨_, rfl⟩
  obtain ⟨L, hL⟩ : ∃ L, L = l.length := ⟨_, rfl⟩
  have HI0 : Hid (DnI w w d ps l 0 (.slice ao L cap) L) := ⟨l, ⟨S, by rw [hL]; exact hl, hS⟩, hL.symm, rfl, hsm, by omega, Only.refl _ _⟩
  have HT : Hid (N = ps.length ∧ N ≤ 5 ∧ L = l.length ∧ L ≤ 1000 ∧ (∀ p ∈ ps, PrC p) ∧ (∀ (j : Nat) (p : Pr), ps[j]? = some p → w.cell? ⟨Q, j, none⟩ = some (.string p.name)) ∧ Tx w ∧ R = doL d ps l) := ⟨hN, by omega, hL, by omega, hp, hn, hT, hR⟩
  rw [← hR, ← hN, ← hL]
  clear hp h5 hl hS hsm hlen hn hT hR hN hL
  go_enter Tryz.func23, Tryz.ntmps23
  go_wp2
  go_loopw [6, 0] (fun r x wr => ∃ (j k : Nat) (a : Option Addr) (c : Nat), r = .int .i64 (j : Int) ∧ j ≤ N ∧ x = .slice a k c ∧ Hid (DnI w wr d ps l j (.slice a k c) k)) (fun r _ _ => N - vuOf r)
  case atStart => exact ⟨0, L, ao, cap, rfl, Nat.zero_le _, rfl, HI0⟩
  case round =>
    obtain ⟨j, k, a, c, rfl, hj, rfl, HI⟩ := hrel
    obtain ⟨w2, hw2⟩ : ∃ w2, w2 = wr := ⟨_, rfl⟩
    rw [← hw2] at HI ⊢
    clear hw2 HI0
    by_cases hjN : j < N
    · have hjp : j < ps.length := by rw [← HT.out.1]; exact hjN
      obtain ⟨p, hp⟩ : ∃ p, ps[j]? = some p := ⟨ps[j], List.getElem?_eq_getElem hjp⟩
      obtain ⟨lj, ⟨S, q1, q2⟩, q3, q4, q5, q6, q7⟩ := HI.out
      have hpc := HT.out.2.2.2.2.1 p (List.mem_of_getElem? hp)
      have hcell : w2.cell? ⟨Q, j, none⟩ = some (.string p.name) := q7.cell (HT.out.2.2.2.2.2.1 j p hp) (fun g => g)
      have hkb : k ≤ 1015 := by have := HT.out.2.2.1; have := HT.out.2.2.2.1; have := HT.out.2.1; omega
      have HD : Hid _ := do_any (cap := c) hpc.wt hpc.cy hpc.one hpc.few q1.ps q2 q5 (by omega) (HT.out.2.2.2.2.2.2.1.frame q7)
      rw [q3] at HD
      have hdl : doL (d + 2 * j) (ps.drop j) lj = doL (d + 2 * j) (p :: ps.drop (j + 1)) lj := by
        have : ps.drop j = p :: ps.drop (j + 1) := by
          rw [List.drop_eq_getElem_cons hjp]
          rw [List.getElem?_eq_getElem hjp] at hp
          injection hp with hp
          rw [hp]
        rw [this]
      obtain ⟨Y, hY⟩ : ∃ Y, Y = doR (d + 2 * j) p.ks p.cy lj := ⟨_, rfl⟩
      rw [← hY] at HD
      have HR : Hid (R = doL (d + 2 * j) (p :: ps.drop (j + 1)) lj ∧ Y = doR (d + 2 * j) p.ks p.cy lj) := ⟨by rw [HT.out.2.2.2.2.2.2.2, q4, hdl], hY⟩
      have HX : Hid (j < N ∧ k ≤ l.length + 3 * j ∧ Only (fun _ => False) w w2 ∧ lj.length = k) := ⟨hjN, q6, q7, q3⟩
      obtain ⟨nm, hnm⟩ : ∃ nm, nm = p.name := ⟨_, rfl⟩
      rw [← hnm] at HD hcell
      have i1 : (j : Int) < (N : Int) := by omega
      have i0 : (0 : Int) ≤ (j : Int) := by omega
      have i4 : j ≤ 5 := by have := HT.out.2.1; omega
      clear hjN hjp hp q1 q2 q3 q4 q5 q6 q7 hpc hdl hY hnm hj HI
      cases Y with
      | error n =>
        have HE : Hid (R = .error n) := by rw [HR.out.1]; exact doL_error HR.out.2.symm
        go_wp2_with fail
        refine (show Calls Tryz.prog 12 _ _ _ from HD.out).mono ?_
        rintro e w3 ⟨rfl, hn0, o3⟩
        have HO : Hid (Only (fun _ => False) w w3) := HX.out.2.2.1.trans o3 (fun _ _ g => g)
        clear HD o3 HR hcell
        go_wp2
        go_ret2
        rw [HE.out]
        exact ⟨rfl, hn0, HO.out⟩
      | ok l2 =>
        go_wp2_with fail
        refine (show Calls Tryz.prog 12 _ _ _ from HD.out).mono ?_
        rintro e w3 ⟨a3, c3, rfl, G3⟩
        have HI2 : Hid (DnI w w3 d ps l (j + 1) (.slice a3 l2.length c3) l2.length) := by
          obtain ⟨S, s1, s2⟩ := G3.out.1.qi
          refine ⟨l2, ⟨S, ?_, fun b hb => (s2 b hb).2⟩, rfl, ?_, G3.out.2.2.1, ?_, HX.out.2.2.1.trans G3.out.2.1 (fun _ _ g => g)⟩
          · rw [show d + 2 * (j + 1) = d + 2 * j + 2 by omega]
            exact s1
          · rw [← HT.out.2.2.2.2.2.2.2, HR.out.1, doL_ok HR.out.2.symm, show d + 2 * (j + 1) = d + 2 * j + 2 by omega]
          · have := G3.out.2.2.2
            have := HX.out.2.1
            have := HX.out.2.2.2
            omega
        obtain ⟨k2, hk2⟩ : ∃ k2, k2 = l2.length := ⟨_, rfl⟩
        rw [← hk2] at HI2 ⊢
        have HJ : Hid (j < N) := HX.out.1
        clear HD G3 HR HX hcell hk2
        go_wp2
        go_roundw
        case rel => exact ⟨j + 1, k2, a3, c3, by go_num, by have := HJ.out; omega, rfl, HI2⟩
        case measure => simp only [vuOf]; have := HJ.out; omega
    · obtain rfl : j = N := by omega
      have i1 : ¬ (j : Int) < (j : Int) := by omega
      have HE : Hid (DlP R (d + 2 * j) w (.returned (.tuple #[.slice a k c, .int .i64 0])) w2) := by
        obtain ⟨lj, ⟨S, q1, q2⟩, q3, q4, q5, q6, q7⟩ := HI.out
        have e : R = .ok lj := by
          rw [HT.out.2.2.2.2.2.2.2, q4, List.drop_of_length_le (by rw [HT.out.1]; exact Nat.le_refl _)]
          rfl
        rw [e]
        exact ⟨a, c, by rw [q3], ⟨S, by rw [q3]; exact q1, q2⟩, q5, q7⟩
      clear hjN hj
      go_wp2
      go_ret2
      exact HE.out
theorem smL_self (f : Vt → Vt → Bool) : ∀ (l : List Vt), (∀ x ∈ l, f x x = true) → smL f l l = true
  | [], _ => rfl
  | t :: l, h => by
    have h1 := h t (List.mem_cons_self ..)
    have h2 := smL_self f l (fun x hx => h x (List.mem_cons_of_mem _ hx))
    simp only [smL, h1, h2, Bool.and_true]
theorem saV_self : ∀ (d : Nat) (t : Vt), LfT d t → saV d t t = true
  | 0, _, h => h.elim
  | d + 1, t, h => by
    have h1 : smL (saV d) t.l t.l = true := smL_self _ _ (fun x hx => saV_self d x (h.2 x hx))
    have h2 : saL t.k t.n t.n t.s t.s = true := by
      unfold saL
      split
      · simp
      split
      · simp
      split
      · simp
      · rfl
    simp only [saV, h1, h2, decide_true, Bool.and_true]
theorem UrAt.vs {w : World} {B d : Nat} {v : Value} {l : List Vt} (h : UrAt w B d v l) : ∃ S, VsAt w S (d + 1) l v := by
  obtain ⟨S, h1, _⟩ := h.tree (t := ⟨0, 0, ⟨#[]⟩, l⟩) rfl
  exact ⟨S, h1⟩
set_option maxRecDepth 100000 in
theorem same_self {D E : Nat} {la : List Vt} {a : Option Addr} {c : Nat} {vb : Value} {w : World} {S Sb : Nat → Prop} (ha : QiAt w S D false (.slice a la.length c) la) (hb : VsAt w Sb (E + 1) la vb) (hl : la.length ≤ 1048576) (hsm : ∀ x ∈ la, ∃ e, SmT e x) (hnf : ∀ x ∈ la, ∃ e, NfT e x) (hlf : ∀ x ∈ la, LfT D x) : Calls Tryz.prog 24 #[.slice a la.length c, vb] w fun e w' => e = .returned (.bool true) ∧ Only (fun _ => False) w w' := by
  obtain ⟨F, hF⟩ : ∃ F, F = D + E := ⟨_, rfl⟩
  have HT : Hid _ := utrees_of D (utrees_any (D + 1) D (by omega)).1 (.slice a la.length c) la w S ha hl hnf
  have HS : Hid (∀ w1 va, Only (fun _ => False) w w1 → (∃ S, VsAt w1 S (D + 1) la va) → Calls Tryz.prog 14 #[va, vb] w1 fun e w' => e = .returned (.bool true) ∧ Only (fun _ => False) w1 w') := fun w1 va o1 ⟨S1, h1⟩ => by
    have := (dsame_all (F + 1)).1 la la va vb w1 S1 Sb (h1.step (fun _ g => g) (fun _ _ _ g => g) (by omega)) ((hb.only o1).step (fun _ g => g) (fun _ _ _ g => g) (by omega)) hl hl hsm hsm
    rw [show F + 1 - 1 = F by omega, smL_self _ _ (fun x hx => saV_self F x ((hlf x hx).mono (by omega)))] at this
    exact this
  obtain ⟨L, hL⟩ : ∃ L, L = la.length := ⟨_, rfl⟩
  rw [← hL] at HT
  rw [← hL]
  clear ha hl hsm hnf hlf hL hF
  obtain ⟨ab, cb, rfl⟩ := hb.form
  clear hb
  obtain ⟨n, hn⟩ : ∃ n, n = la.length := ⟨_, rfl⟩
  rw [← hn] at HS
  rw [← hn]
  clear hn
  go_enter Tryz.func24, Tryz.ntmps24
  go_wp2_with fail
  refine (show Calls Tryz.prog 10 _ _ _ from HT.out).mono ?_
  rintro e w1 ⟨a1, c1, rfl, G1⟩
  have HV : Hid (∃ S, VsAt w1 S (D + 1) la (.slice a1 L c1)) := G1.out.1.vs
  have HO : Hid (Only (fun _ => False) w w1) := G1.out.2
  clear HT G1
  go_wp2_with fail
  refine (show Calls Tryz.prog 14 _ _ _ from HS.out _ _ HO.out HV.out).mono ?_
  rintro e w2 ⟨rfl, o2⟩
  have HO2 : Hid (Only (fun _ => False) w w2) := HO.out.trans o2 (fun _ _ g => g)
  clear o2 HS HV HO
  go_wp2
  go_ret
  exact ⟨rfl, HO2.out⟩
end Go.Proofs.YtgnmedjknbbfhaaGreatDoor
namespace Go.Proofs.YtgnmedjknbbfhaaGreatDoor
open Go.RowKit Go.Lib
set_option linter.unusedSimpArgs false
set_option linter.unusedVariables false
def pDup : Pr := ⟨⟨#[100, 117, 112]⟩, [63], fun _ l => .ok (lsR [0, 0] l)⟩
theorem cDup : PrC pDup := ⟨wt_0, cy_mv mv_0 (by decide) (by decide) (by decide), by decide, by decide⟩
def pDrop : Pr := ⟨⟨#[100, 114, 111, 112]⟩, [63], fun _ l => .ok (lsR [] l)⟩
theorem cDrop : PrC pDrop := ⟨wt_1, cy_mv mv_1 (by decide) (by decide) (by decide), by decide, by decide⟩
def pSwap : Pr := ⟨⟨#[115, 119, 97, 112]⟩, [63, 63], fun _ l => .ok (lsR [1, 0] l)⟩
theorem cSwap : PrC pSwap := ⟨wt_2, cy_mv mv_2 (by decide) (by decide) (by decide), by decide, by decide⟩
def pOver : Pr := ⟨⟨#[111, 118, 101, 114]⟩, [63, 63], fun _ l => .ok (lsR [0, 1, 0] l)⟩
theorem cOver : PrC pOver := ⟨wt_3, cy_mv mv_3 (by decide) (by decide) (by decide), by decide, by decide⟩
def pRot : Pr := ⟨⟨#[114, 111, 116]⟩, [63, 63, 63], fun _ l => .ok (lsR [1, 2, 0] l)⟩
theorem cRot : PrC pRot := ⟨wt_4, cy_mv mv_4 (by decide) (by decide) (by decide), by decide, by decide⟩
def pNip : Pr := ⟨⟨#[110, 105, 112]⟩, [63, 63], fun _ l => .ok (lsR [1] l)⟩
theorem cNip : PrC pNip := ⟨wt_5, cy_mv mv_5 (by decide) (by decide) (by decide), by decide, by decide⟩
def pTuck : Pr := ⟨⟨#[116, 117, 99, 107]⟩, [63, 63], fun _ l => .ok (lsR [1, 0, 1] l)⟩
theorem cTuck : PrC pTuck := ⟨wt_6, cy_mv mv_6 (by decide) (by decide) (by decide), by decide, by decide⟩
def pPair : Pr := ⟨⟨#[112, 97, 105, 114]⟩, [63, 63], fun _ l => oneR (.ok (lisT l))⟩
theorem cPair : PrC pPair := ⟨wt_33, cy_md mn_33 (by kernel_rfl) md_pair, by decide, by decide⟩
def pUnpair : Pr := ⟨⟨#[117, 110, 112, 97, 105, 114]⟩, [8], fun _ => unR⟩
theorem cUnpair : PrC pUnpair := ⟨wt_34, cy_unpair mn_34, by decide, by decide⟩
/-- a sound value, of depth e -/
def Gs (e : Nat) (t : Vt) : Prop := LfT e t ∧ dsB e t = true
theorem Gs.sd {e D : Nat} {t : Vt} (h : Gs e t) (hD : 2 * e + 1 ≤ D) : sdB D t = true := (ds_sd h.1 hD).trans h.2
theorem Gs.fb {e : Nat} {t : Vt} (h : Gs e t) : fb t 63 = true := by
  have h1 := h.sd (Nat.le_refl _)
  unfold sdB msB at h1
  simp only [Bool.and_eq_true] at h1
  have h2 := ok_kind h1.1.1
  rw [fb_63]
  simpa using h2
theorem doR_ok {d : Nat} {ks : List Int} {cy : Nat → List Vt → Except Int (List Vt)} {l ls l' : List Vt} (h1 : l.all (sdB d) = true) (h2 : ks.length ≤ l.length) (h3 : fitB (l.drop (l.length - ks.length)) ks = true) (h4 : cy d (l.drop (l.length - ks.length)) = .ok ls) (h5 : ls.all (sdB (d + 2)) = true) (h6 : l.take (l.length - ks.length) ++ ls = l') : doR d ks cy l = .ok l' := by
  unfold doR
  rw [if_neg (by rw [h1]; simp), if_neg (by omega), if_neg (by rw [h3]; simp), h4]
  simp only [fnR]
  rw [if_pos h5, h6]
theorem doR_form {d : Nat} {ks : List Int} {cy : Nat → List Vt → Except Int (List Vt)} {l : List Vt} (h1 : l.all (sdB d) = false) : doR d ks cy l = .error 1 := by
  unfold doR
  rw [if_pos h1]
theorem gs_all {e D : Nat} {l : List Vt} (h : ∀ x ∈ l, Gs e x) (hD : 2 * e + 1 ≤ D) : l.all (sdB D) = true := List.all_eq_true.2 fun x hx => (h x hx).sd hD
theorem fit_63 {e : Nat} : ∀ (l : List Vt) (ks : List Int), (∀ x ∈ l, Gs e x) → (∀ k ∈ ks, k = 63) → fitB l ks = true
  | [], _, _, _ => rfl
  | _ :: _, [], _, _ => rfl
  | t :: l, k :: ks, h, hk => by
    obtain rfl := hk k (List.mem_cons_self ..)
    simp only [fitB, (h t (List.mem_cons_self ..)).fb, Bool.true_and]
    exact fit_63 l ks (fun x hx => h x (List.mem_cons_of_mem _ hx)) (fun x hx => hk x (List.mem_cons_of_mem _ hx))
/-- a word that moves values -/
theorem mv_do {e D : Nat} {l l' : List Vt} {ks ps : List Int} (hl : ∀ x ∈ l, Gs e x) (hD : 2 * e + 1 ≤ D) (hk : ∀ k ∈ ks, k = 63) (h2 : ks.length ≤ l.length) (h6 : l.take (l.length - ks.length) ++ lsR ps (l.drop (l.length - ks.length)) = l') (hl' : ∀ x ∈ l', Gs e x) : doR D ks (fun _ l => .ok (lsR ps l)) l = .ok l' :=
  doR_ok (gs_all hl hD) h2 (fit_63 _ _ (fun x hx => hl x (List.mem_of_mem_drop hx)) hk) rfl (gs_all (fun x hx => hl' x (by rw [← h6]; exact List.mem_append_right _ hx)) (by omega)) h6
section
variable {e D : Nat} {x y z : Vt} (hx : Gs e x) (hy : Gs e y) (hz : Gs e z) (hD : 2 * e + 1 ≤ D)
theorem gs3 : ∀ t ∈ [x, y, z], Gs e x → Gs e y → Gs e z → Gs e t := by
  intro t ht hx hy hz
  simp only [List.mem_cons, List.not_mem_nil, or_false] at ht
  rcases ht with rfl | rfl | rfl <;> assumption
theorem gs2 : ∀ t ∈ [x, y], Gs e x → Gs e y → Gs e t := by
  intro t ht hx hy
  simp only [List.mem_cons, List.not_mem_nil, or_false] at ht
  rcases ht with rfl | rfl <;> assumption
theorem gs4 {u : Vt} : ∀ t ∈ [x, y, z, u], Gs e x → Gs e y → Gs e z → Gs e u → Gs e t := by
  intro t ht hx hy hz hu
  simp only [List.mem_cons, List.not_mem_nil, or_false] at ht
  rcases ht with rfl | rfl | rfl | rfl <;> assumption
theorem k63 {ks : List Int} (h : ks.all (fun k => decide (k = 63)) = true) : ∀ k ∈ ks, k = 63 := fun k hk => by simpa using List.all_eq_true.1 h k hk
theorem do_swaps (hx : Gs e x) (hy : Gs e y) (hz : Gs e z) (hD : 2 * e + 1 ≤ D) : doL D [pSwap, pSwap] [x, y, z] = .ok [x, y, z] := by
  rw [doL_ok (l' := [x, z, y]) (mv_do (e := e) (l := [x, y, z]) (l' := [x, z, y]) (ks := pSwap.ks) (ps := [1, 0]) (fun t ht => gs3 t ht hx hy hz) (by omega) (k63 (by decide)) (by show 2 ≤ 3; omega) rfl (fun t ht => gs3 t ht hx hz hy))]
  rw [doL_ok (l' := [x, y, z]) (mv_do (e := e) (l := [x, z, y]) (l' := [x, y, z]) (ks := pSwap.ks) (ps := [1, 0]) (fun t ht => gs3 t ht hx hz hy) (by omega) (k63 (by decide)) (by show 2 ≤ 3; omega) rfl (fun t ht => gs3 t ht hx hy hz))]
  rfl
theorem do_rots (hx : Gs e x) (hy : Gs e y) (hz : Gs e z) (hD : 2 * e + 1 ≤ D) : doL D [pRot, pRot, pRot] [x, y, z] = .ok [x, y, z] := by
  rw [doL_ok (l' := [y, z, x]) (mv_do (e := e) (l := [x, y, z]) (l' := [y, z, x]) (ks := pRot.ks) (ps := [1, 2, 0]) (fun t ht => gs3 t ht hx hy hz) (by omega) (k63 (by decide)) (by show 3 ≤ 3; omega) rfl (fun t ht => gs3 t ht hy hz hx))]
  rw [doL_ok (l' := [z, x, y]) (mv_do (e := e) (l := [y, z, x]) (l' := [z, x, y]) (ks := pRot.ks) (ps := [1, 2, 0]) (fun t ht => gs3 t ht hy hz hx) (by omega) (k63 (by decide)) (by show 3 ≤ 3; omega) rfl (fun t ht => gs3 t ht hz hx hy))]
  rw [doL_ok (l' := [x, y, z]) (mv_do (e := e) (l := [z, x, y]) (l' := [x, y, z]) (ks := pRot.ks) (ps := [1, 2, 0]) (fun t ht => gs3 t ht hz hx hy) (by omega) (k63 (by decide)) (by show 3 ≤ 3; omega) rfl (fun t ht => gs3 t ht hx hy hz))]
  rfl
theorem do_dups (hx : Gs e x) (hy : Gs e y) (hz : Gs e z) (hD : 2 * e + 1 ≤ D) : doL D [pDup, pDrop] [x, y, z] = .ok [x, y, z] := by
  rw [doL_ok (l' := [x, y, z, z]) (mv_do (e := e) (l := [x, y, z]) (l' := [x, y, z, z]) (ks := pDup.ks) (ps := [0, 0]) (fun t ht => gs3 t ht hx hy hz) (by omega) (k63 (by decide)) (by show 1 ≤ 3; omega) rfl (fun t ht => gs4 t ht hx hy hz hz))]
  rw [doL_ok (l' := [x, y, z]) (mv_do (e := e) (l := [x, y, z, z]) (l' := [x, y, z]) (ks := pDrop.ks) (ps := []) (fun t ht => gs4 t ht hx hy hz hz) (by omega) (k63 (by decide)) (by show 1 ≤ 4; omega) rfl (fun t ht => gs3 t ht hx hy hz))]
  rfl
theorem do_overs (hx : Gs e x) (hy : Gs e y) (hz : Gs e z) (hD : 2 * e + 1 ≤ D) : doL D [pOver, pNip, pSwap, pDrop, pOver] [x, y, z] = .ok [x, y, x] := by
  rw [doL_ok (l' := [x, y, z, y]) (mv_do (e := e) (l := [x, y, z]) (l' := [x, y, z, y]) (ks := pOver.ks) (ps := [0, 1, 0]) (fun t ht => gs3 t ht hx hy hz) (by omega) (k63 (by decide)) (by show 2 ≤ 3; omega) rfl (fun t ht => gs4 t ht hx hy hz hy))]
  rw [doL_ok (l' := [x, y, y]) (mv_do (e := e) (l := [x, y, z, y]) (l' := [x, y, y]) (ks := pNip.ks) (ps := [1]) (fun t ht => gs4 t ht hx hy hz hy) (by omega) (k63 (by decide)) (by show 2 ≤ 4; omega) rfl (fun t ht => gs3 t ht hx hy hy))]
  rw [doL_ok (l' := [x, y, y]) (mv_do (e := e) (l := [x, y, y]) (l' := [x, y, y]) (ks := pSwap.ks) (ps := [1, 0]) (fun t ht => gs3 t ht hx hy hy) (by omega) (k63 (by decide)) (by show 2 ≤ 3; omega) rfl (fun t ht => gs3 t ht hx hy hy))]
  rw [doL_ok (l' := [x, y]) (mv_do (e := e) (l := [x, y, y]) (l' := [x, y]) (ks := pDrop.ks) (ps := []) (fun t ht => gs3 t ht hx hy hy) (by omega) (k63 (by decide)) (by show 1 ≤ 3; omega) rfl (fun t ht => gs2 t ht hx hy))]
  rw [doL_ok (l' := [x, y, x]) (mv_do (e := e) (l := [x, y]) (l' := [x, y, x]) (ks := pOver.ks) (ps := [0, 1, 0]) (fun t ht => gs2 t ht hx hy) (by omega) (k63 (by decide)) (by show 2 ≤ 2; omega) rfl (fun t ht => gs3 t ht hx hy hx))]
  rfl
theorem fb_lis (l : List Vt) : fb (lisT l) 8 = true := by
  show (!(bits BinOp.and IntKind.i64 8 8 == 0)) = true
  decide
theorem do_pairs (hx : Gs e x) (hy : Gs e y) (hz : Gs e z) (hD : 2 * e + 1 ≤ D) : doL D [pPair, pUnpair] [x, y, z] = .ok [x, y, z] ∨ doL D [pPair, pUnpair] [x, y, z] = .error 11 := by
  have hl := gs_all (fun t ht => gs3 t ht hx hy hz) hD
  have hf := fit_63 (e := e) [y, z] [63, 63] (fun t ht => gs2 t ht hy hz) (k63 (by decide))
  cases hp : sdB (D + 2) (lisT [y, z]) with
  | false =>
    right
    refine doL_error ?_
    unfold doR
    rw [if_neg (by rw [hl]; simp), if_neg (by show ¬ (3 < 2); omega), if_neg (by rw [show fitB ([x, y, z].drop ([x, y, z].length - pPair.ks.length)) pPair.ks = true from hf]; simp)]
    show fnR D _ (.ok [lisT [y, z]]) = _
    simp only [fnR, List.all_cons, hp]
    rfl
  | true =>
    left
    rw [doL_ok (p := pPair) (l' := [x, lisT [y, z]]) (doR_ok (ls := [lisT [y, z]]) hl (by show 2 ≤ 3; omega) hf rfl (by simp [hp]) rfl)]
    rw [doL_ok (p := pUnpair) (l' := [x, y, z]) (doR_ok (ls := [y, z]) (by simp [hp, hx.sd (show 2 * e + 1 ≤ D + 2 by omega)]) (by show 1 ≤ 2; omega) (by show (fb (lisT [y, z]) 8 && true) = true; rw [fb_lis]; rfl) rfl (gs_all (fun t ht => gs2 t ht hy hz) (by omega)) rfl)]
    rfl
end
end Go.Proofs.YtgnmedjknbbfhaaGreatDoor
namespace Go.Proofs.YtgnmedjknbbfhaaGreatDoor
open Go.RowKit Go.Lib
set_option linter.unusedSimpArgs false
set_option linter.unusedVariables false
def t7 : Vt := ⟨1, 7, ⟨#[]⟩, []⟩
theorem do7 : doR 1 [63] (fun _ l => .ok (lsR [0, 0] l)) [t7] = .ok [t7, t7] := by kernel_rfl
theorem sm7 : ∀ x ∈ [t7], ∃ e, SmT e x := fun x hx => by
  simp only [List.mem_cons, List.not_mem_nil, or_false] at hx
  subst hx
  exact ⟨1, Nat.zero_le _, Nat.zero_le _, ⟨(by decide : (-9223372036854775808 : Int) ≤ 1), (by decide : (1 : Int) ≤ 9223372036854775807)⟩, ⟨(by decide : (-9223372036854775808 : Int) ≤ 7), (by decide : (7 : Int) ≤ 9223372036854775807)⟩, fun x hx => by cases hx⟩
set_option maxRecDepth 100000 in
theorem awake12 (w : World) (hT : Ty w) : Calls Tryz.prog 9 #[] w fun e w' => e = .returned (.bool true) ∧ Only (fun _ => False) w w' := by
  have HD : Hid (∀ (W : World) (Q : Nat), Only (fun _ => False) w W → W.cell? ⟨Q, 0, none⟩ = some (.iface 55 (.agg #[.int .i64 7])) → Calls Tryz.prog 12 #[.string ⟨#[100, 117, 112]⟩, .slice (some ⟨Q, 0, none⟩) 1 1] W fun e w' => ∃ a c, e = .returned (.tuple #[.slice a 2 c, .int .i64 0]) ∧ Hid (Only (fun _ => False) w w')) := fun W Q o hc => by
    have hl : PsAt W (fun b => b = Q) 1 false [t7] (some ⟨Q, 0, none⟩) := fun j x hx => by
      have hj : j = 0 := by have := (List.getElem?_eq_some_iff.1 hx).1; simp at this; exact this
      subst hj
      simp at hx
      subst hx
      exact ⟨Q, 0, _, rfl, rfl, hc, .inl ⟨rfl, rfl, rfl⟩⟩
    have := do_any (cap := 1) cDup.wt cDup.cy cDup.one cDup.few hl (fun b hb => by subst hb; exact World.block_lt_of_cell? W _ hc) sm7 (by simp) (hT.1.frame o)
    refine this.mono fun e w' g => ?_
    rw [show doR 1 pDup.ks pDup.cy [t7] = .ok [t7, t7] from do7] at g
    obtain ⟨a, c, he, g⟩ := g
    exact ⟨a, c, he, o.trans g.out.2.1 (fun _ _ g => g)⟩
  have HIs : Hid (∀ W, Only (fun _ => False) w W → Calls Tryz.prog 18 #[.string ⟨#[100, 117, 112]⟩] W fun e w' => e = .returned (.bool true) ∧ Only (fun _ => False) W w') := fun W o => by
    have := is_any ⟨#[100, 117, 112]⟩ W (hT.2.frame o)
    rw [show isB ⟨#[100, 117, 112]⟩ = true by kernel_rfl] at this
    exact this
  have O0 : Hid (Only (fun _ => False) w w) := Only.refl _ _
  clear hT
  go_enter Tryz.func9, Tryz.ntmps9
  go_wp2_with fail
  refine (show Calls Tryz.prog 12 _ _ _ from HD.out _ _ (O0.out.alloc _) (by simp [go_sem])).mono ?_
  rintro e w1 ⟨a, c, rfl, o1⟩
  clear HD O0
  go_wp2_with fail
  refine (show Calls Tryz.prog 18 _ _ _ from HIs.out _ o1.out).mono ?_
  rintro e w2 ⟨rfl, o2⟩
  have O2 : Hid (Only (fun _ => False) w w2) := o1.out.trans o2 (fun _ _ g => g)
  clear o1 o2 HIs
  go_wp2
  go_ret
  exact ⟨rfl, O2.out⟩
/-- three trees in a row: their cells -/
def C3 (w : World) (g : Nat) (x y z : Vt) (lx ly lz : Value) : Prop := (w.cell? ⟨g, 0, none⟩ = some (.int .i64 x.k) ∧ w.cell? ⟨g, 1, none⟩ = some (.int .i64 x.n) ∧ w.cell? ⟨g, 2, none⟩ = some (.string x.s) ∧ w.cell? ⟨g, 3, none⟩ = some lx) ∧ (w.cell? ⟨g, 4, none⟩ = some (.int .i64 y.k) ∧ w.cell? ⟨g, 5, none⟩ = some (.int .i64 y.n) ∧ w.cell? ⟨g, 6, none⟩ = some (.string y.s) ∧ w.cell? ⟨g, 7, none⟩ = some ly) ∧ (w.cell? ⟨g, 8, none⟩ = some (.int .i64 z.k) ∧ w.cell? ⟨g, 9, none⟩ = some (.int .i64 z.n) ∧ w.cell? ⟨g, 10, none⟩ = some (.string z.s) ∧ w.cell? ⟨g, 11, none⟩ = some lz)
theorem C3.only {w w' : World} {g : Nat} {x y z : Vt} {lx ly lz : Value} (h : C3 w g x y z lx ly lz) (o : Only (fun _ => False) w w') : C3 w' g x y z lx ly lz :=
  ⟨⟨o.cell h.1.1 (fun g => g), o.cell h.1.2.1 (fun g => g), o.cell h.1.2.2.1 (fun g => g), o.cell h.1.2.2.2 (fun g => g)⟩, ⟨o.cell h.2.1.1 (fun g => g), o.cell h.2.1.2.1 (fun g => g), o.cell h.2.1.2.2.1 (fun g => g), o.cell h.2.1.2.2.2 (fun g => g)⟩, o.cell h.2.2.1 (fun g => g), o.cell h.2.2.2.1 (fun g => g), o.cell h.2.2.2.2.1 (fun g => g), o.cell h.2.2.2.2.2 (fun g => g)⟩
theorem ur3 {w : World} {B d : Nat} {v : Value} {x y z : Vt} (h : UrAt w B d v [x, y, z]) : ∃ g cap lx ly lz S, v = .slice (some ⟨g, 0, none⟩) 3 cap ∧ C3 w g x y z lx ly lz ∧ VsAt w S d x.l lx ∧ VsAt w S d y.l ly ∧ VsAt w S d z.l lz ∧ B ≤ g := by
  obtain ⟨us, S, ho, ht, hS⟩ := h
  obtain ⟨lx, ⟨x0, x1, x2, x3⟩, tx⟩ := ht 0 x rfl
  obtain ⟨ly, ⟨y0, y1, y2, y3⟩, ty⟩ := ht 1 y rfl
  obtain ⟨lz, ⟨z0, z1, z2, z3⟩, tz⟩ := ht 2 z rfl
  rcases ho.2 with ⟨h3, h4⟩ | ⟨g, cp, cur, hv, hB, hg, hn, hcm, hcs, htk⟩
  · simp at h4
  · subst hv
    have hc := fun j u hu => ho.cells (g := g) rfl j u hu
    simp only [addr_ad] at hc
    exact ⟨g, cp, lx, ly, lz, S, rfl, ⟨⟨hc _ _ x0, hc _ _ x1, hc _ _ x2, hc _ _ x3⟩, ⟨hc _ _ y0, hc _ _ y1, hc _ _ y2, hc _ _ y3⟩, hc _ _ z0, hc _ _ z1, hc _ _ z2, hc _ _ z3⟩, tx, ty, tz, hB⟩
theorem vs3 {w : World} {S : Nat → Prop} {d g : Nat} {x y z : Vt} {lx ly lz : Value} (h : C3 w g x y z lx ly lz) (hx : VsAt w S d x.l lx) (hy : VsAt w S d y.l ly) (hz : VsAt w S d z.l lz) (c : Nat) (hc : 3 ≤ c) : VsAt w (fun b => S b ∨ b = g) (d + 1) [x, y, z] (.slice (some ⟨g, 0, none⟩) 3 c) := by
  have up : ∀ {l v}, VsAt w S d l v → VsAt w (fun b => S b ∨ b = g) d l v := fun h => h.step (fun _ g => .inl g) (fun _ _ _ g => g) (Nat.le_refl _)
  refine ⟨_, _, rfl, hc, fun i t ht => ?_⟩
  have hi := (List.getElem?_eq_some_iff.1 ht).1
  match i, hi with
  | 0, _ => simp at ht; subst ht; exact ⟨g, 0, lx, rfl, .inr rfl, h.1, up hx⟩
  | 1, _ => simp at ht; subst ht; exact ⟨g, 0, ly, rfl, .inr rfl, h.2.1, up hy⟩
  | 2, _ => simp at ht; subst ht; exact ⟨g, 0, lz, rfl, .inr rfl, h.2.2, up hz⟩
theorem names_new (ps : List Pr) (t : TypeId) (w : World) : ∀ (j : Nat) (p : Pr), ps[j]? = some p → (w.alloc (.cells (ps.map fun p => Value.string p.name).toArray t)).cell? ⟨w.heap.size, j, none⟩ = some (.string p.name) := fun j p hp => by
  rw [vblk_cells (valloc_at w _ _ rfl)]
  simp [hp]
end Go.Proofs.YtgnmedjknbbfhaaGreatDoor
namespace Go.Proofs.YtgnmedjknbbfhaaGreatDoor
open Go.RowKit
set_option linter.unusedSimpArgs false
set_option linter.unusedVariables false
/-- is an effect one that a word may have? -/
def bdB (x y : Int) : Bool := decide (0 ≤ x ∧ x ≤ 16 ∧ 0 ≤ y ∧ y ≤ 16)
/-- an effect's value -/
def efV (x y : Int) : Value := .agg #[.int .i64 x, .int .i64 y]
/-- an effect behind another -/
def thR (a b c d : Int) : Int × Int × Int :=
  if bdB a b && bdB c d then (if bdB (a + max 0 (c - b)) (d + max 0 (b - c)) then (a + max 0 (c - b), d + max 0 (b - c), 0) else (0, 0, 11)) else (0, 0, 2)
theorem results_eff {fn : Func} {t u : Tmp} (h : fn.results = #[.cell u 39, .tmp t]) (tmps : Array Value) (w : World) (B : Nat) {x y : Value} (h0 : w.cell? ⟨B, 0, none⟩ = some x) (h1 : w.cell? ⟨B, 1, none⟩ = some y) (ha : tmps.getD u undef = .pointer (some ⟨B, 0, none⟩)) :
    (results fn tmps).run Tryz.prog w = .ok (.tuple #[.agg #[x, y], tmps.getD t undef]) w := by
  have ha' : tmps[u]?.getD undef = .pointer (some ⟨B, 0, none⟩) := by simpa using ha
  simp [results, h, ha', asAddr, go_sem, loadVar, isAgg, Tryz.underlying39, h0, h1]
theorem eblk_cells {w : World} {B : Nat} {c : Array Value} {t : TypeId} (h : w.heap[B]? = some (.cells c t)) (j : Nat) : w.cell? ⟨B, j, none⟩ = c[j]? := by
  simp [World.cell?, h]
theorem eblk_froz {w : World} {B : Nat} {c : Array Value} {t : TypeId} (h : w.heap[B]? = some (.cells c t)) (j : Nat) : w.frozen? ⟨B, j, none⟩ = false := by
  simp [World.frozen?, h]
theorem ealloc_at (W : World) (o : Obj) (n : Nat) (h : n = W.heap.size) : (W.alloc o).heap[n]? = some o := by
  subst h
  exact Array.getElem?_push_size ..
theorem Only.at {w w1 : World} {B : Nat} {o : Obj} (h : Only (fun _ => False) w w1) (g : w.heap[B]? = some o) : w1.heap[B]? = some o :=
  (h.block B (Array.getElem?_eq_some_iff.1 g).1 (fun g => g)).trans g
theorem alloc_old {W : World} {o p : Obj} {n : Nat} (h : W.heap[n]? = some o) : (W.alloc p).heap[n]? = some o :=
  ((Only.refl (fun _ => False) W).alloc p).at h
/-- two cells -/
def TwC (w : World) (B : Nat) (x y : Int) : Prop := w.heap[B]? = some (.cells #[.int .i64 x, .int .i64 y] 39)
theorem TwC.cells {w : World} {B : Nat} {x y : Int} (h : TwC w B x y) : w.cell? ⟨B, 0, none⟩ = some (.int .i64 x) ∧ w.cell? ⟨B, 1, none⟩ = some (.int .i64 y) ∧ w.frozen? ⟨B, 0, none⟩ = false ∧ w.frozen? ⟨B, 1, none⟩ = false :=
  ⟨eblk_cells h 0, eblk_cells h 1, eblk_froz h 0, eblk_froz h 1⟩
theorem eset2 {w : World} {B : Nat} {x y : Int} (h : TwC w B x y) (u v : Value) : ((w.setCell ⟨B, 0, none⟩ u).setCell ⟨B, 1, none⟩ v).cell? ⟨B, 0, none⟩ = some u ∧ ((w.setCell ⟨B, 0, none⟩ u).setCell ⟨B, 1, none⟩ v).cell? ⟨B, 1, none⟩ = some v := by
  obtain ⟨c0, c1, _, _⟩ := h.cells
  have ne : ∀ (W : World) (i j : Nat) (v : Value), i ≠ j → (W.setCell ⟨B, i, none⟩ v).cell? ⟨B, j, none⟩ = W.cell? ⟨B, j, none⟩ := fun W i j v g => by apply World.cell?_setCell_other; intro e; exact g (by injection e)
  refine ⟨?_, ?_⟩
  · rw [ne _ 1 0 _ (by omega)]
    exact World.cell?_setCell_same' _ _ _ (by rw [c0]; rfl)
  · exact World.cell?_setCell_same' _ _ _ (by rw [ne _ 0 1 _ (by omega), c1]; rfl)
end Go.Proofs.YtgnmedjknbbfhaaGreatDoor
namespace Go.Proofs.YtgnmedjknbbfhaaGreatDoor
open Go.RowKit
set_option linter.unusedSimpArgs false
set_option linter.unusedVariables false
/-- the primitives that have effects of their own -/
def pmL : List (List UInt8 × Int × Int) := [([100, 114, 111, 112], 1, 0), ([46], 1, 0), ([110, 101, 103], 1, 1), ([97, 98, 115], 1, 1), ([110, 111, 116], 1, 1), ([105, 110, 116, 63], 1, 1), ([115, 116, 114, 63], 1, 1), ([98, 111, 111, 108, 63], 1, 1), ([108, 105, 115, 116, 63], 1, 1), ([113, 117, 111, 116, 63], 1, 1), ([98, 111, 120, 63], 1, 1), ([108, 101, 110, 103, 116, 104], 1, 1), ([119, 114, 97, 112], 1, 1), ([114, 101, 118, 101, 114, 115, 101], 1, 1), ([62, 115, 116, 114], 1, 1), ([62, 105, 110, 116], 1, 1), ([98, 111, 120], 1, 1), ([103, 101, 116], 1, 1), ([100, 117, 112], 1, 2), ([117, 110, 112, 97, 105, 114], 1, 2), ([112, 117, 116], 2, 0), ([110, 105, 112], 2, 1), ([43], 2, 1), ([45], 2, 1), ([42], 2, 1), ([47], 2, 1), ([109, 111, 100], 2, 1), ([109, 105, 110], 2, 1), ([109, 97, 120], 2, 1), ([60], 2, 1), ([62], 2, 1), ([61], 2, 1), ([97, 110, 100], 2, 1), ([111, 114], 2, 1), ([97, 112, 112, 101, 110, 100], 2, 1), ([110, 116, 104], 2, 1), ([112, 97, 105, 114], 2, 1), ([99, 117, 114, 114, 121], 2, 1), ([99, 111, 109, 112, 111, 115, 101], 2, 1), ([115, 119, 97, 112], 2, 2), ([111, 118, 101, 114], 2, 3), ([116, 117, 99, 107], 2, 3), ([115, 108, 105, 99, 101], 3, 1), ([114, 111, 116], 3, 3)]
def pmF (l : List UInt8) : List (List UInt8 × Int × Int) → Int × Int × Bool
  | [] => (0, 0, false)
  | x :: r => if l = x.1 then (x.2.1, x.2.2, true) else pmF l r
/-- a primitive's effect, if it has one -/
def pmR (s : ByteArray) : Int × Int × Bool := pmF s.toList pmL
theorem pmF_no (l : List UInt8) : ∀ q : List (List UInt8 × Int × Int), (∀ x ∈ q, l ≠ x.1) → pmF l q = (0, 0, false)
  | [], _ => rfl
  | x :: r, h => by
    unfold pmF
    rw [if_neg (h x (by simp)), pmF_no l r (fun y hy => h y (by simp [hy]))]
theorem to_lit {s : ByteArray} {l : List UInt8} (h : s.toList = l) : s = ⟨l.toArray⟩ := by
  subst h
  obtain ⟨⟨d⟩⟩ := s
  simp [ByteArray.toList_eq]
/-- what Prim answers -/
def PmC (s : ByteArray) : Prop := ∀ w : World, Calls Tryz.prog 40 #[.string s] w fun e w' => e = .returned (.tuple #[efV (pmR s).1 (pmR s).2.1, .bool (pmR s).2.2]) ∧ Only (fun _ => False) w w'
/-- what the document's Prim answers -/
def RmC (s : ByteArray) : Prop := ∀ w : World, Calls Tryz.prog 21 #[.string s] w fun e w' => e = .returned (.tuple #[.int .i64 (pmR s).1, .int .i64 (pmR s).2.1, .bool (pmR s).2.2]) ∧ Only (fun _ => False) w w'
end Go.Proofs.YtgnmedjknbbfhaaGreatDoor
namespace Go.Proofs.YtgnmedjknbbfhaaGreatDoor
open Go.RowKit
set_option linter.unusedSimpArgs false
set_option linter.unusedVariables false
set_option maxRecDepth 100000 in
set_option maxHeartbeats 2000000 in
theorem pm_0 : PmC ⟨#[100, 114, 111, 112]⟩ := by
  intro w
  rw [show pmR ⟨#[100, 114, 111, 112]⟩ = (1, 0, true) from by kernel_rfl]
  go_enter Tryz.func40, Tryz.ntmps40
  go_wp2_with fail
  have hq : TwC (w.alloc (.cells #[.int .i64 1, .int .i64 0] 39)) w.heap.size 1 0 := ealloc_at _ _ _ rfl
  obtain ⟨q0, q1, _, _⟩ := hq.cells
  refine bodyPost_ret (results_eff rfl _ _ w.heap.size q0 q1 rfl) rfl ?_
  exact ⟨rfl, (Only.refl _ w).alloc _⟩
set_option maxRecDepth 100000 in
set_option maxHeartbeats 2000000 in
theorem pm_6 : PmC ⟨#[115, 116, 114, 63]⟩ := by
  intro w
  rw [show pmR ⟨#[115, 116, 114, 63]⟩ = (1, 1, true) from by kernel_rfl]
  go_enter Tryz.func40, Tryz.ntmps40
  go_wp2_with fail
  have hq : TwC (w.alloc (.cells #[.int .i64 1, .int .i64 1] 39)) w.heap.size 1 1 := ealloc_at _ _ _ rfl
  obtain ⟨q0, q1, _, _⟩ := hq.cells
  refine bodyPost_ret (results_eff rfl _ _ w.heap.size q0 q1 rfl) rfl ?_
  exact ⟨rfl, (Only.refl _ w).alloc _⟩
set_option maxRecDepth 100000 in
set_option maxHeartbeats 2000000 in
theorem pm_12 : PmC ⟨#[119, 114, 97, 112]⟩ := by
  intro w
  rw [show pmR ⟨#[119, 114, 97, 112]⟩ = (1, 1, true) from by kernel_rfl]
  go_enter Tryz.func40, Tryz.ntmps40
  go_wp2_with fail
  have hq : TwC (w.alloc (.cells #[.int .i64 1, .int .i64 1] 39)) w.heap.size 1 1 := ealloc_at _ _ _ rfl
  obtain ⟨q0, q1, _, _⟩ := hq.cells
  refine bodyPost_ret (results_eff rfl _ _ w.heap.size q0 q1 rfl) rfl ?_
  exact ⟨rfl, (Only.refl _ w).alloc _⟩
set_option maxRecDepth 100000 in
set_option maxHeartbeats 2000000 in
theorem pm_18 : PmC ⟨#[100, 117, 112]⟩ := by
  intro w
  rw [show pmR ⟨#[100, 117, 112]⟩ = (1, 2, true) from by kernel_rfl]
  go_enter Tryz.func40, Tryz.ntmps40
  go_wp2_with fail
  have hq : TwC (w.alloc (.cells #[.int .i64 1, .int .i64 2] 39)) w.heap.size 1 2 := ealloc_at _ _ _ rfl
  obtain ⟨q0, q1, _, _⟩ := hq.cells
  refine bodyPost_ret (results_eff rfl _ _ w.heap.size q0 q1 rfl) rfl ?_
  exact ⟨rfl, (Only.refl _ w).alloc _⟩
set_option maxRecDepth 100000 in
set_option maxHeartbeats 2000000 in
theorem pm_24 : PmC ⟨#[42]⟩ := by
  intro w
  rw [show pmR ⟨#[42]⟩ = (2, 1, true) from by kernel_rfl]
  go_enter Tryz.func40, Tryz.ntmps40
  go_wp2_with fail
  have hq : TwC (w.alloc (.cells #[.int .i64 2, .int .i64 1] 39)) w.heap.size 2 1 := ealloc_at _ _ _ rfl
  obtain ⟨q0, q1, _, _⟩ := hq.cells
  refine bodyPost_ret (results_eff rfl _ _ w.heap.size q0 q1 rfl) rfl ?_
  exact ⟨rfl, (Only.refl _ w).alloc _⟩
set_option maxRecDepth 100000 in
set_option maxHeartbeats 2000000 in
theorem pm_30 : PmC ⟨#[62]⟩ := by
  intro w
  rw [show pmR ⟨#[62]⟩ = (2, 1, true) from by kernel_rfl]
  go_enter Tryz.func40, Tryz.ntmps40
  go_wp2_with fail
  have hq : TwC (w.alloc (.cells #[.int .i64 2, .int .i64 1] 39)) w.heap.size 2 1 := ealloc_at _ _ _ rfl
  obtain ⟨q0, q1, _, _⟩ := hq.cells
  refine bodyPost_ret (results_eff rfl _ _ w.heap.size q0 q1 rfl) rfl ?_
  exact ⟨rfl, (Only.refl _ w).alloc _⟩
set_option maxRecDepth 100000 in
set_option maxHeartbeats 2000000 in
theorem pm_36 : PmC ⟨#[112, 97, 105, 114]⟩ := by
  intro w
  rw [show pmR ⟨#[112, 97, 105, 114]⟩ = (2, 1, true) from by kernel_rfl]
  go_enter Tryz.func40, Tryz.ntmps40
  go_wp2_with fail
  have hq : TwC (w.alloc (.cells #[.int .i64 2, .int .i64 1] 39)) w.heap.size 2 1 := ealloc_at _ _ _ rfl
  obtain ⟨q0, q1, _, _⟩ := hq.cells
  refine bodyPost_ret (results_eff rfl _ _ w.heap.size q0 q1 rfl) rfl ?_
  exact ⟨rfl, (Only.refl _ w).alloc _⟩
set_option maxRecDepth 100000 in
set_option maxHeartbeats 2000000 in
theorem pm_42 : PmC ⟨#[115, 108, 105, 99, 101]⟩ := by
  intro w
  rw [show pmR ⟨#[115, 108, 105, 99, 101]⟩ = (3, 1, true) from by kernel_rfl]
  go_enter Tryz.func40, Tryz.ntmps40
  go_wp2_with fail
  have hq : TwC (w.alloc (.cells #[.int .i64 3, .int .i64 1] 39)) w.heap.size 3 1 := ealloc_at _ _ _ rfl
  obtain ⟨q0, q1, _, _⟩ := hq.cells
  refine bodyPost_ret (results_eff rfl _ _ w.heap.size q0 q1 rfl) rfl ?_
  exact ⟨rfl, (Only.refl _ w).alloc _⟩
end Go.Proofs.YtgnmedjknbbfhaaGreatDoor
namespace Go.Proofs.YtgnmedjknbbfhaaGreatDoor
open Go.RowKit
set_option linter.unusedSimpArgs false
set_option linter.unusedVariables false
set_option maxRecDepth 100000 in
set_option maxHeartbeats 2000000 in
theorem rm_0 : RmC ⟨#[100, 114, 111, 112]⟩ := by
  intro w
  rw [show pmR ⟨#[100, 114, 111, 112]⟩ = (1, 0, true) from by kernel_rfl]
  have HM : Hid (∀ w1, Calls Tryz.prog 41 #[.string ⟨#[100, 114, 111, 112]⟩] w1 fun e w' => ∃ v, e = .returned (.tuple #[.int .i64 1, v, .bool true]) ∧ Hid ((∃ ao c, v = .slice ao 0 c) ∧ Only (fun _ => False) w1 w')) := by
    intro w1
    go_enter Tryz.func41, Tryz.ntmps41
    go_wp2_with fail
    go_ret3
    exact ⟨_, rfl, ⟨_, _, rfl⟩, Only.refl _ w1⟩
  go_enter Tryz.func21, Tryz.ntmps21
  go_wp2_with fail
  refine (show Calls Tryz.prog 41 _ _ _ from HM.out _).mono ?_
  rintro e w1 ⟨v, rfl, h1⟩
  obtain ⟨⟨ao, c, rfl⟩, o1⟩ := h1.out
  have O1 : Hid (Only (fun _ => False) w w1) := o1
  clear h1 o1 HM
  go_wp2_with fail
  go_ret3
  exact ⟨rfl, O1.out⟩
set_option maxRecDepth 100000 in
set_option maxHeartbeats 2000000 in
theorem rm_6 : RmC ⟨#[115, 116, 114, 63]⟩ := by
  intro w
  rw [show pmR ⟨#[115, 116, 114, 63]⟩ = (1, 1, true) from by kernel_rfl]
  have HM : Hid (∀ w1, Calls Tryz.prog 41 #[.string ⟨#[115, 116, 114, 63]⟩] w1 fun e w' => ∃ v, e = .returned (.tuple #[.int .i64 0, v, .bool false]) ∧ Hid ((∃ ao c, v = .slice ao 0 c) ∧ Only (fun _ => False) w1 w')) := by
    intro w1
    go_enter Tryz.func41, Tryz.ntmps41
    go_wp2_with fail
    go_ret3
    exact ⟨_, rfl, ⟨_, _, rfl⟩, Only.refl _ w1⟩
  go_enter Tryz.func21, Tryz.ntmps21
  go_wp2_with fail
  refine (show Calls Tryz.prog 41 _ _ _ from HM.out _).mono ?_
  rintro e w1 ⟨v, rfl, h1⟩
  obtain ⟨⟨ao, c, rfl⟩, o1⟩ := h1.out
  have O1 : Hid (Only (fun _ => False) w w1) := o1
  clear h1 o1 HM
  go_wp2_with fail
  go_ret3
  exact ⟨rfl, O1.out⟩
set_option maxRecDepth 100000 in
set_option maxHeartbeats 2000000 in
theorem rm_12 : RmC ⟨#[119, 114, 97, 112]⟩ := by
  intro w
  rw [show pmR ⟨#[119, 114, 97, 112]⟩ = (1, 1, true) from by kernel_rfl]
  have HM : Hid (∀ w1, Calls Tryz.prog 41 #[.string ⟨#[119, 114, 97, 112]⟩] w1 fun e w' => ∃ v, e = .returned (.tuple #[.int .i64 0, v, .bool false]) ∧ Hid ((∃ ao c, v = .slice ao 0 c) ∧ Only (fun _ => False) w1 w')) := by
    intro w1
    go_enter Tryz.func41, Tryz.ntmps41
    go_wp2_with fail
    go_ret3
    exact ⟨_, rfl, ⟨_, _, rfl⟩, Only.refl _ w1⟩
  go_enter Tryz.func21, Tryz.ntmps21
  go_wp2_with fail
  refine (show Calls Tryz.prog 41 _ _ _ from HM.out _).mono ?_
  rintro e w1 ⟨v, rfl, h1⟩
  obtain ⟨⟨ao, c, rfl⟩, o1⟩ := h1.out
  have O1 : Hid (Only (fun _ => False) w w1) := o1
  clear h1 o1 HM
  go_wp2_with fail
  go_ret3
  exact ⟨rfl, O1.out⟩
set_option maxRecDepth 100000 in
set_option maxHeartbeats 2000000 in
theorem rm_18 : RmC ⟨#[100, 117, 112]⟩ := by
  intro w
  rw [show pmR ⟨#[100, 117, 112]⟩ = (1, 2, true) from by kernel_rfl]
  have HM : Hid (∀ w1, Calls Tryz.prog 41 #[.string ⟨#[100, 117, 112]⟩] w1 fun e w' => ∃ v, e = .returned (.tuple #[.int .i64 1, v, .bool true]) ∧ Hid ((∃ ao c, v = .slice ao 2 c) ∧ Only (fun _ => False) w1 w')) := by
    intro w1
    go_enter Tryz.func41, Tryz.ntmps41
    go_wp2_with fail
    go_ret3
    exact ⟨_, rfl, ⟨_, _, rfl⟩, (Only.refl _ w1).alloc _⟩
  go_enter Tryz.func21, Tryz.ntmps21
  go_wp2_with fail
  refine (show Calls Tryz.prog 41 _ _ _ from HM.out _).mono ?_
  rintro e w1 ⟨v, rfl, h1⟩
  obtain ⟨⟨ao, c, rfl⟩, o1⟩ := h1.out
  have O1 : Hid (Only (fun _ => False) w w1) := o1
  clear h1 o1 HM
  go_wp2_with fail
  go_ret3
  exact ⟨rfl, O1.out⟩
set_option maxRecDepth 100000 in
set_option maxHeartbeats 2000000 in
theorem rm_24 : RmC ⟨#[42]⟩ := by
  intro w
  rw [show pmR ⟨#[42]⟩ = (2, 1, true) from by kernel_rfl]
  have HM : Hid (∀ w1, Calls Tryz.prog 41 #[.string ⟨#[42]⟩] w1 fun e w' => ∃ v, e = .returned (.tuple #[.int .i64 0, v, .bool false]) ∧ Hid ((∃ ao c, v = .slice ao 0 c) ∧ Only (fun _ => False) w1 w')) := by
    intro w1
    go_enter Tryz.func41, Tryz.ntmps41
    go_wp2_with fail
    go_ret3
    exact ⟨_, rfl, ⟨_, _, rfl⟩, Only.refl _ w1⟩
  go_enter Tryz.func21, Tryz.ntmps21
  go_wp2_with fail
  refine (show Calls Tryz.prog 41 _ _ _ from HM.out _).mono ?_
  rintro e w1 ⟨v, rfl, h1⟩
  obtain ⟨⟨ao, c, rfl⟩, o1⟩ := h1.out
  have O1 : Hid (Only (fun _ => False) w w1) := o1
  clear h1 o1 HM
  go_wp2_with fail
  go_ret3
  exact ⟨rfl, O1.out⟩
set_option maxRecDepth 100000 in
set_option maxHeartbeats 2000000 in
theorem rm_30 : RmC ⟨#[62]⟩ := by
  intro w
  rw [show pmR ⟨#[62]⟩ = (2, 1, true) from by kernel_rfl]
  have HM : Hid (∀ w1, Calls Tryz.prog 41 #[.string ⟨#[62]⟩] w1 fun e w' => ∃ v, e = .returned (.tuple #[.int .i64 0, v, .bool false]) ∧ Hid ((∃ ao c, v = .slice ao 0 c) ∧ Only (fun _ => False) w1 w')) := by
    intro w1
    go_enter Tryz.func41, Tryz.ntmps41
    go_wp2_with fail
    go_ret3
    exact ⟨_, rfl, ⟨_, _, rfl⟩, Only.refl _ w1⟩
  go_enter Tryz.func21, Tryz.ntmps21
  go_wp2_with fail
  refine (show Calls Tryz.prog 41 _ _ _ from HM.out _).mono ?_
  rintro e w1 ⟨v, rfl, h1⟩
  obtain ⟨⟨ao, c, rfl⟩, o1⟩ := h1.out
  have O1 : Hid (Only (fun _ => False) w w1) := o1
  clear h1 o1 HM
  go_wp2_with fail
  go_ret3
  exact ⟨rfl, O1.out⟩
set_option maxRecDepth 100000 in
set_option maxHeartbeats 2000000 in
theorem rm_36 : RmC ⟨#[112, 97, 105, 114]⟩ := by
  intro w
  rw [show pmR ⟨#[112, 97, 105, 114]⟩ = (2, 1, true) from by kernel_rfl]
  have HM : Hid (∀ w1, Calls Tryz.prog 41 #[.string ⟨#[112, 97, 105, 114]⟩] w1 fun e w' => ∃ v, e = .returned (.tuple #[.int .i64 0, v, .bool false]) ∧ Hid ((∃ ao c, v = .slice ao 0 c) ∧ Only (fun _ => False) w1 w')) := by
    intro w1
    go_enter Tryz.func41, Tryz.ntmps41
    go_wp2_with fail
    go_ret3
    exact ⟨_, rfl, ⟨_, _, rfl⟩, Only.refl _ w1⟩
  go_enter Tryz.func21, Tryz.ntmps21
  go_wp2_with fail
  refine (show Calls Tryz.prog 41 _ _ _ from HM.out _).mono ?_
  rintro e w1 ⟨v, rfl, h1⟩
  obtain ⟨⟨ao, c, rfl⟩, o1⟩ := h1.out
  have O1 : Hid (Only (fun _ => False) w w1) := o1
  clear h1 o1 HM
  go_wp2_with fail
  go_ret3
  exact ⟨rfl, O1.out⟩
set_option maxRecDepth 100000 in
set_option maxHeartbeats 2000000 in
theorem rm_42 : RmC ⟨#[115, 108, 105, 99, 101]⟩ := by
  intro w
  rw [show pmR ⟨#[115, 108, 105, 99, 101]⟩ = (3, 1, true) from by kernel_rfl]
  have HM : Hid (∀ w1, Calls Tryz.prog 41 #[.string ⟨#[115, 108, 105, 99, 101]⟩] w1 fun e w' => ∃ v, e = .returned (.tuple #[.int .i64 0, v, .bool false]) ∧ Hid ((∃ ao c, v = .slice ao 0 c) ∧ Only (fun _ => False) w1 w')) := by
    intro w1
    go_enter Tryz.func41, Tryz.ntmps41
    go_wp2_with fail
    go_ret3
    exact ⟨_, rfl, ⟨_, _, rfl⟩, Only.refl _ w1⟩
  go_enter Tryz.func21, Tryz.ntmps21
  go_wp2_with fail
  refine (show Calls Tryz.prog 41 _ _ _ from HM.out _).mono ?_
  rintro e w1 ⟨v, rfl, h1⟩
  obtain ⟨⟨ao, c, rfl⟩, o1⟩ := h1.out
  have O1 : Hid (Only (fun _ => False) w w1) := o1
  clear h1 o1 HM
  go_wp2_with fail
  go_ret3
  exact ⟨rfl, O1.out⟩
end Go.Proofs.YtgnmedjknbbfhaaGreatDoor
namespace Go.Proofs.YtgnmedjknbbfhaaGreatDoor
open Go.RowKit
set_option linter.unusedSimpArgs false
set_option linter.unusedVariables false
set_option maxRecDepth 100000 in
set_option maxHeartbeats 2000000 in
theorem pm_1 : PmC ⟨#[46]⟩ := by
  intro w
  rw [show pmR ⟨#[46]⟩ = (1, 0, true) from by kernel_rfl]
  go_enter Tryz.func40, Tryz.ntmps40
  go_wp2_with fail
  have hq : TwC (w.alloc (.cells #[.int .i64 1, .int .i64 0] 39)) w.heap.size 1 0 := ealloc_at _ _ _ rfl
  obtain ⟨q0, q1, _, _⟩ := hq.cells
  refine bodyPost_ret (results_eff rfl _ _ w.heap.size q0 q1 rfl) rfl ?_
  exact ⟨rfl, (Only.refl _ w).alloc _⟩
set_option maxRecDepth 100000 in
set_option maxHeartbeats 2000000 in
theorem pm_7 : PmC ⟨#[98, 111, 111, 108, 63]⟩ := by
  intro w
  rw [show pmR ⟨#[98, 111, 111, 108, 63]⟩ = (1, 1, true) from by kernel_rfl]
  go_enter Tryz.func40, Tryz.ntmps40
  go_wp2_with fail
  have hq : TwC (w.alloc (.cells #[.int .i64 1, .int .i64 1] 39)) w.heap.size 1 1 := ealloc_at _ _ _ rfl
  obtain ⟨q0, q1, _, _⟩ := hq.cells
  refine bodyPost_ret (results_eff rfl _ _ w.heap.size q0 q1 rfl) rfl ?_
  exact ⟨rfl, (Only.refl _ w).alloc _⟩
set_option maxRecDepth 100000 in
set_option maxHeartbeats 2000000 in
theorem pm_13 : PmC ⟨#[114, 101, 118, 101, 114, 115, 101]⟩ := by
  intro w
  rw [show pmR ⟨#[114, 101, 118, 101, 114, 115, 101]⟩ = (1, 1, true) from by kernel_rfl]
  go_enter Tryz.func40, Tryz.ntmps40
  go_wp2_with fail
  have hq : TwC (w.alloc (.cells #[.int .i64 1, .int .i64 1] 39)) w.heap.size 1 1 := ealloc_at _ _ _ rfl
  obtain ⟨q0, q1, _, _⟩ := hq.cells
  refine bodyPost_ret (results_eff rfl _ _ w.heap.size q0 q1 rfl) rfl ?_
  exact ⟨rfl, (Only.refl _ w).alloc _⟩
set_option maxRecDepth 100000 in
set_option maxHeartbeats 2000000 in
theorem pm_19 : PmC ⟨#[117, 110, 112, 97, 105, 114]⟩ := by
  intro w
  rw [show pmR ⟨#[117, 110, 112, 97, 105, 114]⟩ = (1, 2, true) from by kernel_rfl]
  go_enter Tryz.func40, Tryz.ntmps40
  go_wp2_with fail
  have hq : TwC (w.alloc (.cells #[.int .i64 1, .int .i64 2] 39)) w.heap.size 1 2 := ealloc_at _ _ _ rfl
  obtain ⟨q0, q1, _, _⟩ := hq.cells
  refine bodyPost_ret (results_eff rfl _ _ w.heap.size q0 q1 rfl) rfl ?_
  exact ⟨rfl, (Only.refl _ w).alloc _⟩
set_option maxRecDepth 100000 in
set_option maxHeartbeats 2000000 in
theorem pm_25 : PmC ⟨#[47]⟩ := by
  intro w
  rw [show pmR ⟨#[47]⟩ = (2, 1, true) from by kernel_rfl]
  go_enter Tryz.func40, Tryz.ntmps40
  go_wp2_with fail
  have hq : TwC (w.alloc (.cells #[.int .i64 2, .int .i64 1] 39)) w.heap.size 2 1 := ealloc_at _ _ _ rfl
  obtain ⟨q0, q1, _, _⟩ := hq.cells
  refine bodyPost_ret (results_eff rfl _ _ w.heap.size q0 q1 rfl) rfl ?_
  exact ⟨rfl, (Only.refl _ w).alloc _⟩
set_option maxRecDepth 100000 in
set_option maxHeartbeats 2000000 in
theorem pm_31 : PmC ⟨#[61]⟩ := by
  intro w
  rw [show pmR ⟨#[61]⟩ = (2, 1, true) from by kernel_rfl]
  go_enter Tryz.func40, Tryz.ntmps40
  go_wp2_with fail
  have hq : TwC (w.alloc (.cells #[.int .i64 2, .int .i64 1] 39)) w.heap.size 2 1 := ealloc_at _ _ _ rfl
  obtain ⟨q0, q1, _, _⟩ := hq.cells
  refine bodyPost_ret (results_eff rfl _ _ w.heap.size q0 q1 rfl) rfl ?_
  exact ⟨rfl, (Only.refl _ w).alloc _⟩
set_option maxRecDepth 100000 in
set_option maxHeartbeats 2000000 in
theorem pm_37 : PmC ⟨#[99, 117, 114, 114, 121]⟩ := by
  intro w
  rw [show pmR ⟨#[99, 117, 114, 114, 121]⟩ = (2, 1, true) from by kernel_rfl]
  go_enter Tryz.func40, Tryz.ntmps40
  go_wp2_with fail
  have hq : TwC (w.alloc (.cells #[.int .i64 2, .int .i64 1] 39)) w.heap.size 2 1 := ealloc_at _ _ _ rfl
  obtain ⟨q0, q1, _, _⟩ := hq.cells
  refine bodyPost_ret (results_eff rfl _ _ w.heap.size q0 q1 rfl) rfl ?_
  exact ⟨rfl, (Only.refl _ w).alloc _⟩
set_option maxRecDepth 100000 in
set_option maxHeartbeats 2000000 in
theorem pm_43 : PmC ⟨#[114, 111, 116]⟩ := by
  intro w
  rw [show pmR ⟨#[114, 111, 116]⟩ = (3, 3, true) from by kernel_rfl]
  go_enter Tryz.func40, Tryz.ntmps40
  go_wp2_with fail
  have hq : TwC (w.alloc (.cells #[.int .i64 3, .int .i64 3] 39)) w.heap.size 3 3 := ealloc_at _ _ _ rfl
  obtain ⟨q0, q1, _, _⟩ := hq.cells
  refine bodyPost_ret (results_eff rfl _ _ w.heap.size q0 q1 rfl) rfl ?_
  exact ⟨rfl, (Only.refl _ w).alloc _⟩
end Go.Proofs.YtgnmedjknbbfhaaGreatDoor
