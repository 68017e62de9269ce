/- Primitives one after the other, and values held against trees. What words that move values, pair and unpair make of sound values. law12.awake; rows of trees. PrimTexts: the law's walk. -/
import Derived.Test.YtgnmedjknbbfhaaGreatDoorGam
import Derived.Test.YtgnmedjknbbfhaaGreatDoorGap
import Derived.Test.YtgnmedjknbbfhaaGreatDoorGaq
import Derived.Test.YtgnmedjknbbfhaaGreatDoorGal
import Derived.Test.YtgnmedjknbbfhaaGreatDoorGan
import Derived.Test.YtgnmedjknbbfhaaGreatDoorGao
namespace Go.Proofs.YtgnmedjknbbfhaaGreatDoor
open Go.RowKit Go.Lib
set_option linter.unusedSimpArgs false
set_option linter.unusedVariables false
/-- a primitive: its name, its kinds, its work -/
structure Pr where
  name : ByteArray
  ks : List Int
  cy : Nat → List Vt → Except Int (List Vt)
structure PrC (p : Pr) : Prop where
  wt : WtC p.name p.ks
  cy : CyC p.name p.ks p.cy
  one : 1 ≤ p.ks.length
  few : p.ks.length ≤ 3
/-- primitives one after the other; d: how deep the values may be -/
def doL : Nat → List Pr → List Vt → Except Int (List Vt)
  | _, [], l => .ok l
  | d, p :: r, l =>
    match doR d p.ks p.cy l with
    | .error n => .error n
    | .ok l' => doL (d + 2) r l'
theorem doL_error {d : Nat} {p : Pr} {r : List Pr} {l : List Vt} {n : Int} (h : doR d p.ks p.cy l = .error n) : doL d (p :: r) l = .error n := by simp only [doL, h]
theorem doL_ok {d : Nat} {p : Pr} {r : List Pr} {l l' : List Vt} (h : doR d p.ks p.cy l = .ok l') : doL d (p :: r) l = doL (d + 2) r l' := by simp only [doL, h]
/-- what they leave -/
def DlP (r : Except Int (List Vt)) (D : Nat) (w : World) (e : Ending) (w' : World) : Prop :=
  match r with
  | .error n => e = .returned (.tuple #[.slice none 0 0, .int .i64 n]) ∧ (n == 0) = false ∧ Only (fun _ => False) w w'
  | .ok ls => ∃ ao cap, e = .returned (.tuple #[.slice ao ls.length cap, .int .i64 0]) ∧ Hid ((∃ S, QiAt w' S D false (.slice ao ls.length cap) ls ∧ ∀ b, S b → b < w'.heap.size) ∧ (∀ x ∈ ls, ∃ e, SmT e x) ∧ Only (fun _ => False) w w')
theorem QiAt.ps {w : World} {S : Nat → Prop} {d n : Nat} {i : Bool} {ao : Option Addr} {cap : Nat} {l : List Vt} (h : QiAt w S d i (.slice ao n cap) l) : PsAt w S d i l ao := by
  obtain ⟨a, c, he, _, h2⟩ := h
  cases he
  exact h2
theorem RiAt.qi {w : World} {B d : Nat} {T : TypeId} {i : Bool} {ao : Option Addr} {cap : Nat} {l : List Vt} (h : RiAt w B T d i (.slice ao l.length cap) l) : ∃ S, QiAt w S d i (.slice ao l.length cap) l ∧ ∀ b, S b → B ≤ b ∧ b < w.heap.size := by
  obtain ⟨S, h1, h2⟩ := h.ps
  refine ⟨S, ⟨ao, cap, rfl, ?_, h1⟩, h2⟩
  obtain ⟨us, S', ho, _⟩ := h
  rcases ho.2 with ⟨h3, h4⟩ | ⟨g, cp, cur, hv, hB, hg, hn, hcm, hcs, htk⟩
  · omega
  · cases hv
    exact hn
/-- where a row of primitives stands -/
def DnI (w wr : World) (d : Nat) (ps : List Pr) (l : List Vt) (j : Nat) (v : Value) (k : Nat) : Prop := ∃ lj : List Vt, (∃ S, QiAt wr S (d + 2 * j) false v lj ∧ ∀ b, S b → b < wr.heap.size) ∧ lj.length = k ∧ doL d ps l = doL (d + 2 * j) (ps.drop j) lj ∧ (∀ x ∈ lj, ∃ e, SmT e x) ∧ k ≤ l.length + 3 * j ∧ Only (fun _ => False) w wr
set_option maxRecDepth 100000 in
set_option maxHeartbeats 4000000 in
theorem do_names {d : Nat} {ps : List Pr} (hp : ∀ p ∈ ps, PrC p) (h5 : ps.length ≤ 5) {l : List Vt} {ao : Option Addr} {cap Q : Nat} {w : World} {S : Nat → Prop} (hl : QiAt w S d false (.slice ao l.length cap) l) (hS : ∀ b, S b → b < w.heap.size) (hsm : ∀ x ∈ l, ∃ e, SmT e x) (hlen : l.length ≤ 1000) (hn : ∀ (j : Nat) (p : Pr), ps[j]? = some p → w.cell? ⟨Q, j, none⟩ = some (.string p.name)) (hT : Tx w) :
    Calls Tryz.prog 23 #[.slice ao l.length cap, .slice (some ⟨Q, 0, none⟩) ps.length ps.length] w fun e w' => DlP (doL d ps l) (d + 2 * ps.length) w e w' := by
  obtain ⟨R, hR⟩ : ∃ R, R = doL d ps l := ⟨_, rfl⟩
  obtain ⟨N, hN⟩ : ∃ N, N = ps.length := ⟨_, rfl⟩
  obtain ⟨L, hL⟩ : ∃ L, L = l.length := ⟨_, rfl⟩
  have HI0 : Hid (DnI w w d ps l 0 (.slice ao L cap) L) := ⟨l, ⟨S, by rw [hL]; exact hl, hS⟩, hL.symm, rfl, hsm, by omega, Only.refl _ _⟩
  have HT : Hid (N = ps.length ∧ N ≤ 5 ∧ L = l.length ∧ L ≤ 1000 ∧ (∀ p ∈ ps, PrC p) ∧ (∀ (j : Nat) (p : Pr), ps[j]? = some p → w.cell? ⟨Q, j, none⟩ = some (.string p.name)) ∧ Tx w ∧ R = doL d ps l) := ⟨hN, by omega, hL, by omega, hp, hn, hT, hR⟩
  rw [← hR, ← hN, ← hL]
  clear hp h5 hl hS hsm hlen hn hT hR hN hL
  go_enter Tryz.func23, Tryz.ntmps23
  go_wp2
  go_loopw [6, 0] (fun r x wr => ∃ (j k : Nat) (a : Option Addr) (c : Nat), r = .int .i64 (j : Int) ∧ j ≤ N ∧ x = .slice a k c ∧ Hid (DnI w wr d ps l j (.slice a k c) k)) (fun r _ _ => N - vuOf r)
  case atStart => exact ⟨0, L, ao, cap, rfl, Nat.zero_le _, rfl, HI0⟩
  case round =>
    obtain ⟨j, k, a, c, rfl, hj, rfl, HI⟩ := hrel
    obtain ⟨w2, hw2⟩ : ∃ w2, w2 = wr := ⟨_, rfl⟩
    rw [← hw2] at HI ⊢
    clear hw2 HI0
    by_cases hjN : j < N
    · have hjp : j < ps.length := by rw [← HT.out.1]; exact hjN
      obtain ⟨p, hp⟩ : ∃ p, ps[j]? = some p := ⟨ps[j], List.getElem?_eq_getElem hjp⟩
      obtain ⟨lj, ⟨S, q1, q2⟩, q3, q4, q5, q6, q7⟩ := HI.out
      have hpc := HT.out.2.2.2.2.1 p (List.mem_of_getElem? hp)
      have hcell : w2.cell? ⟨Q, j, none⟩ = some (.string p.name) := q7.cell (HT.out.2.2.2.2.2.1 j p hp) (fun g => g)
      have hkb : k ≤ 1015 := by have := HT.out.2.2.1; have := HT.out.2.2.2.1; have := HT.out.2.1; omega
      have HD : Hid _ := do_any (cap := c) hpc.wt hpc.cy hpc.one hpc.few q1.ps q2 q5 (by omega) (HT.out.2.2.2.2.2.2.1.frame q7)
      rw [q3] at HD
      have hdl : doL (d + 2 * j) (ps.drop j) lj = doL (d + 2 * j) (p :: ps.drop (j + 1)) lj := by
        have : ps.drop j = p :: ps.drop (j + 1) := by
          rw [List.drop_eq_getElem_cons hjp]
          rw [List.getElem?_eq_getElem hjp] at hp
          injection hp with hp
          rw [hp]
        rw [this]
      obtain ⟨Y, hY⟩ : ∃ Y, Y = doR (d + 2 * j) p.ks p.cy lj := ⟨_, rfl⟩
      rw [← hY] at HD
      have HR : Hid (R = doL (d + 2 * j) (p :: ps.drop (j + 1)) lj ∧ Y = doR (d + 2 * j) p.ks p.cy lj) := ⟨by rw [HT.out.2.2.2.2.2.2.2, q4, hdl], hY⟩
      have HX : Hid (j < N ∧ k ≤ l.length + 3 * j ∧ Only (fun _ => False) w w2 ∧ lj.length = k) := ⟨hjN, q6, q7, q3⟩
      obtain ⟨nm, hnm⟩ : ∃ nm, nm = p.name := ⟨_, rfl⟩
      rw [← hnm] at HD hcell
      have i1 : (j : Int) < (N : Int) := by omega
      have i0 : (0 : Int) ≤ (j : Int) := by omega
      have i4 : j ≤ 5 := by have := HT.out.2.1; omega
      clear hjN hjp hp q1 q2 q3 q4 q5 q6 q7 hpc hdl hY hnm hj HI
      cases Y with
      | error n =>
        have HE : Hid (R = .error n) := by rw [HR.out.1]; exact doL_error HR.out.2.symm
        go_wp2_with fail
        refine (show Calls Tryz.prog 12 _ _ _ from HD.out).mono ?_
        rintro e w3 ⟨rfl, hn0, o3⟩
        have HO : Hid (Only (fun _ => False) w w3) := HX.out.2.2.1.trans o3 (fun _ _ g => g)
        clear HD o3 HR hcell
        go_wp2
        go_ret2
        rw [HE.out]
        exact ⟨rfl, hn0, HO.out⟩
      | ok l2 =>
        go_wp2_with fail
        refine (show Calls Tryz.prog 12 _ _ _ from HD.out).mono ?_
        rintro e w3 ⟨a3, c3, rfl, G3⟩
        have HI2 : Hid (DnI w w3 d ps l (j + 1) (.slice a3 l2.length c3) l2.length) := by
          obtain ⟨S, s1, s2⟩ := G3.out.1.qi
          refine ⟨l2, ⟨S, ?_, fun b hb => (s2 b hb).2⟩, rfl, ?_, G3.out.2.2.1, ?_, HX.out.2.2.1.trans G3.out.2.1 (fun _ _ g => g)⟩
          · rw [show d + 2 * (j + 1) = d + 2 * j + 2 by omega]
            exact s1
          · rw [← HT.out.2.2.2.2.2.2.2, HR.out.1, doL_ok HR.out.2.symm, show d + 2 * (j + 1) = d + 2 * j + 2 by omega]
          · have := G3.out.2.2.2
            have := HX.out.2.1
            have := HX.out.2.2.2
            omega
        obtain ⟨k2, hk2⟩ : ∃ k2, k2 = l2.length := ⟨_, rfl⟩
        rw [← hk2] at HI2 ⊢
        have HJ : Hid (j < N) := HX.out.1
        clear HD G3 HR HX hcell hk2
        go_wp2
        go_roundw
        case rel => exact ⟨j + 1, k2, a3, c3, by go_num, by have := HJ.out; omega, rfl, HI2⟩
        case measure => simp only [vuOf]; have := HJ.out; omega
    · obtain rfl : j = N := by omega
      have i1 : ¬ (j : Int) < (j : Int) := by omega
      have HE : Hid (DlP R (d + 2 * j) w (.returned (.tuple #[.slice a k c, .int .i64 0])) w2) := by
        obtain ⟨lj, ⟨S, q1, q2⟩, q3, q4, q5, q6, q7⟩ := HI.out
        have e : R = .ok lj := by
          rw [HT.out.2.2.2.2.2.2.2, q4, List.drop_of_length_le (by rw [HT.out.1]; exact Nat.le_refl _)]
          rfl
        rw [e]
        exact ⟨a, c, by rw [q3], ⟨S, by rw [q3]; exact q1, q2⟩, q5, q7⟩
      clear hjN hj
      go_wp2
      go_ret2
      exact HE.out
theorem smL_self (f : Vt → Vt → Bool) : ∀ (l : List Vt), (∀ x ∈ l, f x x = true) → smL f l l = true
  | [], _ => rfl
  | t :: l, h => by
    have h1 := h t (List.mem_cons_self ..)
    have h2 := smL_self f l (fun x hx => h x (List.mem_cons_of_mem _ hx))
    simp only [smL, h1, h2, Bool.and_true]
theorem saV_self : ∀ (d : Nat) (t : Vt), LfT d t → saV d t t = true
  | 0, _, h => h.elim
  | d + 1, t, h => by
    have h1 : smL (saV d) t.l t.l = true := smL_self _ _ (fun x hx => saV_self d x (h.2 x hx))
    have h2 : saL t.k t.n t.n t.s t.s = true := by
      unfold saL
      split
      · simp
      split
      · simp
      split
      · simp
      · rfl
    simp only [saV, h1, h2, decide_true, Bool.and_true]
theorem UrAt.vs {w : World} {B d : Nat} {v : Value} {l : List Vt} (h : UrAt w B d v l) : ∃ S, VsAt w S (d + 1) l v := by
  obtain ⟨S, h1, _⟩ := h.tree (t := ⟨0, 0, ⟨#[]⟩, l⟩) rfl
  exact ⟨S, h1⟩
set_option maxRecDepth 100000 in
theorem same_self {D E : Nat} {la : List Vt} {a : Option Addr} {c : Nat} {vb : Value} {w : World} {S Sb : Nat → Prop} (ha : QiAt w S D false (.slice a la.length c) la) (hb : VsAt w Sb (E + 1) la vb) (hl : la.length ≤ 1048576) (hsm : ∀ x ∈ la, ∃ e, SmT e x) (hnf : ∀ x ∈ la, ∃ e, NfT e x) (hlf : ∀ x ∈ la, LfT D x) : Calls Tryz.prog 24 #[.slice a la.length c, vb] w fun e w' => e = .returned (.bool true) ∧ Only (fun _ => False) w w' := by
  obtain ⟨F, hF⟩ : ∃ F, F = D + E := ⟨_, rfl⟩
  have HT : Hid _ := utrees_of D (utrees_any (D + 1) D (by omega)).1 (.slice a la.length c) la w S ha hl hnf
  have HS : Hid (∀ w1 va, Only (fun _ => False) w w1 → (∃ S, VsAt w1 S (D + 1) la va) → Calls Tryz.prog 14 #[va, vb] w1 fun e w' => e = .returned (.bool true) ∧ Only (fun _ => False) w1 w') := fun w1 va o1 ⟨S1, h1⟩ => by
    have := (dsame_all (F + 1)).1 la la va vb w1 S1 Sb (h1.step (fun _ g => g) (fun _ _ _ g => g) (by omega)) ((hb.only o1).step (fun _ g => g) (fun _ _ _ g => g) (by omega)) hl hl hsm hsm
    rw [show F + 1 - 1 = F by omega, smL_self _ _ (fun x hx => saV_self F x ((hlf x hx).mono (by omega)))] at this
    exact this
  obtain ⟨L, hL⟩ : ∃ L, L = la.length := ⟨_, rfl⟩
  rw [← hL] at HT
  rw [← hL]
  clear ha hl hsm hnf hlf hL hF
  obtain ⟨ab, cb, rfl⟩ := hb.form
  clear hb
  obtain ⟨n, hn⟩ : ∃ n, n = la.length := ⟨_, rfl⟩
  rw [← hn] at HS
  rw [← hn]
  clear hn
  go_enter Tryz.func24, Tryz.ntmps24
  go_wp2_with fail
  refine (show Calls Tryz.prog 10 _ _ _ from HT.out).mono ?_
  rintro e w1 ⟨a1, c1, rfl, G1⟩
  have HV : Hid (∃ S, VsAt w1 S (D + 1) la (.slice a1 L c1)) := G1.out.1.vs
  have HO : Hid (Only (fun _ => False) w w1) := G1.out.2
  clear HT G1
  go_wp2_with fail
  refine (show Calls Tryz.prog 14 _ _ _ from HS.out _ _ HO.out HV.out).mono ?_
  rintro e w2 ⟨rfl, o2⟩
  have HO2 : Hid (Only (fun _ => False) w w2) := HO.out.trans o2 (fun _ _ g => g)
  clear o2 HS HV HO
  go_wp2
  go_ret
  exact ⟨rfl, HO2.out⟩
end Go.Proofs.YtgnmedjknbbfhaaGreatDoor
namespace Go.Proofs.YtgnmedjknbbfhaaGreatDoor
open Go.RowKit Go.Lib
set_option linter.unusedSimpArgs false
set_option linter.unusedVariables false
def pDup : Pr := ⟨⟨#[100, 117, 112]⟩, [63], fun _ l => .ok (lsR [0, 0] l)⟩
theorem cDup : PrC pDup := ⟨wt_0, cy_mv mv_0 (by decide) (by decide) (by decide), by decide, by decide⟩
def pDrop : Pr := ⟨⟨#[100, 114, 111, 112]⟩, [63], fun _ l => .ok (lsR [] l)⟩
theorem cDrop : PrC pDrop := ⟨wt_1, cy_mv mv_1 (by decide) (by decide) (by decide), by decide, by decide⟩
def pSwap : Pr := ⟨⟨#[115, 119, 97, 112]⟩, [63, 63], fun _ l => .ok (lsR [1, 0] l)⟩
theorem cSwap : PrC pSwap := ⟨wt_2, cy_mv mv_2 (by decide) (by decide) (by decide), by decide, by decide⟩
def pOver : Pr := ⟨⟨#[111, 118, 101, 114]⟩, [63, 63], fun _ l => .ok (lsR [0, 1, 0] l)⟩
theorem cOver : PrC pOver := ⟨wt_3, cy_mv mv_3 (by decide) (by decide) (by decide), by decide, by decide⟩
def pRot : Pr := ⟨⟨#[114, 111, 116]⟩, [63, 63, 63], fun _ l => .ok (lsR [1, 2, 0] l)⟩
theorem cRot : PrC pRot := ⟨wt_4, cy_mv mv_4 (by decide) (by decide) (by decide), by decide, by decide⟩
def pNip : Pr := ⟨⟨#[110, 105, 112]⟩, [63, 63], fun _ l => .ok (lsR [1] l)⟩
theorem cNip : PrC pNip := ⟨wt_5, cy_mv mv_5 (by decide) (by decide) (by decide), by decide, by decide⟩
def pTuck : Pr := ⟨⟨#[116, 117, 99, 107]⟩, [63, 63], fun _ l => .ok (lsR [1, 0, 1] l)⟩
theorem cTuck : PrC pTuck := ⟨wt_6, cy_mv mv_6 (by decide) (by decide) (by decide), by decide, by decide⟩
def pPair : Pr := ⟨⟨#[112, 97, 105, 114]⟩, [63, 63], fun _ l => oneR (.ok (lisT l))⟩
theorem cPair : PrC pPair := ⟨wt_33, cy_md mn_33 (by kernel_rfl) md_pair, by decide, by decide⟩
def pUnpair : Pr := ⟨⟨#[117, 110, 112, 97, 105, 114]⟩, [8], fun _ => unR⟩
theorem cUnpair : PrC pUnpair := ⟨wt_34, cy_unpair mn_34, by decide, by decide⟩
/-- a sound value, of depth e -/
def Gs (e : Nat) (t : Vt) : Prop := LfT e t ∧ dsB e t = true
theorem Gs.sd {e D : Nat} {t : Vt} (h : Gs e t) (hD : 2 * e + 1 ≤ D) : sdB D t = true := (ds_sd h.1 hD).trans h.2
theorem Gs.fb {e : Nat} {t : Vt} (h : Gs e t) : fb t 63 = true := by
  have h1 := h.sd (Nat.le_refl _)
  unfold sdB msB at h1
  simp only [Bool.and_eq_true] at h1
  have h2 := ok_kind h1.1.1
  rw [fb_63]
  simpa using h2
theorem doR_ok {d : Nat} {ks : List Int} {cy : Nat → List Vt → Except Int (List Vt)} {l ls l' : List Vt} (h1 : l.all (sdB d) = true) (h2 : ks.length ≤ l.length) (h3 : fitB (l.drop (l.length - ks.length)) ks = true) (h4 : cy d (l.drop (l.length - ks.length)) = .ok ls) (h5 : ls.all (sdB (d + 2)) = true) (h6 : l.take (l.length - ks.length) ++ ls = l') : doR d ks cy l = .ok l' := by
  unfold doR
  rw [if_neg (by rw [h1]; simp), if_neg (by omega), if_neg (by rw [h3]; simp), h4]
  simp only [fnR]
  rw [if_pos h5, h6]
theorem doR_form {d : Nat} {ks : List Int} {cy : Nat → List Vt → Except Int (List Vt)} {l : List Vt} (h1 : l.all (sdB d) = false) : doR d ks cy l = .error 1 := by
  unfold doR
  rw [if_pos h1]
theorem gs_all {e D : Nat} {l : List Vt} (h : ∀ x ∈ l, Gs e x) (hD : 2 * e + 1 ≤ D) : l.all (sdB D) = true := List.all_eq_true.2 fun x hx => (h x hx).sd hD
theorem fit_63 {e : Nat} : ∀ (l : List Vt) (ks : List Int), (∀ x ∈ l, Gs e x) → (∀ k ∈ ks, k = 63) → fitB l ks = true
  | [], _, _, _ => rfl
  | _ :: _, [], _, _ => rfl
  | t :: l, k :: ks, h, hk => by
    obtain rfl := hk k (List.mem_cons_self ..)
    simp only [fitB, (h t (List.mem_cons_self ..)).fb, Bool.true_and]
    exact fit_63 l ks (fun x hx => h x (List.mem_cons_of_mem _ hx)) (fun x hx => hk x (List.mem_cons_of_mem _ hx))
/-- a word that moves values -/
theorem mv_do {e D : Nat} {l l' : List Vt} {ks ps : List Int} (hl : ∀ x ∈ l, Gs e x) (hD : 2 * e + 1 ≤ D) (hk : ∀ k ∈ ks, k = 63) (h2 : ks.length ≤ l.length) (h6 : l.take (l.length - ks.length) ++ lsR ps (l.drop (l.length - ks.length)) = l') (hl' : ∀ x ∈ l', Gs e x) : doR D ks (fun _ l => .ok (lsR ps l)) l = .ok l' :=
  doR_ok (gs_all hl hD) h2 (fit_63 _ _ (fun x hx => hl x (List.mem_of_mem_drop hx)) hk) rfl (gs_all (fun x hx => hl' x (by rw [← h6]; exact List.mem_append_right _ hx)) (by omega)) h6
section
variable {e D : Nat} {x y z : Vt} (hx : Gs e x) (hy : Gs e y) (hz : Gs e z) (hD : 2 * e + 1 ≤ D)
theorem gs3 : ∀ t ∈ [x, y, z], Gs e x → Gs e y → Gs e z → Gs e t := by
  intro t ht hx hy hz
  simp only [List.mem_cons, List.not_mem_nil, or_false] at ht
  rcases ht with rfl | rfl | rfl <;> assumption
theorem gs2 : ∀ t ∈ [x, y], Gs e x → Gs e y → Gs e t := by
  intro t ht hx hy
  simp only [List.mem_cons, List.not_mem_nil, or_false] at ht
  rcases ht with rfl | rfl <;> assumption
theorem gs4 {u : Vt} : ∀ t ∈ [x, y, z, u], Gs e x → Gs e y → Gs e z → Gs e u → Gs e t := by
  intro t ht hx hy hz hu
  simp only [List.mem_cons, List.not_mem_nil, or_false] at ht
  rcases ht with rfl | rfl | rfl | rfl <;> assumption
theorem k63 {ks : List Int} (h : ks.all (fun k => decide (k = 63)) = true) : ∀ k ∈ ks, k = 63 := fun k hk => by simpa using List.all_eq_true.1 h k hk
theorem do_swaps (hx : Gs e x) (hy : Gs e y) (hz : Gs e z) (hD : 2 * e + 1 ≤ D) : doL D [pSwap, pSwap] [x, y, z] = .ok [x, y, z] := by
  rw [doL_ok (l' := [x, z, y]) (mv_do (e := e) (l := [x, y, z]) (l' := [x, z, y]) (ks := pSwap.ks) (ps := [1, 0]) (fun t ht => gs3 t ht hx hy hz) (by omega) (k63 (by decide)) (by show 2 ≤ 3; omega) rfl (fun t ht => gs3 t ht hx hz hy))]
  rw [doL_ok (l' := [x, y, z]) (mv_do (e := e) (l := [x, z, y]) (l' := [x, y, z]) (ks := pSwap.ks) (ps := [1, 0]) (fun t ht => gs3 t ht hx hz hy) (by omega) (k63 (by decide)) (by show 2 ≤ 3; omega) rfl (fun t ht => gs3 t ht hx hy hz))]
  rfl
theorem do_rots (hx : Gs e x) (hy : Gs e y) (hz : Gs e z) (hD : 2 * e + 1 ≤ D) : doL D [pRot, pRot, pRot] [x, y, z] = .ok [x, y, z] := by
  rw [doL_ok (l' := [y, z, x]) (mv_do (e := e) (l := [x, y, z]) (l' := [y, z, x]) (ks := pRot.ks) (ps := [1, 2, 0]) (fun t ht => gs3 t ht hx hy hz) (by omega) (k63 (by decide)) (by show 3 ≤ 3; omega) rfl (fun t ht => gs3 t ht hy hz hx))]
  rw [doL_ok (l' := [z, x, y]) (mv_do (e := e) (l := [y, z, x]) (l' := [z, x, y]) (ks := pRot.ks) (ps := [1, 2, 0]) (fun t ht => gs3 t ht hy hz hx) (by omega) (k63 (by decide)) (by show 3 ≤ 3; omega) rfl (fun t ht => gs3 t ht hz hx hy))]
  rw [doL_ok (l' := [x, y, z]) (mv_do (e := e) (l := [z, x, y]) (l' := [x, y, z]) (ks := pRot.ks) (ps := [1, 2, 0]) (fun t ht => gs3 t ht hz hx hy) (by omega) (k63 (by decide)) (by show 3 ≤ 3; omega) rfl (fun t ht => gs3 t ht hx hy hz))]
  rfl
theorem do_dups (hx : Gs e x) (hy : Gs e y) (hz : Gs e z) (hD : 2 * e + 1 ≤ D) : doL D [pDup, pDrop] [x, y, z] = .ok [x, y, z] := by
  rw [doL_ok (l' := [x, y, z, z]) (mv_do (e := e) (l := [x, y, z]) (l' := [x, y, z, z]) (ks := pDup.ks) (ps := [0, 0]) (fun t ht => gs3 t ht hx hy hz) (by omega) (k63 (by decide)) (by show 1 ≤ 3; omega) rfl (fun t ht => gs4 t ht hx hy hz hz))]
  rw [doL_ok (l' := [x, y, z]) (mv_do (e := e) (l := [x, y, z, z]) (l' := [x, y, z]) (ks := pDrop.ks) (ps := []) (fun t ht => gs4 t ht hx hy hz hz) (by omega) (k63 (by decide)) (by show 1 ≤ 4; omega) rfl (fun t ht => gs3 t ht hx hy hz))]
  rfl
theorem do_overs (hx : Gs e x) (hy : Gs e y) (hz : Gs e z) (hD : 2 * e + 1 ≤ D) : doL D [pOver, pNip, pSwap, pDrop, pOver] [x, y, z] = .ok [x, y, x] := by
  rw [doL_ok (l' := [x, y, z, y]) (mv_do (e := e) (l := [x, y, z]) (l' := [x, y, z, y]) (ks := pOver.ks) (ps := [0, 1, 0]) (fun t ht => gs3 t ht hx hy hz) (by omega) (k63 (by decide)) (by show 2 ≤ 3; omega) rfl (fun t ht => gs4 t ht hx hy hz hy))]
  rw [doL_ok (l' := [x, y, y]) (mv_do (e := e) (l := [x, y, z, y]) (l' := [x, y, y]) (ks := pNip.ks) (ps := [1]) (fun t ht => gs4 t ht hx hy hz hy) (by omega) (k63 (by decide)) (by show 2 ≤ 4; omega) rfl (fun t ht => gs3 t ht hx hy hy))]
  rw [doL_ok (l' := [x, y, y]) (mv_do (e := e) (l := [x, y, y]) (l' := [x, y, y]) (ks := pSwap.ks) (ps := [1, 0]) (fun t ht => gs3 t ht hx hy hy) (by omega) (k63 (by decide)) (by show 2 ≤ 3; omega) rfl (fun t ht => gs3 t ht hx hy hy))]
  rw [doL_ok (l' := [x, y]) (mv_do (e := e) (l := [x, y, y]) (l' := [x, y]) (ks := pDrop.ks) (ps := []) (fun t ht => gs3 t ht hx hy hy) (by omega) (k63 (by decide)) (by show 1 ≤ 3; omega) rfl (fun t ht => gs2 t ht hx hy))]
  rw [doL_ok (l' := [x, y, x]) (mv_do (e := e) (l := [x, y]) (l' := [x, y, x]) (ks := pOver.ks) (ps := [0, 1, 0]) (fun t ht => gs2 t ht hx hy) (by omega) (k63 (by decide)) (by show 2 ≤ 2; omega) rfl (fun t ht => gs3 t ht hx hy hx))]
  rfl
theorem fb_lis (l : List Vt) : fb (lisT l) 8 = true := by
  show (!(bits BinOp.and IntKind.i64 8 8 == 0)) = true
  decide
theorem do_pairs (hx : Gs e x) (hy : Gs e y) (hz : Gs e z) (hD : 2 * e + 1 ≤ D) : doL D [pPair, pUnpair] [x, y, z] = .ok [x, y, z] ∨ doL D [pPair, pUnpair] [x, y, z] = .error 11 := by
  have hl := gs_all (fun t ht => gs3 t ht hx hy hz) hD
  have hf := fit_63 (e := e) [y, z] [63, 63] (fun t ht => gs2 t ht hy hz) (k63 (by decide))
  cases hp : sdB (D + 2) (lisT [y, z]) with
  | false =>
    right
    refine doL_error ?_
    unfold doR
    rw [if_neg (by rw [hl]; simp), if_neg (by show ¬ (3 < 2); omega), if_neg (by rw [show fitB ([x, y, z].drop ([x, y, z].length - pPair.ks.length)) pPair.ks = true from hf]; simp)]
    show fnR D _ (.ok [lisT [y, z]]) = _
    simp only [fnR, List.all_cons, hp]
    rfl
  | true =>
    left
    rw [doL_ok (p := pPair) (l' := [x, lisT [y, z]]) (doR_ok (ls := [lisT [y, z]]) hl (by show 2 ≤ 3; omega) hf rfl (by simp [hp]) rfl)]
    rw [doL_ok (p := pUnpair) (l' := [x, y, z]) (doR_ok (ls := [y, z]) (by simp [hp, hx.sd (show 2 * e + 1 ≤ D + 2 by omega)]) (by show 1 ≤ 2; omega) (by show (fb (lisT [y, z]) 8 && true) = true; rw [fb_lis]; rfl) rfl (gs_all (fun t ht => gs2 t ht hy hz) (by omega)) rfl)]
    rfl
end
end Go.Proofs.YtgnmedjknbbfhaaGreatDoor
namespace Go.Proofs.YtgnmedjknbbfhaaGreatDoor
open Go.RowKit Go.Lib
set_option linter.unusedSimpArgs false
set_option linter.unusedVariables false
def t7 : Vt := ⟨1, 7, ⟨#[]⟩, []⟩
theorem do7 : doR 1 [63] (fun _ l => .ok (lsR [0, 0] l)) [t7] = .ok [t7, t7] := by kernel_rfl
theorem sm7 : ∀ x ∈ [t7], ∃ e, SmT e x := fun x hx => by
  simp only [List.mem_cons, List.not_mem_nil, or_false] at hx
  subst hx
  exact ⟨1, Nat.zero_le _, Nat.zero_le _, ⟨(by decide : (-9223372036854775808 : Int) ≤ 1), (by decide : (1 : Int) ≤ 9223372036854775807)⟩, ⟨(by decide : (-9223372036854775808 : Int) ≤ 7), (by decide : (7 : Int) ≤ 9223372036854775807)⟩, fun x hx => by cases hx⟩
set_option maxRecDepth 100000 in
theorem awake12 (w : World) (hT : Ty w) : Calls Tryz.prog 9 #[] w fun e w' => e = .returned (.bool true) ∧ Only (fun _ => False) w w' := by
  have HD : Hid (∀ (W : World) (Q : Nat), Only (fun _ => False) w W → W.cell? ⟨Q, 0, none⟩ = some (.iface 55 (.agg #[.int .i64 7])) → Calls Tryz.prog 12 #[.string ⟨#[100, 117, 112]⟩, .slice (some ⟨Q, 0, none⟩) 1 1] W fun e w' => ∃ a c, e = .returned (.tuple #[.slice a 2 c, .int .i64 0]) ∧ Hid (Only (fun _ => False) w w')) := fun W Q o hc => by
    have hl : PsAt W (fun b => b = Q) 1 false [t7] (some ⟨Q, 0, none⟩) := fun j x hx => by
      have hj : j = 0 := by have := (List.getElem?_eq_some_iff.1 hx).1; simp at this; exact this
      subst hj
      simp at hx
      subst hx
      exact ⟨Q, 0, _, rfl, rfl, hc, .inl ⟨rfl, rfl, rfl⟩⟩
    have := do_any (cap := 1) cDup.wt cDup.cy cDup.one cDup.few hl (fun b hb => by subst hb; exact World.block_lt_of_cell? W _ hc) sm7 (by simp) (hT.1.frame o)
    refine this.mono fun e w' g => ?_
    rw [show doR 1 pDup.ks pDup.cy [t7] = .ok [t7, t7] from do7] at g
    obtain ⟨a, c, he, g⟩ := g
    exact ⟨a, c, he, o.trans g.out.2.1 (fun _ _ g => g)⟩
  have HIs : Hid (∀ W, Only (fun _ => False) w W → Calls Tryz.prog 18 #[.string ⟨#[100, 117, 112]⟩] W fun e w' => e = .returned (.bool true) ∧ Only (fun _ => False) W w') := fun W o => by
    have := is_any ⟨#[100, 117, 112]⟩ W (hT.2.frame o)
    rw [show isB ⟨#[100, 117, 112]⟩ = true by kernel_rfl] at this
    exact this
  have O0 : Hid (Only (fun _ => False) w w) := Only.refl _ _
  clear hT
  go_enter Tryz.func9, Tryz.ntmps9
  go_wp2_with fail
  refine (show Calls Tryz.prog 12 _ _ _ from HD.out _ _ (O0.out.alloc _) (by simp [go_sem])).mono ?_
  rintro e w1 ⟨a, c, rfl, o1⟩
  clear HD O0
  go_wp2_with fail
  refine (show Calls Tryz.prog 18 _ _ _ from HIs.out _ o1.out).mono ?_
  rintro e w2 ⟨rfl, o2⟩
  have O2 : Hid (Only (fun _ => False) w w2) := o1.out.trans o2 (fun _ _ g => g)
  clear o1 o2 HIs
  go_wp2
  go_ret
  exact ⟨rfl, O2.out⟩
/-- three trees in a row: their cells -/
def C3 (w : World) (g : Nat) (x y z : Vt) (lx ly lz : Value) : Prop := (w.cell? ⟨g, 0, none⟩ = some (.int .i64 x.k) ∧ w.cell? ⟨g, 1, none⟩ = some (.int .i64 x.n) ∧ w.cell? ⟨g, 2, none⟩ = some (.string x.s) ∧ w.cell? ⟨g, 3, none⟩ = some lx) ∧ (w.cell? ⟨g, 4, none⟩ = some (.int .i64 y.k) ∧ w.cell? ⟨g, 5, none⟩ = some (.int .i64 y.n) ∧ w.cell? ⟨g, 6, none⟩ = some (.string y.s) ∧ w.cell? ⟨g, 7, none⟩ = some ly) ∧ (w.cell? ⟨g, 8, none⟩ = some (.int .i64 z.k) ∧ w.cell? ⟨g, 9, none⟩ = some (.int .i64 z.n) ∧ w.cell? ⟨g, 10, none⟩ = some (.string z.s) ∧ w.cell? ⟨g, 11, none⟩ = some lz)
theorem C3.only {w w' : World} {g : Nat} {x y z : Vt} {lx ly lz : Value} (h : C3 w g x y z lx ly lz) (o : Only (fun _ => False) w w') : C3 w' g x y z lx ly lz :=
  ⟨⟨o.cell h.1.1 (fun g => g), o.cell h.1.2.1 (fun g => g), o.cell h.1.2.2.1 (fun g => g), o.cell h.1.2.2.2 (fun g => g)⟩, ⟨o.cell h.2.1.1 (fun g => g), o.cell h.2.1.2.1 (fun g => g), o.cell h.2.1.2.2.1 (fun g => g), o.cell h.2.1.2.2.2 (fun g => g)⟩, o.cell h.2.2.1 (fun g => g), o.cell h.2.2.2.1 (fun g => g), o.cell h.2.2.2.2.1 (fun g => g), o.cell h.2.2.2.2.2 (fun g => g)⟩
theorem ur3 {w : World} {B d : Nat} {v : Value} {x y z : Vt} (h : UrAt w B d v [x, y, z]) : ∃ g cap lx ly lz S, v = .slice (some ⟨g, 0, none⟩) 3 cap ∧ C3 w g x y z lx ly lz ∧ VsAt w S d x.l lx ∧ VsAt w S d y.l ly ∧ VsAt w S d z.l lz ∧ B ≤ g := by
  obtain ⟨us, S, ho, ht, hS⟩ := h
  obtain ⟨lx, ⟨x0, x1, x2, x3⟩, tx⟩ := ht 0 x rfl
  obtain ⟨ly, ⟨y0, y1, y2, y3⟩, ty⟩ := ht 1 y rfl
  obtain ⟨lz, ⟨z0, z1, z2, z3⟩, tz⟩ := ht 2 z rfl
  rcases ho.2 with ⟨h3, h4⟩ | ⟨g, cp, cur, hv, hB, hg, hn, hcm, hcs, htk⟩
  · simp at h4
  · subst hv
    have hc := fun j u hu => ho.cells (g := g) rfl j u hu
    simp only [addr_ad] at hc
    exact ⟨g, cp, lx, ly, lz, S, rfl, ⟨⟨hc _ _ x0, hc _ _ x1, hc _ _ x2, hc _ _ x3⟩, ⟨hc _ _ y0, hc _ _ y1, hc _ _ y2, hc _ _ y3⟩, hc _ _ z0, hc _ _ z1, hc _ _ z2, hc _ _ z3⟩, tx, ty, tz, hB⟩
theorem vs3 {w : World} {S : Nat → Prop} {d g : Nat} {x y z : Vt} {lx ly lz : Value} (h : C3 w g x y z lx ly lz) (hx : VsAt w S d x.l lx) (hy : VsAt w S d y.l ly) (hz : VsAt w S d z.l lz) (c : Nat) (hc : 3 ≤ c) : VsAt w (fun b => S b ∨ b = g) (d + 1) [x, y, z] (.slice (some ⟨g, 0, none⟩) 3 c) := by
  have up : ∀ {l v}, VsAt w S d l v → VsAt w (fun b => S b ∨ b = g) d l v := fun h => h.step (fun _ g => .inl g) (fun _ _ _ g => g) (Nat.le_refl _)
  refine ⟨_, _, rfl, hc, fun i t ht => ?_⟩
  have hi := (List.getElem?_eq_some_iff.1 ht).1
  match i, hi with
  | 0, _ => simp at ht; subst ht; exact ⟨g, 0, lx, rfl, .inr rfl, h.1, up hx⟩
  | 1, _ => simp at ht; subst ht; exact ⟨g, 0, ly, rfl, .inr rfl, h.2.1, up hy⟩
  | 2, _ => simp at ht; subst ht; exact ⟨g, 0, lz, rfl, .inr rfl, h.2.2, up hz⟩
theorem names_new (ps : List Pr) (t : TypeId) (w : World) : ∀ (j : Nat) (p : Pr), ps[j]? = some p → (w.alloc (.cells (ps.map fun p => Value.string p.name).toArray t)).cell? ⟨w.heap.size, j, none⟩ = some (.string p.name) := fun j p hp => by
  rw [vblk_cells (valloc_at w _ _ rfl)]
  simp [hp]
end Go.Proofs.YtgnmedjknbbfhaaGreatDoor
namespace Go.Proofs.YtgnmedjknbbfhaaGreatDoor
open Go.RowKit Go.Lib
set_option linter.unusedSimpArgs false
set_option linter.unusedVariables false
def pStr : Pr := ⟨⟨#[62, 115, 116, 114]⟩, [63], fun d l => oneR (txR d l)⟩
theorem cStr : PrC pStr := ⟨wt_38, cy_md mn_38 (by kernel_rfl) md_str, by decide, by decide⟩
def pInt : Pr := ⟨⟨#[62, 105, 110, 116]⟩, [2], fun d l => oneR (nuR d l)⟩
theorem cInt : PrC pInt := ⟨wt_39, cy_md mn_39 (by kernel_rfl) md_int, by decide, by decide⟩
def pAnd : Pr := ⟨⟨#[97, 110, 100]⟩, [4, 4], fun _ l => oneR (.ok (boT (flB (l.getD 0 zT) && flB (l.getD 1 zT))))⟩
theorem cAnd : PrC pAnd := ⟨wt_19, cy_md mn_19 (by kernel_rfl) (mh_and ho_and), by decide, by decide⟩
def pOr : Pr := ⟨⟨#[111, 114]⟩, [4, 4], fun _ l => oneR (.ok (boT (flB (l.getD 0 zT) || flB (l.getD 1 zT))))⟩
theorem cOr : PrC pOr := ⟨wt_20, cy_md mn_20 (by kernel_rfl) (mh_or ho_or), by decide, by decide⟩
def pNot : Pr := ⟨⟨#[110, 111, 116]⟩, [4], fun _ l => oneR (.ok (boT (!flB (l.getD 0 zT))))⟩
theorem cNot : PrC pNot := ⟨wt_21, cy_md mn_21 (by kernel_rfl) (mh_not ho_not), by decide, by decide⟩
theorem do_ands (a b : Bool) : doL 1 [pAnd, pNot] [boT a, boT b] = .ok [boT (!(a && b))] := by cases a <;> cases b <;> kernel_rfl
theorem do_ors (a b : Bool) : doL 1 [pOr] [boT (!a), boT (!b)] = .ok [boT (!(a && b))] := by cases a <;> cases b <;> kernel_rfl
/-- a number that fits -/
def fitN (n : Int) : Bool := decide (-1152921504606846976 ≤ n) && decide (n ≤ 1152921504606846975)
theorem sd_in (d : Nat) (n : Int) : sdB (d + 1) (inT n) = fitN n := by
  show (alB (inT n) && decide (0 + (1 + 0) ≤ 1024) && decide (0 + 0 ≤ 32)) = fitN n
  rw [show alB (inT n) = fitN n from rfl]
  simp
theorem itoa_q (n : Int) : ∃ q, VL q ∧ (⟨(itoa n).toArray⟩ : ByteArray) = tx q := by
  obtain ⟨u, p, hp, hi⟩ : ∃ (u : Nat) (p : List Nat), (∀ c ∈ p, c = 45) ∧ itoa n = p.map (·.toUInt8) ++ decDigits u := by
    by_cases h : n < 0
    · exact ⟨n.natAbs, [45], by simp, by unfold itoa; rw [if_pos h]; rfl⟩
    · exact ⟨n.toNat, [], by simp, by unfold itoa; rw [if_neg h]; rfl⟩
  have hd := dg_digit u u
  have hasc : ∀ c ∈ p ++ dgL u u, c < 128 := fun c hc => by
    rcases List.mem_append.1 hc with g | g
    · have := hp c g; omega
    · have := hd c g; omega
  refine ⟨p ++ dgL u u, fun c hc => .inl (by have := hasc c hc; omega), ?_⟩
  unfold tx
  rw [tx_ascii _ hasc, hi, dg_dd u u (Nat.le_refl _)]
  simp
theorem txt_in (d : Nat) (n : Int) : txtV (d + 1) (inT n) = ⟨(itoa n).toArray⟩ := by
  unfold txtV
  rw [show wdL (d + 1) false (inT n) = [⟨(itoa n).toArray⟩] from rfl]
  simp [Lib.join, List.intercalate]
theorem sd_txt (d : Nat) (n : Int) (h0 : -9223372036854775808 ≤ n) (h1 : n ≤ 9223372036854775807) : sdB (d + 1) (stT ⟨(itoa n).toArray⟩) = true := by
  have e1 : (⟨(itoa n).toArray⟩ : ByteArray).size ≤ 4096 := by
    have := itoa_length_le n h0 h1
    show (itoa n).toArray.size ≤ 4096
    simp
    omega
  have e2 : vlB ⟨(itoa n).toArray⟩ = true := by
    obtain ⟨q, hq, e⟩ := itoa_q n
    rw [e, vl_st]
    exact stR_tx hq
  show (alB (stT ⟨(itoa n).toArray⟩) && decide (0 + (1 + 0) ≤ 1024) && decide (0 + 0 ≤ 32)) = true
  rw [show alB (stT ⟨(itoa n).toArray⟩) = (decide ((⟨(itoa n).toArray⟩ : ByteArray).size ≤ 4096) && vlB ⟨(itoa n).toArray⟩) from rfl, e2, decide_eq_true e1]
  rfl
theorem do_text (n : Int) (h : fitN n = true) : doL 1 [pStr, pInt] [inT n] = .ok [inT n] := by
  have hb := h
  unfold fitN at hb
  simp only [Bool.and_eq_true, decide_eq_true_eq] at hb
  have s1 : sdB 1 (inT n) = true := (sd_in 0 n).trans h
  have s5 : sdB 5 (inT n) = true := (sd_in 4 n).trans h
  have st : sdB 3 (stT ⟨(itoa n).toArray⟩) = true := sd_txt 2 n (by omega) (by omega)
  have hn := num_itoa n hb.1 hb.2
  rw [doL_ok (p := pStr) (l' := [stT ⟨(itoa n).toArray⟩]) (doR_ok (ls := [stT ⟨(itoa n).toArray⟩]) (by simp [s1]) (by show 1 ≤ 1; omega) (by
    show (fb (inT n) 63 && true) = true
    rw [fb_63]
    rfl) (by
    show oneR (.ok (stT (txtV 1 (inT n)))) = _
    rw [txt_in]
    rfl) (by simp [st]) rfl)]
  rw [doL_ok (p := pInt) (l' := [inT n]) (doR_ok (ls := [inT n]) (by simp [st]) (by show 1 ≤ 1; omega) (by
    show (fb (stT _) 2 && true) = true
    rw [show fb (stT ⟨(itoa n).toArray⟩) 2 = (!(bits BinOp.and IntKind.i64 2 2 == 0)) from rfl]
    decide) (by
    show oneR (if (numR ⟨(itoa n).toArray⟩).2 = 0 then .ok (inT (numR ⟨(itoa n).toArray⟩).1) else .error (numR ⟨(itoa n).toArray⟩).2) = _
    rw [hn]
    rfl) (by simp [s5]) rfl)]
  rfl
theorem do_over (n : Int) (h : fitN n = false) : doL 1 [pStr, pInt] [inT n] = .error 1 := doL_error (doR_form (by simp [sd_in 0 n, h]))
/-- values in a new row -/
theorem qi_1 {W : World} {Q : Nat} {x : Vt} {u : Value} (hc : W.cell? ⟨Q, 0, none⟩ = some u) (ht : ∀ S, TiAt W S 1 false x u) : QiAt W (fun b => b = Q) 1 false (.slice (some ⟨Q, 0, none⟩) [x].length 1) [x] := by
  refine ⟨_, _, rfl, by simp, fun j y hy => ?_⟩
  have hj : j = 0 := by have := (List.getElem?_eq_some_iff.1 hy).1; simp at this; exact this
  subst hj
  simp at hy
  subst hy
  exact ⟨Q, 0, u, rfl, rfl, hc, ht _⟩
theorem qi_2 {W : World} {Q : Nat} {x y : Vt} {u v : Value} (hc : W.cell? ⟨Q, 0, none⟩ = some u) (hd : W.cell? ⟨Q, 1, none⟩ = some v) (ht : ∀ S, TiAt W S 1 false x u) (hu : ∀ S, TiAt W S 1 false y v) : QiAt W (fun b => b = Q) 1 false (.slice (some ⟨Q, 0, none⟩) [x, y].length 2) [x, y] := by
  refine ⟨_, _, rfl, by simp, fun j z hz => ?_⟩
  have hj := (List.getElem?_eq_some_iff.1 hz).1
  match j, hj with
  | 0, _ => simp at hz; subst hz; exact ⟨Q, 0, u, rfl, rfl, hc, ht _⟩
  | 1, _ => simp at hz; subst hz; exact ⟨Q, 0, v, rfl, rfl, hd, hu _⟩
theorem in_lf (n : Int) : LfT 1 (inT n) := ⟨fun _ => rfl, fun x hx => by cases hx⟩
theorem bo_lf (b : Bool) : LfT 1 (boT b) := ⟨fun _ => rfl, fun x hx => by cases hx⟩
theorem bo_nf (b : Bool) : ∃ e, NfT e (boT b) := by
  refine ⟨1, Nat.zero_le _, ?_, ?_, rfl, fun x hx => by cases hx⟩
  · cases b
    · exact ⟨(by decide : (-9223372036854775808 : Int) ≤ 0), (by decide : (0 : Int) ≤ 9223372036854775807)⟩
    · exact ⟨(by decide : (-9223372036854775808 : Int) ≤ 1), (by decide : (1 : Int) ≤ 9223372036854775807)⟩
  · cases b <;> rfl
theorem in_nf {n : Int} (h : -9223372036854775808 ≤ n ∧ n ≤ 9223372036854775807) : ∃ e, NfT e (inT n) := ⟨1, Nat.zero_le _, h, rfl, rfl, fun x hx => by cases hx⟩
set_option maxRecDepth 100000 in
set_option maxHeartbeats 8000000 in
theorem texts_walk (n : Int) (a b : Bool) (hn : IntKind.i64.min ≤ n ∧ n ≤ IntKind.i64.max) (w : World) (hT : Ty w) : Calls Tryz.prog 8 #[.int .i64 n, .bool a, .bool b] w fun e w' => e = .returned (.bool true) ∧ Only (fun _ => False) w w' := by
  have hnb : -9223372036854775808 ≤ n ∧ n ≤ 9223372036854775807 := hn
  have HA : Hid _ := awake12 w hT
  have HD1 : Hid (∀ (W : World) (Q Q2 : Nat), Only (fun _ => False) w W → W.cell? ⟨Q, 0, none⟩ = some (.iface 55 (.agg #[.int .i64 n])) → (W.cell? ⟨Q2, 0, none⟩ = some (.string ⟨#[62, 115, 116, 114]⟩) ∧ W.cell? ⟨Q2, 1, none⟩ = some (.string ⟨#[62, 105, 110, 116]⟩)) → Calls Tryz.prog 23 #[.slice (some ⟨Q, 0, none⟩) 1 1, .slice (some ⟨Q2, 0, none⟩) 2 2] W fun e w' => DlP (doL 1 [pStr, pInt] [inT n]) 5 W e w') := fun W Q Q2 o hc h2 =>
    do_names (ps := [pStr, pInt]) (fun p hp => by simp only [List.mem_cons, List.not_mem_nil, or_false] at hp; rcases hp with rfl | rfl; exact cStr; exact cInt) (by decide) (qi_1 hc (fun S => in_ti W S 0 n)) (fun b hb => by subst hb; exact World.block_lt_of_cell? W _ hc) (fun x hx => by simp only [List.mem_cons, List.not_mem_nil, or_false] at hx; subst hx; exact in_sm hnb) (by simp) (fun j p hp => by
      have hj := (List.getElem?_eq_some_iff.1 hp).1
      match j, hj with
      | 0, _ => simp at hp; subst hp; exact h2.1
      | 1, _ => simp at hp; subst hp; exact h2.2) (hT.1.frame o)
  have HD2 : Hid (∀ (W : World) (Q Q2 : Nat), Only (fun _ => False) w W → (W.cell? ⟨Q, 0, none⟩ = some (.iface 59 (.agg #[.bool a])) ∧ W.cell? ⟨Q, 1, none⟩ = some (.iface 59 (.agg #[.bool b]))) → (W.cell? ⟨Q2, 0, none⟩ = some (.string ⟨#[97, 110, 100]⟩) ∧ W.cell? ⟨Q2, 1, none⟩ = some (.string ⟨#[110, 111, 116]⟩)) → Calls Tryz.prog 23 #[.slice (some ⟨Q, 0, none⟩) 2 2, .slice (some ⟨Q2, 0, none⟩) 2 2] W fun e w' => DlP (.ok [boT (!(a && b))]) 5 W e w') := fun W Q Q2 o hc h2 => by
    rw [← do_ands a b]
    exact do_names (ps := [pAnd, pNot]) (fun p hp => by simp only [List.mem_cons, List.not_mem_nil, or_false] at hp; rcases hp with rfl | rfl; exact cAnd; exact cNot) (by decide) (qi_2 hc.1 hc.2 (fun S => bo_ti W S 0 a) (fun S => bo_ti W S 0 b)) (fun b hb => by subst hb; exact World.block_lt_of_cell? W _ hc.1) (fun x hx => by simp only [List.mem_cons, List.not_mem_nil, or_false] at hx; rcases hx with rfl | rfl <;> exact bo_sm _) (by simp) (fun j p hp => by
      have hj := (List.getElem?_eq_some_iff.1 hp).1
      match j, hj with
      | 0, _ => simp at hp; subst hp; exact h2.1
      | 1, _ => simp at hp; subst hp; exact h2.2) (hT.1.frame o)
  have HD3 : Hid (∀ (W : World) (Q Q2 : Nat), Only (fun _ => False) w W → (W.cell? ⟨Q, 0, none⟩ = some (.iface 59 (.agg #[.bool (!a)])) ∧ W.cell? ⟨Q, 1, none⟩ = some (.iface 59 (.agg #[.bool (!b)]))) → W.cell? ⟨Q2, 0, none⟩ = some (.string ⟨#[111, 114]⟩) → Calls Tryz.prog 23 #[.slice (some ⟨Q, 0, none⟩) 2 2, .slice (some ⟨Q2, 0, none⟩) 1 1] W fun e w' => DlP (.ok [boT (!(a && b))]) 3 W e w') := fun W Q Q2 o hc h2 => by
    rw [← do_ors a b]
    exact do_names (ps := [pOr]) (fun p hp => by simp only [List.mem_cons, List.not_mem_nil, or_false] at hp; subst hp; exact cOr) (by decide) (qi_2 hc.1 hc.2 (fun S => bo_ti W S 0 (!a)) (fun S => bo_ti W S 0 (!b))) (fun b hb => by subst hb; exact World.block_lt_of_cell? W _ hc.1) (fun x hx => by simp only [List.mem_cons, List.not_mem_nil, or_false] at hx; rcases hx with rfl | rfl <;> exact bo_sm _) (by simp) (fun j p hp => by
      have hj := (List.getElem?_eq_some_iff.1 hp).1
      match j, hj with
      | 0, _ => simp at hp; subst hp; exact h2) (hT.1.frame o)
  have HIn : Hid (∀ W, Calls Tryz.prog 27 #[.int .i64 n] W fun e w' => e = .returned (.bool (fitN n)) ∧ w' = W) := fun W => din_any n W
  have HS1 : Hid (∀ (D c : Nat) (ao : Option Addr) (w5 W : World) (Q : Nat), (∃ S, QiAt w5 S (D + 1) false (.slice ao [inT n].length c) [inT n] ∧ ∀ b, S b → b < w5.heap.size) → Only (fun _ => False) w5 W → (W.cell? ⟨Q, 0, none⟩ = some (.int .i64 1) ∧ W.cell? ⟨Q, 1, none⟩ = some (.int .i64 n) ∧ W.cell? ⟨Q, 2, none⟩ = some (.string ⟨#[]⟩) ∧ W.cell? ⟨Q, 3, none⟩ = some (.slice none 0 0)) → Calls Tryz.prog 24 #[.slice ao 1 c, .slice (some ⟨Q, 0, none⟩) 1 1] W fun e w' => e = .returned (.bool true) ∧ Only (fun _ => False) W w') := fun D c ao w5 W Q ⟨S, h1, _⟩ o hc =>
    same_self (la := [inT n]) (E := 1) (h1.step (fun _ g => g) (fun a u _ hc => o.cell hc (fun g => g)) (Nat.le_refl _)) (Sb := fun b => b = Q) ⟨_, _, rfl, by simp, fun j y hy => by
      have hj : j = 0 := by have := (List.getElem?_eq_some_iff.1 hy).1; simp at this; exact this
      subst hj
      simp at hy
      subst hy
      exact ⟨Q, 0, _, rfl, rfl, hc, ⟨none, 0, rfl, Nat.zero_le _, fun i x hx => by simp [inT] at hx⟩⟩⟩ (by simp) (fun x hx => by simp only [List.mem_cons, List.not_mem_nil, or_false] at hx; subst hx; exact in_sm hnb) (fun x hx => by simp only [List.mem_cons, List.not_mem_nil, or_false] at hx; subst hx; exact in_nf hnb) (fun x hx => by simp only [List.mem_cons, List.not_mem_nil, or_false] at hx; subst hx; exact (in_lf n).mono (by omega))
  obtain ⟨c, hcd⟩ : ∃ c, c = (!(a && b)) := ⟨_, rfl⟩
  have hN1 : ∀ x ∈ [boT c], ∃ e, NfT e x := fun x hx => by simp only [List.mem_cons, List.not_mem_nil, or_false] at hx; subst hx; exact bo_nf c
  have hM1 : ∀ x ∈ [boT c], ∃ e, SmT e x := fun x hx => by simp only [List.mem_cons, List.not_mem_nil, or_false] at hx; subst hx; exact bo_sm c
  have HTr : Hid (∀ (D k : Nat) (ao : Option Addr) (w5 W : World), (∃ S, QiAt w5 S D false (.slice ao [boT c].length k) [boT c] ∧ ∀ b, S b → b < w5.heap.size) → Only (fun _ => False) w5 W → Calls Tryz.prog 10 #[.slice ao 1 k] W fun e w' => ∃ a2 c2, e = .returned (.slice a2 1 c2) ∧ Hid ((∃ S, VsAt w' S (D + 1) [boT c] (.slice a2 1 c2)) ∧ Only (fun _ => False) W w')) := fun D k ao w5 W ⟨S, h1, _⟩ o => by
    refine (utrees_of D (utrees_any (D + 1) D (by omega)).1 (.slice ao [boT c].length k) [boT c] W S (h1.step (fun _ g => g) (fun a u _ hc => o.cell hc (fun g => g)) (Nat.le_refl _)) (by simp) hN1).mono fun e w' g => ?_
    obtain ⟨a2, c2, he, g⟩ := g
    exact ⟨a2, c2, he, g.out.1.vs, g.out.2⟩
  have HSA : Hid (∀ (D E : Nat) (va vb : Value) (W : World), (∃ S, VsAt W S (D + 1) [boT c] va) → (∃ S, VsAt W S (E + 1) [boT c] vb) → Calls Tryz.prog 14 #[va, vb] W fun e w' => e = .returned (.bool true) ∧ Only (fun _ => False) W w') := fun D E va vb W ⟨S1, h1⟩ ⟨S2, h2⟩ => by
    have := (dsame_all (D + E + 1 + 1)).1 [boT c] [boT c] va vb W S1 S2 (h1.step (fun _ g => g) (fun _ _ _ g => g) (by omega)) (h2.step (fun _ g => g) (fun _ _ _ g => g) (by omega)) (by simp) (by simp) hM1 hM1
    rw [show D + E + 1 + 1 - 1 = D + E + 1 by omega, smL_self _ _ (fun x hx => by simp only [List.mem_cons, List.not_mem_nil, or_false] at hx; subst hx; exact saV_self _ _ ((bo_lf c).mono (by omega)))] at this
    exact this
  rw [← hcd] at HD2 HD3
  have HF : Hid ((fitN n = true → doL 1 [pStr, pInt] [inT n] = .ok [inT n]) ∧ (fitN n = false → doL 1 [pStr, pInt] [inT n] = .error 1)) := ⟨do_text n, do_over n⟩
  obtain ⟨F, hF⟩ : ∃ F, F = fitN n := ⟨_, rfl⟩
  rw [← hF] at HIn HF
  obtain ⟨a', ha'⟩ : ∃ x, x = (!a) := ⟨_, rfl⟩
  obtain ⟨b', hb'⟩ : ∃ x, x = (!b) := ⟨_, rfl⟩
  clear hn hnb hT hN1 hM1 hcd hF ha' hb'
  go_enter Tryz.func8, Tryz.ntmps8
  go_wp2_with fail
  refine (show Calls Tryz.prog 9 _ _ _ from HA.out).mono ?_
  rintro e w1 ⟨rfl, o1⟩
  have O1 : Hid (Only (fun _ => False) w w1) := o1
  clear HA o1
  go_wp2_with fail
  refine (show Calls Tryz.prog 23 _ _ _ from HD1.out _ _ _ ((O1.out.alloc _).alloc _) (by simp [go_sem]) (by simp [go_sem])).mono ?_
  cases F with
  | false =>
    rw [HF.out.2 rfl]
    rintro e w2 ⟨rfl, hn2, o2⟩
    have O2 : Hid (Only (fun _ => False) w w2) := ((O1.out.alloc _).alloc _).trans o2 (fun _ _ g => g)
    clear o2 hn2 O1 HD1 HF
    go_wp2_with fail
    refine (show Calls Tryz.prog 27 _ _ _ from HIn.out _).mono ?_
    rintro e w3 ⟨rfl, hw3⟩
    obtain rfl := hw3.symm
    go_wp2
    go_ret
    exact ⟨rfl, O2.out⟩
  | true =>
    rw [HF.out.1 rfl]
    rintro e w2 ⟨b2, d2, rfl, K2⟩
    have O2 : Hid (Only (fun _ => False) w w2) := ((O1.out.alloc _).alloc _).trans K2.out.2.2 (fun _ _ g => g)
    have M2 : Hid _ := fun W Q o h => HS1.out 4 d2 b2 w2 W Q K2.out.1 o h
    clear K2 O1 HD1 HF HS1
    go_wp2_with fail
    refine (show Calls Tryz.prog 27 _ _ _ from HIn.out _).mono ?_
    rintro e w3 ⟨rfl, hw3⟩
    obtain rfl := hw3.symm
    clear HIn
    have L2 : Hid (Only (fun _ => False) w2 w2) := Only.refl _ _
    go_wp2_with fail
    refine (show Calls Tryz.prog 23 _ _ _ from HD2.out _ _ _ ((O2.out.alloc _).alloc _) (by simp [go_sem]) (by simp [go_sem])).mono ?_
    rintro e w4 ⟨b4, d4, rfl, K4⟩
    have O4 : Hid (Only (fun _ => False) w w4) := ((O2.out.alloc _).alloc _).trans K4.out.2.2 (fun _ _ g => g)
    have L4 : Hid (Only (fun _ => False) w2 w4) := ((L2.out.alloc _).alloc _).trans K4.out.2.2 (fun _ _ g => g)
    have M4 : Hid _ := fun W o => HTr.out 5 d4 b4 w4 W K4.out.1 o
    clear K4 O2 L2 HD2
    have L5 : Hid (Only (fun _ => False) w4 w4) := Only.refl _ _
    go_wp2_with fail
    refine (show Calls Tryz.prog 23 _ _ _ from HD3.out _ _ _ ((O4.out.alloc _).alloc _) (by simp [go_sem]) (by simp [go_sem])).mono ?_
    rintro e w6 ⟨b6, d6, rfl, K6⟩
    have O6 : Hid (Only (fun _ => False) w w6) := ((O4.out.alloc _).alloc _).trans K6.out.2.2 (fun _ _ g => g)
    have L6 : Hid (Only (fun _ => False) w4 w6) := ((L5.out.alloc _).alloc _).trans K6.out.2.2 (fun _ _ g => g)
    have L7 : Hid (Only (fun _ => False) w2 w6) := L4.out.trans L6.out (fun _ _ g => g)
    have M6 : Hid _ := fun W o => HTr.out 3 d6 b6 w6 W K6.out.1 o
    have L8 : Hid (Only (fun _ => False) w6 w6) := Only.refl _ _
    clear K6 O4 HD3 L4 L5 HTr
    go_wp2_with fail
    refine (show Calls Tryz.prog 24 _ _ _ from M2.out _ _ (L7.out.alloc _) (by simp [go_sem])).mono ?_
    rintro e w7 ⟨rfl, o7⟩
    have O7 : Hid (Only (fun _ => False) w w7) := (O6.out.alloc _).trans o7 (fun _ _ g => g)
    have L9 : Hid (Only (fun _ => False) w6 w7) := (L8.out.alloc _).trans o7 (fun _ _ g => g)
    clear o7 M2 L7 L8 O6
    go_wp2_with fail
    refine (show Calls Tryz.prog 10 _ _ _ from M4.out _ (L6.out.trans L9.out (fun _ _ g => g))).mono ?_
    rintro e w8 ⟨b8, d8, rfl, K8⟩
    have O8 : Hid (Only (fun _ => False) w w8) := O7.out.trans K8.out.2 (fun _ _ g => g)
    have L10 : Hid (Only (fun _ => False) w6 w8) := L9.out.trans K8.out.2 (fun _ _ g => g)
    clear M4 O7 L9 L6
    go_wp2_with fail
    refine (show Calls Tryz.prog 10 _ _ _ from M6.out _ L10.out).mono ?_
    rintro e w9 ⟨b9, d9, rfl, K9⟩
    have O9 : Hid (Only (fun _ => False) w w9) := O8.out.trans K9.out.2 (fun _ _ g => g)
    have HX : Hid _ := HSA.out 5 3 _ _ w9 (by obtain ⟨S, h⟩ := K8.out.1; exact ⟨S, h.only K9.out.2⟩) K9.out.1
    clear M6 L10 K8 K9 O8 HSA
    go_wp2_with fail
    refine (show Calls Tryz.prog 14 _ _ _ from HX.out).mono ?_
    rintro e w10 ⟨rfl, o10⟩
    have O10 : Hid (Only (fun _ => False) w w10) := O9.out.trans o10 (fun _ _ g => g)
    clear o10 O9 HX
    go_wp2
    go_ret
    exact ⟨rfl, O10.out⟩
end Go.Proofs.YtgnmedjknbbfhaaGreatDoor
