/- What words that move values, pair and unpair make of sound values. What append, length, slice, reverse and nth make of one another: of trees alone. The names of the primitives. law12.awake; rows of trees. Numbers and flags as values. What the primitives that PrimLists calls answer. What PrimLists' calls answer. -/
import Derived.Test.YtbhpjakjlfkfiaaGreatDoorGal
import Derived.Test.YtbhpjakjlfkfiaaGreatDoorGam
import Derived.Test.YtbhpjakjlfkfiaaGreatDoorGan
import Derived.Test.YtbhpjakjlfkfiaaGreatDoorGau
import Derived.Test.YtbhpjakjlfkfiaaGreatDoorGar
import Derived.Test.YtbhpjakjlfkfiaaGreatDoorGao
namespace Go.Proofs.YtbhpjakjlfkfiaaGreatDoor
open Go.RowKit Go.Lib
set_option linter.unusedSimpArgs false
set_option linter.unusedVariables false
def pDup : Pr := ⟨⟨#[100, 117, 112]⟩, [63], fun _ l => .ok (lsR [0, 0] l)⟩
theorem cDup : PrC pDup := ⟨wt_0, cy_mv mv_0 (by decide) (by decide) (by decide), by decide, by decide⟩
def pDrop : Pr := ⟨⟨#[100, 114, 111, 112]⟩, [63], fun _ l => .ok (lsR [] l)⟩
theorem cDrop : PrC pDrop := ⟨wt_1, cy_mv mv_1 (by decide) (by decide) (by decide), by decide, by decide⟩
def pSwap : Pr := ⟨⟨#[115, 119, 97, 112]⟩, [63, 63], fun _ l => .ok (lsR [1, 0] l)⟩
theorem cSwap : PrC pSwap := ⟨wt_2, cy_mv mv_2 (by decide) (by decide) (by decide), by decide, by decide⟩
def pOver : Pr := ⟨⟨#[111, 118, 101, 114]⟩, [63, 63], fun _ l => .ok (lsR [0, 1, 0] l)⟩
theorem cOver : PrC pOver := ⟨wt_3, cy_mv mv_3 (by decide) (by decide) (by decide), by decide, by decide⟩
def pRot : Pr := ⟨⟨#[114, 111, 116]⟩, [63, 63, 63], fun _ l => .ok (lsR [1, 2, 0] l)⟩
theorem cRot : PrC pRot := ⟨wt_4, cy_mv mv_4 (by decide) (by decide) (by decide), by decide, by decide⟩
def pNip : Pr := ⟨⟨#[110, 105, 112]⟩, [63, 63], fun _ l => .ok (lsR [1] l)⟩
theorem cNip : PrC pNip := ⟨wt_5, cy_mv mv_5 (by decide) (by decide) (by decide), by decide, by decide⟩
def pTuck : Pr := ⟨⟨#[116, 117, 99, 107]⟩, [63, 63], fun _ l => .ok (lsR [1, 0, 1] l)⟩
theorem cTuck : PrC pTuck := ⟨wt_6, cy_mv mv_6 (by decide) (by decide) (by decide), by decide, by decide⟩
def pPair : Pr := ⟨⟨#[112, 97, 105, 114]⟩, [63, 63], fun _ l => oneR (.ok (lisT l))⟩
theorem cPair : PrC pPair := ⟨wt_33, cy_md mn_33 (by kernel_rfl) md_pair, by decide, by decide⟩
def pUnpair : Pr := ⟨⟨#[117, 110, 112, 97, 105, 114]⟩, [8], fun _ => unR⟩
theorem cUnpair : PrC pUnpair := ⟨wt_34, cy_unpair mn_34, by decide, by decide⟩
/-- a sound value, of depth e -/
def Gs (e : Nat) (t : Vt) : Prop := LfT e t ∧ dsB e t = true
theorem Gs.sd {e D : Nat} {t : Vt} (h : Gs e t) (hD : 2 * e + 1 ≤ D) : sdB D t = true := (ds_sd h.1 hD).trans h.2
theorem Gs.fb {e : Nat} {t : Vt} (h : Gs e t) : fb t 63 = true := by
  have h1 := h.sd (Nat.le_refl _)
  unfold sdB msB at h1
  simp only [Bool.and_eq_true] at h1
  have h2 := ok_kind h1.1.1
  rw [fb_63]
  simpa using h2
theorem doR_ok {d : Nat} {ks : List Int} {cy : Nat → List Vt → Except Int (List Vt)} {l ls l' : List Vt} (h1 : l.all (sdB d) = true) (h2 : ks.length ≤ l.length) (h3 : fitB (l.drop (l.length - ks.length)) ks = true) (h4 : cy d (l.drop (l.length - ks.length)) = .ok ls) (h5 : ls.all (sdB (d + 2)) = true) (h6 : l.take (l.length - ks.length) ++ ls = l') : doR d ks cy l = .ok l' := by
  unfold doR
  rw [if_neg (by rw [h1]; simp), if_neg (by omega), if_neg (by rw [h3]; simp), h4]
  simp only [fnR]
  rw [if_pos h5, h6]
theorem doR_form {d : Nat} {ks : List Int} {cy : Nat → List Vt → Except Int (List Vt)} {l : List Vt} (h1 : l.all (sdB d) = false) : doR d ks cy l = .error 1 := by
  unfold doR
  rw [if_pos h1]
theorem gs_all {e D : Nat} {l : List Vt} (h : ∀ x ∈ l, Gs e x) (hD : 2 * e + 1 ≤ D) : l.all (sdB D) = true := List.all_eq_true.2 fun x hx => (h x hx).sd hD
theorem fit_63 {e : Nat} : ∀ (l : List Vt) (ks : List Int), (∀ x ∈ l, Gs e x) → (∀ k ∈ ks, k = 63) → fitB l ks = true
  | [], _, _, _ => rfl
  | _ :: _, [], _, _ => rfl
  | t :: l, k :: ks, h, hk => by
    obtain rfl := hk k (List.mem_cons_self ..)
    simp only [fitB, (h t (List.mem_cons_self ..)).fb, Bool.true_and]
    exact fit_63 l ks (fun x hx => h x (List.mem_cons_of_mem _ hx)) (fun x hx => hk x (List.mem_cons_of_mem _ hx))
/-- a word that moves values -/
theorem mv_do {e D : Nat} {l l' : List Vt} {ks ps : List Int} (hl : ∀ x ∈ l, Gs e x) (hD : 2 * e + 1 ≤ D) (hk : ∀ k ∈ ks, k = 63) (h2 : ks.length ≤ l.length) (h6 : l.take (l.length - ks.length) ++ lsR ps (l.drop (l.length - ks.length)) = l') (hl' : ∀ x ∈ l', Gs e x) : doR D ks (fun _ l => .ok (lsR ps l)) l = .ok l' :=
  doR_ok (gs_all hl hD) h2 (fit_63 _ _ (fun x hx => hl x (List.mem_of_mem_drop hx)) hk) rfl (gs_all (fun x hx => hl' x (by rw [← h6]; exact List.mem_append_right _ hx)) (by omega)) h6
section
variable {e D : Nat} {x y z : Vt} (hx : Gs e x) (hy : Gs e y) (hz : Gs e z) (hD : 2 * e + 1 ≤ D)
theorem gs3 : ∀ t ∈ [x, y, z], Gs e x → Gs e y → Gs e z → Gs e t := by
  intro t ht hx hy hz
  simp only [List.mem_cons, List.not_mem_nil, or_false] at ht
  rcases ht with rfl | rfl | rfl <;> assumption
theorem gs2 : ∀ t ∈ [x, y], Gs e x → Gs e y → Gs e t := by
  intro t ht hx hy
  simp only [List.mem_cons, List.not_mem_nil, or_false] at ht
  rcases ht with rfl | rfl <;> assumption
theorem gs4 {u : Vt} : ∀ t ∈ [x, y, z, u], Gs e x → Gs e y → Gs e z → Gs e u → Gs e t := by
  intro t ht hx hy hz hu
  simp only [List.mem_cons, List.not_mem_nil, or_false] at ht
  rcases ht with rfl | rfl | rfl | rfl <;> assumption
theorem k63 {ks : List Int} (h : ks.all (fun k => decide (k = 63)) = true) : ∀ k ∈ ks, k = 63 := fun k hk => by simpa using List.all_eq_true.1 h k hk
theorem do_swaps (hx : Gs e x) (hy : Gs e y) (hz : Gs e z) (hD : 2 * e + 1 ≤ D) : doL D [pSwap, pSwap] [x, y, z] = .ok [x, y, z] := by
  rw [doL_ok (l' := [x, z, y]) (mv_do (e := e) (l := [x, y, z]) (l' := [x, z, y]) (ks := pSwap.ks) (ps := [1, 0]) (fun t ht => gs3 t ht hx hy hz) (by omega) (k63 (by decide)) (by show 2 ≤ 3; omega) rfl (fun t ht => gs3 t ht hx hz hy))]
  rw [doL_ok (l' := [x, y, z]) (mv_do (e := e) (l := [x, z, y]) (l' := [x, y, z]) (ks := pSwap.ks) (ps := [1, 0]) (fun t ht => gs3 t ht hx hz hy) (by omega) (k63 (by decide)) (by show 2 ≤ 3; omega) rfl (fun t ht => gs3 t ht hx hy hz))]
  rfl
theorem do_rots (hx : Gs e x) (hy : Gs e y) (hz : Gs e z) (hD : 2 * e + 1 ≤ D) : doL D [pRot, pRot, pRot] [x, y, z] = .ok [x, y, z] := by
  rw [doL_ok (l' := [y, z, x]) (mv_do (e := e) (l := [x, y, z]) (l' := [y, z, x]) (ks := pRot.ks) (ps := [1, 2, 0]) (fun t ht => gs3 t ht hx hy hz) (by omega) (k63 (by decide)) (by show 3 ≤ 3; omega) rfl (fun t ht => gs3 t ht hy hz hx))]
  rw [doL_ok (l' := [z, x, y]) (mv_do (e := e) (l := [y, z, x]) (l' := [z, x, y]) (ks := pRot.ks) (ps := [1, 2, 0]) (fun t ht => gs3 t ht hy hz hx) (by omega) (k63 (by decide)) (by show 3 ≤ 3; omega) rfl (fun t ht => gs3 t ht hz hx hy))]
  rw [doL_ok (l' := [x, y, z]) (mv_do (e := e) (l := [z, x, y]) (l' := [x, y, z]) (ks := pRot.ks) (ps := [1, 2, 0]) (fun t ht => gs3 t ht hz hx hy) (by omega) (k63 (by decide)) (by show 3 ≤ 3; omega) rfl (fun t ht => gs3 t ht hx hy hz))]
  rfl
theorem do_dups (hx : Gs e x) (hy : Gs e y) (hz : Gs e z) (hD : 2 * e + 1 ≤ D) : doL D [pDup, pDrop] [x, y, z] = .ok [x, y, z] := by
  rw [doL_ok (l' := [x, y, z, z]) (mv_do (e := e) (l := [x, y, z]) (l' := [x, y, z, z]) (ks := pDup.ks) (ps := [0, 0]) (fun t ht => gs3 t ht hx hy hz) (by omega) (k63 (by decide)) (by show 1 ≤ 3; omega) rfl (fun t ht => gs4 t ht hx hy hz hz))]
  rw [doL_ok (l' := [x, y, z]) (mv_do (e := e) (l := [x, y, z, z]) (l' := [x, y, z]) (ks := pDrop.ks) (ps := []) (fun t ht => gs4 t ht hx hy hz hz) (by omega) (k63 (by decide)) (by show 1 ≤ 4; omega) rfl (fun t ht => gs3 t ht hx hy hz))]
  rfl
theorem do_overs (hx : Gs e x) (hy : Gs e y) (hz : Gs e z) (hD : 2 * e + 1 ≤ D) : doL D [pOver, pNip, pSwap, pDrop, pOver] [x, y, z] = .ok [x, y, x] := by
  rw [doL_ok (l' := [x, y, z, y]) (mv_do (e := e) (l := [x, y, z]) (l' := [x, y, z, y]) (ks := pOver.ks) (ps := [0, 1, 0]) (fun t ht => gs3 t ht hx hy hz) (by omega) (k63 (by decide)) (by show 2 ≤ 3; omega) rfl (fun t ht => gs4 t ht hx hy hz hy))]
  rw [doL_ok (l' := [x, y, y]) (mv_do (e := e) (l := [x, y, z, y]) (l' := [x, y, y]) (ks := pNip.ks) (ps := [1]) (fun t ht => gs4 t ht hx hy hz hy) (by omega) (k63 (by decide)) (by show 2 ≤ 4; omega) rfl (fun t ht => gs3 t ht hx hy hy))]
  rw [doL_ok (l' := [x, y, y]) (mv_do (e := e) (l := [x, y, y]) (l' := [x, y, y]) (ks := pSwap.ks) (ps := [1, 0]) (fun t ht => gs3 t ht hx hy hy) (by omega) (k63 (by decide)) (by show 2 ≤ 3; omega) rfl (fun t ht => gs3 t ht hx hy hy))]
  rw [doL_ok (l' := [x, y]) (mv_do (e := e) (l := [x, y, y]) (l' := [x, y]) (ks := pDrop.ks) (ps := []) (fun t ht => gs3 t ht hx hy hy) (by omega) (k63 (by decide)) (by show 1 ≤ 3; omega) rfl (fun t ht => gs2 t ht hx hy))]
  rw [doL_ok (l' := [x, y, x]) (mv_do (e := e) (l := [x, y]) (l' := [x, y, x]) (ks := pOver.ks) (ps := [0, 1, 0]) (fun t ht => gs2 t ht hx hy) (by omega) (k63 (by decide)) (by show 2 ≤ 2; omega) rfl (fun t ht => gs3 t ht hx hy hx))]
  rfl
theorem fb_lis (l : List Vt) : fb (lisT l) 8 = true := by
  show (!(bits BinOp.and IntKind.i64 8 8 == 0)) = true
  decide
theorem do_pairs (hx : Gs e x) (hy : Gs e y) (hz : Gs e z) (hD : 2 * e + 1 ≤ D) : doL D [pPair, pUnpair] [x, y, z] = .ok [x, y, z] ∨ doL D [pPair, pUnpair] [x, y, z] = .error 11 := by
  have hl := gs_all (fun t ht => gs3 t ht hx hy hz) hD
  have hf := fit_63 (e := e) [y, z] [63, 63] (fun t ht => gs2 t ht hy hz) (k63 (by decide))
  cases hp : sdB (D + 2) (lisT [y, z]) with
  | false =>
    right
    refine doL_error ?_
    unfold doR
    rw [if_neg (by rw [hl]; simp), if_neg (by show ¬ (3 < 2); omega), if_neg (by rw [show fitB ([x, y, z].drop ([x, y, z].length - pPair.ks.length)) pPair.ks = true from hf]; simp)]
    show fnR D _ (.ok [lisT [y, z]]) = _
    simp only [fnR, List.all_cons, hp]
    rfl
  | true =>
    left
    rw [doL_ok (p := pPair) (l' := [x, lisT [y, z]]) (doR_ok (ls := [lisT [y, z]]) hl (by show 2 ≤ 3; omega) hf rfl (by simp [hp]) rfl)]
    rw [doL_ok (p := pUnpair) (l' := [x, y, z]) (doR_ok (ls := [y, z]) (by simp [hp, hx.sd (show 2 * e + 1 ≤ D + 2 by omega)]) (by show 1 ≤ 2; omega) (by show (fb (lisT [y, z]) 8 && true) = true; rw [fb_lis]; rfl) rfl (gs_all (fun t ht => gs2 t ht hy hz) (by omega)) rfl)]
    rfl
end
end Go.Proofs.YtbhpjakjlfkfiaaGreatDoor
namespace Go.Proofs.YtbhpjakjlfkfiaaGreatDoor
open Go.RowKit Go.Lib
set_option linter.unusedSimpArgs false
set_option linter.unusedVariables false
theorem rc_rns (s : ByteArray) : runeCount s = (rns s).length := by
  have key : ∀ (f pos : Nat), runeCountFrom s f pos = (crs s f pos).length := by
    intro f
    induction f with
    | zero => intro pos; rfl
    | succ f ih =>
      intro pos
      unfold runeCountFrom crs
      by_cases h : pos < s.size
      · rw [if_pos h, if_pos h, ih, List.length_cons]
        omega
      · rw [if_neg h, if_neg h]
        rfl
  unfold runeCount rns chs
  rw [key, List.length_map]
theorem tx_app (p q : List Nat) : tx p ++ tx q = tx (p ++ q) := by
  apply ByteArray.ext
  simp [tx, enL_app, ByteArray.data_append]
theorem vl_app {p q : List Nat} (hp : VL p) (hq : VL q) : VL (p ++ q) := fun c hc => (List.mem_append.1 hc).elim (hp c) (hq c)
/-- a text or a list: its characters -/
def rnT (t : Vt) : List Nat := rns t.s
/-- two of one kind in one: a text, a list or a quotation -/
def jnT (x y : Vt) : Vt := if x.k = 2 then stT (x.s ++ y.s) else ⟨x.k, 0, ⟨#[]⟩, x.l ++ y.l⟩
/-- a tree that PrimLists meets: sound, of depth d, in the form that values have -/
structure Lv (d : Nat) (t : Vt) : Prop where
  gs : Gs d t
  nf : ∃ e, NfT e t
  sm : ∃ e, SmT e t
theorem Lv.str {d : Nat} {t : Vt} (h : Lv d t) (hk : t.k = 2) : t = stT t.s ∧ ∃ q, VL q ∧ t.s = tx q := by
  refine ⟨?_, sd_q (h.gs.sd (Nat.le_refl _)) hk⟩
  obtain ⟨e, hn⟩ := h.nf
  cases e with
  | zero => exact hn.elim
  | succ e =>
    have hn0 : t.n = 0 := by rw [hn.2.2.1]; unfold vnn; rw [if_neg (by omega), if_neg (by omega)]
    have hl : t.l = [] := by
      have hlf := h.gs.1
      cases d with
      | zero => exact hlf.elim
      | succ d => exact hlf.1 (by omega)
    obtain ⟨k, n, s, l⟩ := t
    simp only at hk hn0 hl
    subst hk hn0 hl
    rfl
theorem Lv.lis {d : Nat} {t : Vt} (h : Lv d t) (hk : t.k = 4 ∨ t.k = 5) : t = ⟨t.k, 0, ⟨#[]⟩, t.l⟩ := by
  obtain ⟨e, hn⟩ := h.nf
  cases e with
  | zero => exact hn.elim
  | succ e =>
    have hn0 : t.n = 0 := by rw [hn.2.2.1]; unfold vnn; rw [if_neg (by omega), if_neg (by omega)]
    have hs0 : t.s = ⟨#[]⟩ := by rw [hn.2.2.2.1]; unfold vss; rw [if_neg (by omega)]
    obtain ⟨k, n, s, l⟩ := t
    simp only at hn0 hs0
    subst hn0 hs0
    rfl
theorem ln_jn {d : Nat} {x y : Vt} (hx : Lv d x) (hy : Lv d y) (hk : x.k = y.k) : lnT (jnT x y) = lnT x + lnT y := by
  unfold jnT lnT
  by_cases h2 : x.k = 2
  · obtain ⟨_, p, hp, ep⟩ := hx.str h2
    obtain ⟨_, q, hq, eq⟩ := hy.str (by omega)
    rw [if_pos h2, if_pos h2, if_pos (show y.k = 2 by omega), if_pos (show (stT (x.s ++ y.s)).k = 2 from rfl)]
    show runeCount (x.s ++ y.s) = _
    rw [rc_rns, rc_rns, rc_rns, ep, eq, tx_app, rns_tx hp, rns_tx hq, rns_tx (vl_app hp hq), List.length_append]
  · rw [if_neg h2, if_neg h2, if_neg (show ¬ y.k = 2 by omega)]
    dsimp only
    rw [if_neg h2, List.length_append]
theorem pc_front {d : Nat} {x y : Vt} (hx : Lv d x) (hy : Lv d y) (hk : x.k = y.k) (h24 : x.k = 2 ∨ x.k = 4) : pcR 0 (lnT x : Int) (jnT x y) = .ok x := by
  unfold pcR jnT lnT
  by_cases h2 : x.k = 2
  · obtain ⟨ex, p, hp, ep⟩ := hx.str h2
    obtain ⟨_, q, hq, eq⟩ := hy.str (by omega)
    rw [if_pos h2, if_pos h2, if_pos (show (stT (x.s ++ y.s)).k = 2 from rfl)]
    show (if 0 ≤ (0 : Int) ∧ (0 : Int) ≤ (runeCount x.s : Int) ∧ (runeCount x.s : Int) ≤ ((rns (x.s ++ y.s)).length : Int) then _ else _) = _
    rw [rc_rns, ep, eq, tx_app, rns_tx hp, rns_tx (vl_app hp hq), List.length_append, if_pos (by omega)]
    rw [show (stT (tx (p ++ q))).s = tx (p ++ q) from rfl, rns_tx (vl_app hp hq)]
    simp only [Int.toNat_natCast, Int.toNat_zero, List.drop_zero, Nat.sub_zero, List.take_left]
    rw [← ep, ← ex]
  · rw [if_neg h2, if_neg h2]
    dsimp only
    rw [if_neg h2, List.length_append, if_pos (by omega)]
    simp only [Int.toNat_natCast, Int.toNat_zero, List.drop_zero, Nat.sub_zero, List.take_left]
    have := hx.lis (by omega)
    rw [show x.k = 4 by omega] at this
    rw [← this]
theorem pc_back {d : Nat} {x y : Vt} (hx : Lv d x) (hy : Lv d y) (hk : x.k = y.k) (h24 : x.k = 2 ∨ x.k = 4) : pcR (lnT x : Int) ((lnT (jnT x y) : Nat) : Int) (jnT x y) = .ok y := by
  rw [ln_jn hx hy hk]
  unfold pcR jnT lnT
  by_cases h2 : x.k = 2
  · obtain ⟨_, p, hp, ep⟩ := hx.str h2
    obtain ⟨ey, q, hq, eq⟩ := hy.str (by omega)
    rw [if_pos h2, if_pos h2, if_pos (show y.k = 2 by omega), if_pos (show (stT (x.s ++ y.s)).k = 2 from rfl)]
    show (if 0 ≤ (runeCount x.s : Int) ∧ (runeCount x.s : Int) ≤ ((runeCount x.s + runeCount y.s : Nat) : Int) ∧ ((runeCount x.s + runeCount y.s : Nat) : Int) ≤ ((rns (x.s ++ y.s)).length : Int) then _ else _) = _
    rw [rc_rns, rc_rns, ep, eq, tx_app, rns_tx hp, rns_tx hq, rns_tx (vl_app hp hq), List.length_append, if_pos (by omega)]
    rw [show (stT (tx (p ++ q))).s = tx (p ++ q) from rfl, rns_tx (vl_app hp hq)]
    simp only [Int.toNat_natCast, List.drop_left, Nat.add_sub_cancel_left]
    rw [List.take_of_length_le (Nat.le_refl _), ← eq, ← ey]
  · rw [if_neg h2, if_neg h2, if_neg (show ¬ y.k = 2 by omega)]
    dsimp only
    rw [if_neg h2, List.length_append, if_pos (by omega)]
    simp only [Int.toNat_natCast, List.drop_left, Nat.add_sub_cancel_left]
    rw [List.take_of_length_le (Nat.le_refl _)]
    have := hy.lis (by omega)
    rw [show y.k = 4 by omega] at this
    rw [← this]
/-- the character or the value at a place that there is -/
def elT (n : Nat) (t : Vt) : Vt := if t.k = 2 then stT (tx [(rns t.s).getD n 0]) else t.l.getD n zT
theorem take1 {α : Type} (l : List α) (n : Nat) (z : α) (h : n < l.length) : (l.drop n).take 1 = [l.getD n z] := by
  rw [List.drop_eq_getElem_cons h, List.take_succ_cons, List.take_zero, List.getD_eq_getElem?_getD, List.getElem?_eq_getElem h]
  rfl
theorem nt_in {t : Vt} {n : Nat} (hk : t.k = 2 ∨ t.k = 4) (h : n < lnT t) : ntR (n : Int) t = .ok (elT n t) := by
  unfold lnT at h
  unfold ntR pcR elT
  by_cases h2 : t.k = 2
  · rw [if_pos h2] at h
    rw [rc_rns] at h
    rw [if_pos h2, if_pos h2, if_pos (by omega)]
    rw [show ((n : Int) + 1).toNat - (n : Int).toNat = 1 by omega, Int.toNat_natCast, take1 _ n 0 h]
    rfl
  · rw [if_neg h2] at h
    rw [if_neg h2, if_neg h2, if_pos (by omega)]
    rw [show ((n : Int) + 1).toNat - (n : Int).toNat = 1 by omega, Int.toNat_natCast, take1 _ n zT h]
    rfl
theorem nt_out {t : Vt} {n : Int} (hk : t.k = 2 ∨ t.k = 4) (h : n < 0 ∨ (lnT t : Int) ≤ n) : ntR n t = .error 4 := by
  unfold lnT at h
  unfold ntR pcR
  by_cases h2 : t.k = 2
  · rw [if_pos h2] at h
    rw [rc_rns] at h
    rw [if_pos h2, if_neg (by omega)]
  · rw [if_neg h2] at h
    rw [if_neg h2, if_neg (by omega)]
theorem el_left {d : Nat} {x y : Vt} (hx : Lv d x) (hy : Lv d y) (hk : x.k = y.k) {n : Nat} (h : n < lnT x) : elT n (jnT x y) = elT n x := by
  unfold lnT at h
  unfold elT jnT
  by_cases h2 : x.k = 2
  · obtain ⟨_, p, hp, ep⟩ := hx.str h2
    obtain ⟨_, q, hq, eq⟩ := hy.str (by omega)
    rw [if_pos h2, rc_rns, ep, rns_tx hp] at h
    rw [if_pos h2, if_pos h2, if_pos (show (stT (x.s ++ y.s)).k = 2 from rfl)]
    show stT (tx [(rns (x.s ++ y.s)).getD n 0]) = _
    rw [ep, eq, tx_app, rns_tx hp, rns_tx (vl_app hp hq), List.getD_eq_getElem?_getD, List.getD_eq_getElem?_getD, List.getElem?_append_left h]
  · rw [if_neg h2] at h
    rw [if_neg h2, if_neg h2]
    dsimp only
    rw [if_neg h2, List.getD_eq_getElem?_getD, List.getD_eq_getElem?_getD, List.getElem?_append_left h]
theorem el_right {d : Nat} {x y : Vt} (hx : Lv d x) (hy : Lv d y) (hk : x.k = y.k) {n : Nat} (h : lnT x ≤ n) : elT n (jnT x y) = elT (n - lnT x) y := by
  unfold lnT at h ⊢
  unfold elT jnT
  by_cases h2 : x.k = 2
  · obtain ⟨_, p, hp, ep⟩ := hx.str h2
    obtain ⟨_, q, hq, eq⟩ := hy.str (by omega)
    rw [if_pos h2, rc_rns, ep, rns_tx hp] at h
    rw [if_pos h2, if_pos h2, if_pos (show y.k = 2 by omega), if_pos (show (stT (x.s ++ y.s)).k = 2 from rfl)]
    show stT (tx [(rns (x.s ++ y.s)).getD n 0]) = _
    rw [rc_rns, ep, eq, tx_app, rns_tx hp, rns_tx hq, rns_tx (vl_app hp hq), List.getD_eq_getElem?_getD, List.getD_eq_getElem?_getD, List.getElem?_append_right h]
  · rw [if_neg h2] at h
    rw [if_neg h2, if_neg h2, if_neg (show ¬ y.k = 2 by omega)]
    dsimp only
    rw [if_neg h2, List.getD_eq_getElem?_getD, List.getD_eq_getElem?_getD, List.getElem?_append_right h]
theorem rv_rv {d : Nat} {t : Vt} (h : Lv d t) (hk : t.k = 2 ∨ t.k = 4) : rvT (rvT t) = t := by
  unfold rvT
  by_cases h2 : t.k = 2
  · obtain ⟨e, q, hq, eq⟩ := h.str h2
    rw [if_pos h2, if_pos (show (stT (tx (rns t.s).reverse)).k = 2 from rfl)]
    show stT (tx (rns (tx (rns t.s).reverse)).reverse) = t
    rw [eq, rns_tx hq, rns_tx (vl_rev hq), List.reverse_reverse, ← eq, ← e]
  · rw [if_neg h2]
    dsimp only
    rw [if_neg (by omega), List.reverse_reverse]
    have := h.lis (by omega)
    rw [show t.k = 4 by omega] at this
    exact this.symm
end Go.Proofs.YtbhpjakjlfkfiaaGreatDoor
namespace Go.Proofs.YtbhpjakjlfkfiaaGreatDoor
open Go.RowKit Go.Lib
set_option linter.unusedSimpArgs false
set_option linter.unusedVariables false
/-- the table of white space, as it begins -/
def As (w : World) : Prop := Lib.TabIs Tryz.prog w "strings.asciiSpace" .u8 Lib.asciiSpaceTab
theorem As.frame {w w' : World} (h : As w) (o : Only (fun _ => False) w w') : As w' := by
  unfold As Lib.TabIs at *
  unfold World.var? at *
  cases hg : Tryz.prog.globalNamed "strings.asciiSpace" with
  | none => rw [hg] at h; simp at h
  | some g =>
    rw [hg] at h
    simp only [Option.bind_some] at h ⊢
    cases hb : w.heap[g]? with
    | none => rw [hb] at h; simp at h
    | some ob =>
      rw [hb] at h
      rw [o.block g (Array.getElem?_eq_some_iff.1 hb).1 (fun g => g), hb]
      exact h
/-- the tables of a run -/
def Ty (w : World) : Prop := Tx w ∧ As w
theorem Ty.frame {w w' : World} (h : Ty w) (o : Only (fun _ => False) w w') : Ty w' := ⟨h.1.frame o, h.2.frame o⟩
/-- the names, one behind the other -/
def pmText : ByteArray := ⟨#[100, 117, 112, 32, 100, 114, 111, 112, 32, 115, 119, 97, 112, 32, 111, 118, 101, 114, 32, 114, 111, 116, 32, 110, 105, 112, 32, 116, 117, 99, 107, 32, 43, 32, 45, 32, 42, 32, 47, 32, 109, 111, 100, 32, 110, 101, 103, 32, 97, 98, 115, 32, 109, 105, 110, 32, 109, 97, 120, 32, 60, 32, 62, 32, 61, 32, 97, 110, 100, 32, 111, 114, 32, 110, 111, 116, 32, 105, 110, 116, 63, 32, 115, 116, 114, 63, 32, 98, 111, 111, 108, 63, 32, 108, 105, 115, 116, 63, 32, 113, 117, 111, 116, 63, 32, 98, 111, 120, 63, 32, 108, 101, 110, 103, 116, 104, 32, 97, 112, 112, 101, 110, 100, 32, 110, 116, 104, 32, 115, 108, 105, 99, 101, 32, 119, 114, 97, 112, 32, 112, 97, 105, 114, 32, 117, 110, 112, 97, 105, 114, 32, 114, 101, 118, 101, 114, 115, 101, 32, 99, 117, 114, 114, 121, 32, 99, 111, 109, 112, 111, 115, 101, 32, 62, 115, 116, 114, 32, 62, 105, 110, 116, 32, 99, 97, 108, 108, 32, 100, 105, 112, 32, 107, 101, 101, 112, 32, 105, 102, 32, 119, 104, 101, 110, 32, 116, 105, 109, 101, 115, 32, 101, 97, 99, 104, 32, 108, 111, 111, 112, 32, 98, 111, 120, 32, 103, 101, 116, 32, 112, 117, 116, 32, 46]⟩
def pmNames : List ByteArray := [⟨#[100, 117, 112]⟩, ⟨#[100, 114, 111, 112]⟩, ⟨#[115, 119, 97, 112]⟩, ⟨#[111, 118, 101, 114]⟩, ⟨#[114, 111, 116]⟩, ⟨#[110, 105, 112]⟩, ⟨#[116, 117, 99, 107]⟩, ⟨#[43]⟩, ⟨#[45]⟩, ⟨#[42]⟩, ⟨#[47]⟩, ⟨#[109, 111, 100]⟩, ⟨#[110, 101, 103]⟩, ⟨#[97, 98, 115]⟩, ⟨#[109, 105, 110]⟩, ⟨#[109, 97, 120]⟩, ⟨#[60]⟩, ⟨#[62]⟩, ⟨#[61]⟩, ⟨#[97, 110, 100]⟩, ⟨#[111, 114]⟩, ⟨#[110, 111, 116]⟩, ⟨#[105, 110, 116, 63]⟩, ⟨#[115, 116, 114, 63]⟩, ⟨#[98, 111, 111, 108, 63]⟩, ⟨#[108, 105, 115, 116, 63]⟩, ⟨#[113, 117, 111, 116, 63]⟩, ⟨#[98, 111, 120, 63]⟩, ⟨#[108, 101, 110, 103, 116, 104]⟩, ⟨#[97, 112, 112, 101, 110, 100]⟩, ⟨#[110, 116, 104]⟩, ⟨#[115, 108, 105, 99, 101]⟩, ⟨#[119, 114, 97, 112]⟩, ⟨#[112, 97, 105, 114]⟩, ⟨#[117, 110, 112, 97, 105, 114]⟩, ⟨#[114, 101, 118, 101, 114, 115, 101]⟩, ⟨#[99, 117, 114, 114, 121]⟩, ⟨#[99, 111, 109, 112, 111, 115, 101]⟩, ⟨#[62, 115, 116, 114]⟩, ⟨#[62, 105, 110, 116]⟩, ⟨#[99, 97, 108, 108]⟩, ⟨#[100, 105, 112]⟩, ⟨#[107, 101, 101, 112]⟩, ⟨#[105, 102]⟩, ⟨#[119, 104, 101, 110]⟩, ⟨#[116, 105, 109, 101, 115]⟩, ⟨#[101, 97, 99, 104]⟩, ⟨#[108, 111, 111, 112]⟩, ⟨#[98, 111, 120]⟩, ⟨#[103, 101, 116]⟩, ⟨#[112, 117, 116]⟩, ⟨#[46]⟩]
theorem nm_fields : (Lib.fields pmText.data.toList).map (fun l => Value.string ⟨l.toArray⟩) = pmNames.map Value.string := by kernel_rfl
theorem nm_len : (Lib.fields pmText.data.toList).length = 52 := by kernel_rfl
theorem nm_ascii : ∀ (j : Nat) b, pmText.data.toList[j]? = some b → b.toNat < 128 := by
  have h : pmText.data.toList.all (fun b => decide (b.toNat < 128)) = true := by kernel_rfl
  intro j b hb
  have := List.all_eq_true.1 h b (List.mem_of_getElem? hb)
  simpa using this
theorem fields_names (w : World) (h : As w) : Calls Tryz.prog 37 #[.string pmText] w fun e w' => e = .returned (.slice (some ⟨w.heap.size, 0, none⟩) 52 52) ∧ w' = w.alloc (.cells (pmNames.map Value.string).toArray 9) := by
  have := Any.strings_Fields Tryz.laysFields (by kernel_rfl) (by kernel_rfl) pmText w (of_decide_eq_true (by kernel_rfl)) nm_ascii h
  rw [nm_len, nm_fields] at this
  exact this
set_option maxRecDepth 100000 in
theorem names_any (w : World) (h : As w) : Calls Tryz.prog 16 #[] w fun e w' => e = .returned (.slice (some ⟨w.heap.size, 0, none⟩) 52 52) ∧ w' = w.alloc (.cells (pmNames.map Value.string).toArray 9) := by
  have HF : Hid _ := fields_names w h
  clear h
  go_enter Tryz.func16, Tryz.ntmps16
  go_wp2_with fail
  refine (show Calls Tryz.prog 37 _ _ _ from HF.out).mono ?_
  rintro e w1 ⟨rfl, hw⟩
  subst hw
  go_wp2
  go_ret
  exact ⟨rfl, rfl⟩
/-- is it a primitive's name? -/
def isB (s : ByteArray) : Bool := Lib.containsS pmNames s
set_option maxRecDepth 100000 in
theorem is_any (s : ByteArray) (w : World) (h : As w) : Calls Tryz.prog 18 #[.string s] w fun e w' => e = .returned (.bool (isB s)) ∧ Only (fun _ => False) w w' := by
  have HN : Hid _ := names_any w h
  obtain ⟨W, hW⟩ : ∃ W, W = w.alloc (.cells (pmNames.map Value.string).toArray 9) := ⟨_, rfl⟩
  have o1 : Only (fun _ => False) w W := by rw [hW]; exact (Only.refl _ w).alloc _
  have HC : Hid _ := Any.slices_Contains_string Tryz.laysContains w.heap.size 0 52 52 pmNames s W (by decide) (by omega) (fun j hj => by
    rw [hW, vblk_cells (valloc_at w _ _ rfl), Nat.zero_add, List.getElem?_toArray, List.getElem?_map, List.getD_eq_getElem?_getD, List.getElem?_eq_getElem hj]
    rfl)
  rw [← hW] at HN
  have HO : Hid (Only (fun _ => False) w W) := o1
  obtain ⟨Z, hZ⟩ : ∃ Z, Z = isB s := ⟨_, rfl⟩
  have HZ : Hid (Lib.containsS (pmNames.take 52) s = Z) := by rw [hZ]; exact rfl
  rw [← hZ]
  clear h hW o1 hZ
  go_enter Tryz.func18, Tryz.ntmps18
  go_wp2_with fail
  refine (show Calls Tryz.prog 16 _ _ _ from HN.out).mono ?_
  rintro e w1 ⟨rfl, hw⟩
  obtain rfl := hw.symm
  go_wp2_with fail
  refine (show Calls Tryz.prog 38 _ _ _ from HC.out).mono ?_
  rintro e w1 ⟨rfl, hw⟩
  obtain rfl := hw.symm
  rw [HZ.out]
  go_wp2
  go_ret
  exact ⟨rfl, HO.out⟩
end Go.Proofs.YtbhpjakjlfkfiaaGreatDoor
namespace Go.Proofs.YtbhpjakjlfkfiaaGreatDoor
open Go.RowKit Go.Lib
set_option linter.unusedSimpArgs false
set_option linter.unusedVariables false
def t7 : Vt := ⟨1, 7, ⟨#[]⟩, []⟩
theorem do7 : doR 1 [63] (fun _ l => .ok (lsR [0, 0] l)) [t7] = .ok [t7, t7] := by kernel_rfl
theorem sm7 : ∀ x ∈ [t7], ∃ e, SmT e x := fun x hx => by
  simp only [List.mem_cons, List.not_mem_nil, or_false] at hx
  subst hx
  exact ⟨1, Nat.zero_le _, Nat.zero_le _, ⟨(by decide : (-9223372036854775808 : Int) ≤ 1), (by decide : (1 : Int) ≤ 9223372036854775807)⟩, ⟨(by decide : (-9223372036854775808 : Int) ≤ 7), (by decide : (7 : Int) ≤ 9223372036854775807)⟩, fun x hx => by cases hx⟩
set_option maxRecDepth 100000 in
theorem awake12 (w : World) (hT : Ty w) : Calls Tryz.prog 9 #[] w fun e w' => e = .returned (.bool true) ∧ Only (fun _ => False) w w' := by
  have HD : Hid (∀ (W : World) (Q : Nat), Only (fun _ => False) w W → W.cell? ⟨Q, 0, none⟩ = some (.iface 55 (.agg #[.int .i64 7])) → Calls Tryz.prog 12 #[.string ⟨#[100, 117, 112]⟩, .slice (some ⟨Q, 0, none⟩) 1 1] W fun e w' => ∃ a c, e = .returned (.tuple #[.slice a 2 c, .int .i64 0]) ∧ Hid (Only (fun _ => False) w w')) := fun W Q o hc => by
    have hl : PsAt W (fun b => b = Q) 1 false [t7] (some ⟨Q, 0, none⟩) := fun j x hx => by
      have hj : j = 0 := by have := (List.getElem?_eq_some_iff.1 hx).1; simp at this; exact this
      subst hj
      simp at hx
      subst hx
      exact ⟨Q, 0, _, rfl, rfl, hc, .inl ⟨rfl, rfl, rfl⟩⟩
    have := do_any (cap := 1) cDup.wt cDup.cy cDup.one cDup.few hl (fun b hb => by subst hb; exact World.block_lt_of_cell? W _ hc) sm7 (by simp) (hT.1.frame o)
    refine this.mono fun e w' g => ?_
    rw [show doR 1 pDup.ks pDup.cy [t7] = .ok [t7, t7] from do7] at g
    obtain ⟨a, c, he, g⟩ := g
    exact ⟨a, c, he, o.trans g.out.2.1 (fun _ _ g => g)⟩
  have HIs : Hid (∀ W, Only (fun _ => False) w W → Calls Tryz.prog 18 #[.string ⟨#[100, 117, 112]⟩] W fun e w' => e = .returned (.bool true) ∧ Only (fun _ => False) W w') := fun W o => by
    have := is_any ⟨#[100, 117, 112]⟩ W (hT.2.frame o)
    rw [show isB ⟨#[100, 117, 112]⟩ = true by kernel_rfl] at this
    exact this
  have O0 : Hid (Only (fun _ => False) w w) := Only.refl _ _
  clear hT
  go_enter Tryz.func9, Tryz.ntmps9
  go_wp2_with fail
  refine (show Calls Tryz.prog 12 _ _ _ from HD.out _ _ (O0.out.alloc _) (by simp [go_sem])).mono ?_
  rintro e w1 ⟨a, c, rfl, o1⟩
  clear HD O0
  go_wp2_with fail
  refine (show Calls Tryz.prog 18 _ _ _ from HIs.out _ o1.out).mono ?_
  rintro e w2 ⟨rfl, o2⟩
  have O2 : Hid (Only (fun _ => False) w w2) := o1.out.trans o2 (fun _ _ g => g)
  clear o1 o2 HIs
  go_wp2
  go_ret
  exact ⟨rfl, O2.out⟩
/-- three trees in a row: their cells -/
def C3 (w : World) (g : Nat) (x y z : Vt) (lx ly lz : Value) : Prop := (w.cell? ⟨g, 0, none⟩ = some (.int .i64 x.k) ∧ w.cell? ⟨g, 1, none⟩ = some (.int .i64 x.n) ∧ w.cell? ⟨g, 2, none⟩ = some (.string x.s) ∧ w.cell? ⟨g, 3, none⟩ = some lx) ∧ (w.cell? ⟨g, 4, none⟩ = some (.int .i64 y.k) ∧ w.cell? ⟨g, 5, none⟩ = some (.int .i64 y.n) ∧ w.cell? ⟨g, 6, none⟩ = some (.string y.s) ∧ w.cell? ⟨g, 7, none⟩ = some ly) ∧ (w.cell? ⟨g, 8, none⟩ = some (.int .i64 z.k) ∧ w.cell? ⟨g, 9, none⟩ = some (.int .i64 z.n) ∧ w.cell? ⟨g, 10, none⟩ = some (.string z.s) ∧ w.cell? ⟨g, 11, none⟩ = some lz)
theorem C3.only {w w' : World} {g : Nat} {x y z : Vt} {lx ly lz : Value} (h : C3 w g x y z lx ly lz) (o : Only (fun _ => False) w w') : C3 w' g x y z lx ly lz :=
  ⟨⟨o.cell h.1.1 (fun g => g), o.cell h.1.2.1 (fun g => g), o.cell h.1.2.2.1 (fun g => g), o.cell h.1.2.2.2 (fun g => g)⟩, ⟨o.cell h.2.1.1 (fun g => g), o.cell h.2.1.2.1 (fun g => g), o.cell h.2.1.2.2.1 (fun g => g), o.cell h.2.1.2.2.2 (fun g => g)⟩, o.cell h.2.2.1 (fun g => g), o.cell h.2.2.2.1 (fun g => g), o.cell h.2.2.2.2.1 (fun g => g), o.cell h.2.2.2.2.2 (fun g => g)⟩
theorem ur3 {w : World} {B d : Nat} {v : Value} {x y z : Vt} (h : UrAt w B d v [x, y, z]) : ∃ g cap lx ly lz S, v = .slice (some ⟨g, 0, none⟩) 3 cap ∧ C3 w g x y z lx ly lz ∧ VsAt w S d x.l lx ∧ VsAt w S d y.l ly ∧ VsAt w S d z.l lz ∧ B ≤ g := by
  obtain ⟨us, S, ho, ht, hS⟩ := h
  obtain ⟨lx, ⟨x0, x1, x2, x3⟩, tx⟩ := ht 0 x rfl
  obtain ⟨ly, ⟨y0, y1, y2, y3⟩, ty⟩ := ht 1 y rfl
  obtain ⟨lz, ⟨z0, z1, z2, z3⟩, tz⟩ := ht 2 z rfl
  rcases ho.2 with ⟨h3, h4⟩ | ⟨g, cp, cur, hv, hB, hg, hn, hcm, hcs, htk⟩
  · simp at h4
  · subst hv
    have hc := fun j u hu => ho.cells (g := g) rfl j u hu
    simp only [addr_ad] at hc
    exact ⟨g, cp, lx, ly, lz, S, rfl, ⟨⟨hc _ _ x0, hc _ _ x1, hc _ _ x2, hc _ _ x3⟩, ⟨hc _ _ y0, hc _ _ y1, hc _ _ y2, hc _ _ y3⟩, hc _ _ z0, hc _ _ z1, hc _ _ z2, hc _ _ z3⟩, tx, ty, tz, hB⟩
theorem vs3 {w : World} {S : Nat → Prop} {d g : Nat} {x y z : Vt} {lx ly lz : Value} (h : C3 w g x y z lx ly lz) (hx : VsAt w S d x.l lx) (hy : VsAt w S d y.l ly) (hz : VsAt w S d z.l lz) (c : Nat) (hc : 3 ≤ c) : VsAt w (fun b => S b ∨ b = g) (d + 1) [x, y, z] (.slice (some ⟨g, 0, none⟩) 3 c) := by
  have up : ∀ {l v}, VsAt w S d l v → VsAt w (fun b => S b ∨ b = g) d l v := fun h => h.step (fun _ g => .inl g) (fun _ _ _ g => g) (Nat.le_refl _)
  refine ⟨_, _, rfl, hc, fun i t ht => ?_⟩
  have hi := (List.getElem?_eq_some_iff.1 ht).1
  match i, hi with
  | 0, _ => simp at ht; subst ht; exact ⟨g, 0, lx, rfl, .inr rfl, h.1, up hx⟩
  | 1, _ => simp at ht; subst ht; exact ⟨g, 0, ly, rfl, .inr rfl, h.2.1, up hy⟩
  | 2, _ => simp at ht; subst ht; exact ⟨g, 0, lz, rfl, .inr rfl, h.2.2, up hz⟩
theorem names_new (ps : List Pr) (t : TypeId) (w : World) : ∀ (j : Nat) (p : Pr), ps[j]? = some p → (w.alloc (.cells (ps.map fun p => Value.string p.name).toArray t)).cell? ⟨w.heap.size, j, none⟩ = some (.string p.name) := fun j p hp => by
  rw [vblk_cells (valloc_at w _ _ rfl)]
  simp [hp]
end Go.Proofs.YtbhpjakjlfkfiaaGreatDoor
namespace Go.Proofs.YtbhpjakjlfkfiaaGreatDoor
open Go.RowKit Go.Lib
set_option linter.unusedSimpArgs false
set_option linter.unusedVariables false
def pStr : Pr := ⟨⟨#[62, 115, 116, 114]⟩, [63], fun d l => oneR (txR d l)⟩
theorem cStr : PrC pStr := ⟨wt_38, cy_md mn_38 (by kernel_rfl) md_str, by decide, by decide⟩
def pInt : Pr := ⟨⟨#[62, 105, 110, 116]⟩, [2], fun d l => oneR (nuR d l)⟩
theorem cInt : PrC pInt := ⟨wt_39, cy_md mn_39 (by kernel_rfl) md_int, by decide, by decide⟩
def pAnd : Pr := ⟨⟨#[97, 110, 100]⟩, [4, 4], fun _ l => oneR (.ok (boT (flB (l.getD 0 zT) && flB (l.getD 1 zT))))⟩
theorem cAnd : PrC pAnd := ⟨wt_19, cy_md mn_19 (by kernel_rfl) (mh_and ho_and), by decide, by decide⟩
def pOr : Pr := ⟨⟨#[111, 114]⟩, [4, 4], fun _ l => oneR (.ok (boT (flB (l.getD 0 zT) || flB (l.getD 1 zT))))⟩
theorem cOr : PrC pOr := ⟨wt_20, cy_md mn_20 (by kernel_rfl) (mh_or ho_or), by decide, by decide⟩
def pNot : Pr := ⟨⟨#[110, 111, 116]⟩, [4], fun _ l => oneR (.ok (boT (!flB (l.getD 0 zT))))⟩
theorem cNot : PrC pNot := ⟨wt_21, cy_md mn_21 (by kernel_rfl) (mh_not ho_not), by decide, by decide⟩
theorem do_ands (a b : Bool) : doL 1 [pAnd, pNot] [boT a, boT b] = .ok [boT (!(a && b))] := by cases a <;> cases b <;> kernel_rfl
theorem do_ors (a b : Bool) : doL 1 [pOr] [boT (!a), boT (!b)] = .ok [boT (!(a && b))] := by cases a <;> cases b <;> kernel_rfl
/-- a number that fits -/
def fitN (n : Int) : Bool := decide (-1152921504606846976 ≤ n) && decide (n ≤ 1152921504606846975)
theorem sd_in (d : Nat) (n : Int) : sdB (d + 1) (inT n) = fitN n := by
  show (alB (inT n) && decide (0 + (1 + 0) ≤ 1024) && decide (0 + 0 ≤ 32)) = fitN n
  rw [show alB (inT n) = fitN n from rfl]
  simp
theorem itoa_q (n : Int) : ∃ q, VL q ∧ (⟨(itoa n).toArray⟩ : ByteArray) = tx q := by
  obtain ⟨u, p, hp, hi⟩ : ∃ (u : Nat) (p : List Nat), (∀ c ∈ p, c = 45) ∧ itoa n = p.map (·.toUInt8) ++ decDigits u := by
    by_cases h : n < 0
    · exact ⟨n.natAbs, [45], by simp, by unfold itoa; rw [if_pos h]; rfl⟩
    · exact ⟨n.toNat, [], by simp, by unfold itoa; rw [if_neg h]; rfl⟩
  have hd := dg_digit u u
  have hasc : ∀ c ∈ p ++ dgL u u, c < 128 := fun c hc => by
    rcases List.mem_append.1 hc with g | g
    · have := hp c g; omega
    · have := hd c g; omega
  refine ⟨p ++ dgL u u, fun c hc => .inl (by have := hasc c hc; omega), ?_⟩
  unfold tx
  rw [tx_ascii _ hasc, hi, dg_dd u u (Nat.le_refl _)]
  simp
theorem txt_in (d : Nat) (n : Int) : txtV (d + 1) (inT n) = ⟨(itoa n).toArray⟩ := by
  unfold txtV
  rw [show wdL (d + 1) false (inT n) = [⟨(itoa n).toArray⟩] from rfl]
  simp [Lib.join, List.intercalate]
theorem sd_txt (d : Nat) (n : Int) (h0 : -9223372036854775808 ≤ n) (h1 : n ≤ 9223372036854775807) : sdB (d + 1) (stT ⟨(itoa n).toArray⟩) = true := by
  have e1 : (⟨(itoa n).toArray⟩ : ByteArray).size ≤ 4096 := by
    have := itoa_length_le n h0 h1
    show (itoa n).toArray.size ≤ 4096
    simp
    omega
  have e2 : vlB ⟨(itoa n).toArray⟩ = true := by
    obtain ⟨q, hq, e⟩ := itoa_q n
    rw [e, vl_st]
    exact stR_tx hq
  show (alB (stT ⟨(itoa n).toArray⟩) && decide (0 + (1 + 0) ≤ 1024) && decide (0 + 0 ≤ 32)) = true
  rw [show alB (stT ⟨(itoa n).toArray⟩) = (decide ((⟨(itoa n).toArray⟩ : ByteArray).size ≤ 4096) && vlB ⟨(itoa n).toArray⟩) from rfl, e2, decide_eq_true e1]
  rfl
theorem do_text (n : Int) (h : fitN n = true) : doL 1 [pStr, pInt] [inT n] = .ok [inT n] := by
  have hb := h
  unfold fitN at hb
  simp only [Bool.and_eq_true, decide_eq_true_eq] at hb
  have s1 : sdB 1 (inT n) = true := (sd_in 0 n).trans h
  have s5 : sdB 5 (inT n) = true := (sd_in 4 n).trans h
  have st : sdB 3 (stT ⟨(itoa n).toArray⟩) = true := sd_txt 2 n (by omega) (by omega)
  have hn := num_itoa n hb.1 hb.2
  rw [doL_ok (p := pStr) (l' := [stT ⟨(itoa n).toArray⟩]) (doR_ok (ls := [stT ⟨(itoa n).toArray⟩]) (by simp [s1]) (by show 1 ≤ 1; omega) (by
    show (fb (inT n) 63 && true) = true
    rw [fb_63]
    rfl) (by
    show oneR (.ok (stT (txtV 1 (inT n)))) = _
    rw [txt_in]
    rfl) (by simp [st]) rfl)]
  rw [doL_ok (p := pInt) (l' := [inT n]) (doR_ok (ls := [inT n]) (by simp [st]) (by show 1 ≤ 1; omega) (by
    show (fb (stT _) 2 && true) = true
    rw [show fb (stT ⟨(itoa n).toArray⟩) 2 = (!(bits BinOp.and IntKind.i64 2 2 == 0)) from rfl]
    decide) (by
    show oneR (if (numR ⟨(itoa n).toArray⟩).2 = 0 then .ok (inT (numR ⟨(itoa n).toArray⟩).1) else .error (numR ⟨(itoa n).toArray⟩).2) = _
    rw [hn]
    rfl) (by simp [s5]) rfl)]
  rfl
theorem do_over (n : Int) (h : fitN n = false) : doL 1 [pStr, pInt] [inT n] = .error 1 := doL_error (doR_form (by simp [sd_in 0 n, h]))
/-- values in a new row -/
theorem qi_1 {W : World} {Q : Nat} {x : Vt} {u : Value} (hc : W.cell? ⟨Q, 0, none⟩ = some u) (ht : ∀ S, TiAt W S 1 false x u) : QiAt W (fun b => b = Q) 1 false (.slice (some ⟨Q, 0, none⟩) [x].length 1) [x] := by
  refine ⟨_, _, rfl, by simp, fun j y hy => ?_⟩
  have hj : j = 0 := by have := (List.getElem?_eq_some_iff.1 hy).1; simp at this; exact this
  subst hj
  simp at hy
  subst hy
  exact ⟨Q, 0, u, rfl, rfl, hc, ht _⟩
theorem qi_2 {W : World} {Q : Nat} {x y : Vt} {u v : Value} (hc : W.cell? ⟨Q, 0, none⟩ = some u) (hd : W.cell? ⟨Q, 1, none⟩ = some v) (ht : ∀ S, TiAt W S 1 false x u) (hu : ∀ S, TiAt W S 1 false y v) : QiAt W (fun b => b = Q) 1 false (.slice (some ⟨Q, 0, none⟩) [x, y].length 2) [x, y] := by
  refine ⟨_, _, rfl, by simp, fun j z hz => ?_⟩
  have hj := (List.getElem?_eq_some_iff.1 hz).1
  match j, hj with
  | 0, _ => simp at hz; subst hz; exact ⟨Q, 0, u, rfl, rfl, hc, ht _⟩
  | 1, _ => simp at hz; subst hz; exact ⟨Q, 0, v, rfl, rfl, hd, hu _⟩
theorem in_lf (n : Int) : LfT 1 (inT n) := ⟨fun _ => rfl, fun x hx => by cases hx⟩
theorem bo_lf (b : Bool) : LfT 1 (boT b) := ⟨fun _ => rfl, fun x hx => by cases hx⟩
theorem bo_nf (b : Bool) : ∃ e, NfT e (boT b) := by
  refine ⟨1, Nat.zero_le _, ?_, ?_, rfl, fun x hx => by cases hx⟩
  · cases b
    · exact ⟨(by decide : (-9223372036854775808 : Int) ≤ 0), (by decide : (0 : Int) ≤ 9223372036854775807)⟩
    · exact ⟨(by decide : (-9223372036854775808 : Int) ≤ 1), (by decide : (1 : Int) ≤ 9223372036854775807)⟩
  · cases b <;> rfl
theorem in_nf {n : Int} (h : -9223372036854775808 ≤ n ∧ n ≤ 9223372036854775807) : ∃ e, NfT e (inT n) := ⟨1, Nat.zero_le _, h, rfl, rfl, fun x hx => by cases hx⟩
end Go.Proofs.YtbhpjakjlfkfiaaGreatDoor
namespace Go.Proofs.YtbhpjakjlfkfiaaGreatDoor
open Go.RowKit Go.Lib
set_option linter.unusedSimpArgs false
set_option linter.unusedVariables false
theorem Lv.pos {d : Nat} {t : Vt} (h : Lv d t) : 1 ≤ d := by
  cases d with
  | zero => exact h.gs.1.elim
  | succ d => omega
theorem Lv.sd {d D : Nat} {t : Vt} (h : Lv d t) (hD : 2 * d + 1 ≤ D) : sdB D t = true := h.gs.sd hD
theorem Lv.len {d : Nat} {t : Vt} (h : Lv d t) : t.l.length ≤ 1024 := sd_len (h.sd (Nat.le_refl _))
theorem st_nf (s : ByteArray) : ∃ e, NfT e (stT s) := ⟨1, Nat.zero_le _, ⟨(by decide : (-9223372036854775808 : Int) ≤ 0), (by decide : (0 : Int) ≤ 9223372036854775807)⟩, rfl, rfl, fun x hx => by cases hx⟩
theorem lf_up {d : Nat} (h : 1 ≤ d) {t : Vt} (hl : t.l = []) : LfT d t := by
  cases d with
  | zero => omega
  | succ d => exact ⟨fun _ => hl, fun x hx => by rw [hl] at hx; cases hx⟩
theorem Lv.parts {d : Nat} {t : Vt} (h : Lv d t) : ∀ y ∈ t.l, LfT (d - 1) y ∧ (∃ e, NfT e y) ∧ (∃ e, SmT e y) := fun y hy => by
  refine ⟨?_, ?_, ?_⟩
  · have hlf := h.gs.1
    cases d with
    | zero => exact hlf.elim
    | succ d => exact hlf.2 y hy
  · obtain ⟨e, hn⟩ := h.nf
    cases e with
    | zero => exact hn.elim
    | succ e => exact ⟨e, hn.2.2.2.2 y hy⟩
  · obtain ⟨e, hn⟩ := h.sm
    cases e with
    | zero => exact hn.elim
    | succ e => exact ⟨e, hn.2.2.2.2 y hy⟩
theorem lis_Lv {d : Nat} {k : Int} {l : List Vt} (hd : 1 ≤ d) (hk : k = 4 ∨ k = 5) (hl : ∀ y ∈ l, LfT (d - 1) y ∧ (∃ e, NfT e y) ∧ (∃ e, SmT e y)) (hlen : l.length ≤ 10000) (hs : sdB (2 * d + 1) ⟨k, 0, ⟨#[]⟩, l⟩ = true) : Lv d ⟨k, 0, ⟨#[]⟩, l⟩ := by
  have hlf : LfT d ⟨k, 0, ⟨#[]⟩, l⟩ := by
    cases d with
    | zero => omega
    | succ d => exact ⟨fun h => by simp only at h; omega, fun x hx => (hl x hx).1⟩
  refine ⟨⟨hlf, by rw [← ds_sd hlf (Nat.le_refl _)]; exact hs⟩, ?_, jl_sm hk (fun x hx => (hl x hx).2.2) (by omega)⟩
  obtain ⟨e, he⟩ : ∃ e, ∀ x ∈ l, NfT e x := by
    clear hs hlf hlen
    induction l with
    | nil => exact ⟨0, fun x hx => by cases hx⟩
    | cons t l ih =>
      obtain ⟨e, he⟩ := ih (fun y hy => hl y (List.mem_cons_of_mem _ hy))
      obtain ⟨f, hf⟩ := (hl t (List.mem_cons_self ..)).2.1
      refine ⟨e + f, fun x hx => ?_⟩
      rcases List.mem_cons.1 hx with rfl | hx
      · exact hf.mono (by omega)
      · exact (he x hx).mono (by omega)
  refine ⟨e + 1, by dsimp only; omega, ⟨(by decide : (-9223372036854775808 : Int) ≤ 0), (by decide : (0 : Int) ≤ 9223372036854775807)⟩, ?_, ?_, he⟩
  · unfold vnn
    dsimp only
    rw [if_neg (by omega), if_neg (by omega)]
  · unfold vss
    dsimp only
    rw [if_neg (by omega)]
theorem st_Lv {d : Nat} {q : List Nat} (hd : 1 ≤ d) (hq : VL q) (hz : (tx q).size ≤ 4096) : Lv d (stT (tx q)) := by
  have hlf : LfT d (stT (tx q)) := lf_up hd rfl
  refine ⟨⟨hlf, ?_⟩, st_nf _, st_sm (by omega)⟩
  rw [← ds_sd hlf (Nat.le_refl _)]
  show (alB (stT (tx q)) && decide (0 + (1 + 0) ≤ 1024) && decide (0 + 0 ≤ 32)) = true
  rw [show alB (stT (tx q)) = (decide ((tx q).size ≤ 4096) && vlB (tx q)) from rfl, decide_eq_true hz, (vl_st _).2 (stR_tx hq)]
  rfl
theorem in_Lv {d : Nat} {n : Int} (hd : 1 ≤ d) (h : fitN n = true) : Lv d (inT n) := by
  have hlf : LfT d (inT n) := lf_up hd rfl
  have hb := h
  unfold fitN at hb
  simp only [Bool.and_eq_true, decide_eq_true_eq] at hb
  refine ⟨⟨hlf, ?_⟩, in_nf (by omega), in_sm (by omega)⟩
  rw [← ds_sd hlf (Nat.le_refl _)]
  exact (sd_in _ n).trans h
theorem jn_Lv {d D : Nat} {x y : Vt} (hx : Lv d x) (hy : Lv d y) (hk : x.k = y.k) (h245 : x.k = 2 ∨ x.k = 4 ∨ x.k = 5) (hD : 2 * d + 1 ≤ D) (hs : sdB D (jnT x y) = true) : Lv d (jnT x y) := by
  unfold jnT at hs ⊢
  by_cases h2 : x.k = 2
  · obtain ⟨_, p, hp, ep⟩ := hx.str h2
    obtain ⟨_, q, hq, eq⟩ := hy.str (by omega)
    rw [if_pos h2] at hs ⊢
    rw [ep, eq, tx_app] at hs ⊢
    exact st_Lv hx.pos (vl_app hp hq) (sd_str hs rfl)
  · rw [if_neg h2] at hs ⊢
    have hl : ∀ z ∈ x.l ++ y.l, LfT (d - 1) z ∧ (∃ e, NfT e z) ∧ (∃ e, SmT e z) := fun z hz => (List.mem_append.1 hz).elim (hx.parts z) (hy.parts z)
    have hlf : LfT d ⟨x.k, 0, ⟨#[]⟩, x.l ++ y.l⟩ := by
      have := hx.pos
      cases d with
      | zero => omega
      | succ d => exact ⟨fun h => by simp only at h; omega, fun x hx => (hl x hx).1⟩
    refine lis_Lv hx.pos (by omega) hl (by rw [List.length_append]; have := hx.len; have := hy.len; omega) ?_
    rw [ds_sd hlf (Nat.le_refl _), ← ds_sd hlf hD]
    exact hs
theorem le_sum : ∀ {l : List Nat} {n : Nat}, n ∈ l → n ≤ l.sum
  | a :: l, n, h => by
    rcases List.mem_cons.1 h with rfl | h
    · simp
    · have := le_sum h
      simp
      omega
theorem el_Lv {d n : Nat} {c : Vt} (h : Lv d c) (hk : c.k = 2 ∨ c.k = 4) (hn : n < lnT c) : Lv d (elT n c) := by
  unfold lnT at hn
  unfold elT
  by_cases h2 : c.k = 2
  · obtain ⟨_, q, hq, eq⟩ := h.str h2
    rw [if_pos h2, rc_rns, eq, rns_tx hq] at hn
    rw [if_pos h2, eq, rns_tx hq, List.getD_eq_getElem?_getD, List.getElem?_eq_getElem hn]
    refine st_Lv h.pos (fun c hc => ?_) ?_
    · simp only [List.mem_cons, List.not_mem_nil, or_false, Option.getD_some] at hc
      subst hc
      exact hq _ (List.getElem_mem hn)
    · rw [tx_size, wl_cons, wl_nil]
      have := wr_le q[n]
      simp only [Option.getD_some]
      omega
  · rw [if_neg h2] at hn
    rw [if_neg h2, List.getD_eq_getElem?_getD, List.getElem?_eq_getElem hn]
    show Lv d c.l[n]
    have hm : c.l[n] ∈ c.l := List.getElem_mem hn
    obtain ⟨p1, p2, p3⟩ := h.parts _ hm
    refine ⟨⟨p1.mono (by omega), ?_⟩, p2, p3⟩
    have hd : 1 ≤ d - 1 := by
      cases hd' : d - 1 with
      | zero => rw [hd'] at p1; exact p1.elim
      | succ e => omega
    rw [← ds_sd (p1.mono (show d - 1 ≤ d by omega)) (Nat.le_refl _), ds_sd p1 (show 2 * (d - 1) + 1 ≤ 2 * d + 1 by omega), ← ds_sd p1 (show 2 * (d - 1) + 1 ≤ 2 * d by omega)]
    have hs := h.sd (Nat.le_refl _)
    unfold sdB msB at hs ⊢
    simp only [Bool.and_eq_true, decide_eq_true_eq] at hs ⊢
    have e1 : okV (2 * d + 1) false c = c.l.all (okV (2 * d) (decide (c.k = 5))) := by
      show (if c.k = 4 ∨ c.k = 5 then _ else _) = _
      rw [if_pos (by omega)]
    have e2 : sz (2 * d + 1) false c = 1 + (c.l.map (sz (2 * d) (decide (c.k = 5)))).sum := rfl
    have e3 : dp (2 * d + 1) false c = 1 + ((c.l.map (dp (2 * d) (decide (c.k = 5)))).foldl max 0) := by
      show (if c.k = 4 ∨ c.k = 5 then _ else _) = _
      rw [if_pos (by omega)]
    have ek : decide (c.k = 5) = false := decide_eq_false (by omega)
    rw [e1, e2, e3, ek] at hs
    refine ⟨⟨List.all_eq_true.1 hs.1.1 _ hm, ?_⟩, ?_⟩
    · have := le_sum (List.mem_map.2 ⟨_, hm, rfl⟩ : sz (2 * d) false c.l[n] ∈ c.l.map (sz (2 * d) false))
      omega
    · have := (fold_le (c.l.map (dp (2 * d) false)) 0 31).1 (by omega)
      have := this.2 _ (List.mem_map.2 ⟨_, hm, rfl⟩)
      omega
end Go.Proofs.YtbhpjakjlfkfiaaGreatDoor
namespace Go.Proofs.YtbhpjakjlfkfiaaGreatDoor
open Go.RowKit Go.Lib
set_option linter.unusedSimpArgs false
set_option linter.unusedVariables false
theorem rv_Lv {d : Nat} {c : Vt} (h : Lv d c) (hk : c.k = 2 ∨ c.k = 4) : Lv d (rvT c) := by
  unfold rvT
  by_cases h2 : c.k = 2
  · obtain ⟨_, q, hq, eq⟩ := h.str h2
    rw [if_pos h2, eq, rns_tx hq]
    refine st_Lv h.pos (vl_rev hq) ?_
    have h1 := sd_str (h.sd (Nat.le_refl _)) h2
    rw [eq] at h1
    rw [tx_rev]
    exact h1
  · rw [if_neg h2]
    have h4 : c.k = 4 := by omega
    refine lis_Lv h.pos (.inl rfl) (fun y hy => h.parts y (List.mem_reverse.1 hy)) (by rw [List.length_reverse]; have := h.len; omega) ?_
    have hs := h.sd (Nat.le_refl _)
    unfold sdB msB at hs ⊢
    simp only [Bool.and_eq_true, decide_eq_true_eq] at hs ⊢
    have e1 : okV (2 * d + 1) false c = c.l.all (okV (2 * d) (decide (c.k = 5))) := by
      show (if c.k = 4 ∨ c.k = 5 then _ else _) = _
      rw [if_pos (by omega)]
    have e2 : sz (2 * d + 1) false c = 1 + (c.l.map (sz (2 * d) (decide (c.k = 5)))).sum := rfl
    have e3 : dp (2 * d + 1) false c = 1 + ((c.l.map (dp (2 * d) (decide (c.k = 5)))).foldl max 0) := by
      show (if c.k = 4 ∨ c.k = 5 then _ else _) = _
      rw [if_pos (by omega)]
    have ek : decide (c.k = 5) = false := decide_eq_false (by omega)
    rw [e1, e2, e3, ek] at hs
    have f1 : okV (2 * d + 1) false ⟨4, 0, ⟨#[]⟩, c.l.reverse⟩ = c.l.reverse.all (okV (2 * d) false) := rfl
    have f2 : sz (2 * d + 1) false ⟨4, 0, ⟨#[]⟩, c.l.reverse⟩ = 1 + (c.l.reverse.map (sz (2 * d) false)).sum := rfl
    have f3 : dp (2 * d + 1) false ⟨4, 0, ⟨#[]⟩, c.l.reverse⟩ = 1 + ((c.l.reverse.map (dp (2 * d) false)).foldl max 0) := rfl
    rw [f1, f2, f3]
    refine ⟨⟨List.all_eq_true.2 fun x hx => List.all_eq_true.1 hs.1.1 x (List.mem_reverse.1 hx), ?_⟩, ?_⟩
    · rw [List.map_reverse, List.sum_reverse]
      exact hs.1.2
    · have g := (fold_le (c.l.map (dp (2 * d) false)) 0 31).1 (by omega)
      have := (fold_le (c.l.reverse.map (dp (2 * d) false)) 0 31).2 ⟨by omega, fun x hx => g.2 x (by rw [List.map_reverse] at hx; exact List.mem_reverse.1 hx)⟩
      omega
theorem doR_inv {d : Nat} {ks : List Int} {cy : Nat → List Vt → Except Int (List Vt)} {l ls : List Vt} (h : doR d ks cy l = .ok ls) : l.all (sdB d) = true ∧ ks.length ≤ l.length ∧ fitB (l.drop (l.length - ks.length)) ks = true ∧ ∃ cs, cy d (l.drop (l.length - ks.length)) = .ok cs ∧ cs.all (sdB (d + 2)) = true ∧ ls = l.take (l.length - ks.length) ++ cs := by
  unfold doR at h
  split at h
  · cases h
  · rename_i h1
    split at h
    · cases h
    · rename_i h2
      split at h
      · cases h
      · rename_i h3
        generalize hc : cy d (l.drop (l.length - ks.length)) = c at h
        cases c with
        | error m => cases h
        | ok cs =>
          simp only [fnR] at h
          split at h
          · rename_i h4
            cases h
            exact ⟨by simpa using h1, by omega, by simpa using h3, cs, rfl, h4, rfl⟩
          · cases h
theorem do1_ok {D : Nat} {p : Pr} {l ls : List Vt} (hs : l.all (sdB D) = true) (hl : l.length = p.ks.length) (hf : fitB l p.ks = true) (hc : p.cy D l = .ok ls) (ho : ls.all (sdB (D + 2)) = true) : doL D [p] l = .ok ls := by
  have e : l.drop (l.length - p.ks.length) = l := by rw [hl, Nat.sub_self, List.drop_zero]
  have e2 : l.take (l.length - p.ks.length) = [] := by rw [hl, Nat.sub_self, List.take_zero]
  rw [doL_ok (p := p) (l' := ls) (doR_ok hs (by omega) (by rw [e]; exact hf) (by rw [e]; exact hc) ho (by rw [e2]; rfl))]
  rfl
theorem do1_er {D : Nat} {p : Pr} {l : List Vt} {n : Int} (hs : l.all (sdB D) = true) (hl : l.length = p.ks.length) (hf : fitB l p.ks = true) (hc : p.cy D l = .error n) : doL D [p] l = .error n := by
  have e : l.drop (l.length - p.ks.length) = l := by rw [hl, Nat.sub_self, List.drop_zero]
  refine doL_error ?_
  unfold doR
  rw [if_neg (by rw [hs]; simp), if_neg (by omega), e, if_neg (by rw [hf]; simp), hc]
  rfl
theorem fb_26' {t : Vt} (h : t.k = 2 ∨ t.k = 4 ∨ t.k = 5) : fb t 26 = true := by
  unfold fb
  rcases kd_cases t with ⟨e, k⟩ | ⟨e, k⟩ | ⟨e, k⟩ | ⟨e, k⟩ | ⟨e, k⟩ | ⟨e, k⟩ | ⟨e, k⟩ <;> rw [k] <;> first | omega | decide
theorem fb_10' {t : Vt} (h : t.k = 2 ∨ t.k = 4) : fb t 10 = true := by
  unfold fb
  rcases kd_cases t with ⟨e, k⟩ | ⟨e, k⟩ | ⟨e, k⟩ | ⟨e, k⟩ | ⟨e, k⟩ | ⟨e, k⟩ | ⟨e, k⟩ <;> rw [k] <;> first | omega | decide
theorem fb_1' (n : Int) : fb (inT n) 1 = true := by
  rw [show fb (inT n) 1 = (!(bits BinOp.and IntKind.i64 1 1 == 0)) from rfl]
  decide
theorem ln_le {d : Nat} {t : Vt} (h : Lv d t) : lnT t ≤ 4096 := by
  unfold lnT
  split
  · rename_i h2
    have := rc_le t.s t.s.size 0
    have := sd_str (h.sd (Nat.le_refl _)) h2
    unfold runeCount
    omega
  · have := h.len
    omega
theorem fit_nat {n : Nat} (h : n ≤ 8192) : fitN (n : Int) = true := by
  unfold fitN
  simp only [Bool.and_eq_true, decide_eq_true_eq]
  omega
theorem app_cases {d : Nat} {A B : Vt} (la : LfT d A) (lb : LfT d B) (na : ∃ e, NfT e A) (nb : ∃ e, NfT e B) (sa : ∃ e, SmT e A) (sb : ∃ e, SmT e B) : (∃ n, doL (2 * d + 1) [q29] [A, B] = .error n) ∨ (doL (2 * d + 1) [q29] [A, B] = .ok [jnT A B] ∧ A.k = B.k ∧ (A.k = 2 ∨ A.k = 4 ∨ A.k = 5) ∧ Lv d A ∧ Lv d B ∧ Lv d (jnT A B)) := by
  generalize hR : doR (2 * d + 1) q29.ks q29.cy [A, B] = R
  cases R with
  | error n => exact .inl ⟨n, doL_error hR⟩
  | ok ls =>
    right
    obtain ⟨h1, _, h3, cs, h4, h5, h6⟩ := doR_inv hR
    have h1' : sdB (2 * d + 1) A = true ∧ sdB (2 * d + 1) B = true := by simpa using h1
    have h3' : (fb A 26 && (fb B 26 && true)) = true := h3
    simp only [Bool.and_true, Bool.and_eq_true] at h3'
    have kA := fb_26 h3'.1
    have kB := fb_26 h3'.2
    have h4' : oneR (jnR A B) = .ok cs := h4
    have vA : Lv d A := ⟨⟨la, by rw [← ds_sd la (Nat.le_refl _)]; exact h1'.1⟩, na, sa⟩
    have vB : Lv d B := ⟨⟨lb, by rw [← ds_sd lb (Nat.le_refl _)]; exact h1'.2⟩, nb, sb⟩
    unfold jnR at h4'
    by_cases hk : kd A = kd B
    · rw [if_pos hk] at h4'
      have hkk := (kd_245 kA kB).1 hk
      have hcs : cs = [jnT A B] := by
        unfold jnT
        by_cases h2 : A.k = 2
        · rw [if_pos h2] at h4' ⊢
          cases h4'
          rfl
        · rw [if_neg h2] at h4' ⊢
          cases h4'
          rfl
      subst hcs
      have hls : ls = [jnT A B] := h6
      subst hls
      have h5' : sdB (2 * d + 1 + 2) (jnT A B) = true := by simpa using h5
      exact ⟨by rw [doL_ok hR]; rfl, hkk, kA, vA, vB, jn_Lv vA vB hkk kA (by omega) h5'⟩
    · rw [if_neg hk] at h4'
      cases h4'
theorem d_len {d D : Nat} {x : Vt} (h : Lv d x) (hk : x.k = 2 ∨ x.k = 4 ∨ x.k = 5) (hD : 2 * d + 1 ≤ D) : doL D [q28] [x] = .ok [inT (lnT x)] :=
  do1_ok (by simp [h.sd hD]) rfl (by show (fb x 26 && true) = true; rw [fb_26' hk]; rfl) rfl (by
    have := (in_Lv (d := d) (n := (lnT x : Int)) h.pos (fit_nat (by have := ln_le h; omega))).sd (show 2 * d + 1 ≤ D + 2 by omega)
    simp [this])
theorem d_slice {d D : Nat} {c t : Vt} {n m : Nat} (h : Lv d c) (hk : c.k = 2 ∨ c.k = 4) (hn : n ≤ 8192) (hm : m ≤ 8192) (hp : pcR (n : Int) (m : Int) c = .ok t) (ht : Lv d t) (hD : 2 * d + 1 ≤ D) : doL D [q31] [inT n, inT m, c] = .ok [t] :=
  do1_ok (by simp [h.sd hD, (in_Lv h.pos (fit_nat hn)).sd hD, (in_Lv h.pos (fit_nat hm)).sd hD]) rfl (by
    show (fb (inT n) 1 && (fb (inT m) 1 && (fb c 10 && true))) = true
    rw [fb_1', fb_1', fb_10' hk]; rfl) (by
    show oneR (pcR (n : Int) (m : Int) c) = _
    rw [hp]; rfl) (by simp [ht.sd (show 2 * d + 1 ≤ D + 2 by omega)])
theorem d_rev {d D : Nat} {c : Vt} (h : Lv d c) (hk : c.k = 2 ∨ c.k = 4) (hD : 2 * d + 1 ≤ D) : doL D [q35, q35] [c] = .ok [c] := by
  have hr := rv_Lv h hk
  have hk2 : (rvT c).k = 2 ∨ (rvT c).k = 4 := by
    unfold rvT
    split
    · exact .inl rfl
    · exact .inr rfl
  have e1 := do1_ok (D := D) (p := q35) (l := [c]) (ls := [rvT c]) (by simp [h.sd hD]) rfl (by show (fb c 10 && true) = true; rw [fb_10' hk]; rfl) rfl (by simp [hr.sd (show 2 * d + 1 ≤ D + 2 by omega)])
  have e2 := do1_ok (D := D + 2) (p := q35) (l := [rvT c]) (ls := [c]) (by simp [hr.sd (show 2 * d + 1 ≤ D + 2 by omega)]) rfl (by show (fb (rvT c) 10 && true) = true; rw [fb_10' hk2]; rfl) (by
    show oneR (.ok (rvT (rvT c))) = _
    rw [rv_rv h hk]; rfl) (by simp [h.sd (show 2 * d + 1 ≤ D + 2 + 2 by omega)])
  have e3 : doR D q35.ks q35.cy [c] = .ok [rvT c] := by
    generalize hR : doR D q35.ks q35.cy [c] = R at *
    cases R with
    | error n => rw [doL_error hR] at e1; cases e1
    | ok l => rw [doL_ok hR] at e1; exact e1
  rw [doL_ok e3, e2]
theorem d_nth_bad {d D : Nat} {c : Vt} {n : Int} (hn : fitN n = false) (hD : 1 ≤ D) : doL D [q30] [inT n, c] = .error 1 := by
  refine doL_error (doR_form ?_)
  obtain ⟨e, rfl⟩ : ∃ e, D = e + 1 := ⟨D - 1, by omega⟩
  simp [sd_in e n, hn]
theorem d_nth_out {d D : Nat} {c : Vt} {n : Int} (h : Lv d c) (hk : c.k = 2 ∨ c.k = 4) (hn : fitN n = true) (ho : n < 0 ∨ (lnT c : Int) ≤ n) (hD : 2 * d + 1 ≤ D) : doL D [q30] [inT n, c] = .error 4 :=
  do1_er (by simp [h.sd hD, (in_Lv h.pos hn).sd hD]) rfl (by
    show (fb (inT n) 1 && (fb c 10 && true)) = true
    rw [fb_1', fb_10' hk]; rfl) (by
    show oneR (ntR n c) = _
    rw [nt_out hk ho]; rfl)
theorem d_nth_in {d D : Nat} {c : Vt} {n : Nat} (h : Lv d c) (hk : c.k = 2 ∨ c.k = 4) (hn : n < lnT c) (hD : 2 * d + 1 ≤ D) : doL D [q30] [inT n, c] = .ok [elT n c] :=
  do1_ok (by simp [h.sd hD, (in_Lv (n := (n : Int)) h.pos (fit_nat (by have := ln_le h; omega))).sd hD]) rfl (by
    show (fb (inT n) 1 && (fb c 10 && true)) = true
    rw [fb_1', fb_10' hk]; rfl) (by
    show oneR (ntR (n : Int) c) = _
    rw [nt_in hk hn]; rfl) (by simp [(el_Lv h hk hn).sd (show 2 * d + 1 ≤ D + 2 by omega)])
end Go.Proofs.YtbhpjakjlfkfiaaGreatDoor
