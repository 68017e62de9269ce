/- What words that move values, pair and unpair make of sound values. law12.awake; rows of trees. PrimNames: the law's walk. PrimEffects: the law's walk. -/
import Derived.Test.YtbhpjakjlfkfiaaGreatDoorGal
import Derived.Test.YtbhpjakjlfkfiaaGreatDoorGam
import Derived.Test.YtbhpjakjlfkfiaaGreatDoorGan
import Derived.Test.YtbhpjakjlfkfiaaGreatDoorGau
import Derived.Deep.RegionHeld3
namespace Go.Proofs.YtbhpjakjlfkfiaaGreatDoor
open Go.RowKit Go.Lib
set_option linter.unusedSimpArgs false
set_option linter.unusedVariables false
def pDup : Pr := ⟨⟨#[100, 117, 112]⟩, [63], fun _ l => .ok (lsR [0, 0] l)⟩
theorem cDup : PrC pDup := ⟨wt_0, cy_mv mv_0 (by decide) (by decide) (by decide), by decide, by decide⟩
def pDrop : Pr := ⟨⟨#[100, 114, 111, 112]⟩, [63], fun _ l => .ok (lsR [] l)⟩
theorem cDrop : PrC pDrop := ⟨wt_1, cy_mv mv_1 (by decide) (by decide) (by decide), by decide, by decide⟩
def pSwap : Pr := ⟨⟨#[115, 119, 97, 112]⟩, [63, 63], fun _ l => .ok (lsR [1, 0] l)⟩
theorem cSwap : PrC pSwap := ⟨wt_2, cy_mv mv_2 (by decide) (by decide) (by decide), by decide, by decide⟩
def pOver : Pr := ⟨⟨#[111, 118, 101, 114]⟩, [63, 63], fun _ l => .ok (lsR [0, 1, 0] l)⟩
theorem cOver : PrC pOver := ⟨wt_3, cy_mv mv_3 (by decide) (by decide) (by decide), by decide, by decide⟩
def pRot : Pr := ⟨⟨#[114, 111, 116]⟩, [63, 63, 63], fun _ l => .ok (lsR [1, 2, 0] l)⟩
theorem cRot : PrC pRot := ⟨wt_4, cy_mv mv_4 (by decide) (by decide) (by decide), by decide, by decide⟩
def pNip : Pr := ⟨⟨#[110, 105, 112]⟩, [63, 63], fun _ l => .ok (lsR [1] l)⟩
theorem cNip : PrC pNip := ⟨wt_5, cy_mv mv_5 (by decide) (by decide) (by decide), by decide, by decide⟩
def pTuck : Pr := ⟨⟨#[116, 117, 99, 107]⟩, [63, 63], fun _ l => .ok (lsR [1, 0, 1] l)⟩
theorem cTuck : PrC pTuck := ⟨wt_6, cy_mv mv_6 (by decide) (by decide) (by decide), by decide, by decide⟩
def pPair : Pr := ⟨⟨#[112, 97, 105, 114]⟩, [63, 63], fun _ l => oneR (.ok (lisT l))⟩
theorem cPair : PrC pPair := ⟨wt_33, cy_md mn_33 (by kernel_rfl) md_pair, by decide, by decide⟩
def pUnpair : Pr := ⟨⟨#[117, 110, 112, 97, 105, 114]⟩, [8], fun _ => unR⟩
theorem cUnpair : PrC pUnpair := ⟨wt_34, cy_unpair mn_34, by decide, by decide⟩
/-- a sound value, of depth e -/
def Gs (e : Nat) (t : Vt) : Prop := LfT e t ∧ dsB e t = true
theorem Gs.sd {e D : Nat} {t : Vt} (h : Gs e t) (hD : 2 * e + 1 ≤ D) : sdB D t = true := (ds_sd h.1 hD).trans h.2
theorem Gs.fb {e : Nat} {t : Vt} (h : Gs e t) : fb t 63 = true := by
  have h1 := h.sd (Nat.le_refl _)
  unfold sdB msB at h1
  simp only [Bool.and_eq_true] at h1
  have h2 := ok_kind h1.1.1
  rw [fb_63]
  simpa using h2
theorem doR_ok {d : Nat} {ks : List Int} {cy : Nat → List Vt → Except Int (List Vt)} {l ls l' : List Vt} (h1 : l.all (sdB d) = true) (h2 : ks.length ≤ l.length) (h3 : fitB (l.drop (l.length - ks.length)) ks = true) (h4 : cy d (l.drop (l.length - ks.length)) = .ok ls) (h5 : ls.all (sdB (d + 2)) = true) (h6 : l.take (l.length - ks.length) ++ ls = l') : doR d ks cy l = .ok l' := by
  unfold doR
  rw [if_neg (by rw [h1]; simp), if_neg (by omega), if_neg (by rw [h3]; simp), h4]
  simp only [fnR]
  rw [if_pos h5, h6]
theorem doR_form {d : Nat} {ks : List Int} {cy : Nat → List Vt → Except Int (List Vt)} {l : List Vt} (h1 : l.all (sdB d) = false) : doR d ks cy l = .error 1 := by
  unfold doR
  rw [if_pos h1]
theorem gs_all {e D : Nat} {l : List Vt} (h : ∀ x ∈ l, Gs e x) (hD : 2 * e + 1 ≤ D) : l.all (sdB D) = true := List.all_eq_true.2 fun x hx => (h x hx).sd hD
theorem fit_63 {e : Nat} : ∀ (l : List Vt) (ks : List Int), (∀ x ∈ l, Gs e x) → (∀ k ∈ ks, k = 63) → fitB l ks = true
  | [], _, _, _ => rfl
  | _ :: _, [], _, _ => rfl
  | t :: l, k :: ks, h, hk => by
    obtain rfl := hk k (List.mem_cons_self ..)
    simp only [fitB, (h t (List.mem_cons_self ..)).fb, Bool.true_and]
    exact fit_63 l ks (fun x hx => h x (List.mem_cons_of_mem _ hx)) (fun x hx => hk x (List.mem_cons_of_mem _ hx))
/-- a word that moves values -/
theorem mv_do {e D : Nat} {l l' : List Vt} {ks ps : List Int} (hl : ∀ x ∈ l, Gs e x) (hD : 2 * e + 1 ≤ D) (hk : ∀ k ∈ ks, k = 63) (h2 : ks.length ≤ l.length) (h6 : l.take (l.length - ks.length) ++ lsR ps (l.drop (l.length - ks.length)) = l') (hl' : ∀ x ∈ l', Gs e x) : doR D ks (fun _ l => .ok (lsR ps l)) l = .ok l' :=
  doR_ok (gs_all hl hD) h2 (fit_63 _ _ (fun x hx => hl x (List.mem_of_mem_drop hx)) hk) rfl (gs_all (fun x hx => hl' x (by rw [← h6]; exact List.mem_append_right _ hx)) (by omega)) h6
section
variable {e D : Nat} {x y z : Vt} (hx : Gs e x) (hy : Gs e y) (hz : Gs e z) (hD : 2 * e + 1 ≤ D)
theorem gs3 : ∀ t ∈ [x, y, z], Gs e x → Gs e y → Gs e z → Gs e t := by
  intro t ht hx hy hz
  simp only [List.mem_cons, List.not_mem_nil, or_false] at ht
  rcases ht with rfl | rfl | rfl <;> assumption
theorem gs2 : ∀ t ∈ [x, y], Gs e x → Gs e y → Gs e t := by
  intro t ht hx hy
  simp only [List.mem_cons, List.not_mem_nil, or_false] at ht
  rcases ht with rfl | rfl <;> assumption
theorem gs4 {u : Vt} : ∀ t ∈ [x, y, z, u], Gs e x → Gs e y → Gs e z → Gs e u → Gs e t := by
  intro t ht hx hy hz hu
  simp only [List.mem_cons, List.not_mem_nil, or_false] at ht
  rcases ht with rfl | rfl | rfl | rfl <;> assumption
theorem k63 {ks : List Int} (h : ks.all (fun k => decide (k = 63)) = true) : ∀ k ∈ ks, k = 63 := fun k hk => by simpa using List.all_eq_true.1 h k hk
theorem do_swaps (hx : Gs e x) (hy : Gs e y) (hz : Gs e z) (hD : 2 * e + 1 ≤ D) : doL D [pSwap, pSwap] [x, y, z] = .ok [x, y, z] := by
  rw [doL_ok (l' := [x, z, y]) (mv_do (e := e) (l := [x, y, z]) (l' := [x, z, y]) (ks := pSwap.ks) (ps := [1, 0]) (fun t ht => gs3 t ht hx hy hz) (by omega) (k63 (by decide)) (by show 2 ≤ 3; omega) rfl (fun t ht => gs3 t ht hx hz hy))]
  rw [doL_ok (l' := [x, y, z]) (mv_do (e := e) (l := [x, z, y]) (l' := [x, y, z]) (ks := pSwap.ks) (ps := [1, 0]) (fun t ht => gs3 t ht hx hz hy) (by omega) (k63 (by decide)) (by show 2 ≤ 3; omega) rfl (fun t ht => gs3 t ht hx hy hz))]
  rfl
theorem do_rots (hx : Gs e x) (hy : Gs e y) (hz : Gs e z) (hD : 2 * e + 1 ≤ D) : doL D [pRot, pRot, pRot] [x, y, z] = .ok [x, y, z] := by
  rw [doL_ok (l' := [y, z, x]) (mv_do (e := e) (l := [x, y, z]) (l' := [y, z, x]) (ks := pRot.ks) (ps := [1, 2, 0]) (fun t ht => gs3 t ht hx hy hz) (by omega) (k63 (by decide)) (by show 3 ≤ 3; omega) rfl (fun t ht => gs3 t ht hy hz hx))]
  rw [doL_ok (l' := [z, x, y]) (mv_do (e := e) (l := [y, z, x]) (l' := [z, x, y]) (ks := pRot.ks) (ps := [1, 2, 0]) (fun t ht => gs3 t ht hy hz hx) (by omega) (k63 (by decide)) (by show 3 ≤ 3; omega) rfl (fun t ht => gs3 t ht hz hx hy))]
  rw [doL_ok (l' := [x, y, z]) (mv_do (e := e) (l := [z, x, y]) (l' := [x, y, z]) (ks := pRot.ks) (ps := [1, 2, 0]) (fun t ht => gs3 t ht hz hx hy) (by omega) (k63 (by decide)) (by show 3 ≤ 3; omega) rfl (fun t ht => gs3 t ht hx hy hz))]
  rfl
theorem do_dups (hx : Gs e x) (hy : Gs e y) (hz : Gs e z) (hD : 2 * e + 1 ≤ D) : doL D [pDup, pDrop] [x, y, z] = .ok [x, y, z] := by
  rw [doL_ok (l' := [x, y, z, z]) (mv_do (e := e) (l := [x, y, z]) (l' := [x, y, z, z]) (ks := pDup.ks) (ps := [0, 0]) (fun t ht => gs3 t ht hx hy hz) (by omega) (k63 (by decide)) (by show 1 ≤ 3; omega) rfl (fun t ht => gs4 t ht hx hy hz hz))]
  rw [doL_ok (l' := [x, y, z]) (mv_do (e := e) (l := [x, y, z, z]) (l' := [x, y, z]) (ks := pDrop.ks) (ps := []) (fun t ht => gs4 t ht hx hy hz hz) (by omega) (k63 (by decide)) (by show 1 ≤ 4; omega) rfl (fun t ht => gs3 t ht hx hy hz))]
  rfl
theorem do_overs (hx : Gs e x) (hy : Gs e y) (hz : Gs e z) (hD : 2 * e + 1 ≤ D) : doL D [pOver, pNip, pSwap, pDrop, pOver] [x, y, z] = .ok [x, y, x] := by
  rw [doL_ok (l' := [x, y, z, y]) (mv_do (e := e) (l := [x, y, z]) (l' := [x, y, z, y]) (ks := pOver.ks) (ps := [0, 1, 0]) (fun t ht => gs3 t ht hx hy hz) (by omega) (k63 (by decide)) (by show 2 ≤ 3; omega) rfl (fun t ht => gs4 t ht hx hy hz hy))]
  rw [doL_ok (l' := [x, y, y]) (mv_do (e := e) (l := [x, y, z, y]) (l' := [x, y, y]) (ks := pNip.ks) (ps := [1]) (fun t ht => gs4 t ht hx hy hz hy) (by omega) (k63 (by decide)) (by show 2 ≤ 4; omega) rfl (fun t ht => gs3 t ht hx hy hy))]
  rw [doL_ok (l' := [x, y, y]) (mv_do (e := e) (l := [x, y, y]) (l' := [x, y, y]) (ks := pSwap.ks) (ps := [1, 0]) (fun t ht => gs3 t ht hx hy hy) (by omega) (k63 (by decide)) (by show 2 ≤ 3; omega) rfl (fun t ht => gs3 t ht hx hy hy))]
  rw [doL_ok (l' := [x, y]) (mv_do (e := e) (l := [x, y, y]) (l' := [x, y]) (ks := pDrop.ks) (ps := []) (fun t ht => gs3 t ht hx hy hy) (by omega) (k63 (by decide)) (by show 1 ≤ 3; omega) rfl (fun t ht => gs2 t ht hx hy))]
  rw [doL_ok (l' := [x, y, x]) (mv_do (e := e) (l := [x, y]) (l' := [x, y, x]) (ks := pOver.ks) (ps := [0, 1, 0]) (fun t ht => gs2 t ht hx hy) (by omega) (k63 (by decide)) (by show 2 ≤ 2; omega) rfl (fun t ht => gs3 t ht hx hy hx))]
  rfl
theorem fb_lis (l : List Vt) : fb (lisT l) 8 = true := by
  show (!(bits BinOp.and IntKind.i64 8 8 == 0)) = true
  decide
theorem do_pairs (hx : Gs e x) (hy : Gs e y) (hz : Gs e z) (hD : 2 * e + 1 ≤ D) : doL D [pPair, pUnpair] [x, y, z] = .ok [x, y, z] ∨ doL D [pPair, pUnpair] [x, y, z] = .error 11 := by
  have hl := gs_all (fun t ht => gs3 t ht hx hy hz) hD
  have hf := fit_63 (e := e) [y, z] [63, 63] (fun t ht => gs2 t ht hy hz) (k63 (by decide))
  cases hp : sdB (D + 2) (lisT [y, z]) with
  | false =>
    right
    refine doL_error ?_
    unfold doR
    rw [if_neg (by rw [hl]; simp), if_neg (by show ¬ (3 < 2); omega), if_neg (by rw [show fitB ([x, y, z].drop ([x, y, z].length - pPair.ks.length)) pPair.ks = true from hf]; simp)]
    show fnR D _ (.ok [lisT [y, z]]) = _
    simp only [fnR, List.all_cons, hp]
    rfl
  | true =>
    left
    rw [doL_ok (p := pPair) (l' := [x, lisT [y, z]]) (doR_ok (ls := [lisT [y, z]]) hl (by show 2 ≤ 3; omega) hf rfl (by simp [hp]) rfl)]
    rw [doL_ok (p := pUnpair) (l' := [x, y, z]) (doR_ok (ls := [y, z]) (by simp [hp, hx.sd (show 2 * e + 1 ≤ D + 2 by omega)]) (by show 1 ≤ 2; omega) (by show (fb (lisT [y, z]) 8 && true) = true; rw [fb_lis]; rfl) rfl (gs_all (fun t ht => gs2 t ht hy hz) (by omega)) rfl)]
    rfl
end
end Go.Proofs.YtbhpjakjlfkfiaaGreatDoor
namespace Go.Proofs.YtbhpjakjlfkfiaaGreatDoor
open Go.RowKit Go.Lib
set_option linter.unusedSimpArgs false
set_option linter.unusedVariables false
def t7 : Vt := ⟨1, 7, ⟨#[]⟩, []⟩
theorem do7 : doR 1 [63] (fun _ l => .ok (lsR [0, 0] l)) [t7] = .ok [t7, t7] := by kernel_rfl
theorem sm7 : ∀ x ∈ [t7], ∃ e, SmT e x := fun x hx => by
  simp only [List.mem_cons, List.not_mem_nil, or_false] at hx
  subst hx
  exact ⟨1, Nat.zero_le _, Nat.zero_le _, ⟨(by decide : (-9223372036854775808 : Int) ≤ 1), (by decide : (1 : Int) ≤ 9223372036854775807)⟩, ⟨(by decide : (-9223372036854775808 : Int) ≤ 7), (by decide : (7 : Int) ≤ 9223372036854775807)⟩, fun x hx => by cases hx⟩
set_option maxRecDepth 100000 in
theorem awake12 (w : World) (hT : Ty w) : Calls Tryz.prog 9 #[] w fun e w' => e = .returned (.bool true) ∧ Only (fun _ => False) w w' := by
  have HD : Hid (∀ (W : World) (Q : Nat), Only (fun _ => False) w W → W.cell? ⟨Q, 0, none⟩ = some (.iface 55 (.agg #[.int .i64 7])) → Calls Tryz.prog 12 #[.string ⟨#[100, 117, 112]⟩, .slice (some ⟨Q, 0, none⟩) 1 1] W fun e w' => ∃ a c, e = .returned (.tuple #[.slice a 2 c, .int .i64 0]) ∧ Hid (Only (fun _ => False) w w')) := fun W Q o hc => by
    have hl : PsAt W (fun b => b = Q) 1 false [t7] (some ⟨Q, 0, none⟩) := fun j x hx => by
      have hj : j = 0 := by have := (List.getElem?_eq_some_iff.1 hx).1; simp at this; exact this
      subst hj
      simp at hx
      subst hx
      exact ⟨Q, 0, _, rfl, rfl, hc, .inl ⟨rfl, rfl, rfl⟩⟩
    have := do_any (cap := 1) cDup.wt cDup.cy cDup.one cDup.few hl (fun b hb => by subst hb; exact World.block_lt_of_cell? W _ hc) sm7 (by simp) (hT.1.frame o)
    refine this.mono fun e w' g => ?_
    rw [show doR 1 pDup.ks pDup.cy [t7] = .ok [t7, t7] from do7] at g
    obtain ⟨a, c, he, g⟩ := g
    exact ⟨a, c, he, o.trans g.out.2.1 (fun _ _ g => g)⟩
  have HIs : Hid (∀ W, Only (fun _ => False) w W → Calls Tryz.prog 18 #[.string ⟨#[100, 117, 112]⟩] W fun e w' => e = .returned (.bool true) ∧ Only (fun _ => False) W w') := fun W o => by
    have := is_any ⟨#[100, 117, 112]⟩ W (hT.2.frame o)
    rw [show isB ⟨#[100, 117, 112]⟩ = true by kernel_rfl] at this
    exact this
  have O0 : Hid (Only (fun _ => False) w w) := Only.refl _ _
  clear hT
  go_enter Tryz.func9, Tryz.ntmps9
  go_wp2_with fail
  refine (show Calls Tryz.prog 12 _ _ _ from HD.out _ _ (O0.out.alloc _) (by simp [go_sem])).mono ?_
  rintro e w1 ⟨a, c, rfl, o1⟩
  clear HD O0
  go_wp2_with fail
  refine (show Calls Tryz.prog 18 _ _ _ from HIs.out _ o1.out).mono ?_
  rintro e w2 ⟨rfl, o2⟩
  have O2 : Hid (Only (fun _ => False) w w2) := o1.out.trans o2 (fun _ _ g => g)
  clear o1 o2 HIs
  go_wp2
  go_ret
  exact ⟨rfl, O2.out⟩
/-- three trees in a row: their cells -/
def C3 (w : World) (g : Nat) (x y z : Vt) (lx ly lz : Value) : Prop := (w.cell? ⟨g, 0, none⟩ = some (.int .i64 x.k) ∧ w.cell? ⟨g, 1, none⟩ = some (.int .i64 x.n) ∧ w.cell? ⟨g, 2, none⟩ = some (.string x.s) ∧ w.cell? ⟨g, 3, none⟩ = some lx) ∧ (w.cell? ⟨g, 4, none⟩ = some (.int .i64 y.k) ∧ w.cell? ⟨g, 5, none⟩ = some (.int .i64 y.n) ∧ w.cell? ⟨g, 6, none⟩ = some (.string y.s) ∧ w.cell? ⟨g, 7, none⟩ = some ly) ∧ (w.cell? ⟨g, 8, none⟩ = some (.int .i64 z.k) ∧ w.cell? ⟨g, 9, none⟩ = some (.int .i64 z.n) ∧ w.cell? ⟨g, 10, none⟩ = some (.string z.s) ∧ w.cell? ⟨g, 11, none⟩ = some lz)
theorem C3.only {w w' : World} {g : Nat} {x y z : Vt} {lx ly lz : Value} (h : C3 w g x y z lx ly lz) (o : Only (fun _ => False) w w') : C3 w' g x y z lx ly lz :=
  ⟨⟨o.cell h.1.1 (fun g => g), o.cell h.1.2.1 (fun g => g), o.cell h.1.2.2.1 (fun g => g), o.cell h.1.2.2.2 (fun g => g)⟩, ⟨o.cell h.2.1.1 (fun g => g), o.cell h.2.1.2.1 (fun g => g), o.cell h.2.1.2.2.1 (fun g => g), o.cell h.2.1.2.2.2 (fun g => g)⟩, o.cell h.2.2.1 (fun g => g), o.cell h.2.2.2.1 (fun g => g), o.cell h.2.2.2.2.1 (fun g => g), o.cell h.2.2.2.2.2 (fun g => g)⟩
theorem ur3 {w : World} {B d : Nat} {v : Value} {x y z : Vt} (h : UrAt w B d v [x, y, z]) : ∃ g cap lx ly lz S, v = .slice (some ⟨g, 0, none⟩) 3 cap ∧ C3 w g x y z lx ly lz ∧ VsAt w S d x.l lx ∧ VsAt w S d y.l ly ∧ VsAt w S d z.l lz ∧ B ≤ g := by
  obtain ⟨us, S, ho, ht, hS⟩ := h
  obtain ⟨lx, ⟨x0, x1, x2, x3⟩, tx⟩ := ht 0 x rfl
  obtain ⟨ly, ⟨y0, y1, y2, y3⟩, ty⟩ := ht 1 y rfl
  obtain ⟨lz, ⟨z0, z1, z2, z3⟩, tz⟩ := ht 2 z rfl
  rcases ho.2 with ⟨h3, h4⟩ | ⟨g, cp, cur, hv, hB, hg, hn, hcm, hcs, htk⟩
  · simp at h4
  · subst hv
    have hc := fun j u hu => ho.cells (g := g) rfl j u hu
    simp only [addr_ad] at hc
    exact ⟨g, cp, lx, ly, lz, S, rfl, ⟨⟨hc _ _ x0, hc _ _ x1, hc _ _ x2, hc _ _ x3⟩, ⟨hc _ _ y0, hc _ _ y1, hc _ _ y2, hc _ _ y3⟩, hc _ _ z0, hc _ _ z1, hc _ _ z2, hc _ _ z3⟩, tx, ty, tz, hB⟩
theorem vs3 {w : World} {S : Nat → Prop} {d g : Nat} {x y z : Vt} {lx ly lz : Value} (h : C3 w g x y z lx ly lz) (hx : VsAt w S d x.l lx) (hy : VsAt w S d y.l ly) (hz : VsAt w S d z.l lz) (c : Nat) (hc : 3 ≤ c) : VsAt w (fun b => S b ∨ b = g) (d + 1) [x, y, z] (.slice (some ⟨g, 0, none⟩) 3 c) := by
  have up : ∀ {l v}, VsAt w S d l v → VsAt w (fun b => S b ∨ b = g) d l v := fun h => h.step (fun _ g => .inl g) (fun _ _ _ g => g) (Nat.le_refl _)
  refine ⟨_, _, rfl, hc, fun i t ht => ?_⟩
  have hi := (List.getElem?_eq_some_iff.1 ht).1
  match i, hi with
  | 0, _ => simp at ht; subst ht; exact ⟨g, 0, lx, rfl, .inr rfl, h.1, up hx⟩
  | 1, _ => simp at ht; subst ht; exact ⟨g, 0, ly, rfl, .inr rfl, h.2.1, up hy⟩
  | 2, _ => simp at ht; subst ht; exact ⟨g, 0, lz, rfl, .inr rfl, h.2.2, up hz⟩
theorem names_new (ps : List Pr) (t : TypeId) (w : World) : ∀ (j : Nat) (p : Pr), ps[j]? = some p → (w.alloc (.cells (ps.map fun p => Value.string p.name).toArray t)).cell? ⟨w.heap.size, j, none⟩ = some (.string p.name) := fun j p hp => by
  rw [vblk_cells (valloc_at w _ _ rfl)]
  simp [hp]
end Go.Proofs.YtbhpjakjlfkfiaaGreatDoor
namespace Go.Proofs.YtbhpjakjlfkfiaaGreatDoor
open Go.RowKit Go.Lib
set_option linter.unusedSimpArgs false
set_option linter.unusedVariables false
set_option maxRecDepth 100000 in
theorem rnames_any (w : World) : Calls Tryz.prog 17 #[] w fun e w' => e = .returned (.slice (some ⟨w.heap.size, 0, none⟩) 52 52) ∧ w' = w.alloc (.cells (pmNames.map Value.string).toArray 9) := by
  go_enter Tryz.func17, Tryz.ntmps17
  go_wp2
  go_ret
  exact ⟨rfl, rfl⟩
/-- the words of code -/
def ctL : List (List UInt8) := [[99, 97, 108, 108], [100, 105, 112], [107, 101, 101, 112], [105, 102], [119, 104, 101, 110], [116, 105, 109, 101, 115], [101, 97, 99, 104], [108, 111, 111, 112]]
def ctB (s : ByteArray) : Bool := ctL.contains s.toList
set_option maxRecDepth 100000 in
theorem ct_0 (w : World) : Calls Tryz.prog 39 #[.string ⟨#[99, 97, 108, 108]⟩] w fun e w' => e = .returned (.bool true) ∧ w' = w := by
  go_enter Tryz.func39, Tryz.ntmps39
  go_wp2
  go_ret
  exact ⟨rfl, rfl⟩
set_option maxRecDepth 100000 in
theorem ct_1 (w : World) : Calls Tryz.prog 39 #[.string ⟨#[100, 105, 112]⟩] w fun e w' => e = .returned (.bool true) ∧ w' = w := by
  go_enter Tryz.func39, Tryz.ntmps39
  go_wp2
  go_ret
  exact ⟨rfl, rfl⟩
set_option maxRecDepth 100000 in
theorem ct_2 (w : World) : Calls Tryz.prog 39 #[.string ⟨#[107, 101, 101, 112]⟩] w fun e w' => e = .returned (.bool true) ∧ w' = w := by
  go_enter Tryz.func39, Tryz.ntmps39
  go_wp2
  go_ret
  exact ⟨rfl, rfl⟩
set_option maxRecDepth 100000 in
theorem ct_3 (w : World) : Calls Tryz.prog 39 #[.string ⟨#[105, 102]⟩] w fun e w' => e = .returned (.bool true) ∧ w' = w := by
  go_enter Tryz.func39, Tryz.ntmps39
  go_wp2
  go_ret
  exact ⟨rfl, rfl⟩
set_option maxRecDepth 100000 in
theorem ct_4 (w : World) : Calls Tryz.prog 39 #[.string ⟨#[119, 104, 101, 110]⟩] w fun e w' => e = .returned (.bool true) ∧ w' = w := by
  go_enter Tryz.func39, Tryz.ntmps39
  go_wp2
  go_ret
  exact ⟨rfl, rfl⟩
set_option maxRecDepth 100000 in
theorem ct_5 (w : World) : Calls Tryz.prog 39 #[.string ⟨#[116, 105, 109, 101, 115]⟩] w fun e w' => e = .returned (.bool true) ∧ w' = w := by
  go_enter Tryz.func39, Tryz.ntmps39
  go_wp2
  go_ret
  exact ⟨rfl, rfl⟩
set_option maxRecDepth 100000 in
theorem ct_6 (w : World) : Calls Tryz.prog 39 #[.string ⟨#[101, 97, 99, 104]⟩] w fun e w' => e = .returned (.bool true) ∧ w' = w := by
  go_enter Tryz.func39, Tryz.ntmps39
  go_wp2
  go_ret
  exact ⟨rfl, rfl⟩
set_option maxRecDepth 100000 in
theorem ct_7 (w : World) : Calls Tryz.prog 39 #[.string ⟨#[108, 111, 111, 112]⟩] w fun e w' => e = .returned (.bool true) ∧ w' = w := by
  go_enter Tryz.func39, Tryz.ntmps39
  go_wp2
  go_ret
  exact ⟨rfl, rfl⟩
set_option maxRecDepth 100000 in
theorem ct_no {s : ByteArray} (h0 : (s.toList == [99, 97, 108, 108]) = false) (h1 : (s.toList == [100, 105, 112]) = false) (h2 : (s.toList == [107, 101, 101, 112]) = false) (h3 : (s.toList == [105, 102]) = false) (h4 : (s.toList == [119, 104, 101, 110]) = false) (h5 : (s.toList == [116, 105, 109, 101, 115]) = false) (h6 : (s.toList == [101, 97, 99, 104]) = false) (h7 : (s.toList == [108, 111, 111, 112]) = false) (w : World) : Calls Tryz.prog 39 #[.string s] w fun e w' => e = .returned (.bool false) ∧ w' = w := by
  go_enter Tryz.func39, Tryz.ntmps39
  go_wp2
  go_ret
  exact ⟨rfl, rfl⟩
theorem control_any (s : ByteArray) (w : World) : Calls Tryz.prog 39 #[.string s] w fun e w' => e = .returned (.bool (ctB s)) ∧ w' = w := by
  by_cases h0 : s.toList = [99, 97, 108, 108]
  · obtain rfl := to_lit h0
    rw [show ctB ⟨[99, 97, 108, 108].toArray⟩ = true by kernel_rfl]
    exact ct_0 w
  by_cases h1 : s.toList = [100, 105, 112]
  · obtain rfl := to_lit h1
    rw [show ctB ⟨[100, 105, 112].toArray⟩ = true by kernel_rfl]
    exact ct_1 w
  by_cases h2 : s.toList = [107, 101, 101, 112]
  · obtain rfl := to_lit h2
    rw [show ctB ⟨[107, 101, 101, 112].toArray⟩ = true by kernel_rfl]
    exact ct_2 w
  by_cases h3 : s.toList = [105, 102]
  · obtain rfl := to_lit h3
    rw [show ctB ⟨[105, 102].toArray⟩ = true by kernel_rfl]
    exact ct_3 w
  by_cases h4 : s.toList = [119, 104, 101, 110]
  · obtain rfl := to_lit h4
    rw [show ctB ⟨[119, 104, 101, 110].toArray⟩ = true by kernel_rfl]
    exact ct_4 w
  by_cases h5 : s.toList = [116, 105, 109, 101, 115]
  · obtain rfl := to_lit h5
    rw [show ctB ⟨[116, 105, 109, 101, 115].toArray⟩ = true by kernel_rfl]
    exact ct_5 w
  by_cases h6 : s.toList = [101, 97, 99, 104]
  · obtain rfl := to_lit h6
    rw [show ctB ⟨[101, 97, 99, 104].toArray⟩ = true by kernel_rfl]
    exact ct_6 w
  by_cases h7 : s.toList = [108, 111, 111, 112]
  · obtain rfl := to_lit h7
    rw [show ctB ⟨[108, 111, 111, 112].toArray⟩ = true by kernel_rfl]
    exact ct_7 w
  have hn : ctB s = false := by
    unfold ctB ctL
    rw [List.contains_eq_any_beq]
    simp [h0, h1, h2, h3, h4, h5, h6, h7]
  rw [hn]
  exact ct_no (by simpa using h0) (by simpa using h1) (by simpa using h2) (by simpa using h3) (by simpa using h4) (by simpa using h5) (by simpa using h6) (by simpa using h7) w
set_option maxRecDepth 100000 in
theorem ris_any (s : ByteArray) (w : World) : Calls Tryz.prog 19 #[.string s] w fun e w' => e = .returned (.bool ((pmR s).2.2 || ctB s)) ∧ Only (fun _ => False) w w' := by
  obtain ⟨x, y, z, hp⟩ : ∃ x y z, pmR s = (x, y, z) := ⟨_, _, _, rfl⟩
  have HQ : Hid (Calls Tryz.prog 21 #[.string s] w fun e w' => e = .returned (.tuple #[.int .i64 x, .int .i64 y, .bool z]) ∧ Only (fun _ => False) w w') := by
    have := rprim_any s w
    rw [hp] at this
    exact this
  have HC : Hid (∀ w1, Calls Tryz.prog 39 #[.string s] w1 fun e w' => e = .returned (.bool (ctB s)) ∧ w' = w1) := control_any s
  rw [hp]
  dsimp only
  obtain ⟨b, hb⟩ : ∃ b, b = ctB s := ⟨_, rfl⟩
  rw [← hb] at HC
  rw [← hb]
  clear hp hb
  cases z with
  | true =>
    go_enter Tryz.func19, Tryz.ntmps19
    go_wp2_with fail
    refine (show Calls Tryz.prog 21 _ _ _ from HQ.out).mono ?_
    rintro e w1 ⟨rfl, o1⟩
    have O1 : Hid (Only (fun _ => False) w w1) := o1
    clear HQ o1
    go_wp2
    go_ret
    exact ⟨rfl, O1.out⟩
  | false =>
    go_enter Tryz.func19, Tryz.ntmps19
    go_wp2_with fail
    refine (show Calls Tryz.prog 21 _ _ _ from HQ.out).mono ?_
    rintro e w1 ⟨rfl, o1⟩
    have O1 : Hid (Only (fun _ => False) w w1) := o1
    clear HQ o1
    go_wp2_with fail
    refine (show Calls Tryz.prog 39 _ _ _ from HC.out _).mono ?_
    rintro e w2 ⟨rfl, hw⟩
    obtain rfl := hw.symm
    go_wp2
    go_ret
    exact ⟨rfl, O1.out⟩
theorem pmF_mem (l : List UInt8) : ∀ q : List (List UInt8 × Int × Int), (pmF l q).2.2 = true ↔ l ∈ q.map (·.1)
  | [] => by simp [pmF]
  | x :: r => by
    unfold pmF
    by_cases h : l = x.1
    · rw [if_pos h]
      simp [h]
    · rw [if_neg h, pmF_mem l r]
      simp [h]
theorem nm_in : (pmNames.map (·.toList)).all (fun l => (pmL.map (·.1) ++ ctL).contains l) = true := by kernel_rfl
theorem nm_out : (pmL.map (·.1) ++ ctL).all (fun l => (pmNames.map (·.toList)).contains l) = true := by kernel_rfl
/-- which names there are -/
theorem is_eq (s : ByteArray) : isB s = ((pmR s).2.2 || ctB s) := by
  have e1 : isB s = true ↔ s.toList ∈ pmNames.map (·.toList) := by
    unfold isB
    rw [Lib.containsS_iff, List.mem_map]
    constructor
    · intro h
      exact ⟨s, h, rfl⟩
    · rintro ⟨x, hx, he⟩
      rw [← list_inj he]
      exact hx
  have e2 : ((pmR s).2.2 || ctB s) = true ↔ s.toList ∈ pmL.map (·.1) ++ ctL := by
    rw [Bool.or_eq_true, List.mem_append]
    unfold pmR ctB
    rw [pmF_mem, List.contains_iff_mem]
  rw [Bool.eq_iff_iff, e1, e2]
  constructor
  · intro h
    exact List.contains_iff_mem.1 (List.all_eq_true.1 nm_in _ h)
  · intro h
    exact List.contains_iff_mem.1 (List.all_eq_true.1 nm_out _ h)
set_option maxRecDepth 100000 in
theorem stx_same (L : List ByteArray) (g1 g2 : Nat) (w : World) (hl : L.length ≤ 1000) (h1 : ∀ (j : Nat) (s : ByteArray), L[j]? = some s → w.cell? ⟨g1, j, none⟩ = some (.string s)) (h2 : ∀ (j : Nat) (s : ByteArray), L[j]? = some s → w.cell? ⟨g2, j, none⟩ = some (.string s)) : Calls Tryz.prog 15 #[.slice (some ⟨g1, 0, none⟩) L.length L.length, .slice (some ⟨g2, 0, none⟩) L.length L.length] w fun e w' => e = .returned (.bool true) ∧ Only (fun _ => False) w w' := by
  obtain ⟨N, hN⟩ : ∃ N, N = L.length := ⟨_, rfl⟩
  have HN : Hid (N = L.length ∧ N ≤ 1000) := ⟨hN, by omega⟩
  have HT : Hid ((∀ (j : Nat) (s : ByteArray), L[j]? = some s → w.cell? ⟨g1, j, none⟩ = some (.string s)) ∧ (∀ (j : Nat) (s : ByteArray), L[j]? = some s → w.cell? ⟨g2, j, none⟩ = some (.string s))) := ⟨h1, h2⟩
  rw [← hN]
  clear hN hl h1 h2
  go_enter Tryz.func15, Tryz.ntmps15
  go_wp2
  go_loopw [5] (fun r wr => ∃ j : Nat, r = .int .i64 (j : Int) ∧ j ≤ N ∧ Hid (Only (fun _ => False) w wr)) (fun r _ => N - vuOf r)
  case atStart => exact ⟨0, rfl, Nat.zero_le _, Only.refl _ _⟩
  case round =>
    obtain ⟨j, rfl, hj, HI⟩ := hrel
    obtain ⟨w2, hw2⟩ : ∃ w2, w2 = wr := ⟨_, rfl⟩
    rw [← hw2] at HI ⊢
    clear hw2
    by_cases hjN : j < N
    · obtain ⟨s, hs⟩ : ∃ s, L[j]? = some s := ⟨L[j]'(by rw [← HN.out.1]; exact hjN), List.getElem?_eq_getElem _⟩
      have c1 := HI.out.cell (HT.out.1 j s hs) (fun g => g)
      have c2 := HI.out.cell (HT.out.2 j s hs) (fun g => g)
      have i1 : (j : Int) < (N : Int) := by omega
      have i0 : (0 : Int) ≤ (j : Int) := by omega
      have i4 : j ≤ 1000 := by have := HN.out.2; omega
      have HJ : Hid (j < N) := hjN
      have hss : (s.toList == s.toList) = true := by simp
      clear hs hjN hj
      go_wp2
      go_quiet (fail)
      have HI2 : Hid (Only (fun _ => False) w (w2.drewN nq)) := HI.out.drewN _
      clear HI c1 c2
      go_wp2
      go_roundw
      case rel => exact ⟨j + 1, by go_num, by have := HJ.out; omega, HI2⟩
      case measure => simp only [vuOf]; have := HJ.out; omega
    · obtain rfl : j = N := by omega
      have i1 : ¬ (j : Int) < (j : Int) := by omega
      clear hjN hj
      go_wp2
      go_ret
      exact ⟨rfl, HI.out⟩
set_option maxRecDepth 100000 in
theorem peffect_any (s : ByteArray) (w : World) : Calls Tryz.prog 20 #[.string s] w fun e w' => e = .returned (.tuple #[efV (pmR s).1 (pmR s).2.1, .bool (pmR s).2.2]) ∧ Only (fun _ => False) w w' := by
  obtain ⟨x, y, z, hp⟩ : ∃ x y z, pmR s = (x, y, z) := ⟨_, _, _, rfl⟩
  have HP : Hid (∀ w1, Calls Tryz.prog 40 #[.string s] w1 fun e w' => e = .returned (.tuple #[.agg #[.int .i64 x, .int .i64 y], .bool z]) ∧ Only (fun _ => False) w1 w') := fun w1 => by
    have := prim_any s w1
    rw [hp] at this
    exact this
  rw [hp]
  unfold efV
  dsimp only
  clear hp
  obtain ⟨N, hN⟩ : ∃ N, N = w.heap.size := ⟨_, rfl⟩
  go_enter Tryz.func20, Tryz.ntmps20
  go_wp2_with fail
  refine (show Calls Tryz.prog 40 _ _ _ from HP.out _).mono ?_
  rintro e w1 ⟨rfl, o1⟩
  have O1 : Hid (Only (fun _ => False) w w1 ∧ N = w.heap.size) := ⟨((Only.refl (fun _ => False) w).alloc _).trans o1 (fun _ _ g => g), hN⟩
  have R1 : TwC w1 N 0 0 := o1.at (ealloc_at _ _ _ hN)
  rw [← hN]
  obtain ⟨q0, q1, f0, f1⟩ := R1.cells
  clear HP o1 hN
  go_wp2
  obtain ⟨r0, r1⟩ := eset2 R1 (.int .i64 x) (.int .i64 y)
  refine bodyPost_ret (results_eff rfl _ _ N r0 r1 rfl) rfl ⟨rfl, ?_⟩
  exact (O1.out.1.setCell _ _ (fun h => by have := O1.out.2; simp at h; omega)).setCell _ _ (fun h => by have := O1.out.2; simp at h; omega)
theorem row_cells (L : List ByteArray) (t : TypeId) (w W : World) (o : Only (fun _ => False) (w.alloc (.cells (L.map Value.string).toArray t)) W) : ∀ (j : Nat) (s : ByteArray), L[j]? = some s → W.cell? ⟨w.heap.size, j, none⟩ = some (.string s) := fun j s hs => o.cell (by
  rw [vblk_cells (valloc_at w _ _ rfl)]
  simp [hs]) (fun g => g)
set_option maxRecDepth 100000 in
set_option maxHeartbeats 4000000 in
theorem pnames_walk (s : ByteArray) (w : World) (hT : Ty w) : Calls Tryz.prog 4 #[.string s] w fun e w' => e = .returned (.bool true) ∧ Only (fun _ => False) w w' := by
  have HA : Hid _ := awake12 w hT
  have HN : Hid (∀ W, Only (fun _ => False) w W → Calls Tryz.prog 16 #[] W fun e w' => e = .returned (.slice (some ⟨W.heap.size, 0, none⟩) 52 52) ∧ w' = W.alloc (.cells (pmNames.map Value.string).toArray 9)) := fun W o => names_any W (hT.2.frame o)
  have HM : Hid (∀ W, Calls Tryz.prog 17 #[] W fun e w' => e = .returned (.slice (some ⟨W.heap.size, 0, none⟩) 52 52) ∧ w' = W.alloc (.cells (pmNames.map Value.string).toArray 9)) := rnames_any
  obtain ⟨Z, hZ⟩ : ∃ Z, Z = isB s := ⟨_, rfl⟩
  have HI : Hid (∀ W, Only (fun _ => False) w W → Calls Tryz.prog 18 #[.string s] W fun e w' => e = .returned (.bool Z) ∧ Only (fun _ => False) W w') := fun W o => by rw [hZ]; exact is_any s W (hT.2.frame o)
  have HJ : Hid (∀ W, Calls Tryz.prog 19 #[.string s] W fun e w' => e = .returned (.bool Z) ∧ Only (fun _ => False) W w') := fun W => by
    rw [hZ, is_eq]
    exact ris_any s W
  obtain ⟨x, y, z, hp⟩ : ∃ x y z, pmR s = (x, y, z) := ⟨_, _, _, rfl⟩
  have HP : Hid (∀ w1, Calls Tryz.prog 20 #[.string s] w1 fun e w' => e = .returned (.tuple #[.agg #[.int .i64 x, .int .i64 y], .bool z]) ∧ Only (fun _ => False) w1 w') := fun w1 => by
    have := peffect_any s w1
    rw [hp] at this
    exact this
  have HQ : Hid (∀ w1, Calls Tryz.prog 21 #[.string s] w1 fun e w' => e = .returned (.tuple #[.int .i64 x, .int .i64 y, .bool z]) ∧ Only (fun _ => False) w1 w') := fun w1 => by
    have := rprim_any s w1
    rw [hp] at this
    exact this
  clear hZ hp hT
  go_enter Tryz.func4, Tryz.ntmps4
  go_wp2_with fail
  refine (show Calls Tryz.prog 9 _ _ _ from HA.out).mono ?_
  rintro e w1 ⟨rfl, o1⟩
  have O1 : Hid (Only (fun _ => False) w w1) := o1
  clear HA o1
  go_wp2_with fail
  refine (show Calls Tryz.prog 16 _ _ _ from HN.out _ O1.out).mono ?_
  rintro e w2 ⟨rfl, hw2⟩
  have O2 : Hid (Only (fun _ => False) w w2) := by rw [hw2]; exact O1.out.alloc _
  have HR1 : Hid (∀ W, Only (fun _ => False) w2 W → ∀ (j : Nat) (s : ByteArray), pmNames[j]? = some s → W.cell? ⟨w1.heap.size, j, none⟩ = some (.string s)) := fun W o => row_cells pmNames 9 w1 W (by rw [← hw2]; exact o)
  obtain ⟨g1, hg1⟩ : ∃ g, g = w1.heap.size := ⟨_, rfl⟩
  rw [← hg1] at HR1 ⊢
  clear HN hw2 hg1 O1
  go_wp2_with fail
  refine (show Calls Tryz.prog 17 _ _ _ from HM.out _).mono ?_
  rintro e w3 ⟨rfl, hw3⟩
  have O3 : Hid (Only (fun _ => False) w w3) := by rw [hw3]; exact O2.out.alloc _
  have HS : Hid (Calls Tryz.prog 15 #[.slice (some ⟨g1, 0, none⟩) 52 52, .slice (some ⟨w2.heap.size, 0, none⟩) 52 52] w3 fun e w' => e = .returned (.bool true) ∧ Only (fun _ => False) w3 w') := stx_same pmNames g1 w2.heap.size w3 (by decide) (HR1.out w3 (by rw [hw3]; exact (Only.refl _ _).alloc _)) (row_cells pmNames 9 w2 w3 (by rw [hw3]; exact Only.refl _ _))
  obtain ⟨g2, hg2⟩ : ∃ g, g = w2.heap.size := ⟨_, rfl⟩
  rw [← hg2] at HS ⊢
  clear HM hw3 hg2 O2 HR1
  go_wp2_with fail
  refine (show Calls Tryz.prog 15 _ _ _ from HS.out).mono ?_
  rintro e w4 ⟨rfl, o4⟩
  have O4 : Hid (Only (fun _ => False) w w4) := O3.out.trans o4 (fun _ _ g => g)
  clear HS o4 O3
  go_wp2_with fail
  refine (show Calls Tryz.prog 18 _ _ _ from HI.out _ O4.out).mono ?_
  rintro e w5 ⟨rfl, o5⟩
  have O5 : Hid (Only (fun _ => False) w w5) := O4.out.trans o5 (fun _ _ g => g)
  clear HI o5 O4
  go_wp2_with fail
  refine (show Calls Tryz.prog 19 _ _ _ from HJ.out _).mono ?_
  rintro e w6 ⟨rfl, o6⟩
  have O6 : Hid (Only (fun _ => False) w w6) := O5.out.trans o6 (fun _ _ g => g)
  clear HJ o6 O5
  have hzz : (Z == Z) = true := by simp
  go_wp2_with fail
  refine (show Calls Tryz.prog 20 _ _ _ from HP.out _).mono ?_
  rintro e w7 ⟨rfl, o7⟩
  have O7 : Hid (Only (fun _ => False) w w7) := O6.out.trans o7 (fun _ _ g => g)
  clear HP o7 O6
  obtain ⟨N, hN⟩ : ∃ N, N = w7.heap.size := ⟨_, rfl⟩
  have HN7 : Hid (N = w7.heap.size) := hN
  go_wp2_with fail
  refine (show Calls Tryz.prog 21 _ _ _ from HQ.out _).mono ?_
  rintro e w8 ⟨rfl, o8⟩
  have O8 : Hid (Only (fun _ => False) w w8) := (O7.out.alloc _).trans o8 (fun _ _ g => g)
  have R8 : TwC w8 N x y := o8.at (ealloc_at _ _ _ hN)
  obtain ⟨q0, q1, _, _⟩ := R8.cells
  have hxx : (x == x) = true := by simp
  have hyy : (y == y) = true := by simp
  have hzb : (z == z) = true := by simp
  rw [← hN]
  clear HQ o8 R8 HN7 hN O7
  go_wp2
  go_ret
  exact ⟨rfl, O8.out⟩
end Go.Proofs.YtbhpjakjlfkfiaaGreatDoor
namespace Go.Proofs.YtbhpjakjlfkfiaaGreatDoor
open Go.RowKit Go.Lib
set_option linter.unusedSimpArgs false
set_option linter.unusedVariables false
theorem doR_er {d : Nat} {p : Pr} {k : Nat} (hp : PrO p k) {l : List Vt} {n : Int} (h : doR d p.ks p.cy l = .error n) : n ≠ 16 ∨ l.length < p.ks.length := by
  unfold doR at h
  split at h
  · cases h; exact .inl (by decide)
  · split at h
    · exact .inr (by assumption)
    · split at h
      · cases h; exact .inl (by decide)
      · left
        generalize hc : p.cy d (l.drop (l.length - p.ks.length)) = c at h
        cases c with
        | error m =>
          simp only [fnR] at h
          cases h
          exact hp.er _ _ _ hc
        | ok ls =>
          simp only [fnR] at h
          split at h
          · cases h
          · cases h; decide
theorem doR_out {d : Nat} {p : Pr} {k : Nat} (hp : PrO p k) {l ls : List Vt} (h : doR d p.ks p.cy l = .ok ls) : p.ks.length ≤ l.length ∧ ∃ cs : List Vt, cs.length = k ∧ ls = l.take (l.length - p.ks.length) ++ cs := by
  unfold doR at h
  split at h
  · cases h
  · split at h
    · cases h
    · split at h
      · cases h
      · generalize hc : p.cy d (l.drop (l.length - p.ks.length)) = c at h
        cases c with
        | error m => cases h
        | ok cs =>
          simp only [fnR] at h
          split at h
          · cases h
            exact ⟨by omega, cs, hp.ok _ _ _ hc, rfl⟩
          · cases h
theorem sl_pre (ao : Option Addr) (L c k : Nat) (hk : k ≤ L) (hc : L ≤ c) : ∀ w, (Instr.slice 25 (.slice ao L c) none (some (.int .i64 (k : Int))) none).run Tryz.prog w = .ok (.slice ao k c) w := by
  intro w
  have k0 : (0 : Int) ≤ (k : Int) := by omega
  have k1 : (k : Int) ≤ (c : Int) := by omega
  cases ao with
  | none => go_simp
  | some ad =>
    by_cases hz : c = 0
    · subst hz
      obtain rfl : L = 0 := by omega
      obtain rfl : k = 0 := by omega
      go_simp
    · have k2 : ¬ (c : Int) = 0 := by omega
      go_simp
theorem RiAt.pln {w : World} {B d : Nat} {T : TypeId} {i : Bool} {ao : Option Addr} {n cap : Nat} {l : List Vt} (h : RiAt w B T d i (.slice ao n cap) l) : n = l.length ∧ n ≤ cap := by
  have hf := h.form
  obtain ⟨a', c', e⟩ := hf
  cases e
  obtain ⟨us, S', ho, _⟩ := h
  rcases ho.2 with ⟨h3, h4⟩ | ⟨g, cp, cur, hv, hB, hg, hn, hcm, hcs, htk⟩
  · exact ⟨rfl, by omega⟩
  · cases hv
    exact ⟨rfl, hn⟩
/-- what came of the values ahead of those that a primitive takes -/
theorem pre_qi {w : World} {B D m n cap : Nat} {ao : Option Addr} {l : List Vt} (h : RiAt w B 51 D false (.slice ao n cap) l) (hm : m ≤ n) : ∃ S, QiAt w S D false (.slice ao m cap) (l.take m) := by
  obtain ⟨hn, hc⟩ := h.pln
  obtain ⟨S, hp, _⟩ := h.ps
  refine ⟨S, ao, cap, by rw [List.length_take, Nat.min_eq_left (by omega)], by rw [List.length_take]; omega, fun j x hx => ?_⟩
  refine hp j x ?_
  rw [List.getElem?_take] at hx
  split at hx
  · exact hx
  · cases hx
set_option maxRecDepth 100000 in
set_option maxHeartbeats 8000000 in
theorem effects_walk {s : ByteArray} {args : List Vt} {aa : Option Addr} {N cc : Nat} {d : Nat} {w : World} (ha : VsAt w (fun _ => True) (d + 1) args (.slice aa N cc)) (hlen : args.length ≤ 2513169434900) (sa : ∀ x ∈ args, SmT d x) (hT : Ty w) :
    Calls Tryz.prog 5 #[.string s, .slice aa N cc] w fun e w' => e = .returned (.bool true) ∧ Only (fun _ => False) w w' := by
  have hN : N = args.length := by
    obtain ⟨a', c', he⟩ := ha.form
    cases he
    rfl
  obtain ⟨zs, hzs⟩ : ∃ zs, zs = args.map (nm d false) := ⟨_, rfl⟩
  have HZ : Hid (zs.length = N ∧ N ≤ 2513169434900 ∧ (∀ x ∈ zs, LfT d x) ∧ (∀ x ∈ zs, ∃ e, SmT e x) ∧ (∀ x ∈ zs, ∃ e, NfT e x)) := by
    refine ⟨by rw [hzs, hN]; simp, by omega, fun x hx => ?_, fun x hx => ?_, fun x hx => ?_⟩
    all_goals
      rw [hzs] at hx
      obtain ⟨y, hy, rfl⟩ := List.mem_map.1 hx
    · exact nm_lf d false y (sa y hy)
    · exact ⟨d, nm_sm d false y (sa y hy)⟩
    · exact ⟨d, nm_nf d false y (sa y hy)⟩
  have HA : Hid _ := awake12 w hT
  have HT : Hid (Ty w) := hT
  have HV : Hid (∀ W, Only (fun _ => False) w W → Calls Tryz.prog 11 #[.slice aa N cc] W fun e w' => ∃ ao cap, e = .returned (.slice ao N cap) ∧ Hid (RiAt w' W.heap.size 51 (2 * d + 1) false (.slice ao N cap) zs ∧ Only (fun _ => False) W w')) := fun W o => by
    refine (values_all d args _ W _ (ha.only o) hlen sa).mono fun e w' g => ?_
    obtain ⟨ao, cap, he, g⟩ := g
    rw [← hN] at he g
    rw [hzs]
    exact ⟨ao, cap, he, g⟩
  obtain ⟨x, y, z, hp⟩ : ∃ x y z, pmR s = (x, y, z) := ⟨_, _, _, rfl⟩
  have HE : Hid (∀ w1, Calls Tryz.prog 20 #[.string s] w1 fun e w' => e = .returned (.tuple #[.agg #[.int .i64 x, .int .i64 y], .bool z]) ∧ Only (fun _ => False) w1 w') := fun w1 => by
    have := peffect_any s w1
    rw [hp] at this
    exact this
  have HPz : Hid (pmR s = (x, y, z)) := hp
  clear ha hlen sa hT hN hzs hp
  by_cases hs : s.toList ∈ tbL
  · obtain ⟨p, k, hps, hpo⟩ := pr_all hs
    have hxyz : x = (p.ks.length : Int) ∧ y = (k : Int) ∧ z = true := by
      have h1 := hpo.ef
      rw [hps, HPz.out] at h1
      simpa using h1
    obtain ⟨rfl, rfl, rfl⟩ := hxyz
    have hk3 : p.ks.length ≤ 3 ∧ k ≤ 3 := ⟨hpo.c.few, pr_k hpo⟩
    obtain ⟨R, hR⟩ : ∃ R, R = doR (2 * d + 1) p.ks p.cy zs := ⟨_, rfl⟩
    have HD : Hid (∀ (W w2 : World) (ao : Option Addr) (cap B : Nat), RiAt w2 B 51 (2 * d + 1) false (.slice ao N cap) zs → Only (fun _ => False) w2 W → Only (fun _ => False) w W → Calls Tryz.prog 12 #[.string s, .slice ao N cap] W fun e w' => DoP R (2 * d + 1 + 2) N W e w') := fun W w2 ao cap B h o o2 => by
      rw [hR, ← hps]
      obtain ⟨S, h1, h2⟩ := h.ps
      have := do_any (cap := cap) hpo.c.wt hpo.c.cy hpo.c.one hpo.c.few (h1.only o (fun _ _ g => g)) (fun b hb => Nat.lt_of_lt_of_le (h2 b hb).2 o.size) HZ.out.2.2.2.1 (by rw [HZ.out.1]; exact HZ.out.2.1) (HT.out.1.frame o2)
      rw [HZ.out.1] at this
      exact this
    obtain ⟨K, hK⟩ : ∃ K, K = p.ks.length := ⟨_, rfl⟩
    have HRR : Hid ((∀ n, R = .error n → n ≠ 16 ∨ N < K) ∧ ∀ ls, R = .ok ls → K ≤ N ∧ ls.length = N - K + k ∧ ls.take (N - K) = zs.take (N - K)) := by
      refine ⟨fun n h => ?_, fun ls h => ?_⟩
      · have := doR_er hpo (hR.symm.trans h)
        rw [HZ.out.1] at this
        rw [hK]
        exact this
      · obtain ⟨h1, cs, h2, h3⟩ := doR_out hpo (hR.symm.trans h)
        rw [HZ.out.1] at h1 h3
        rw [← hK] at h1 h3
        have e1 : (zs.take (N - K)).length = N - K := by rw [List.length_take, HZ.out.1]; omega
        refine ⟨h1, by rw [h3, List.length_append, e1, h2], ?_⟩
        rw [h3, List.take_append_of_le_length (by omega), List.take_of_length_le (by omega)]
    rw [← hK] at HE hk3
    have hNb : N ≤ 2513169434900 := HZ.out.2.1
    clear hR hpo hps hs HPz hK
    cases R with
    | error n =>
      go_enter Tryz.func5, Tryz.ntmps5
      go_wp2_with fail
      refine (show Calls Tryz.prog 9 _ _ _ from HA.out).mono ?_
      rintro e w1 ⟨rfl, o1⟩
      have O1 : Hid (Only (fun _ => False) w w1) := o1
      clear HA o1
      go_wp2_with fail
      refine (show Calls Tryz.prog 11 _ _ _ from HV.out _ O1.out).mono ?_
      rintro e w2 ⟨a2, c2, rfl, G2⟩
      have O2 : Hid (Only (fun _ => False) w w2) := O1.out.trans G2.out.2 (fun _ _ g => g)
      go_wp2_with fail
      refine (show Calls Tryz.prog 12 _ _ _ from HD.out _ _ _ _ _ G2.out.1 (Only.refl _ _) O2.out).mono ?_
      rintro e w3 ⟨rfl, hn, o3⟩
      have O3 : Hid (Only (fun _ => False) w w3) := O2.out.trans o3 (fun _ _ g => g)
      have hn' : ¬ n = 0 := by simpa using hn
      clear HV HD o3 hn G2 O2 O1
      go_wp2_with fail
      refine (show Calls Tryz.prog 20 _ _ _ from HE.out _).mono ?_
      rintro e w4 ⟨rfl, o4⟩
      have O4 : Hid (Only (fun _ => False) w w4) := O3.out.trans o4 (fun _ _ g => g)
      clear HE o4 O3
      by_cases h16 : n = 16
      · have i1 : (N : Int) < (K : Int) := by
          rcases HRR.out.1 n rfl with h | h
          · exact absurd h16 h
          · omega
        subst h16
        go_wp2
        go_ret
        exact ⟨rfl, O4.out.alloc _⟩
      · go_wp2
        go_ret
        exact ⟨rfl, O4.out.alloc _⟩
    | ok ls =>
      obtain ⟨hKN, hls, hpre⟩ := HRR.out.2 ls rfl
      obtain ⟨m, hm⟩ : ∃ m, m = N - K := ⟨_, rfl⟩
      obtain ⟨L, hL⟩ : ∃ L, L = ls.length := ⟨_, rfl⟩
      rw [← hm] at hls hpre
      rw [← hL] at hls
      obtain ⟨pre, hpr⟩ : ∃ pre, pre = zs.take m := ⟨_, rfl⟩
      have HPre : Hid ((∀ x ∈ pre, LfT d x) ∧ (∀ x ∈ pre, ∃ e, SmT e x) ∧ (∀ x ∈ pre, ∃ e, NfT e x) ∧ pre.length = m ∧ ls.take m = pre ∧ zs.take m = pre ∧ L = ls.length) := by
        refine ⟨fun x hx => ?_, fun x hx => ?_, fun x hx => ?_, by rw [hpr, List.length_take, HZ.out.1]; omega, by rw [hpre, hpr], hpr.symm, hL⟩
        · exact HZ.out.2.2.1 x (List.mem_of_mem_take (hpr ▸ hx))
        · exact HZ.out.2.2.2.1 x (List.mem_of_mem_take (hpr ▸ hx))
        · exact HZ.out.2.2.2.2 x (List.mem_of_mem_take (hpr ▸ hx))
      have HTr : Hid (∀ (D B n k : Nat) (l : List Vt) (ao : Option Addr) (w5 W : World), d ≤ D → RiAt w5 B 51 D false (.slice ao n k) l → l.take m = pre → m ≤ n → Only (fun _ => False) w5 W → Calls Tryz.prog 10 #[.slice ao m k] W fun e w' => ∃ a2 c2, e = .returned (.slice a2 m c2) ∧ Hid ((∃ S, VsAt w' S (D + 1) pre (.slice a2 m c2)) ∧ Only (fun _ => False) W w')) := fun D B n k l ao w5 W hdD h hl hmn o => by
        obtain ⟨S, h1⟩ := pre_qi h hmn
        rw [hl] at h1
        have := utrees_of D (utrees_any (D + 1) D (by omega)).1 (.slice ao m k) pre W S (h1.step (fun _ g => g) (fun a u _ hc => o.cell hc (fun g => g)) (Nat.le_refl _)) (by rw [HPre.out.2.2.2.1]; have := HZ.out.2.1; omega) HPre.out.2.2.1
        refine this.mono fun e w' g => ?_
        obtain ⟨a2, c2, he, g⟩ := g
        rw [HPre.out.2.2.2.1] at he g
        exact ⟨a2, c2, he, g.out.1.vs, g.out.2⟩
      have HSA : Hid (∀ (va vb : Value) (w5 w6 W : World), (∃ S, VsAt w5 S (2 * d + 1 + 2 + 1) pre va) → (∃ S, VsAt w6 S (2 * d + 1 + 1) pre vb) → Only (fun _ => False) w5 W → Only (fun _ => False) w6 W → Calls Tryz.prog 14 #[va, vb] W fun e w' => e = .returned (.bool true) ∧ Only (fun _ => False) W w') := fun va vb w5 w6 W ⟨S1, h1⟩ ⟨S2, h2⟩ o5 o6 => by
        have hb : pre.length ≤ 2513169434900 := by rw [HPre.out.2.2.2.1]; have := HZ.out.2.1; omega
        have := (dsame_all (2 * d + 1 + 2 + 1)).1 pre pre va vb W S1 S2 (h1.only o5) ((h2.only o6).step (fun _ g => g) (fun _ _ _ g => g) (by omega)) hb hb HPre.out.2.1 HPre.out.2.1
        rw [show 2 * d + 1 + 2 + 1 - 1 = 2 * d + 1 + 2 by omega, smL_self _ _ (fun x hx => saV_self _ _ ((HPre.out.1 x hx).mono (by omega)))] at this
        exact this
      have i1 : ¬ (N : Int) < (K : Int) := by omega
      have i2 : IntKind.i64.wrap ((N : Int) - (K : Int)) = (m : Int) := by rw [IntKind.wrap_i64]; omega
      have i3 : IntKind.i64.wrap ((m : Int) + (k : Int)) = (L : Int) := by rw [IntKind.wrap_i64]; omega
      have hmN : m ≤ N := by omega
      have hmL : m ≤ L := by omega
      clear HRR hKN hls hpre hpr hL hm hk3 hNb
      go_enter Tryz.func5, Tryz.ntmps5
      go_wp2_with fail
      refine (show Calls Tryz.prog 9 _ _ _ from HA.out).mono ?_
      rintro e w1 ⟨rfl, o1⟩
      have O1 : Hid (Only (fun _ => False) w w1) := o1
      clear HA o1
      go_wp2_with fail
      refine (show Calls Tryz.prog 11 _ _ _ from HV.out _ O1.out).mono ?_
      rintro e w2 ⟨a2, c2, rfl, G2⟩
      have O2 : Hid (Only (fun _ => False) w w2) := O1.out.trans G2.out.2 (fun _ _ g => g)
      go_wp2_with fail
      refine (show Calls Tryz.prog 12 _ _ _ from HD.out _ _ _ _ _ G2.out.1 (Only.refl _ _) O2.out).mono ?_
      rintro e w3 ⟨a3, c3, rfl, G3⟩
      have O3 : Hid (Only (fun _ => False) w w3) := O2.out.trans G3.out.2.1 (fun _ _ g => g)
      rw [← HPre.out.2.2.2.2.2.2] at G3 ⊢
      have HT1 : Hid (∀ W, Only (fun _ => False) w3 W → Calls Tryz.prog 10 #[.slice a3 m c3] W fun e w' => ∃ a2 c2, e = .returned (.slice a2 m c2) ∧ Hid ((∃ S, VsAt w' S (2 * d + 1 + 2 + 1) pre (.slice a2 m c2)) ∧ Only (fun _ => False) W w')) := fun W o => HTr.out (2 * d + 1 + 2) _ L c3 ls a3 w3 W (by omega) G3.out.1 HPre.out.2.2.2.2.1 hmL o
      have HT2 : Hid (∀ W, Only (fun _ => False) w3 W → Calls Tryz.prog 10 #[.slice a2 m c2] W fun e w' => ∃ a2 c2, e = .returned (.slice a2 m c2) ∧ Hid ((∃ S, VsAt w' S (2 * d + 1 + 1) pre (.slice a2 m c2)) ∧ Only (fun _ => False) W w')) := fun W o => HTr.out (2 * d + 1) _ N c2 zs a2 w2 W (by omega) G2.out.1 HPre.out.2.2.2.2.2.1 hmN (G3.out.2.1.trans o (fun _ _ g => g))
      have hs1 : ∀ w, (Instr.slice 25 (.slice a3 L c3) none (some (.int .i64 (m : Int))) none).run Tryz.prog w = .ok (.slice a3 m c3) w := by
        exact sl_pre a3 L c3 m hmL G3.out.1.pln.2
      have hs2 : ∀ w, (Instr.slice 25 (.slice a2 N c2) none (some (.int .i64 (m : Int))) none).run Tryz.prog w = .ok (.slice a2 m c2) w := by
        exact sl_pre a2 N c2 m hmN G2.out.1.pln.2
      clear HV HD G2 G3 O2 O1 HTr hmN hmL
      go_wp2_with fail
      refine (show Calls Tryz.prog 20 _ _ _ from HE.out _).mono ?_
      rintro e w4 ⟨rfl, o4⟩
      have O4 : Hid (Only (fun _ => False) w3 w4) := o4
      have O5 : Hid (Only (fun _ => False) w3 (w4.alloc (.cells #[.int .i64 (K : Int), .int .i64 (k : Int)] 39))) := o4.alloc _
      have HC : Hid (∀ W, Only (fun _ => False) (w4.alloc (.cells #[.int .i64 (K : Int), .int .i64 (k : Int)] 39)) W → W.cell? ⟨w4.heap.size, 0, none⟩ = some (.int .i64 (K : Int))) := fun W o => o.cell (by simp [go_sem]) (fun g => g)
      have OA : Hid (Only (fun _ => False) (w4.alloc (.cells #[.int .i64 (K : Int), .int .i64 (k : Int)] 39)) (w4.alloc (.cells #[.int .i64 (K : Int), .int .i64 (k : Int)] 39))) := Only.refl _ _
      clear HE o4
      have HOL : Hid (Only (fun _ => False) w (w4.alloc (.cells #[.int .i64 (K : Int), .int .i64 (k : Int)] 39))) := O3.out.trans O5.out (fun _ _ g => g)
      go_wp2
      go_region_held3 (fun W => W.cell? ⟨w4.heap.size, 0, none⟩ = some (.int .i64 (K : Int)))
        (first | with_reducible exact HC.out _ OA.out | with_reducible exact HC.out _ OA.out.drew | with_reducible exact HC.out _ OA.out.drew.drew | with_reducible exact HC.out _ O8.out | with_reducible exact HC.out _ O7.out | with_reducible exact HC.out _ O6.out)
        (first
          | (go_at_call 14; refine (show Calls Tryz.prog 14 _ _ _ from HSA.out _ _ _ _ _ V6.out V7.out OX.out (Only.refl _ _)).mono ?_; rintro ex w8 ⟨rfl, o8⟩; have O8 : Hid (Only (fun _ => False) (w4.alloc (.cells #[.int .i64 (K : Int), .int .i64 (k : Int)] 39)) w8) := O7.out.trans o8 (fun _ _ g => g))
          | (go_at_call 10; have hO6 := O6; clear hO6; refine (show Calls Tryz.prog 10 _ _ _ from HT2.out _ (O5.out.trans O6.out (fun _ _ g => g))).mono ?_; rintro ex w7 ⟨a7, c7, rfl, G7⟩; have O7 : Hid (Only (fun _ => False) (w4.alloc (.cells #[.int .i64 (K : Int), .int .i64 (k : Int)] 39)) w7) := O6.out.trans G7.out.2 (fun _ _ g => g); have V7 : Hid (∃ S, VsAt w7 S (2 * d + 1 + 1) pre (.slice a7 m c7)) := G7.out.1; have OX : Hid (Only (fun _ => False) w6 w7) := G7.out.2; clear G7)
          | (go_at_call 10; refine (show Calls Tryz.prog 10 _ _ _ from HT1.out _ (by first | exact O5.out | exact O5.out.drew | exact O5.out.drew.drew)).mono ?_; rintro ex w6 ⟨a6, c6, rfl, G6⟩; have O6 : Hid (Only (fun _ => False) (w4.alloc (.cells #[.int .i64 (K : Int), .int .i64 (k : Int)] 39)) w6) := (by first | exact OA.out.drew.trans G6.out.2 (fun _ _ g => g) | exact OA.out.trans G6.out.2 (fun _ _ g => g)); have V6 : Hid (∃ S, VsAt w6 S (2 * d + 1 + 2 + 1) pre (.slice a6 m c6)) := G6.out.1; clear G6))
      all_goals
        go_wp2
        go_ret
        exact ⟨rfl, HOL.out.trans O8.out (fun _ _ g => g)⟩
  · have HD : Hid (∀ (W w2 : World) (ao : Option Addr) (cap B : Nat), RiAt w2 B 51 (2 * d + 1) false (.slice ao N cap) zs → Only (fun _ => False) w2 W → Only (fun _ => False) w W → Calls Tryz.prog 12 #[.string s, .slice ao N cap] W fun e w' => e = .returned (.tuple #[.slice none 0 0, .int .i64 (if zs.all (sdB (2 * d + 1)) then 10 else 1)]) ∧ Only (fun _ => False) W w') := fun W w2 ao cap B h o o2 => by
      obtain ⟨S, h1, h2⟩ := h.ps
      have := do_none (cap := cap) hs (h1.only o (fun _ _ g => g)) (fun b hb => Nat.lt_of_lt_of_le (h2 b hb).2 o.size) HZ.out.2.2.2.1 (by rw [HZ.out.1]; exact HZ.out.2.1) (HT.out.1.frame o2)
      rw [HZ.out.1] at this
      exact this
    obtain ⟨n, hn⟩ : ∃ n : Int, n = if zs.all (sdB (2 * d + 1)) then 10 else 1 := ⟨_, rfl⟩
    rw [← hn] at HD
    have hn0 : ¬ n = 0 := by rw [hn]; split <;> omega
    have hn16 : ¬ n = 16 := by rw [hn]; split <;> omega
    clear hn hs HPz
    go_enter Tryz.func5, Tryz.ntmps5
    go_wp2_with fail
    refine (show Calls Tryz.prog 9 _ _ _ from HA.out).mono ?_
    rintro e w1 ⟨rfl, o1⟩
    have O1 : Hid (Only (fun _ => False) w w1) := o1
    clear HA o1
    go_wp2_with fail
    refine (show Calls Tryz.prog 11 _ _ _ from HV.out _ O1.out).mono ?_
    rintro e w2 ⟨a2, c2, rfl, G2⟩
    have O2 : Hid (Only (fun _ => False) w w2) := O1.out.trans G2.out.2 (fun _ _ g => g)
    go_wp2_with fail
    refine (show Calls Tryz.prog 12 _ _ _ from HD.out _ _ _ _ _ G2.out.1 (Only.refl _ _) O2.out).mono ?_
    rintro e w3 ⟨rfl, o3⟩
    have O3 : Hid (Only (fun _ => False) w w3) := O2.out.trans o3 (fun _ _ g => g)
    clear HV HD o3 G2 O2 O1
    go_wp2_with fail
    refine (show Calls Tryz.prog 20 _ _ _ from HE.out _).mono ?_
    rintro e w4 ⟨rfl, o4⟩
    have O4 : Hid (Only (fun _ => False) w w4) := O3.out.trans o4 (fun _ _ g => g)
    clear HE o4 O3
    go_wp2
    go_ret
    exact ⟨rfl, O4.out.alloc _⟩
end Go.Proofs.YtbhpjakjlfkfiaaGreatDoor
