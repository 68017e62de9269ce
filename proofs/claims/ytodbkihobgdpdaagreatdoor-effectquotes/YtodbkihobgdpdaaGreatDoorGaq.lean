/- EffectJoins: the walk. -/
import Derived.Test.YtodbkihobgdpdaaGreatDoorGap
namespace Go.Proofs.YtodbkihobgdpdaaGreatDoor
open Go.RowKit Go.Lib
set_option linter.unusedSimpArgs false
set_option linter.unusedVariables false
theorem kn_nil (w : World) (K : Nat → Prop) : KnAt w K [] none := fun j x h => by simp at h
/-- what the law asks of the three answers -/
def JnB (r1 r2 r3 : Nat × Nat × Int) : Prop := (r1.2.2 = 0 ∨ r1.2.2 = 1 ∨ r1.2.2 = 11) ∧ (r1.2.2 = 0 → r2.2.2 = 0 → r3.2.2 = 0 → thR (r2.1 : Int) (r2.2.1 : Int) (r3.1 : Int) (r3.2.1 : Int) = ((r1.1 : Int), (r1.2.1 : Int), 0))
theorem jn_of {d : Nat} {l : List Vt} {k : Nat} (hl : ∀ x ∈ l, smpI x) (hn : l.length ≤ 60) : JnB (oF d l []) (oF d (l.take k) []) (oF d (l.drop k) []) := by
  have h1 := oF_simple (d := d) hl hn
  have h2 := oF_simple (d := d) (l := l.take k) (fun x hx => hl x (List.mem_of_mem_take hx)) (by rw [List.length_take]; omega)
  have h3 := oF_simple (d := d) (l := l.drop k) (fun x hx => hl x (List.mem_of_mem_drop hx)) (by rw [List.length_drop]; omega)
  refine ⟨?_, fun e1 e2 e3 => ?_⟩
  · rcases h1 with ⟨e, _⟩ | e | e
    · rw [e]; exact .inl rfl
    · rw [e]; exact .inr (.inl rfl)
    · rw [e]; exact .inr (.inr rfl)
  · rcases h1 with ⟨q1, b1, c1⟩ | q1 | q1
    · rcases h2 with ⟨q2, b2, c2⟩ | q2 | q2
      · rcases h3 with ⟨q3, b3, c3⟩ | q3 | q3
        · rw [q1, q2, q3]
          have := joins_pure (a := l.take k) (b := l.drop k) (by rw [List.take_append_drop]; exact b1) (by rw [List.take_append_drop]; exact c1) b2 c2 b3 c3
          rw [List.take_append_drop] at this
          exact this
        · rw [q3] at e3; exact absurd e3 (by decide)
        · rw [q3] at e3; exact absurd e3 (by decide)
      · rw [q2] at e2; exact absurd e2 (by decide)
      · rw [q2] at e2; exact absurd e2 (by decide)
    · rw [q1] at e1; exact absurd e1 (by decide)
    · rw [q1] at e1; exact absurd e1 (by decide)
set_option maxRecDepth 100000 in
set_option maxHeartbeats 8000000 in
theorem ejoins_walk {D : Nat} {l : List Vt} {aa : Option Addr} {cc : Nat} {x : Int} {w : World} (h : VsAt w (fun _ => True) (D + 1) l (.slice aa l.length cc)) (hl : l.length ≤ 2513169434900) (hs : ∀ y ∈ l, SmT D y) (hx : 0 ≤ x ∧ x ≤ 255) (hT : Tb w) :
    Calls Tryz.prog 3 #[.slice aa l.length cc, .int .u8 x] w fun e w' => e = .returned (.bool true) ∧ Only (fun _ => False) w w' := by
  have HA : Hid (∀ w, Calls Tryz.prog 6 #[] w fun e w' => e = .returned (.bool true) ∧ Only (fun _ => False) w w') := awake_any
  have HSi : Hid (∀ (y : Vt) a n c w1, Calls Tryz.prog 7 #[.agg #[.int .i64 y.k, .int .i64 y.n, .string y.s, .slice a n c]] w1 fun e w' => e = .returned (.bool (smpB y)) ∧ Only (fun _ => False) w1 w') := simple_any
  have HTh : Hid (∀ a b c d w1, Calls Tryz.prog 10 #[.agg #[.int .i64 a, .int .i64 b], .agg #[.int .i64 c, .int .i64 d]] w1 fun e w' => e = .returned (.tuple #[.agg #[.int .i64 (thR a b c d).1, .int .i64 (thR a b c d).2.1], .int .i64 (thR a b c d).2.2]) ∧ Only (fun _ => False) w1 w') := then_any
  obtain ⟨ao, cap0, hv0, hc0, hcell⟩ := id h
  injection hv0 with ha0 _ hcc0
  subst ha0
  have HE : Hid (∀ (j : Nat) (y : Vt), l[j]? = some y → ∃ g k a n c, aa = some ⟨g, k, none⟩ ∧ (w.cell? ⟨g, k + j * 4, none⟩ = some (.int .i64 y.k) ∧ w.cell? ⟨g, k + j * 4 + 1, none⟩ = some (.int .i64 y.n) ∧ w.cell? ⟨g, k + j * 4 + 2, none⟩ = some (.string y.s) ∧ w.cell? ⟨g, k + j * 4 + 3, none⟩ = some (.slice a n c)) ∧ VsAt w (fun b => b < w.heap.size) D y.l (.slice a n c) ∧ SmT D y) := fun j y hy => by
    obtain ⟨g, k, lx, p1, p2, p3, p4⟩ := hcell j y hy
    obtain ⟨a, c, rfl⟩ := p4.form
    exact ⟨g, k, a, y.l.length, c, p1, p3, p4.inb, hs y (List.mem_of_getElem? hy)⟩
  have HIt : Hid (∀ (w1 : World) (kp : List Vt) (m : Nat) (v : Value), m = kp.length → m ≤ 60 → (∀ y ∈ kp, SmT D y) → KpAt w1 w.heap.size D v kp → Calls Tryz.prog 8 #[v] w1 (ItS D kp m w1)) := fun w1 kp m v hm h60 hsm hk => itemsOf_sh hm hk.vs (by omega) hsm
  have HO : Hid (∀ (w1 w2 : World) (kp : List Vt) (ao : Option Addr) (cap n : Nat), (∃ S, QsAt w1 S (2 * D + 2) kp ao ∧ ∀ b, S b → b < w1.heap.size) → n = kp.length → n ≤ cap → n ≤ 60 → (∀ y ∈ kp, ∃ e, SmT e y) → Only (fun _ => False) w w2 → Only (fun _ => False) w1 w2 → Calls Tryz.prog 9 #[.slice ao n cap, .slice none 0 0] w2 (OfP (oF (2 * D + 2) kp []) w2)) := fun w1 w2 kp ao cap n ⟨S, q1, q2⟩ hn hc h60 hsm o1 o2 => by
    subst hn
    exact of_any (kl := []) (ka := none) (K := fun _ => True) (kc := 0) (q1.only o2 (fun _ _ e => e)) hc ⟨by omega, hsm⟩ (fun b hb => by have := q2 b hb; have := o2.size; omega) (kn_nil _ _) (Nat.zero_le _) (fun x hx => by cases hx) (hT.frame o1)
  obtain ⟨L, hL⟩ : ∃ L, L = l.length := ⟨_, rfl⟩
  rw [← hL]
  have HLL : Hid (L = l.length ∧ L ≤ 2513169434900 ∧ 0 ≤ x ∧ x ≤ 255) := ⟨hL, by omega, hx⟩
  clear h hl hs hx hT hL hcell hc0 hcc0
  go_enter Tryz.func3, Tryz.ntmps3
  go_wp2_with fail
  refine (show Calls Tryz.prog 6 _ _ _ from HA.out _).mono ?_
  rintro e w1 ⟨rfl, o1⟩
  have O1 : Hid (Only (fun _ => False) w w1) := o1
  clear HA o1
  go_wp2
  go_loopw [5, 6] (fun r5 r6 wr => ∃ (i m : Nat) (a' : Option Addr) (c' : Nat) (kp : List Vt), r6 = .int .i64 (i : Int) ∧ i ≤ L ∧ r5 = .slice a' m c' ∧ m ≤ 60 ∧ Hid (m = kp.length ∧ KpAt wr w.heap.size D (.slice a' m c') kp ∧ (∀ y ∈ kp, smpB y = true ∧ SmT D y) ∧ Only (fun _ => False) w wr)) (fun _ r6 _ => L - vuOf r6)
  case atStart => exact ⟨0, 0, none, 0, [], rfl, Nat.zero_le _, rfl, Nat.zero_le _, rfl, kp_nil _ _ _, (fun y hy => by cases hy), O1.out⟩
  case round =>
    obtain ⟨i, m, a', c', kp, rfl, hi, rfl, hm60, HI⟩ := hrel
    obtain ⟨w2, hw2⟩ : ∃ w2, w2 = wr := ⟨_, rfl⟩
    rw [← hw2] at HI ⊢
    clear hw2 O1
    obtain ⟨hLl, hLb, hx0, hx1⟩ := HLL.out
    by_cases hgo : i < L ∧ m < 60
    · obtain ⟨y, hy⟩ : ∃ y, l[i]? = some y := ⟨l[i]'(by omega), List.getElem?_eq_getElem (by omega)⟩
      obtain ⟨g, k, a9, n9, c9, rfl, ⟨p0, p1, p2, p3⟩, hvs, hsm⟩ := HE.out i y hy
      have o2 := HI.out.2.2.2
      have c0 := o2.cell p0 (fun e => e)
      have c1 := o2.cell p1 (fun e => e)
      have c2 := o2.cell p2 (fun e => e)
      have c3 := o2.cell p3 (fun e => e)
      have HC : Hid _ := HSi.out y a9 n9 c9 w2
      obtain ⟨B, hB⟩ : ∃ B, B = smpB y := ⟨_, rfl⟩
      rw [← hB] at HC
      have HY : Hid (VsAt w (fun b => b < w.heap.size) D y.l (.slice a9 n9 c9) ∧ SmT D y ∧ B = smpB y ∧ i < L ∧ m < 60 ∧ i ≤ 2513169434900) := ⟨hvs, hsm, hB, hgo.1, hgo.2, by omega⟩
      have i1 : (i : Int) < (L : Int) := by omega
      have i2 : (m : Int) < 60 := by omega
      have i0 : (0 : Int) ≤ (i : Int) := by omega
      have i4 : i ≤ 2513169434900 := by omega
      have HP : Hid (∀ w', Only (fun _ => False) w w' → w'.cell? ⟨g, k + i * 4, none⟩ = some (.int .i64 y.k) ∧ w'.cell? ⟨g, k + i * 4 + 1, none⟩ = some (.int .i64 y.n) ∧ w'.cell? ⟨g, k + i * 4 + 2, none⟩ = some (.string y.s) ∧ w'.cell? ⟨g, k + i * 4 + 3, none⟩ = some (.slice a9 n9 c9)) := fun w' o => ⟨o.cell p0 (fun e => e), o.cell p1 (fun e => e), o.cell p2 (fun e => e), o.cell p3 (fun e => e)⟩
      obtain ⟨y0, h0⟩ : ∃ q, q = y.k := ⟨_, rfl⟩
      obtain ⟨y1, h1⟩ : ∃ q, q = y.n := ⟨_, rfl⟩
      obtain ⟨y2, h2⟩ : ∃ q, q = y.s := ⟨_, rfl⟩
      rw [← h0] at c0 HP HC
      rw [← h1] at c1 HP HC
      rw [← h2] at c2 HP HC
      have HYk : Hid (y0 = y.k ∧ y1 = y.n ∧ y2 = y.s) := ⟨h0, h1, h2⟩
      clear hy p0 p1 p2 p3 hvs hsm hB hgo hi hm60 hLl hLb hx0 hx1 h0 h1 h2 o2
      go_wp2_with fail
      refine (show Calls Tryz.prog 7 _ _ _ from HC.out).mono ?_
      rintro e w3 ⟨rfl, o3⟩
      clear HC c0 c1 c2 c3
      have O3 : Hid (Only (fun _ => False) w w3 ∧ Only (fun _ => False) w2 w3) := ⟨HI.out.2.2.2.trans o3 (fun _ _ e => e), o3⟩
      clear o3
      cases B with
      | false =>
        have HF : Hid (m = kp.length ∧ KpAt w3 w.heap.size D (.slice a' m c') kp ∧ (∀ y ∈ kp, smpB y = true ∧ SmT D y) ∧ Only (fun _ => False) w w3) := ⟨HI.out.1, HI.out.2.1.only O3.out.2, HI.out.2.2.1, O3.out.1⟩
        clear HI O3 HP
        go_wp2
        go_roundw
        case rel => exact ⟨i + 1, m, a', c', kp, by go_num, by have := HY.out.2.2.2.1; omega, rfl, by have := HY.out.2.2.2.2.1; omega, HF⟩
        case measure => simp only [vuOf]; have := HY.out.2.2.2.1; omega
      | true =>
        obtain ⟨c0, c1, c2, c3⟩ := HP.out w3 O3.out.1
        have hvs3 : VsAt w3 (fun b => b < w.heap.size) D y.l (.slice a9 n9 c9) := HY.out.1.step (fun _ q => q) (fun a u _ hc => O3.out.1.cell hc (fun e => e)) (Nat.le_refl _)
        obtain ⟨a5, c5, w5, hr, hkp5, o5⟩ := (HI.out.2.1.only O3.out.2).snoc HI.out.1 (by have := HY.out.2.2.2.2.1; omega) hvs3 rfl O3.out.1.size
        rw [← HYk.out.1, ← HYk.out.2.1, ← HYk.out.2.2] at hr
        have HR : Hid _ := hr
        have HF : Hid (m + 1 = (kp ++ [y]).length ∧ KpAt w5 w.heap.size D (.slice a5 (m + 1) c5) (kp ++ [y]) ∧ (∀ z ∈ kp ++ [y], smpB z = true ∧ SmT D z) ∧ Only (fun _ => False) w w5) := by
          refine ⟨by rw [HI.out.1]; simp, hkp5, fun z hz => ?_, O3.out.1.trans o5 (fun q hq e => by omega)⟩
          rcases List.mem_append.1 hz with hz | hz
          · exact HI.out.2.2.1 z hz
          · obtain rfl : z = y := by simpa using hz
            exact ⟨HY.out.2.2.1.symm, HY.out.2.1⟩
        clear HI O3 HP hvs3 hr hkp5 o5
        go_wp2_with (at_builtin; refine vwpList_append_run rfl _ _ 22 rfl _ _ _ rfl rfl HR.out ?_)
        go_roundw
        case rel => exact ⟨i + 1, m + 1, a5, c5, kp ++ [y], by go_num, by have := HY.out.2.2.2.1; omega, rfl, by have := HY.out.2.2.2.2.1; omega, HF⟩
        case measure => simp only [vuOf]; have := HY.out.2.2.2.1; omega
    · have hgo2 : (¬ i < L) ∨ (i < L ∧ ¬ m < 60) := by omega
      obtain ⟨kk, hk1, hk2⟩ : ∃ kk : Nat, Int.tmod x ((m : Int) + 1) = (kk : Int) ∧ kk ≤ m := by
        have e1 := Int.tmod_eq_emod_of_nonneg (b := (m : Int) + 1) hx0
        have e2 := Int.emod_nonneg x (show ((m : Int) + 1) ≠ 0 by omega)
        have e3 := Int.emod_lt_of_pos x (show 0 < ((m : Int) + 1) by omega)
        exact ⟨(x % ((m : Int) + 1)).toNat, by rw [e1]; omega, by omega⟩
      have HK : Hid (m ≤ 60 ∧ kk ≤ m ∧ True) := ⟨hm60, hk2, trivial⟩
      have HKx : Hid (IntKind.i64.wrap x = x ∧ IntKind.i64.wrap ((m : Int) + 1) = (m : Int) + 1 ∧ (((m : Int) + 1) == 0) = false ∧ Int.tmod x ((m : Int) + 1) = (kk : Int)) := ⟨by rw [IntKind.wrap_i64]; omega, by rw [IntKind.wrap_i64]; omega, by simp; omega, hk1⟩
      clear hk1 hk2 hi hm60 hLl hLb hx0 hx1 hgo
      rcases hgo2 with hA | ⟨hA, hB⟩
      · have i1 : ¬ (i : Int) < (L : Int) := by omega
        clear hA
        have HC : Hid _ := HIt.out w2 kp m (.slice a' m c') HI.out.1 HK.out.1 (fun y hy => (HI.out.2.2.1 y hy).2) HI.out.2.1
        go_wp2_with fail
        refine (show Calls Tryz.prog 8 _ _ _ from HC.out).mono ?_
        rintro e w3 ⟨ao, cap, rfl, G3⟩
        clear HC
        obtain ⟨g1, g2, g3, g4⟩ := G3.out
        have hsl := sl_to (k := kk) HK.out.2.1 g1 g4 HK.out.1
        obtain ⟨a2, hfr1, hfr2⟩ := sl_from (k := kk) HK.out.2.1 g1 g4 HK.out.1
        have hlen : (kp.map (nm D true)).length = m := by rw [List.length_map]; exact HI.out.1.symm
        have OW3 : Only (fun _ => False) w w3 := HI.out.2.2.2.trans g3 (fun _ _ e => e)
        have hsmI : ∀ y ∈ kp.map (nm D true), ∃ e, SmT e y := fun y hy => by
          obtain ⟨z, hz, rfl⟩ := List.mem_map.1 hy
          exact ⟨D, nm_sm D true z (HI.out.2.2.1 z hz).2⟩
        have hsi : ∀ y ∈ kp.map (nm D true), smpI y := fun y hy => by
          obtain ⟨z, hz, rfl⟩ := List.mem_map.1 hy
          exact smp_nm (HI.out.2.2.1 z hz).1
        have HJ : Hid (JnB (oF (2 * D + 2) (kp.map (nm D true)) []) (oF (2 * D + 2) ((kp.map (nm D true)).take kk) []) (oF (2 * D + 2) ((kp.map (nm D true)).drop kk) [])) := jn_of hsi (by rw [hlen]; exact HK.out.1)
        have HO1 : Hid (∀ w4, Only (fun _ => False) w3 w4 → Calls Tryz.prog 9 #[.slice ao m cap, .slice none 0 0] w4 (OfP (oF (2 * D + 2) (kp.map (nm D true)) []) w4)) := fun w4 o4 => HO.out w3 w4 _ ao cap m g2 hlen.symm g1 HK.out.1 hsmI (OW3.trans o4 (fun _ _ e => e)) o4
        have HO2 : Hid (∀ w4, Only (fun _ => False) w3 w4 → Calls Tryz.prog 9 #[.slice ao kk cap, .slice none 0 0] w4 (OfP (oF (2 * D + 2) ((kp.map (nm D true)).take kk) []) w4)) := fun w4 o4 => HO.out w3 w4 _ ao cap kk (by
            obtain ⟨S, q1, q2⟩ := g2
            exact ⟨S, fun j y hy => q1 j y (by
              rw [List.getElem?_take] at hy
              split at hy
              · exact hy
              · exact nomatch hy), q2⟩) (by rw [List.length_take, hlen]; have := HK.out.2.1; omega) (by have := HK.out.2.1; omega) (by have := HK.out; omega) (fun y hy => hsmI y (List.mem_of_mem_take hy)) (OW3.trans o4 (fun _ _ e => e)) o4
        have HO3 : Hid (∀ w4, Only (fun _ => False) w3 w4 → Calls Tryz.prog 9 #[.slice a2 (m - kk) (cap - kk), .slice none 0 0] w4 (OfP (oF (2 * D + 2) ((kp.map (nm D true)).drop kk) []) w4)) := fun w4 o4 => HO.out w3 w4 _ a2 (cap - kk) (m - kk) (by
            obtain ⟨S, q1, q2⟩ := g2
            refine ⟨S, fun j y hy => ?_, q2⟩
            rw [List.getElem?_drop] at hy
            have hlt := (List.getElem?_eq_some_iff.1 hy).1
            obtain ⟨g, e1, e2⟩ := hfr1 (by omega)
            obtain ⟨g', q', u, p1, p2, p3, p4⟩ := q1 _ y hy
            rw [e1] at p1
            injection p1 with p1
            injection p1 with p5 p6
            subst p5 p6
            exact ⟨g, kk, u, e2, p2, by rw [Nat.zero_add] at p3; exact p3, p4⟩) (by rw [List.length_drop, hlen]) (by omega) (by have := HK.out; omega) (fun y hy => hsmI y (List.mem_of_mem_drop hy)) (OW3.trans o4 (fun _ _ e => e)) o4
        obtain ⟨R1, hR1⟩ : ∃ R, R = oF (2 * D + 2) (kp.map (nm D true)) [] := ⟨_, rfl⟩
        obtain ⟨R2, hR2⟩ : ∃ R, R = oF (2 * D + 2) ((kp.map (nm D true)).take kk) [] := ⟨_, rfl⟩
        obtain ⟨R3, hR3⟩ : ∃ R, R = oF (2 * D + 2) ((kp.map (nm D true)).drop kk) [] := ⟨_, rfl⟩
        rw [← hR1, ← hR2, ← hR3] at HJ
        rw [← hR1] at HO1
        rw [← hR2] at HO2
        rw [← hR3] at HO3
        have HO3w : Hid (Only (fun _ => False) w w3) := OW3
        have u1 := HKx.out.1
        have u2 := HKx.out.2.1
        have u3 := HKx.out.2.2.1
        have u4 := HKx.out.2.2.2
        clear G3 g1 g2 g3 g4 hfr1 hlen OW3 hsmI hsi hR1 hR2 hR3 HI HO HIt HSi HE
        obtain ⟨x1, y1, e1⟩ := R1
        obtain ⟨x2, y2, e2⟩ := R2
        obtain ⟨x3, y3, e3⟩ := R3
        have HC : Hid _ := HO1.out w3 (Only.refl _ _)
        clear HO1
        go_wp2_with fail
        refine (show Calls Tryz.prog 9 _ _ _ from HC.out).mono ?_
        rintro e w4 ⟨rfl, o4⟩
        clear HC u1 u2 u3 u4
        simp only
        have O4 : Hid (Only (fun _ => False) w3 (w4.alloc (.cells #[.int .i64 (x1 : Int), .int .i64 (y1 : Int)] 30))) := o4.alloc _
        have B4 : Hid ((w4.alloc (.cells #[.int .i64 (x1 : Int), .int .i64 (y1 : Int)] 30)).heap[w4.heap.size]? = some (.cells #[.int .i64 (x1 : Int), .int .i64 (y1 : Int)] 30)) := ealloc_at _ _ _ rfl
        have HC : Hid _ := HO2.out _ O4.out
        clear HO2 o4
        go_wp2_with fail
        refine (show Calls Tryz.prog 9 _ _ _ from HC.out).mono ?_
        rintro e w5 ⟨rfl, o5⟩
        clear HC hsl
        simp only
        have O5 : Hid (Only (fun _ => False) w3 (w5.alloc (.cells #[.int .i64 (x2 : Int), .int .i64 (y2 : Int)] 30)) ∧ (w5.alloc (.cells #[.int .i64 (x2 : Int), .int .i64 (y2 : Int)] 30)).heap[w4.heap.size]? = some (.cells #[.int .i64 (x1 : Int), .int .i64 (y1 : Int)] 30) ∧ (w5.alloc (.cells #[.int .i64 (x2 : Int), .int .i64 (y2 : Int)] 30)).heap[w5.heap.size]? = some (.cells #[.int .i64 (x2 : Int), .int .i64 (y2 : Int)] 30)) := ⟨(O4.out.trans o5 (fun _ _ e => e)).alloc _, alloc_old (o5.at B4.out), ealloc_at _ _ _ rfl⟩
        have HC : Hid _ := HO3.out _ O5.out.1
        clear HO3 o5 O4 B4
        go_wp2_with fail
        refine (show Calls Tryz.prog 9 _ _ _ from HC.out).mono ?_
        rintro e w6 ⟨rfl, o6⟩
        clear HC hfr2
        simp only
        have O6 : Hid (Only (fun _ => False) w (w6.alloc (.cells #[.int .i64 (x3 : Int), .int .i64 (y3 : Int)] 30)) ∧ (w6.alloc (.cells #[.int .i64 (x3 : Int), .int .i64 (y3 : Int)] 30)).heap[w4.heap.size]? = some (.cells #[.int .i64 (x1 : Int), .int .i64 (y1 : Int)] 30) ∧ (w6.alloc (.cells #[.int .i64 (x3 : Int), .int .i64 (y3 : Int)] 30)).heap[w5.heap.size]? = some (.cells #[.int .i64 (x2 : Int), .int .i64 (y2 : Int)] 30)) := ⟨((HO3w.out.trans O5.out.1 (fun _ _ e => e)).trans o6 (fun _ _ e => e)).alloc _, alloc_old (o6.at O5.out.2.1), alloc_old (o6.at O5.out.2.2)⟩
        clear o6 O5 HO3w
        obtain ⟨j1, j2⟩ := HJ.out
        simp only at j1 j2
        have HJ2 : Hid (e1 = 0 → e2 = 0 → e3 = 0 → thR (x2 : Int) (y2 : Int) (x3 : Int) (y3 : Int) = ((x1 : Int), (y1 : Int), 0)) := j2
        clear j2 HJ
        rcases j1 with rfl | rfl | rfl
        · by_cases h2 : e2 = 0
          · by_cases h3 : e3 = 0
            · have hth := HJ2.out rfl h2 h3
              subst h2 h3
              have HC : Hid _ := HTh.out (x2 : Int) (y2 : Int) (x3 : Int) (y3 : Int) (w6.alloc (.cells #[.int .i64 (x3 : Int), .int .i64 (y3 : Int)] 30))
              rw [hth] at HC
              obtain ⟨k10, k11, -, -⟩ := wr2_cell O6.out.2.1
              obtain ⟨k20, k21, -, -⟩ := wr2_cell O6.out.2.2
              have HB : Hid _ := O6.out.2.1
              clear hth HJ2 HTh
              go_wp2_with fail
              refine (show Calls Tryz.prog 10 _ _ _ from HC.out).mono ?_
              rintro e w7 ⟨rfl, o7⟩
              clear HC k10 k11 k20 k21
              have O7 : Hid (Only (fun _ => False) w (w7.alloc (.cells #[.int .i64 (x1 : Int), .int .i64 (y1 : Int)] 30))) := (O6.out.1.trans o7 (fun _ _ e => e)).alloc _
              have b7 : (w7.alloc (.cells #[.int .i64 (x1 : Int), .int .i64 (y1 : Int)] 30)).heap[w4.heap.size]? = some (.cells #[.int .i64 (x1 : Int), .int .i64 (y1 : Int)] 30) := alloc_old (o7.at HB.out)
              obtain ⟨k10, k11, -, -⟩ := wr2_cell b7
              clear o7 O6 HB b7
              go_wp2
              go_ret
              exact ⟨rfl, O7.out⟩
            · have i3 : (e3 == 0) = false := by simp [h3]
              have i4 : (e3 != 0) = true := by simp [h3]
              subst h2
              clear HJ2 HTh
              go_wp2
              go_ret
              exact ⟨rfl, O6.out.1⟩
          · have i3 : (e2 == 0) = false := by simp [h2]
            have i4 : (e2 != 0) = true := by simp [h2]
            clear HJ2 HTh
            go_wp2
            go_ret
            exact ⟨rfl, O6.out.1⟩
        · clear HJ2 HTh
          go_wp2
          go_ret
          exact ⟨rfl, O6.out.1⟩
        · clear HJ2 HTh
          go_wp2
          go_ret
          exact ⟨rfl, O6.out.1⟩
      · have i1 : (i : Int) < (L : Int) := by omega
        have i2 : ¬ (m : Int) < 60 := by omega
        clear hA hB
        have HC : Hid _ := HIt.out w2 kp m (.slice a' m c') HI.out.1 HK.out.1 (fun y hy => (HI.out.2.2.1 y hy).2) HI.out.2.1
        go_wp2_with fail
        refine (show Calls Tryz.prog 8 _ _ _ from HC.out).mono ?_
        rintro e w3 ⟨ao, cap, rfl, G3⟩
        clear HC
        obtain ⟨g1, g2, g3, g4⟩ := G3.out
        have hsl := sl_to (k := kk) HK.out.2.1 g1 g4 HK.out.1
        obtain ⟨a2, hfr1, hfr2⟩ := sl_from (k := kk) HK.out.2.1 g1 g4 HK.out.1
        have hlen : (kp.map (nm D true)).length = m := by rw [List.length_map]; exact HI.out.1.symm
        have OW3 : Only (fun _ => False) w w3 := HI.out.2.2.2.trans g3 (fun _ _ e => e)
        have hsmI : ∀ y ∈ kp.map (nm D true), ∃ e, SmT e y := fun y hy => by
          obtain ⟨z, hz, rfl⟩ := List.mem_map.1 hy
          exact ⟨D, nm_sm D true z (HI.out.2.2.1 z hz).2⟩
        have hsi : ∀ y ∈ kp.map (nm D true), smpI y := fun y hy => by
          obtain ⟨z, hz, rfl⟩ := List.mem_map.1 hy
          exact smp_nm (HI.out.2.2.1 z hz).1
        have HJ : Hid (JnB (oF (2 * D + 2) (kp.map (nm D true)) []) (oF (2 * D + 2) ((kp.map (nm D true)).take kk) []) (oF (2 * D + 2) ((kp.map (nm D true)).drop kk) [])) := jn_of hsi (by rw [hlen]; exact HK.out.1)
        have HO1 : Hid (∀ w4, Only (fun _ => False) w3 w4 → Calls Tryz.prog 9 #[.slice ao m cap, .slice none 0 0] w4 (OfP (oF (2 * D + 2) (kp.map (nm D true)) []) w4)) := fun w4 o4 => HO.out w3 w4 _ ao cap m g2 hlen.symm g1 HK.out.1 hsmI (OW3.trans o4 (fun _ _ e => e)) o4
        have HO2 : Hid (∀ w4, Only (fun _ => False) w3 w4 → Calls Tryz.prog 9 #[.slice ao kk cap, .slice none 0 0] w4 (OfP (oF (2 * D + 2) ((kp.map (nm D true)).take kk) []) w4)) := fun w4 o4 => HO.out w3 w4 _ ao cap kk (by
            obtain ⟨S, q1, q2⟩ := g2
            exact ⟨S, fun j y hy => q1 j y (by
              rw [List.getElem?_take] at hy
              split at hy
              · exact hy
              · exact nomatch hy), q2⟩) (by rw [List.length_take, hlen]; have := HK.out.2.1; omega) (by have := HK.out.2.1; omega) (by have := HK.out; omega) (fun y hy => hsmI y (List.mem_of_mem_take hy)) (OW3.trans o4 (fun _ _ e => e)) o4
        have HO3 : Hid (∀ w4, Only (fun _ => False) w3 w4 → Calls Tryz.prog 9 #[.slice a2 (m - kk) (cap - kk), .slice none 0 0] w4 (OfP (oF (2 * D + 2) ((kp.map (nm D true)).drop kk) []) w4)) := fun w4 o4 => HO.out w3 w4 _ a2 (cap - kk) (m - kk) (by
            obtain ⟨S, q1, q2⟩ := g2
            refine ⟨S, fun j y hy => ?_, q2⟩
            rw [List.getElem?_drop] at hy
            have hlt := (List.getElem?_eq_some_iff.1 hy).1
            obtain ⟨g, e1, e2⟩ := hfr1 (by omega)
            obtain ⟨g', q', u, p1, p2, p3, p4⟩ := q1 _ y hy
            rw [e1] at p1
            injection p1 with p1
            injection p1 with p5 p6
            subst p5 p6
            exact ⟨g, kk, u, e2, p2, by rw [Nat.zero_add] at p3; exact p3, p4⟩) (by rw [List.length_drop, hlen]) (by omega) (by have := HK.out; omega) (fun y hy => hsmI y (List.mem_of_mem_drop hy)) (OW3.trans o4 (fun _ _ e => e)) o4
        obtain ⟨R1, hR1⟩ : ∃ R, R = oF (2 * D + 2) (kp.map (nm D true)) [] := ⟨_, rfl⟩
        obtain ⟨R2, hR2⟩ : ∃ R, R = oF (2 * D + 2) ((kp.map (nm D true)).take kk) [] := ⟨_, rfl⟩
        obtain ⟨R3, hR3⟩ : ∃ R, R = oF (2 * D + 2) ((kp.map (nm D true)).drop kk) [] := ⟨_, rfl⟩
        rw [← hR1, ← hR2, ← hR3] at HJ
        rw [← hR1] at HO1
        rw [← hR2] at HO2
        rw [← hR3] at HO3
        have HO3w : Hid (Only (fun _ => False) w w3) := OW3
        have u1 := HKx.out.1
        have u2 := HKx.out.2.1
        have u3 := HKx.out.2.2.1
        have u4 := HKx.out.2.2.2
        clear G3 g1 g2 g3 g4 hfr1 hlen OW3 hsmI hsi hR1 hR2 hR3 HI HO HIt HSi HE
        obtain ⟨x1, y1, e1⟩ := R1
        obtain ⟨x2, y2, e2⟩ := R2
        obtain ⟨x3, y3, e3⟩ := R3
        have HC : Hid _ := HO1.out w3 (Only.refl _ _)
        clear HO1
        go_wp2_with fail
        refine (show Calls Tryz.prog 9 _ _ _ from HC.out).mono ?_
        rintro e w4 ⟨rfl, o4⟩
        clear HC u1 u2 u3 u4
        simp only
        have O4 : Hid (Only (fun _ => False) w3 (w4.alloc (.cells #[.int .i64 (x1 : Int), .int .i64 (y1 : Int)] 30))) := o4.alloc _
        have B4 : Hid ((w4.alloc (.cells #[.int .i64 (x1 : Int), .int .i64 (y1 : Int)] 30)).heap[w4.heap.size]? = some (.cells #[.int .i64 (x1 : Int), .int .i64 (y1 : Int)] 30)) := ealloc_at _ _ _ rfl
        have HC : Hid _ := HO2.out _ O4.out
        clear HO2 o4
        go_wp2_with fail
        refine (show Calls Tryz.prog 9 _ _ _ from HC.out).mono ?_
        rintro e w5 ⟨rfl, o5⟩
        clear HC hsl
        simp only
        have O5 : Hid (Only (fun _ => False) w3 (w5.alloc (.cells #[.int .i64 (x2 : Int), .int .i64 (y2 : Int)] 30)) ∧ (w5.alloc (.cells #[.int .i64 (x2 : Int), .int .i64 (y2 : Int)] 30)).heap[w4.heap.size]? = some (.cells #[.int .i64 (x1 : Int), .int .i64 (y1 : Int)] 30) ∧ (w5.alloc (.cells #[.int .i64 (x2 : Int), .int .i64 (y2 : Int)] 30)).heap[w5.heap.size]? = some (.cells #[.int .i64 (x2 : Int), .int .i64 (y2 : Int)] 30)) := ⟨(O4.out.trans o5 (fun _ _ e => e)).alloc _, alloc_old (o5.at B4.out), ealloc_at _ _ _ rfl⟩
        have HC : Hid _ := HO3.out _ O5.out.1
        clear HO3 o5 O4 B4
        go_wp2_with fail
        refine (show Calls Tryz.prog 9 _ _ _ from HC.out).mono ?_
        rintro e w6 ⟨rfl, o6⟩
        clear HC hfr2
        simp only
        have O6 : Hid (Only (fun _ => False) w (w6.alloc (.cells #[.int .i64 (x3 : Int), .int .i64 (y3 : Int)] 30)) ∧ (w6.alloc (.cells #[.int .i64 (x3 : Int), .int .i64 (y3 : Int)] 30)).heap[w4.heap.size]? = some (.cells #[.int .i64 (x1 : Int), .int .i64 (y1 : Int)] 30) ∧ (w6.alloc (.cells #[.int .i64 (x3 : Int), .int .i64 (y3 : Int)] 30)).heap[w5.heap.size]? = some (.cells #[.int .i64 (x2 : Int), .int .i64 (y2 : Int)] 30)) := ⟨((HO3w.out.trans O5.out.1 (fun _ _ e => e)).trans o6 (fun _ _ e => e)).alloc _, alloc_old (o6.at O5.out.2.1), alloc_old (o6.at O5.out.2.2)⟩
        clear o6 O5 HO3w
        obtain ⟨j1, j2⟩ := HJ.out
        simp only at j1 j2
        have HJ2 : Hid (e1 = 0 → e2 = 0 → e3 = 0 → thR (x2 : Int) (y2 : Int) (x3 : Int) (y3 : Int) = ((x1 : Int), (y1 : Int), 0)) := j2
        clear j2 HJ
        rcases j1 with rfl | rfl | rfl
        · by_cases h2 : e2 = 0
          · by_cases h3 : e3 = 0
            · have hth := HJ2.out rfl h2 h3
              subst h2 h3
              have HC : Hid _ := HTh.out (x2 : Int) (y2 : Int) (x3 : Int) (y3 : Int) (w6.alloc (.cells #[.int .i64 (x3 : Int), .int .i64 (y3 : Int)] 30))
              rw [hth] at HC
              obtain ⟨k10, k11, -, -⟩ := wr2_cell O6.out.2.1
              obtain ⟨k20, k21, -, -⟩ := wr2_cell O6.out.2.2
              have HB : Hid _ := O6.out.2.1
              clear hth HJ2 HTh
              go_wp2_with fail
              refine (show Calls Tryz.prog 10 _ _ _ from HC.out).mono ?_
              rintro e w7 ⟨rfl, o7⟩
              clear HC k10 k11 k20 k21
              have O7 : Hid (Only (fun _ => False) w (w7.alloc (.cells #[.int .i64 (x1 : Int), .int .i64 (y1 : Int)] 30))) := (O6.out.1.trans o7 (fun _ _ e => e)).alloc _
              have b7 : (w7.alloc (.cells #[.int .i64 (x1 : Int), .int .i64 (y1 : Int)] 30)).heap[w4.heap.size]? = some (.cells #[.int .i64 (x1 : Int), .int .i64 (y1 : Int)] 30) := alloc_old (o7.at HB.out)
              obtain ⟨k10, k11, -, -⟩ := wr2_cell b7
              clear o7 O6 HB b7
              go_wp2
              go_ret
              exact ⟨rfl, O7.out⟩
            · have i3 : (e3 == 0) = false := by simp [h3]
              have i4 : (e3 != 0) = true := by simp [h3]
              subst h2
              clear HJ2 HTh
              go_wp2
              go_ret
              exact ⟨rfl, O6.out.1⟩
          · have i3 : (e2 == 0) = false := by simp [h2]
            have i4 : (e2 != 0) = true := by simp [h2]
            clear HJ2 HTh
            go_wp2
            go_ret
            exact ⟨rfl, O6.out.1⟩
        · clear HJ2 HTh
          go_wp2
          go_ret
          exact ⟨rfl, O6.out.1⟩
        · clear HJ2 HTh
          go_wp2
          go_ret
          exact ⟨rfl, O6.out.1⟩
end Go.Proofs.YtodbkihobgdpdaaGreatDoor
