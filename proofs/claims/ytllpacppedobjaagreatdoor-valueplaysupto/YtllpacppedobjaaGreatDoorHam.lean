/- The text of a value: addWords of any value, strings.Join, Text. The text of a value: Text of any value, in both verdicts. What trees that came in become as values. Values as trees: Tree, ItemTree. -/
import Derived.Test.YtllpacppedobjaaGreatDoorHal
import Derived.Test.YtllpacppedobjaaGreatDoorHaf
import Derived.Lib.Join
import Derived.Test.YtllpacppedobjaaGreatDoorHaa
import Derived.Test.YtllpacppedobjaaGreatDoorHah
namespace Go.Proofs.YtllpacppedobjaaGreatDoor
open Go.RowKit Go.Lib
set_option linter.unusedSimpArgs false
set_option linter.unusedVariables false
theorem quoR_ok {s : ByteArray} (h1 : s.size ≤ 4096) (h2 : vlB s = true) : (quoR s).1 = tx ([34] ++ quo (rns s) ++ [34]) := by
  unfold quoR
  rw [if_neg ((vl_st s).1 h2), if_neg (by omega)]
theorem enL_quo_len : ∀ (l : List Nat), (enL (quo l)).length ≤ 8 * l.length
  | [] => by simp [quo, enL]
  | c :: l => by
    have h1 := enL_quo_len l
    have h2 := quC_len c
    rw [show quo (c :: l) = quC c ++ quo l from rfl, enL_app, List.length_append, List.length_cons]
    omega
theorem rns_len (s : ByteArray) : (rns s).length ≤ s.size := by
  have := crs_len s s.size 0 (Nat.zero_le _)
  have e : (rns s).length = (crs s s.size 0).length := by unfold rns; simp [chs]
  omega
theorem quo_sizes {s : ByteArray} (h1 : s.size ≤ 4096) (h2 : vlB s = true) : 0 < (quoR s).1.size ∧ (quoR s).1.size ≤ 65536 := by
  rw [quoR_ok h1 h2, tx_size]
  unfold wl
  rw [enL_app, enL_app, List.length_append, List.length_append]
  have e : (enL [34]).length = 1 := rfl
  have := enL_quo_len (rns s)
  have := rns_len s
  rw [e]
  omega
theorem itoa_sizes {n : Int} (h0 : -9223372036854775808 ≤ n) (h1 : n ≤ 9223372036854775807) : 0 < (⟨(Lib.itoa n).toArray⟩ : ByteArray).size ∧ (⟨(Lib.itoa n).toArray⟩ : ByteArray).size ≤ 65536 := by
  have h2 := Lib.itoa_length_le n h0 h1
  have e : (⟨(Lib.itoa n).toArray⟩ : ByteArray).size = (Lib.itoa n).length := by
    show (Lib.itoa n).toArray.size = _
    simp
  rw [e]
  refine ⟨?_, by omega⟩
  unfold Lib.itoa
  split
  · simp
  · have := Lib.decDigits_length n.toNat
    have := Lib.nDigits_pos n.toNat
    omega
theorem aw_leaf {d : Nat} {t : Vt} {v : Value} {w0 : World} {S : Nat → Prop} (h : TiAt w0 S (d + 1) false t v) (hk : ¬ (t.k = 4 ∨ t.k = 5)) (hok : alB t = true) (hT : Tx w0) (w : World) (ao : Option Addr) (n cap : Nat) (ws : List ByteArray) (o : Only (fun _ => False) w0 w) (hw : WdAt w w0.heap.size (.slice ao n cap) ws) (hl : ws.length ≤ 1000000) :
    Calls Tryz.prog 31 #[.slice ao n cap, v] w fun e w' => ∃ ao' n' cap', e = .returned (.slice ao' n' cap') ∧ Hid (WdAt w' w0.heap.size (.slice ao' n' cap') (ws ++ wdL (d + 1) false t) ∧ Only (fun _ => False) w0 w') := by
  have hn : ∀ j : Int, t.k = j → j ≠ 4 ∧ j ≠ 5 := fun j e => ⟨fun g => hk (.inl (by omega)), fun g => hk (.inr (by omega))⟩
  have ew : t.k ≠ 6 → wdL (d + 1) false t = [lfT t] := fun h6 => by
    unfold wdL
    rw [if_neg (fun g => hk (.inl g)), if_neg (fun g => hk (.inr g)), if_neg h6]
  rcases h with ⟨h1, _, rfl⟩ | ⟨h1, _, rfl⟩ | ⟨h1, _, rfl⟩ | ⟨h1, _, rfl⟩ | ⟨h1, _, rfl⟩ | ⟨h1, _⟩
  · have hb : -1152921504606846976 ≤ t.n ∧ t.n ≤ 1152921504606846975 := by
      rw [show alB t = (decide (-1152921504606846976 ≤ t.n) && decide (t.n ≤ 1152921504606846975)) from if_pos h1] at hok
      simpa using hok
    have hz := itoa_sizes (n := t.n) (by omega) (by omega)
    rw [ew (by omega), show lfT t = ⟨(Lib.itoa t.n).toArray⟩ from if_pos h1]
    exact aw_int t.n _ w0 w ao n cap ws (fun w1 o1 => wordV (ps_int _ hb.1 hb.2) (wv_int _ (by omega) (by omega)) hz.1 hz.2 w1 (hT.frame o1)) o hw hl
  · have hb : t.s.size ≤ 4096 ∧ vlB t.s = true := by
      rw [show alB t = (decide (t.s.size ≤ 4096) && vlB t.s) from (if_neg (by omega)).trans (if_pos h1)] at hok
      simpa using hok
    have hz := quo_sizes hb.1 hb.2
    rw [ew (by omega), show lfT t = (quoR t.s).1 from (if_neg (by omega)).trans (if_pos h1)]
    exact aw_str t.s _ w0 w ao n cap ws (fun w1 o1 => wordV (ps_str _ hb.1 hb.2) (wv_str _ hb.1 hb.2 (by omega)) hz.1 hz.2 w1 (hT.frame o1)) o hw hl
  · rw [ew (by omega), show lfT t = flT (t.n != 0) from (if_neg (by omega)).trans (if_neg (by omega))]
    exact aw_bool _ _ w0 w ao n cap ws (fun w1 o1 => wordV (ps_bool _) (wv_bool _) (by cases t.n != 0 <;> decide) (by cases t.n != 0 <;> decide) w1 (hT.frame o1)) o hw hl
  · rw [show wdL (d + 1) false t = [⟨#[98, 111, 120]⟩] from by unfold wdL; rw [if_neg (by omega), if_neg (by omega), if_pos h1]]
    exact aw_box t.n w0 w ao n cap ws o hw hl
  · rw [al8 h1] at hok
    exact absurd hok (by decide)
  · exact absurd h1 hk
theorem aw_of (d : Nat) (H1 : AwC d 31 false) (H2 : AwC d 48 true) : AwC (d + 1) 31 false := by
  intro t v w0 S h hok hsm hT w ao n cap ws o hw hb
  by_cases hk : t.k = 4 ∨ t.k = 5
  · have hs : t.l.length ≤ 1048576 ∧ ∀ x ∈ t.l, ∃ e, SmT e x := by
      obtain ⟨e, g⟩ := hsm
      cases e with
      | zero => exact g.elim
      | succ e => exact ⟨g.2.1, fun x hx => ⟨e, g.2.2.2.2 x hx⟩⟩
    have hall : ∀ x ∈ t.l, okV d (decide (t.k = 5)) x = true := by
      unfold okV at hok
      rw [if_pos hk, List.all_eq_true] at hok
      exact hok
    rcases h with ⟨h1, _⟩ | ⟨h1, _⟩ | ⟨h1, _⟩ | ⟨h1, _⟩ | ⟨h1, _⟩ | ⟨h1, la, lc, rfl, hc, hel⟩
    · omega
    · omega
    · omega
    · omega
    · omega
    · rcases h1 with h1 | h1
      · have e5 : decide (t.k = 5) = false := decide_eq_false (by omega)
        rw [e5] at hel hall
        rw [show wdL (d + 1) false t = ⟨#[123]⟩ :: (t.l.flatMap (wdL d false) ++ [⟨#[125]⟩]) from if_pos h1] at hb ⊢
        rw [if_pos h1]
        simp only [List.length_cons, List.length_append, List.length_nil] at hb
        exact aw_list d H1 t.l la lc w0 S hel hall hs.2 hs.1 hT w ao n cap ws o hw (by omega)
      · have e5 : decide (t.k = 5) = true := decide_eq_true h1
        rw [e5] at hel hall
        rw [show wdL (d + 1) false t = ⟨#[91]⟩ :: (t.l.flatMap (wdL d true) ++ [⟨#[93]⟩]) from (if_neg (by omega)).trans (if_pos h1)] at hb ⊢
        rw [if_neg (by omega)]
        simp only [List.length_cons, List.length_append, List.length_nil] at hb
        exact aw_quot d H2 t.l la lc w0 S hel hall hs.2 hs.1 hT w ao n cap ws o hw (by omega)
  · refine aw_leaf h hk ?_ hT w ao n cap ws o hw (by omega)
    unfold okV at hok
    rw [if_neg hk] at hok
    exact hok
set_option maxRecDepth 100000 in
theorem ai_push (T : TypeId) (y : Value) (Q : List ByteArray) (w0 w : World) (ao : Option Addr) (n cap : Nat) (HC0 : ∀ w1, Only (fun _ => False) w w1 → Calls Tryz.prog 31 #[.slice ao n cap, .iface T y] w1 fun e w' => ∃ ao' n' cap', e = .returned (.slice ao' n' cap') ∧ Hid (WdAt w' w0.heap.size (.slice ao' n' cap') Q ∧ Only (fun _ => False) w0 w')) :
    Calls Tryz.prog 48 #[.slice ao n cap, .iface 99 (.agg #[.iface T y])] w fun e w' => ∃ ao' n' cap', e = .returned (.slice ao' n' cap') ∧ Hid (WdAt w' w0.heap.size (.slice ao' n' cap') Q ∧ Only (fun _ => False) w0 w') := by
  have HC : Hid (∀ w1, Only (fun _ => False) w w1 → Calls Tryz.prog 31 #[.slice ao n cap, .iface T y] w1 fun e w' => ∃ ao' n' cap', e = .returned (.slice ao' n' cap') ∧ Hid (WdAt w' w0.heap.size (.slice ao' n' cap') Q ∧ Only (fun _ => False) w0 w')) := HC0
  have hPush := va_hit 99 86 _ Tryz.underlying99 (by intro m h; cases h)
  clear HC0
  go_enter Tryz.func48, Tryz.ntmps48
  go_wp2_with fail
  refine (show Calls Tryz.prog 31 _ _ _ from HC.out _ (by repeat' first | exact Only.refl _ _ | apply Only.alloc)).mono ?_
  rintro e w1 ⟨a1, n1, c1, rfl, G1⟩
  clear HC
  go_wp2
  go_ret
  exact ⟨a1, n1, c1, rfl, G1⟩
set_option maxRecDepth 100000 in
theorem ai_call (s : ByteArray) (w0 w : World) (ao : Option Addr) (n cap : Nat) (ws : List ByteArray) (HW0 : ∀ w1, Only (fun _ => False) w0 w1 → Calls Tryz.prog 49 #[cV s] w1 fun e w' => e = .returned (.string s) ∧ Only (fun _ => False) w1 w') (o : Only (fun _ => False) w0 w) (h : WdAt w w0.heap.size (.slice ao n cap) ws) (hl : ws.length ≤ 1000000) :
    Calls Tryz.prog 48 #[.slice ao n cap, cV s] w fun e w' => ∃ ao' n' cap', e = .returned (.slice ao' n' cap') ∧ Hid (WdAt w' w0.heap.size (.slice ao' n' cap') (ws ++ [s]) ∧ Only (fun _ => False) w0 w') := by
  unfold cV at *
  have HW : Hid (∀ w1, Only (fun _ => False) w0 w1 → Calls Tryz.prog 49 #[.iface 102 (.agg #[.string s])] w1 fun e w' => e = .returned (.string s) ∧ Only (fun _ => False) w1 w') := HW0
  have mPush := va_miss 102 99 86 _ Tryz.underlying99 (by intro m h; cases h) (by decide) _ vzero_Push
  have HH : Hid (Only (fun _ => False) w0 w ∧ WdAt w w0.heap.size (.slice ao n cap) ws ∧ ws.length ≤ 1000000) := ⟨o, h, hl⟩
  clear HW0 o h hl
  go_enter Tryz.func48, Tryz.ntmps48
  go_wp2_with fail
  refine (show Calls Tryz.prog 49 _ _ _ from HW.out _ (by repeat' first | exact HH.out.1 | apply Only.alloc)).mono ?_
  rintro e w1 ⟨rfl, o1⟩
  have O1 : Only (fun _ => False) w w1 := Only.trans (by repeat' first | exact Only.refl _ _ | apply Only.alloc) o1 (fun _ _ g => g)
  obtain ⟨ao', cap', w2, hr, hw2, o2⟩ := wd_app s (HH.out.1.trans O1 (fun _ _ g => g)) (HH.out.2.1.only O1 (fun _ _ _ g => g)) HH.out.2.2 _ rfl
  have HR : Hid _ := hr
  have H2 : Hid (WdAt w2 w0.heap.size (.slice ao' (ws.length + 1) cap') (ws ++ [s]) ∧ Only (fun _ => False) w0 w2) := ⟨hw2, o2⟩
  obtain ⟨L, hL⟩ : ∃ L, L = ws.length + 1 := ⟨_, rfl⟩
  rw [← hL] at HR H2
  clear HW o1 O1 hr hw2 o2 hL mPush HH
  go_wp2_with (at_builtin; refine vwpList_append_run rfl _ _ 82 rfl _ _ _ rfl rfl HR.out ?_)
  go_ret
  exact ⟨ao', L, cap', rfl, H2⟩
theorem ai_of (d : Nat) (H : AwC d 31 false) : AwC (d + 1) 48 true := by
  intro t v w0 S h hok hsm hT w ao n cap ws o hw hb
  rcases h with ⟨h1, _, rfl⟩ | ⟨h1, _, _⟩ | ⟨h7, h8, u, rfl, hu⟩
  · rw [show okV (d + 1) true t = clB t.s from if_pos h1] at hok
    rw [show wdL (d + 1) true t = [t.s] from if_pos h1]
    exact ai_call t.s w0 w ao n cap ws (fun w1 o1 => wordC t.s hok w1 (hT.1.1.1 |> fun _ => ((hT.frame o1).1.1))) o hw (by omega)
  · rw [show okV (d + 1) true t = false from (if_neg (by omega)).trans (if_pos h1)] at hok
    exact absurd hok (by decide)
  · rw [show okV (d + 1) true t = okV d false t from (if_neg h7).trans (if_neg h8)] at hok
    rw [show wdL (d + 1) true t = wdL d false t from if_neg h7] at hb ⊢
    obtain ⟨T, y, rfl⟩ := hu.iface h8
    exact ai_push T y _ w0 w ao n cap (fun w1 o1 => H t _ w0 S hu hok hsm hT w1 ao n cap ws (o.trans o1 (fun _ _ g => g)) (hw.only o1 (fun _ _ _ g => g)) hb)
theorem aw_all : ∀ (D d : Nat), d < D → AwC d 31 false ∧ AwC d 48 true
  | 0, d, h => by omega
  | D + 1, d, h => by
    cases d with
    | zero => exact ⟨fun t v w0 S h => h.elim, fun t v w0 S h => h.elim⟩
    | succ d =>
      have ih := aw_all D d (by omega)
      exact ⟨aw_of d ih.1 ih.2, ai_of d ih.1⟩
/-- the text of a value -/
def txtV (d : Nat) (t : Vt) : ByteArray := ⟨(Lib.join ((wdL d false t).map (·.data.toList)) [32]).toArray⟩
theorem wdL_ne : ∀ (d : Nat) (t : Vt), wdL (d + 1) false t ≠ [] := by
  intro d t
  unfold wdL
  split
  · simp
  split
  · simp
  split
  · simp
  · simp
end Go.Proofs.YtllpacppedobjaaGreatDoor
namespace Go.Proofs.YtllpacppedobjaaGreatDoor
open Go.RowKit Go.Lib
set_option linter.unusedSimpArgs false
set_option linter.unusedVariables false
theorem flat_le (f : Vt → List ByteArray) (g : Vt → Nat) (h : ∀ x, (f x).length ≤ 2 * g x) : ∀ l : List Vt, (l.flatMap f).length ≤ 2 * (l.map g).sum
  | [] => by simp
  | x :: r => by
    have h1 := h x
    have h2 := flat_le f g h r
    rw [List.flatMap_cons, List.length_append, List.map_cons, List.sum_cons]
    omega
theorem wdL_leaf_len (d : Nat) (t : Vt) (h : t.k ≠ 4) (h' : t.k ≠ 5) : (wdL d false t).length ≤ 1 := by
  cases d with
  | zero => exact Nat.zero_le _
  | succ d =>
    unfold wdL
    rw [if_neg h, if_neg h']
    split <;> simp
theorem wdL_len : ∀ (d : Nat) (i : Bool) (t : Vt), (wdL d i t).length ≤ 2 * sz d i t
  | 0, _, _ => Nat.zero_le _
  | d + 1, true, t => by
    by_cases h7 : t.k = 7
    · rw [show wdL (d + 1) true t = [t.s] from if_pos h7, show sz (d + 1) true t = 1 from if_pos (.inl h7)]
      simp
    · rw [show wdL (d + 1) true t = wdL d false t from if_neg h7]
      by_cases h8 : t.k = 8
      · rw [show sz (d + 1) true t = 1 from if_pos (.inr h8)]
        have := wdL_leaf_len d t (by omega) (by omega)
        omega
      · rw [show sz (d + 1) true t = sz d false t from if_neg (by omega)]
        exact wdL_len d false t
  | d + 1, false, t => by
    have e : sz (d + 1) false t = 1 + (t.l.map (sz d (decide (t.k = 5)))).sum := rfl
    by_cases h4 : t.k = 4
    · rw [show wdL (d + 1) false t = ⟨#[123]⟩ :: (t.l.flatMap (wdL d false) ++ [⟨#[125]⟩]) from if_pos h4, e, show decide (t.k = 5) = false by simp [h4]]
      have := flat_le (wdL d false) (sz d false) (fun x => wdL_len d false x) t.l
      simp only [List.length_cons, List.length_append, List.length_nil]
      omega
    · by_cases h5 : t.k = 5
      · rw [show wdL (d + 1) false t = ⟨#[91]⟩ :: (t.l.flatMap (wdL d true) ++ [⟨#[93]⟩]) from (if_neg h4).trans (if_pos h5), e, show decide (t.k = 5) = true by simp [h5]]
        have := flat_le (wdL d true) (sz d true) (fun x => wdL_len d true x) t.l
        simp only [List.length_cons, List.length_append, List.length_nil]
        omega
      · have := wdL_leaf_len (d + 1) t h4 h5
        omega
theorem lfT_size {t : Vt} (h4 : t.k ≠ 4) (h5 : t.k ≠ 5) (h6 : t.k ≠ 6) (hok : alB t = true) : (lfT t).size ≤ 65536 := by
  by_cases h1 : t.k = 1
  · have hb : -1152921504606846976 ≤ t.n ∧ t.n ≤ 1152921504606846975 := by
      rw [show alB t = (decide (-1152921504606846976 ≤ t.n) && decide (t.n ≤ 1152921504606846975)) from if_pos h1] at hok
      simpa using hok
    rw [show lfT t = ⟨(Lib.itoa t.n).toArray⟩ from if_pos h1]
    exact (itoa_sizes (n := t.n) (by omega) (by omega)).2
  · by_cases h2 : t.k = 2
    · have hb : t.s.size ≤ 4096 ∧ vlB t.s = true := by
        rw [show alB t = (decide (t.s.size ≤ 4096) && vlB t.s) from (if_neg h1).trans (if_pos h2)] at hok
        simpa using hok
      rw [show lfT t = (quoR t.s).1 from (if_neg h1).trans (if_pos h2)]
      exact (quo_sizes hb.1 hb.2).2
    · rw [show lfT t = flT (t.n != 0) from (if_neg h1).trans (if_neg h2)]
      cases t.n != 0 <;> decide
theorem wdL_size : ∀ (d : Nat) (i : Bool) (t : Vt), okV d i t = true → ∀ x ∈ wdL d i t, x.size ≤ 65536
  | 0, _, _, _, x, hx => by cases hx
  | d + 1, true, t, h, x, hx => by
    by_cases h7 : t.k = 7
    · rw [show wdL (d + 1) true t = [t.s] from if_pos h7] at hx
      rw [show okV (d + 1) true t = clB t.s from if_pos h7] at h
      rw [List.mem_singleton.1 hx]
      have := (name_size (s := t.s) (by unfold clB at h; simp only [Bool.and_eq_true] at h; exact h.1)).1
      omega
    · rw [show wdL (d + 1) true t = wdL d false t from if_neg h7] at hx
      by_cases h8 : t.k = 8
      · rw [show okV (d + 1) true t = false from (if_neg h7).trans (if_pos h8)] at h
        cases h
      · rw [show okV (d + 1) true t = okV d false t from (if_neg h7).trans (if_neg h8)] at h
        exact wdL_size d false t h x hx
  | d + 1, false, t, h, x, hx => by
    by_cases h4 : t.k = 4
    · rw [show wdL (d + 1) false t = ⟨#[123]⟩ :: (t.l.flatMap (wdL d false) ++ [⟨#[125]⟩]) from if_pos h4] at hx
      rw [show okV (d + 1) false t = t.l.all (okV d (decide (t.k = 5))) from if_pos (.inl h4), show decide (t.k = 5) = false by simp [h4]] at h
      rcases List.mem_cons.1 hx with rfl | hx
      · show 1 ≤ _; omega
      rcases List.mem_append.1 hx with hx | hx
      · obtain ⟨y, hy, hx⟩ := List.mem_flatMap.1 hx
        exact wdL_size d false y (List.all_eq_true.1 h y hy) x hx
      · rw [List.mem_singleton.1 hx]; show 1 ≤ _; omega
    · by_cases h5 : t.k = 5
      · rw [show wdL (d + 1) false t = ⟨#[91]⟩ :: (t.l.flatMap (wdL d true) ++ [⟨#[93]⟩]) from (if_neg h4).trans (if_pos h5)] at hx
        rw [show okV (d + 1) false t = t.l.all (okV d (decide (t.k = 5))) from if_pos (.inr h5), show decide (t.k = 5) = true by simp [h5]] at h
        rcases List.mem_cons.1 hx with rfl | hx
        · show 1 ≤ _; omega
        rcases List.mem_append.1 hx with hx | hx
        · obtain ⟨y, hy, hx⟩ := List.mem_flatMap.1 hx
          exact wdL_size d true y (List.all_eq_true.1 h y hy) x hx
        · rw [List.mem_singleton.1 hx]; show 1 ≤ _; omega
      · rw [show okV (d + 1) false t = alB t from if_neg (by omega)] at h
        by_cases h6 : t.k = 6
        · rw [show wdL (d + 1) false t = [⟨#[98, 111, 120]⟩] from (if_neg h4).trans ((if_neg h5).trans (if_pos h6))] at hx
          rw [List.mem_singleton.1 hx]; show 3 ≤ _; omega
        · rw [show wdL (d + 1) false t = [lfT t] from (if_neg h4).trans ((if_neg h5).trans (if_neg h6))] at hx
          rw [List.mem_singleton.1 hx]
          exact lfT_size h4 h5 h6 h
theorem join_le : ∀ (ws : List ByteArray), (∀ x ∈ ws, x.size ≤ 65536) → (Lib.join (ws.map (·.data.toList)) [32]).length ≤ 65537 * ws.length
  | [], _ => by simp [Lib.join_nil]
  | x :: r, h => by
    have key : ∀ (l : List ByteArray), (∀ y ∈ l, y.size ≤ 65536) → Lib.lens (l.map (·.data.toList)) ≤ 65536 * l.length := by
      intro l
      induction l with
      | nil => intro _; simp [Lib.lens]
      | cons y l ih =>
        intro hl
        have h1 := hl y (.head _)
        have h2 := ih (fun z hz => hl z (.tail _ hz))
        have h3 : y.data.toList.length = y.size := Array.length_toList
        simp only [Lib.lens, List.map_cons, List.sum_cons, List.length_cons] at h2 ⊢
        omega
    have h1 := key (x :: r) h
    rw [List.map_cons, Lib.join_length]
    simp only [List.length_map, List.length_cons, List.length_nil, List.map_cons] at h1 ⊢
    omega
/-- what Text answers -/
def TxP (Z : Bool) (T : ByteArray) (w : World) (e : Ending) (w' : World) : Prop := e = .returned (.tuple #[.string (if Z then T else ⟨#[]⟩), .int .i64 (if Z then 0 else 1)]) ∧ Only (fun _ => False) w w'
set_option maxRecDepth 100000 in
theorem vtext_any {d : Nat} {t : Vt} {v : Value} {w : World} {S : Nat → Prop} (h : TiAt w S d false t v) (hS : ∀ b, S b → b < w.heap.size) (hsm : ∃ e, SmT e t) (hT : Tx w) : Calls Tryz.prog 12 #[v] w (TxP (sdB d t) (txtV d t) w) := by
  have HC : Hid _ := vcheck_any h hS hsm hT.1
  cases hZ : sdB d t with
  | false =>
    rw [hZ] at HC
    have HP : Hid (∀ w', Only (fun _ => False) w w' → TxP false (txtV d t) w (.returned (.tuple #[.string ⟨#[]⟩, .int .i64 1])) w') := fun w' o => ⟨rfl, o⟩
    clear h hS hsm hT hZ
    go_enter Tryz.func12, Tryz.ntmps12
    go_wp2_with fail
    refine (show Calls Tryz.prog 9 _ _ _ from HC.out).mono ?_
    rintro e w1 ⟨rfl, o1⟩
    have O1 : Hid (Only (fun _ => False) w w1) := o1
    clear HC o1
    go_wp2
    go_ret2
    exact HP.out _ O1.out
  | true =>
    rw [hZ] at HC
    have hz := hZ
    unfold sdB msB at hz
    simp only [Bool.and_eq_true, decide_eq_true_eq] at hz
    obtain ⟨⟨hok, hsz⟩, _⟩ := hz
    have hl : (wdL d false t).length ≤ 2048 := by have := wdL_len d false t; omega
    have hne : wdL d false t ≠ [] := by
      cases d with
      | zero => exact h.elim
      | succ d => exact wdL_ne d t
    have HA : Hid (∀ w1, Only (fun _ => False) w w1 → Calls Tryz.prog 31 #[.slice none 0 0, v] w1 fun e w' => ∃ ao' n' cap', e = .returned (.slice ao' n' cap') ∧ Hid (WdAt w' w.heap.size (.slice ao' n' cap') ([] ++ wdL d false t) ∧ Only (fun _ => False) w w')) := fun w1 o1 =>
      (aw_all (d + 1) d (by omega)).1 t v w S h hok hsm hT w1 none 0 0 [] o1 (wd_nil _ _) (by simpa using (by omega : (wdL d false t).length ≤ 1000000))
    have HJ : Hid (∀ w1 ao n cap, WdAt w1 w.heap.size (.slice ao n cap) (wdL d false t) → Calls Tryz.prog 30 #[.slice ao n cap, .string ⟨#[32]⟩] w1 fun e w' => e = .returned (.string (txtV d t)) ∧ Only (fun _ => False) w1 w') := by
      intro w1 ao n cap hw
      have hlen : n = (wdL d false t).length := by
        obtain ⟨a', c', e⟩ := hw.form
        injection e
      rcases hw.2 with ⟨_, h2⟩ | ⟨g, c2, cur, hv, hB, hg, hn, hcm, hcs, htk⟩
      · exact absurd (List.length_eq_zero_iff.1 h2) hne
      · injection hv with e1 e2 e3
        subst e1
        subst e3
        have hj := join_le (wdL d false t) (wdL_size d false t hok)
        have key := Any.strings_Join Tryz.laysJoin Tryz.joinExtra g 0 cap (wdL d false t) ⟨#[32]⟩ w1 (fun j x hx => by
          have hc := hw.cells (g := g) rfl j (.string x) (by rw [List.getElem?_map, hx]; rfl)
          rw [addr_ad] at hc
          simpa using hc) (Array.getElem?_eq_some_iff.1 hg).1 (by omega) hn (by show (Lib.join _ [32]).length ≤ _; omega)
        rw [← hlen] at key
        exact key.mono fun e w' g => ⟨g.1, ⟨g.2.os, g.2.tape, g.2.output, g.2.size, fun k hk _ => g.2.block k hk⟩⟩
    have HP : Hid (∀ w', Only (fun _ => False) w w' → TxP true (txtV d t) w (.returned (.tuple #[.string (txtV d t), .int .i64 0])) w') := fun w' o => ⟨rfl, o⟩
    obtain ⟨T, hTT⟩ : ∃ T, T = txtV d t := ⟨_, rfl⟩
    rw [← hTT] at HJ HP ⊢
    clear h hS hsm hT hZ hok hsz hl hne hTT
    go_enter Tryz.func12, Tryz.ntmps12
    go_wp2_with fail
    refine (show Calls Tryz.prog 9 _ _ _ from HC.out).mono ?_
    rintro e w1 ⟨rfl, o1⟩
    have O1 : Hid (Only (fun _ => False) w w1) := o1
    clear HC o1
    go_wp2_with fail
    refine (show Calls Tryz.prog 31 _ _ _ from HA.out _ O1.out).mono ?_
    rintro e w2 ⟨ao, n, c, rfl, G2⟩
    clear HA O1
    go_wp2_with fail
    refine (show Calls Tryz.prog 30 _ _ _ from HJ.out _ _ _ _ G2.out.1).mono ?_
    rintro e w3 ⟨rfl, o3⟩
    have O3 : Hid (Only (fun _ => False) w w3) := G2.out.2.trans o3 (fun _ _ g => g)
    clear HJ G2 o3
    go_wp2
    go_ret2
    exact HP.out _ O3.out
end Go.Proofs.YtllpacppedobjaaGreatDoor
namespace Go.Proofs.YtllpacppedobjaaGreatDoor
open Go.RowKit Go.Lib
set_option linter.unusedSimpArgs false
set_option linter.unusedVariables false
theorem nm_sm : ∀ (d : Nat) (i : Bool) (t : Vt), SmT d t → SmT d (nm d i t)
  | 0, _, _, h => h.elim
  | d + 1, i, t, h => by
    obtain ⟨k, n, s, l⟩ := t
    obtain ⟨h1, h2, h3, h4, h5⟩ := h
    dsimp only at h1 h2 h3 h4 h5
    have z : ∀ m : Int, m ∈ [0, 1, 2, 3, 4, 5, 6, 7, 8] → (-9223372036854775808 : Int) ≤ m ∧ m ≤ 9223372036854775807 := fun m hm => by
      simp only [List.mem_cons, List.not_mem_nil, or_false] at hm
      omega
    have e0 : (⟨#[]⟩ : ByteArray).size ≤ 268435456 := Nat.zero_le _
    unfold nm
    dsimp only
    split
    · exact ⟨e0, Nat.zero_le _, z 1 (by simp), h4, fun x hx => by cases hx⟩
    split
    · exact ⟨h1, Nat.zero_le _, z 2 (by simp), z 0 (by simp), fun x hx => by cases hx⟩
    split
    · refine ⟨e0, Nat.zero_le _, z 3 (by simp), ?_, fun x hx => by cases hx⟩
      dsimp only
      split
      · exact z 1 (by simp)
      · exact z 0 (by simp)
    split
    · refine ⟨e0, by simpa using h2, z 4 (by simp), z 0 (by simp), fun x hx => ?_⟩
      obtain ⟨y, hy, rfl⟩ := List.mem_map.1 hx
      exact nm_sm d false y (h5 y hy)
    split
    · refine ⟨e0, by simpa using h2, z 5 (by simp), z 0 (by simp), fun x hx => ?_⟩
      obtain ⟨y, hy, rfl⟩ := List.mem_map.1 hx
      exact nm_sm d true y (h5 y hy)
    split
    · exact ⟨e0, Nat.zero_le _, z 6 (by simp), h4, fun x hx => by cases hx⟩
    split
    · exact ⟨h1, Nat.zero_le _, z 7 (by simp), z 0 (by simp), fun x hx => by cases hx⟩
    · exact ⟨e0, Nat.zero_le _, z 8 (by simp), z 0 (by simp), fun x hx => by cases hx⟩
/-- what a tree that came in has become as a value x, since block B: its own blocks, and what is known of its tree -/
def Vx (w : World) (B d : Nat) (t : Vt) (x : Value) : Prop := NiAt w B (2 * d + 1) false (nm d false t) x
theorem Vx.only {w w' : World} {B d : Nat} {t : Vt} {x : Value} {bs : Nat → Prop} (h : Vx w B d t x) (o : Only bs w w') (hb : ∀ b, B ≤ b → ¬ bs b) : Vx w' B d t x := NiAt.only h o hb
theorem value_calls {a : Vt} {va : Value} {d : Nat} {w : World} (ha : VsAt w (fun _ => True) d a.l va) (sa : SmT d a) : ∀ w1, Only (fun _ => False) w w1 → Calls Tryz.prog 6 #[.agg #[.int .i64 a.k, .int .i64 a.n, .string a.s, va]] w1 fun e w' => ∃ v, e = .returned v ∧ Hid (Vx w' w1.heap.size d a v ∧ Only (fun _ => False) w1 w') := fun w1 o1 => value_all d a va w1 _ (ha.only o1) sa
end Go.Proofs.YtllpacppedobjaaGreatDoor
namespace Go.Proofs.YtllpacppedobjaaGreatDoor
open Go.RowKit
set_option linter.unusedSimpArgs false
set_option linter.unusedVariables false
/-- what the trees of many are -/
def TuS (d F : Nat) (i : Bool) : Prop := ∀ (v : Value) (l : List Vt) (w : World) (S : Nat → Prop), QiAt w S d i v l → l.length ≤ 1048576 → (∀ x ∈ l, ∃ e, NfT e x) → Calls Tryz.prog F #[v] w fun e w' => ∃ ao cap, e = .returned (.slice ao l.length cap) ∧ Hid (UrAt w' w.heap.size d (.slice ao l.length cap) l ∧ Only (fun _ => False) w w')
/-- what the tree of one is -/
def TuE (d F : Nat) (i : Bool) : Prop := ∀ (v : Value) (t : Vt) (w : World) (S : Nat → Prop), TiAt w S d i t v → (∃ e, NfT e t) → Calls Tryz.prog F #[v] w fun e w' => ∃ lv, e = .returned (.agg #[.int .i64 t.k, .int .i64 (t.n), .string (t.s), lv]) ∧ Hid (NuAt w' w.heap.size d t lv ∧ Only (fun _ => False) w w')
theorem uresults_v {fn : Func} {u : Tmp} (h : fn.results = #[.cell u 24]) (tmps : Array Value) (w : World) (B : Nat) {x y z r : Value} (h0 : w.cell? ⟨B, 0, none⟩ = some x) (h1 : w.cell? ⟨B, 1, none⟩ = some y) (h2 : w.cell? ⟨B, 2, none⟩ = some z) (h3 : w.cell? ⟨B, 3, none⟩ = some r) (ha : tmps.getD u undef = .pointer (some ⟨B, 0, none⟩)) :
    (results fn tmps).run Tryz.prog w = .ok (.agg #[x, y, z, r]) w := by
  have ha' : tmps[u]?.getD undef = .pointer (some ⟨B, 0, none⟩) := by simpa using ha
  simp [results, h, ha', asAddr, go_sem, loadVar, isAgg, Tryz.underlying24, h0, h1, h2, h3]
theorem uonly4 {w : World} {B : Nat} (x0 x1 x2 x3 : Value) : Only (fun b => b = B) w ((((w.setCell ⟨B, 0, none⟩ x0).setCell ⟨B, 1, none⟩ x1).setCell ⟨B, 2, none⟩ x2).setCell ⟨B, 3, none⟩ x3) :=
  ((((Only.refl (fun b => b = B) w).setCell ⟨B, 0, none⟩ _ (fun _ => rfl)).setCell ⟨B, 1, none⟩ _ (fun _ => rfl)).setCell ⟨B, 2, none⟩ _ (fun _ => rfl)).setCell ⟨B, 3, none⟩ _ (fun _ => rfl)
set_option maxRecDepth 100000 in
theorem uzero_Int (W : World) : (zeroValue 63).run Tryz.prog W = .ok (.agg #[.int .i64 0]) W := by rfl
set_option maxRecDepth 100000 in
theorem uzero_Str (W : World) : (zeroValue 65).run Tryz.prog W = .ok (.agg #[.string ⟨#[]⟩]) W := by rfl
set_option maxRecDepth 100000 in
theorem uzero_Bool (W : World) : (zeroValue 67).run Tryz.prog W = .ok (.agg #[.bool false]) W := by rfl
set_option maxRecDepth 100000 in
theorem uzero_List (W : World) : (zeroValue 71).run Tryz.prog W = .ok (.agg #[.slice none 0 0]) W := by rfl
set_option maxRecDepth 100000 in
theorem uzero_Quot (W : World) : (zeroValue 73).run Tryz.prog W = .ok (.agg #[.slice none 0 0]) W := by rfl
set_option maxRecDepth 100000 in
theorem uzero_Push (W : World) : (zeroValue 99).run Tryz.prog W = .ok (.agg #[.nilIface]) W := by rfl
set_option maxRecDepth 100000 in
theorem uzero_Call (W : World) : (zeroValue 102).run Tryz.prog W = .ok (.agg #[.string ⟨#[]⟩]) W := by rfl
set_option maxRecDepth 100000 in
theorem utree_int (n : Int) (w : World) : Calls Tryz.prog 7 #[.iface 63 (.agg #[.int .i64 n])] w fun e w' => e = .returned (.agg #[.int .i64 1, .int .i64 n, .string ⟨#[]⟩, .slice none 0 0]) ∧ Only (fun _ => False) w w' := by
  have hInt := uas_hit 63 27 _ Tryz.underlying63 (by intro m h; cases h)
  have O0 : Hid (Only (fun _ => False) w w) := Only.refl _ _
  go_enter Tryz.func7, Tryz.ntmps7
  go_wp2
  refine bodyPost_ret (uresults_v rfl _ _ w.heap.size (x := _) (y := _) (z := _) (r := _) ?_ ?_ ?_ ?_ rfl) rfl ⟨rfl, ?_⟩
  · simp [go_sem]
  · simp [go_sem]
  · simp [go_sem]
  · simp [go_sem]
  · first
      | exact ((O0.out.alloc _).alloc _)
      | exact (((((O0.out.alloc _).alloc _).setCell _ _ (fun h => absurd h (by simp))).setCell _ _ (fun h => absurd h (by simp))).setCell _ _ (fun h => absurd h (by simp))).setCell _ _ (fun h => absurd h (by simp))
set_option maxRecDepth 100000 in
theorem utree_str (x : ByteArray) (w : World) : Calls Tryz.prog 7 #[.iface 65 (.agg #[.string x])] w fun e w' => e = .returned (.agg #[.int .i64 2, .int .i64 0, .string x, .slice none 0 0]) ∧ Only (fun _ => False) w w' := by
  have mInt := uas_miss 65 63 27 _ Tryz.underlying63 (by intro m h; cases h) (by decide) _ uzero_Int
  have hStr := uas_hit 65 27 _ Tryz.underlying65 (by intro m h; cases h)
  have O0 : Hid (Only (fun _ => False) w w) := Only.refl _ _
  go_enter Tryz.func7, Tryz.ntmps7
  go_wp2
  refine bodyPost_ret (uresults_v rfl _ _ w.heap.size (x := _) (y := _) (z := _) (r := _) ?_ ?_ ?_ ?_ rfl) rfl ⟨rfl, ?_⟩
  · simp [go_sem]
  · simp [go_sem]
  · simp [go_sem]
  · simp [go_sem]
  · first
      | exact ((O0.out.alloc _).alloc _)
      | exact (((((O0.out.alloc _).alloc _).setCell _ _ (fun h => absurd h (by simp))).setCell _ _ (fun h => absurd h (by simp))).setCell _ _ (fun h => absurd h (by simp))).setCell _ _ (fun h => absurd h (by simp))
set_option maxRecDepth 100000 in
theorem utree_yes  (w : World) : Calls Tryz.prog 7 #[.iface 67 (.agg #[.bool true])] w fun e w' => e = .returned (.agg #[.int .i64 3, .int .i64 1, .string ⟨#[]⟩, .slice none 0 0]) ∧ Only (fun _ => False) w w' := by
  have mInt := uas_miss 67 63 27 _ Tryz.underlying63 (by intro m h; cases h) (by decide) _ uzero_Int
  have mStr := uas_miss 67 65 27 _ Tryz.underlying65 (by intro m h; cases h) (by decide) _ uzero_Str
  have hBool := uas_hit 67 27 _ Tryz.underlying67 (by intro m h; cases h)
  have O0 : Hid (Only (fun _ => False) w w) := Only.refl _ _
  go_enter Tryz.func7, Tryz.ntmps7
  go_wp2
  refine bodyPost_ret (uresults_v rfl _ _ w.heap.size (x := _) (y := _) (z := _) (r := _) ?_ ?_ ?_ ?_ rfl) rfl ⟨rfl, ?_⟩
  · simp [go_sem]
  · simp [go_sem]
  · simp [go_sem]
  · simp [go_sem]
  · first
      | exact ((O0.out.alloc _).alloc _)
      | exact (((((O0.out.alloc _).alloc _).setCell _ _ (fun h => absurd h (by simp))).setCell _ _ (fun h => absurd h (by simp))).setCell _ _ (fun h => absurd h (by simp))).setCell _ _ (fun h => absurd h (by simp))
set_option maxRecDepth 100000 in
theorem utree_no  (w : World) : Calls Tryz.prog 7 #[.iface 67 (.agg #[.bool false])] w fun e w' => e = .returned (.agg #[.int .i64 3, .int .i64 0, .string ⟨#[]⟩, .slice none 0 0]) ∧ Only (fun _ => False) w w' := by
  have mInt := uas_miss 67 63 27 _ Tryz.underlying63 (by intro m h; cases h) (by decide) _ uzero_Int
  have mStr := uas_miss 67 65 27 _ Tryz.underlying65 (by intro m h; cases h) (by decide) _ uzero_Str
  have hBool := uas_hit 67 27 _ Tryz.underlying67 (by intro m h; cases h)
  have O0 : Hid (Only (fun _ => False) w w) := Only.refl _ _
  go_enter Tryz.func7, Tryz.ntmps7
  go_wp2
  refine bodyPost_ret (uresults_v rfl _ _ w.heap.size (x := _) (y := _) (z := _) (r := _) ?_ ?_ ?_ ?_ rfl) rfl ⟨rfl, ?_⟩
  · simp [go_sem]
  · simp [go_sem]
  · simp [go_sem]
  · simp [go_sem]
  · first
      | exact ((O0.out.alloc _).alloc _)
      | exact (((((O0.out.alloc _).alloc _).setCell _ _ (fun h => absurd h (by simp))).setCell _ _ (fun h => absurd h (by simp))).setCell _ _ (fun h => absurd h (by simp))).setCell _ _ (fun h => absurd h (by simp))
set_option maxRecDepth 100000 in
theorem utree_call (x : ByteArray) (w : World) : Calls Tryz.prog 34 #[.iface 102 (.agg #[.string x])] w fun e w' => e = .returned (.agg #[.int .i64 7, .int .i64 0, .string x, .slice none 0 0]) ∧ Only (fun _ => False) w w' := by
  have mPush := uas_miss 102 99 86 _ Tryz.underlying99 (by intro m h; cases h) (by decide) _ uzero_Push
  have hCall := uas_hit 102 86 _ Tryz.underlying102 (by intro m h; cases h)
  have O0 : Hid (Only (fun _ => False) w w) := Only.refl _ _
  go_enter Tryz.func34, Tryz.ntmps34
  go_wp2
  refine bodyPost_ret (uresults_v rfl _ _ w.heap.size (x := _) (y := _) (z := _) (r := _) ?_ ?_ ?_ ?_ rfl) rfl ⟨rfl, ?_⟩
  · simp [go_sem]
  · simp [go_sem]
  · simp [go_sem]
  · simp [go_sem]
  · first
      | exact ((O0.out.alloc _).alloc _)
      | exact (((((O0.out.alloc _).alloc _).setCell _ _ (fun h => absurd h (by simp))).setCell _ _ (fun h => absurd h (by simp))).setCell _ _ (fun h => absurd h (by simp))).setCell _ _ (fun h => absurd h (by simp))
set_option maxRecDepth 100000 in
theorem utree_list (d : Nat) (l : List Vt) (ao : Option Addr) (cap : Nat) (w : World) (S : Nat → Prop) (HT : TuS d 28 false) (h : QiAt w S d false (.slice ao l.length cap) l) (hl : l.length ≤ 1048576) (hw : ∀ x ∈ l, ∃ e, NfT e x) : Calls Tryz.prog 7 #[.iface 71 (.agg #[.slice ao l.length cap])] w fun e w' => ∃ ao' cap', e = .returned (.agg #[.int .i64 4, .int .i64 0, .string ⟨#[]⟩, .slice ao' l.length cap']) ∧ Hid (UrAt w' w.heap.size d (.slice ao' l.length cap') l ∧ Only (fun _ => False) w w') := by
  have HC : Hid (∀ w1, Only (fun _ => False) w w1 → Calls Tryz.prog 28 #[.slice ao l.length cap] w1 fun e w' => ∃ ao cap, e = .returned (.slice ao l.length cap) ∧ Hid (UrAt w' w1.heap.size d (.slice ao l.length cap) l ∧ Only (fun _ => False) w1 w')) := fun w1 o1 => HT _ _ _ S (h.step (fun _ g => g) (fun a u _ hc => o1.cell hc (fun g => g)) (Nat.le_refl _)) hl hw
  have mInt := uas_miss 71 63 27 _ Tryz.underlying63 (by intro m h; cases h) (by decide) _ uzero_Int
  have mStr := uas_miss 71 65 27 _ Tryz.underlying65 (by intro m h; cases h) (by decide) _ uzero_Str
  have mBool := uas_miss 71 67 27 _ Tryz.underlying67 (by intro m h; cases h) (by decide) _ uzero_Bool
  have hList := uas_hit 71 27 _ Tryz.underlying71 (by intro m h; cases h)
  have O0 : Hid (Only (fun _ => False) w w) := Only.refl _ _
  clear HT h hl hw
  obtain ⟨L, hL⟩ : ∃ L, L = l.length := ⟨_, rfl⟩
  have HL : Hid (L = l.length) := hL
  rw [← hL] at HC
  rw [← hL]
  clear hL
  go_enter Tryz.func7, Tryz.ntmps7
  go_wp2_with fail
  refine (show Calls Tryz.prog 28 _ _ _ from HC.out _ ((O0.out.alloc _).alloc _)).mono ?_
  rintro e w1 ⟨ao', cap', rfl, g1⟩
  have R3 : w1.heap[w.heap.size]? = some (.cells #[.int .i64 0, .int .i64 0, .string ⟨#[]⟩, .slice none 0 0] 24) := (g1.out.2.block w.heap.size (by simp; omega) (fun h => h)).trans ((((Only.refl (fun _ => False) (w.alloc (.cells #[.int .i64 0, .int .i64 0, .string ⟨#[]⟩, .slice none 0 0] 24))).alloc _).block w.heap.size (by simp) (fun h => h)).trans (valloc_at _ _ _ rfl))
  have G1 : Hid (UrAt w1 (w.heap.size + 1) d (.slice ao' L cap') l ∧ Only (fun _ => False) w w1) := by
    obtain ⟨us, SS, ho, ht, hS⟩ := g1.out.1
    have e1 : L = l.length := HL.out
    refine ⟨⟨us, SS, ⟨ho.1, ?_⟩, ht, fun b hb => ⟨by have := (hS b hb).1; simp at this; omega, (hS b hb).2⟩⟩, ((O0.out.alloc _).alloc _).trans g1.out.2 (fun _ _ g => g)⟩
    rcases ho.2 with g | ⟨g, cc, cur, h1, h2, h3⟩
    · exact .inl g
    · exact .inr ⟨g, cc, cur, h1, by simp at h2; omega, h3⟩
  clear g1 HC O0
  obtain ⟨B, hBe⟩ : ∃ B, B = w.heap.size := ⟨_, rfl⟩
  have HE : Hid (B = w.heap.size) := hBe
  rw [← hBe] at R3 ⊢
  have c0 := blk_cells R3 0
  have c1 := blk_cells R3 1
  have c2 := blk_cells R3 2
  have c3 := blk_cells R3 3
  have z0 := blk_froz R3 0
  have z1 := blk_froz R3 1
  have z2 := blk_froz R3 2
  have z3 := blk_froz R3 3
  have HR3 : Hid (w1.heap[B]? = some (.cells #[.int .i64 0, .int .i64 0, .string ⟨#[]⟩, .slice none 0 0] 24)) := R3
  simp only [List.getElem?_toArray, List.getElem?_cons_zero, List.getElem?_cons_succ] at c0 c1 c2 c3
  clear R3 hBe
  go_wp2
  obtain ⟨p0, p1, p2, p3⟩ := set4 HR3.out rfl (.int .i64 4) (.int .i64 0) (.string ⟨#[]⟩) (.slice ao' L cap')
  have e1 : L = l.length := HL.out
  have hBe : B = w.heap.size := HE.out
  have OB := @uonly4 w1 B (.int .i64 4) (.int .i64 0) (.string ⟨#[]⟩) (.slice ao' L cap')
  refine bodyPost_ret (uresults_v rfl _ _ B p0 p1 p2 p3 rfl) rfl ⟨ao', cap', rfl, ?_, G1.out.2.trans OB (fun b h e => by omega)⟩
  obtain ⟨us, SS, ho, ht, hS⟩ := G1.out.1.only OB (fun b h e => by omega)
  refine ⟨us, SS, ⟨ho.1, ?_⟩, ht, fun b hb => ⟨by have := (hS b hb).1; omega, (hS b hb).2⟩⟩
  rcases ho.2 with g | ⟨g, cc, cur, h1, h2, h3⟩
  · exact .inl g
  · exact .inr ⟨g, cc, cur, h1, by omega, h3⟩
set_option maxRecDepth 100000 in
theorem utree_quot (d : Nat) (l : List Vt) (ao : Option Addr) (cap : Nat) (w : World) (S : Nat → Prop) (HT : TuS d 18 true) (h : QiAt w S d true (.slice ao l.length cap) l) (hl : l.length ≤ 1048576) (hw : ∀ x ∈ l, ∃ e, NfT e x) : Calls Tryz.prog 7 #[.iface 73 (.agg #[.slice ao l.length cap])] w fun e w' => ∃ ao' cap', e = .returned (.agg #[.int .i64 5, .int .i64 0, .string ⟨#[]⟩, .slice ao' l.length cap']) ∧ Hid (UrAt w' w.heap.size d (.slice ao' l.length cap') l ∧ Only (fun _ => False) w w') := by
  have HC : Hid (∀ w1, Only (fun _ => False) w w1 → Calls Tryz.prog 18 #[.slice ao l.length cap] w1 fun e w' => ∃ ao cap, e = .returned (.slice ao l.length cap) ∧ Hid (UrAt w' w1.heap.size d (.slice ao l.length cap) l ∧ Only (fun _ => False) w1 w')) := fun w1 o1 => HT _ _ _ S (h.step (fun _ g => g) (fun a u _ hc => o1.cell hc (fun g => g)) (Nat.le_refl _)) hl hw
  have mInt := uas_miss 73 63 27 _ Tryz.underlying63 (by intro m h; cases h) (by decide) _ uzero_Int
  have mStr := uas_miss 73 65 27 _ Tryz.underlying65 (by intro m h; cases h) (by decide) _ uzero_Str
  have mBool := uas_miss 73 67 27 _ Tryz.underlying67 (by intro m h; cases h) (by decide) _ uzero_Bool
  have mList := uas_miss 73 71 27 _ Tryz.underlying71 (by intro m h; cases h) (by decide) _ uzero_List
  have hQuot := uas_hit 73 27 _ Tryz.underlying73 (by intro m h; cases h)
  have O0 : Hid (Only (fun _ => False) w w) := Only.refl _ _
  clear HT h hl hw
  obtain ⟨L, hL⟩ : ∃ L, L = l.length := ⟨_, rfl⟩
  have HL : Hid (L = l.length) := hL
  rw [← hL] at HC
  rw [← hL]
  clear hL
  go_enter Tryz.func7, Tryz.ntmps7
  go_wp2_with fail
  refine (show Calls Tryz.prog 18 _ _ _ from HC.out _ ((O0.out.alloc _).alloc _)).mono ?_
  rintro e w1 ⟨ao', cap', rfl, g1⟩
  have R3 : w1.heap[w.heap.size]? = some (.cells #[.int .i64 0, .int .i64 0, .string ⟨#[]⟩, .slice none 0 0] 24) := (g1.out.2.block w.heap.size (by simp; omega) (fun h => h)).trans ((((Only.refl (fun _ => False) (w.alloc (.cells #[.int .i64 0, .int .i64 0, .string ⟨#[]⟩, .slice none 0 0] 24))).alloc _).block w.heap.size (by simp) (fun h => h)).trans (valloc_at _ _ _ rfl))
  have G1 : Hid (UrAt w1 (w.heap.size + 1) d (.slice ao' L cap') l ∧ Only (fun _ => False) w w1) := by
    obtain ⟨us, SS, ho, ht, hS⟩ := g1.out.1
    have e1 : L = l.length := HL.out
    refine ⟨⟨us, SS, ⟨ho.1, ?_⟩, ht, fun b hb => ⟨by have := (hS b hb).1; simp at this; omega, (hS b hb).2⟩⟩, ((O0.out.alloc _).alloc _).trans g1.out.2 (fun _ _ g => g)⟩
    rcases ho.2 with g | ⟨g, cc, cur, h1, h2, h3⟩
    · exact .inl g
    · exact .inr ⟨g, cc, cur, h1, by simp at h2; omega, h3⟩
  clear g1 HC O0
  obtain ⟨B, hBe⟩ : ∃ B, B = w.heap.size := ⟨_, rfl⟩
  have HE : Hid (B = w.heap.size) := hBe
  rw [← hBe] at R3 ⊢
  have c0 := blk_cells R3 0
  have c1 := blk_cells R3 1
  have c2 := blk_cells R3 2
  have c3 := blk_cells R3 3
  have z0 := blk_froz R3 0
  have z1 := blk_froz R3 1
  have z2 := blk_froz R3 2
  have z3 := blk_froz R3 3
  have HR3 : Hid (w1.heap[B]? = some (.cells #[.int .i64 0, .int .i64 0, .string ⟨#[]⟩, .slice none 0 0] 24)) := R3
  simp only [List.getElem?_toArray, List.getElem?_cons_zero, List.getElem?_cons_succ] at c0 c1 c2 c3
  clear R3 hBe
  go_wp2
  obtain ⟨p0, p1, p2, p3⟩ := set4 HR3.out rfl (.int .i64 5) (.int .i64 0) (.string ⟨#[]⟩) (.slice ao' L cap')
  have e1 : L = l.length := HL.out
  have hBe : B = w.heap.size := HE.out
  have OB := @uonly4 w1 B (.int .i64 5) (.int .i64 0) (.string ⟨#[]⟩) (.slice ao' L cap')
  refine bodyPost_ret (uresults_v rfl _ _ B p0 p1 p2 p3 rfl) rfl ⟨ao', cap', rfl, ?_, G1.out.2.trans OB (fun b h e => by omega)⟩
  obtain ⟨us, SS, ho, ht, hS⟩ := G1.out.1.only OB (fun b h e => by omega)
  refine ⟨us, SS, ⟨ho.1, ?_⟩, ht, fun b hb => ⟨by have := (hS b hb).1; omega, (hS b hb).2⟩⟩
  rcases ho.2 with g | ⟨g, cc, cur, h1, h2, h3⟩
  · exact .inl g
  · exact .inr ⟨g, cc, cur, h1, by omega, h3⟩
set_option maxRecDepth 100000 in
theorem uzero_Box (W : World) : (zeroValue 75).run Tryz.prog W = .ok (.agg #[.int .i64 0]) W := by rfl
set_option maxRecDepth 100000 in
theorem utree_box (n : Int) (h1 : -9223372036854775808 ≤ n) (h2 : n ≤ 9223372036854775807) (w : World) : Calls Tryz.prog 7 #[.iface 75 (.agg #[.int .i64 n])] w fun e w' => e = .returned (.agg #[.int .i64 6, .int .i64 n, .string ⟨#[]⟩, .slice none 0 0]) ∧ Only (fun _ => False) w w' := by
  have mInt := uas_miss 75 63 27 _ Tryz.underlying63 (by intro m h; cases h) (by decide) _ uzero_Int
  have mStr := uas_miss 75 65 27 _ Tryz.underlying65 (by intro m h; cases h) (by decide) _ uzero_Str
  have mBool := uas_miss 75 67 27 _ Tryz.underlying67 (by intro m h; cases h) (by decide) _ uzero_Bool
  have mList := uas_miss 75 71 27 _ Tryz.underlying71 (by intro m h; cases h) (by decide) _ uzero_List
  have mQuot := uas_miss 75 73 27 _ Tryz.underlying73 (by intro m h; cases h) (by decide) _ uzero_Quot
  have hBox := uas_hit 75 27 _ Tryz.underlying75 (by intro m h; cases h)
  have hw : IntKind.i64.wrap n = n := by rw [IntKind.wrap_i64]; omega
  clear h1 h2
  have O0 : Hid (Only (fun _ => False) w w) := Only.refl _ _
  go_enter Tryz.func7, Tryz.ntmps7
  go_wp2
  refine bodyPost_ret (uresults_v rfl _ _ w.heap.size (x := _) (y := _) (z := _) (r := _) ?_ ?_ ?_ ?_ rfl) rfl ⟨rfl, ?_⟩
  · simp [go_sem]
  · simp [go_sem]
  · simp [go_sem]
  · simp [go_sem]
  · first
      | exact O0.out.alloc _
      | exact ((O0.out.alloc _).alloc _)
      | exact ((((O0.out.alloc _).setCell _ _ (fun h => absurd h (by simp))).setCell _ _ (fun h => absurd h (by simp))).setCell _ _ (fun h => absurd h (by simp))).setCell _ _ (fun h => absurd h (by simp))
      | exact (((((O0.out.alloc _).alloc _).setCell _ _ (fun h => absurd h (by simp))).setCell _ _ (fun h => absurd h (by simp))).setCell _ _ (fun h => absurd h (by simp))).setCell _ _ (fun h => absurd h (by simp))
set_option maxRecDepth 100000 in
theorem utree_nil  (w : World) : Calls Tryz.prog 7 #[.nilIface] w fun e w' => e = .returned (.agg #[.int .i64 8, .int .i64 0, .string ⟨#[]⟩, .slice none 0 0]) ∧ Only (fun _ => False) w w' := by
  have mInt := uas_nil 63 27 _ Tryz.underlying63 (by intro m h; cases h) _ uzero_Int
  have mStr := uas_nil 65 27 _ Tryz.underlying65 (by intro m h; cases h) _ uzero_Str
  have mBool := uas_nil 67 27 _ Tryz.underlying67 (by intro m h; cases h) _ uzero_Bool
  have mList := uas_nil 71 27 _ Tryz.underlying71 (by intro m h; cases h) _ uzero_List
  have mQuot := uas_nil 73 27 _ Tryz.underlying73 (by intro m h; cases h) _ uzero_Quot
  have mBox := uas_nil 75 27 _ Tryz.underlying75 (by intro m h; cases h) _ uzero_Box
  have O0 : Hid (Only (fun _ => False) w w) := Only.refl _ _
  go_enter Tryz.func7, Tryz.ntmps7
  go_wp2
  refine bodyPost_ret (uresults_v rfl _ _ w.heap.size (x := _) (y := _) (z := _) (r := _) ?_ ?_ ?_ ?_ rfl) rfl ⟨rfl, ?_⟩
  · simp [go_sem]
  · simp [go_sem]
  · simp [go_sem]
  · simp [go_sem]
  · first
      | exact O0.out.alloc _
      | exact ((O0.out.alloc _).alloc _)
      | exact ((((O0.out.alloc _).setCell _ _ (fun h => absurd h (by simp))).setCell _ _ (fun h => absurd h (by simp))).setCell _ _ (fun h => absurd h (by simp))).setCell _ _ (fun h => absurd h (by simp))
      | exact (((((O0.out.alloc _).alloc _).setCell _ _ (fun h => absurd h (by simp))).setCell _ _ (fun h => absurd h (by simp))).setCell _ _ (fun h => absurd h (by simp))).setCell _ _ (fun h => absurd h (by simp))
set_option maxRecDepth 100000 in
theorem uitree_nil  (w : World) : Calls Tryz.prog 34 #[.nilIface] w fun e w' => e = .returned (.agg #[.int .i64 8, .int .i64 0, .string ⟨#[]⟩, .slice none 0 0]) ∧ Only (fun _ => False) w w' := by
  have mPush := uas_nil 99 86 _ Tryz.underlying99 (by intro m h; cases h) _ uzero_Push
  have mCall := uas_nil 102 86 _ Tryz.underlying102 (by intro m h; cases h) _ uzero_Call
  have O0 : Hid (Only (fun _ => False) w w) := Only.refl _ _
  go_enter Tryz.func34, Tryz.ntmps34
  go_wp2
  refine bodyPost_ret (uresults_v rfl _ _ w.heap.size (x := _) (y := _) (z := _) (r := _) ?_ ?_ ?_ ?_ rfl) rfl ⟨rfl, ?_⟩
  · simp [go_sem]
  · simp [go_sem]
  · simp [go_sem]
  · simp [go_sem]
  · first
      | exact O0.out.alloc _
      | exact ((O0.out.alloc _).alloc _)
      | exact ((((O0.out.alloc _).setCell _ _ (fun h => absurd h (by simp))).setCell _ _ (fun h => absurd h (by simp))).setCell _ _ (fun h => absurd h (by simp))).setCell _ _ (fun h => absurd h (by simp))
      | exact (((((O0.out.alloc _).alloc _).setCell _ _ (fun h => absurd h (by simp))).setCell _ _ (fun h => absurd h (by simp))).setCell _ _ (fun h => absurd h (by simp))).setCell _ _ (fun h => absurd h (by simp))
theorem utree_of (d : Nat) (H1 : TuS d 28 false) (H2 : TuS d 18 true) : TuE (d + 1) 7 false := by
  intro v t w S h hw
  obtain ⟨k, n, s, l⟩ := t
  obtain ⟨e, hw⟩ := hw
  cases e with
  | zero => exact hw.elim
  | succ e =>
  obtain ⟨hw1, hwb, hwn, hws, hw2⟩ := hw
  dsimp only at hw1 hwb hwn hws hw2
  rcases h with ⟨h1, h2, h3⟩ | ⟨h1, h2, h3⟩ | ⟨h1, h2, h3⟩ | ⟨h1, h2, h3⟩ | ⟨h1, h2, h3⟩ | ⟨h1, ao, cap, hv, hc, hl⟩
  · dsimp only at h1 h2 h3
    subst h1 h3
    have e2 : s = ⟨#[]⟩ := hws
    subst e2
    exact (utree_int n w).mono fun e w' g => ⟨_, g.1, nu_nil h2, g.2⟩
  · dsimp only at h1 h2 h3
    subst h1 h3
    have e2 : n = 0 := hwn
    subst e2
    exact (utree_str s w).mono fun e w' g => ⟨_, g.1, nu_nil h2, g.2⟩
  · dsimp only at h1 h2 h3
    subst h1 h3
    have e2 : s = ⟨#[]⟩ := hws
    have e3 : n = if n != 0 then 1 else 0 := hwn
    subst e2
    by_cases hn : n = 0
    · subst hn
      exact (utree_no w).mono fun e w' g => ⟨_, g.1, nu_nil h2, g.2⟩
    · have e1 : (n != 0) = true := by simp [hn]
      rw [e1] at e3
      rw [if_pos rfl] at e3
      subst e3
      exact (utree_yes w).mono fun e w' g => ⟨_, g.1, nu_nil h2, g.2⟩
  · dsimp only at h1 h2 h3
    subst h1 h3
    have e2 : s = ⟨#[]⟩ := hws
    subst e2
    exact (utree_box n hwb.1 hwb.2 w).mono fun e w' g => ⟨_, g.1, nu_nil h2, g.2⟩
  · dsimp only at h1 h2 h3
    subst h1 h3
    have e2 : s = ⟨#[]⟩ := hws
    have e3 : n = 0 := hwn
    subst e2 e3
    exact (utree_nil w).mono fun e w' g => ⟨_, g.1, nu_nil h2, g.2⟩
  · dsimp only at h1 hv hc hl
    rcases h1 with h1 | h1
    · subst h1
      rw [if_pos rfl] at hv
      subst hv
      have e2 : s = ⟨#[]⟩ := hws
      have e3 : n = 0 := hwn
      subst e2 e3
      exact (utree_list d l ao cap w S H1 ⟨ao, cap, rfl, hc, hl⟩ hw1 (fun x hx => ⟨e, hw2 x hx⟩)).mono fun e w' g => by
        obtain ⟨ao', cap', he, g⟩ := g
        exact ⟨_, he, g.out.1.tree rfl, g.out.2⟩
    · subst h1
      rw [if_neg (by omega)] at hv
      subst hv
      have e2 : s = ⟨#[]⟩ := hws
      have e3 : n = 0 := hwn
      subst e2 e3
      exact (utree_quot d l ao cap w S H2 ⟨ao, cap, rfl, hc, hl⟩ hw1 (fun x hx => ⟨e, hw2 x hx⟩)).mono fun e w' g => by
        obtain ⟨ao', cap', he, g⟩ := g
        exact ⟨_, he, g.out.1.tree rfl, g.out.2⟩
set_option maxRecDepth 100000 in
theorem uitree_push (u : Value) (hu : ∃ T y, u = .iface T y) (x0 x1 : Int) (x2 : ByteArray) (Q : Value → World → Prop) (w : World)
    (HC0 : ∀ w1, w.heap.size < w1.heap.size → Only (fun _ => False) w w1 → Calls Tryz.prog 7 #[u] w1 fun e w' => ∃ lv, e = .returned (.agg #[.int .i64 x0, .int .i64 x1, .string x2, lv]) ∧ (∃ ao n cap, lv = .slice ao n cap) ∧ Hid ((∀ w2, Only (fun b => b = w.heap.size) w' w2 → Q lv w2) ∧ Only (fun _ => False) w1 w')) :
    Calls Tryz.prog 34 #[.iface 99 (.agg #[u])] w fun e w' => ∃ lv, e = .returned (.agg #[.int .i64 x0, .int .i64 x1, .string x2, lv]) ∧ Hid (Q lv w' ∧ Only (fun _ => False) w w') := by
  have HC : Hid (∀ w1, w.heap.size < w1.heap.size → Only (fun _ => False) w w1 → Calls Tryz.prog 7 #[u] w1 fun e w' => ∃ lv, e = .returned (.agg #[.int .i64 x0, .int .i64 x1, .string x2, lv]) ∧ (∃ ao n cap, lv = .slice ao n cap) ∧ Hid ((∀ w2, Only (fun b => b = w.heap.size) w' w2 → Q lv w2) ∧ Only (fun _ => False) w1 w')) := HC0
  obtain ⟨T, y, rfl⟩ := hu
  have hPush := uas_hit 99 86 _ Tryz.underlying99 (by intro m h; cases h)
  have O0 : Hid (Only (fun _ => False) w w) := Only.refl _ _
  clear HC0
  go_enter Tryz.func34, Tryz.ntmps34
  go_wp2_with fail
  refine (show Calls Tryz.prog 7 _ _ _ from HC.out _ (by simp; omega) ((O0.out.alloc _).alloc _)).mono ?_
  rintro e w1 ⟨lv, rfl, ⟨ao, nn, cap, rfl⟩, g1⟩
  have R3 : w1.heap[w.heap.size]? = some (.cells #[.int .i64 0, .int .i64 0, .string ⟨#[]⟩, .slice none 0 0] 24) := (g1.out.2.block w.heap.size (by simp; omega) (fun h => h)).trans ((((Only.refl (fun _ => False) (w.alloc (.cells #[.int .i64 0, .int .i64 0, .string ⟨#[]⟩, .slice none 0 0] 24))).alloc _).block w.heap.size (by simp) (fun h => h)).trans (valloc_at _ _ _ rfl))
  have G1 : Hid ((∀ w2, Only (fun b => b = w.heap.size) w1 w2 → Q (.slice ao nn cap) w2) ∧ Only (fun _ => False) w w1) := ⟨g1.out.1, ((O0.out.alloc _).alloc _).trans g1.out.2 (fun _ _ g => g)⟩
  clear g1 HC O0
  obtain ⟨B, hBe⟩ : ∃ B, B = w.heap.size := ⟨_, rfl⟩
  have HE : Hid (B = w.heap.size) := hBe
  rw [← hBe] at R3 ⊢
  have c0 := blk_cells R3 0
  have c1 := blk_cells R3 1
  have c2 := blk_cells R3 2
  have c3 := blk_cells R3 3
  have z0 := blk_froz R3 0
  have z1 := blk_froz R3 1
  have z2 := blk_froz R3 2
  have z3 := blk_froz R3 3
  have HR3 : Hid (w1.heap[B]? = some (.cells #[.int .i64 0, .int .i64 0, .string ⟨#[]⟩, .slice none 0 0] 24)) := R3
  simp only [List.getElem?_toArray, List.getElem?_cons_zero, List.getElem?_cons_succ] at c0 c1 c2 c3
  clear R3 hBe
  go_wp2
  obtain ⟨p0, p1, p2, p3⟩ := set4 HR3.out rfl (.int .i64 x0) (.int .i64 x1) (.string x2) (.slice ao nn cap)
  have hBe : B = w.heap.size := HE.out
  have OB := @uonly4 w1 B (.int .i64 x0) (.int .i64 x1) (.string x2) (.slice ao nn cap)
  refine bodyPost_ret (uresults_v rfl _ _ B p0 p1 p2 p3 rfl) rfl ⟨_, rfl, G1.out.1 _ (by rw [← hBe]; exact OB), G1.out.2.trans OB (fun b h e => by omega)⟩
theorem uitree_of (d : Nat) (H : TuE d 7 false) : TuE (d + 1) 34 true := by
  intro v t w S h hw
  rcases h with ⟨h1, h2, h3⟩ | ⟨h1, h2, h3⟩ | ⟨h1, h8, u, h3, h4⟩
  · obtain ⟨k, n, s, l⟩ := t
    obtain ⟨e, hw⟩ := hw
    cases e with
    | zero => exact hw.elim
    | succ e =>
    obtain ⟨hw1, hwb, hwn, hws, hw2⟩ := hw
    dsimp only at h1 h2 h3 hwn
    subst h1 h3
    have e3 : n = 0 := hwn
    subst e3
    exact (utree_call s w).mono fun e w' g => ⟨_, g.1, nu_nil h2, g.2⟩
  · obtain ⟨k, n, s, l⟩ := t
    obtain ⟨e, hw⟩ := hw
    cases e with
    | zero => exact hw.elim
    | succ e =>
    obtain ⟨hw1, hwb, hwn, hws, hw2⟩ := hw
    dsimp only at h1 h2 h3 hwn hws
    subst h1 h3
    have e2 : s = ⟨#[]⟩ := hws
    have e3 : n = 0 := hwn
    subst e2 e3
    exact (uitree_nil w).mono fun e w' g => ⟨_, g.1, nu_nil h2, g.2⟩
  · subst h3
    refine (uitree_push u (h4.iface h8) t.k t.n t.s (fun lv w' => NuAt w' w.heap.size (d + 1) t lv) w fun w1 hlt o1 => ?_).mono fun e w' g => g
    have h5 : TiAt w1 S d false t u := h4.step (fun _ g => g) (fun a u _ hc => o1.cell hc (fun g => g)) (Nat.le_refl _)
    refine (H u t w1 S h5 hw).mono fun e w' g => ?_
    obtain ⟨lv, he, g⟩ := g
    obtain ⟨ao, cap, hf⟩ := g.out.1.form
    exact ⟨lv, he, ⟨ao, _, cap, hf⟩, fun w2 o2 => ((g.out.1.only o2 (fun b hb e => by omega)).lower (by omega)).deep (by omega), g.out.2⟩
end Go.Proofs.YtllpacppedobjaaGreatDoor
