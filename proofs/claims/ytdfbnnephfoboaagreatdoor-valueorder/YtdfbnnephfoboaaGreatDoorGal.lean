/- The text of a value: Text of any value, in both verdicts. What trees that came in become as values. value.Text of the number 7. ValueOrder: the law's walk. How a tree that is handed in lies in memory. Trees that come in, read with the weights of the first form. -/
import Derived.Test.YtdfbnnephfoboaaGreatDoorGak
import Derived.Lib.Join
import Derived.Test.YtdfbnnephfoboaaGreatDoorGaa
import Derived.Test.YtdfbnnephfoboaaGreatDoorGaf
import Derived.Test.YtdfbnnephfoboaaGreatDoorGaj
import Derived.Test.YtdfbnnephfoboaaGreatDoorGah
import Derived.Deep.Slices
import Derived.Deep.MidRow
import Derived.ChangeArms
import Derived.ChangeMaps5
namespace Go.Proofs.YtdfbnnephfoboaaGreatDoor
open Go.RowKit Go.Lib
set_option linter.unusedSimpArgs false
set_option linter.unusedVariables false
theorem flat_le (f : Vt → List ByteArray) (g : Vt → Nat) (h : ∀ x, (f x).length ≤ 2 * g x) : ∀ l : List Vt, (l.flatMap f).length ≤ 2 * (l.map g).sum
  | [] => by simp
  | x :: r => by
    have h1 := h x
    have h2 := flat_le f g h r
    rw [List.flatMap_cons, List.length_append, List.map_cons, List.sum_cons]
    omega
theorem wdL_leaf_len (d : Nat) (t : Vt) (h : t.k ≠ 4) (h' : t.k ≠ 5) : (wdL d false t).length ≤ 1 := by
  cases d with
  | zero => exact Nat.zero_le _
  | succ d =>
    unfold wdL
    rw [if_neg h, if_neg h']
    split <;> simp
theorem wdL_len : ∀ (d : Nat) (i : Bool) (t : Vt), (wdL d i t).length ≤ 2 * sz d i t
  | 0, _, _ => Nat.zero_le _
  | d + 1, true, t => by
    by_cases h7 : t.k = 7
    · rw [show wdL (d + 1) true t = [t.s] from if_pos h7, show sz (d + 1) true t = 1 from if_pos (.inl h7)]
      simp
    · rw [show wdL (d + 1) true t = wdL d false t from if_neg h7]
      by_cases h8 : t.k = 8
      · rw [show sz (d + 1) true t = 1 from if_pos (.inr h8)]
        have := wdL_leaf_len d t (by omega) (by omega)
        omega
      · rw [show sz (d + 1) true t = sz d false t from if_neg (by omega)]
        exact wdL_len d false t
  | d + 1, false, t => by
    have e : sz (d + 1) false t = 1 + (t.l.map (sz d (decide (t.k = 5)))).sum := rfl
    by_cases h4 : t.k = 4
    · rw [show wdL (d + 1) false t = ⟨#[123]⟩ :: (t.l.flatMap (wdL d false) ++ [⟨#[125]⟩]) from if_pos h4, e, show decide (t.k = 5) = false by simp [h4]]
      have := flat_le (wdL d false) (sz d false) (fun x => wdL_len d false x) t.l
      simp only [List.length_cons, List.length_append, List.length_nil]
      omega
    · by_cases h5 : t.k = 5
      · rw [show wdL (d + 1) false t = ⟨#[91]⟩ :: (t.l.flatMap (wdL d true) ++ [⟨#[93]⟩]) from (if_neg h4).trans (if_pos h5), e, show decide (t.k = 5) = true by simp [h5]]
        have := flat_le (wdL d true) (sz d true) (fun x => wdL_len d true x) t.l
        simp only [List.length_cons, List.length_append, List.length_nil]
        omega
      · have := wdL_leaf_len (d + 1) t h4 h5
        omega
theorem lfT_size {t : Vt} (h4 : t.k ≠ 4) (h5 : t.k ≠ 5) (h6 : t.k ≠ 6) (hok : alB t = true) : (lfT t).size ≤ 65536 := by
  by_cases h1 : t.k = 1
  · have hb : -1152921504606846976 ≤ t.n ∧ t.n ≤ 1152921504606846975 := by
      rw [show alB t = (decide (-1152921504606846976 ≤ t.n) && decide (t.n ≤ 1152921504606846975)) from if_pos h1] at hok
      simpa using hok
    rw [show lfT t = ⟨(Lib.itoa t.n).toArray⟩ from if_pos h1]
    exact (itoa_sizes (n := t.n) (by omega) (by omega)).2
  · by_cases h2 : t.k = 2
    · have hb : t.s.size ≤ 4096 ∧ vlB t.s = true := by
        rw [show alB t = (decide (t.s.size ≤ 4096) && vlB t.s) from (if_neg h1).trans (if_pos h2)] at hok
        simpa using hok
      rw [show lfT t = (quoR t.s).1 from (if_neg h1).trans (if_pos h2)]
      exact (quo_sizes hb.1 hb.2).2
    · rw [show lfT t = flT (t.n != 0) from (if_neg h1).trans (if_neg h2)]
      cases t.n != 0 <;> decide
theorem wdL_size : ∀ (d : Nat) (i : Bool) (t : Vt), okV d i t = true → ∀ x ∈ wdL d i t, x.size ≤ 65536
  | 0, _, _, _, x, hx => by cases hx
  | d + 1, true, t, h, x, hx => by
    by_cases h7 : t.k = 7
    · rw [show wdL (d + 1) true t = [t.s] from if_pos h7] at hx
      rw [show okV (d + 1) true t = clB t.s from if_pos h7] at h
      rw [List.mem_singleton.1 hx]
      have := (name_size (s := t.s) (by unfold clB at h; simp only [Bool.and_eq_true] at h; exact h.1)).1
      omega
    · rw [show wdL (d + 1) true t = wdL d false t from if_neg h7] at hx
      by_cases h8 : t.k = 8
      · rw [show okV (d + 1) true t = false from (if_neg h7).trans (if_pos h8)] at h
        cases h
      · rw [show okV (d + 1) true t = okV d false t from (if_neg h7).trans (if_neg h8)] at h
        exact wdL_size d false t h x hx
  | d + 1, false, t, h, x, hx => by
    by_cases h4 : t.k = 4
    · rw [show wdL (d + 1) false t = ⟨#[123]⟩ :: (t.l.flatMap (wdL d false) ++ [⟨#[125]⟩]) from if_pos h4] at hx
      rw [show okV (d + 1) false t = t.l.all (okV d (decide (t.k = 5))) from if_pos (.inl h4), show decide (t.k = 5) = false by simp [h4]] at h
      rcases List.mem_cons.1 hx with rfl | hx
      · show 1 ≤ _; omega
      rcases List.mem_append.1 hx with hx | hx
      · obtain ⟨y, hy, hx⟩ := List.mem_flatMap.1 hx
        exact wdL_size d false y (List.all_eq_true.1 h y hy) x hx
      · rw [List.mem_singleton.1 hx]; show 1 ≤ _; omega
    · by_cases h5 : t.k = 5
      · rw [show wdL (d + 1) false t = ⟨#[91]⟩ :: (t.l.flatMap (wdL d true) ++ [⟨#[93]⟩]) from (if_neg h4).trans (if_pos h5)] at hx
        rw [show okV (d + 1) false t = t.l.all (okV d (decide (t.k = 5))) from if_pos (.inr h5), show decide (t.k = 5) = true by simp [h5]] at h
        rcases List.mem_cons.1 hx with rfl | hx
        · show 1 ≤ _; omega
        rcases List.mem_append.1 hx with hx | hx
        · obtain ⟨y, hy, hx⟩ := List.mem_flatMap.1 hx
          exact wdL_size d true y (List.all_eq_true.1 h y hy) x hx
        · rw [List.mem_singleton.1 hx]; show 1 ≤ _; omega
      · rw [show okV (d + 1) false t = alB t from if_neg (by omega)] at h
        by_cases h6 : t.k = 6
        · rw [show wdL (d + 1) false t = [⟨#[98, 111, 120]⟩] from (if_neg h4).trans ((if_neg h5).trans (if_pos h6))] at hx
          rw [List.mem_singleton.1 hx]; show 3 ≤ _; omega
        · rw [show wdL (d + 1) false t = [lfT t] from (if_neg h4).trans ((if_neg h5).trans (if_neg h6))] at hx
          rw [List.mem_singleton.1 hx]
          exact lfT_size h4 h5 h6 h
theorem join_le : ∀ (ws : List ByteArray), (∀ x ∈ ws, x.size ≤ 65536) → (Lib.join (ws.map (·.data.toList)) [32]).length ≤ 65537 * ws.length
  | [], _ => by simp [Lib.join_nil]
  | x :: r, h => by
    have key : ∀ (l : List ByteArray), (∀ y ∈ l, y.size ≤ 65536) → Lib.lens (l.map (·.data.toList)) ≤ 65536 * l.length := by
      intro l
      induction l with
      | nil => intro _; simp [Lib.lens]
      | cons y l ih =>
        intro hl
        have h1 := hl y (.head _)
        have h2 := ih (fun z hz => hl z (.tail _ hz))
        have h3 : y.data.toList.length = y.size := Array.length_toList
        simp only [Lib.lens, List.map_cons, List.sum_cons, List.length_cons] at h2 ⊢
        omega
    have h1 := key (x :: r) h
    rw [List.map_cons, Lib.join_length]
    simp only [List.length_map, List.length_cons, List.length_nil, List.map_cons] at h1 ⊢
    omega
/-- what Text answers -/
def TxP (Z : Bool) (T : ByteArray) (w : World) (e : Ending) (w' : World) : Prop := e = .returned (.tuple #[.string (if Z then T else ⟨#[]⟩), .int .i64 (if Z then 0 else 1)]) ∧ Only (fun _ => False) w w'
set_option maxRecDepth 100000 in
theorem vtext_any {d : Nat} {t : Vt} {v : Value} {w : World} {S : Nat → Prop} (h : TiAt w S d false t v) (hS : ∀ b, S b → b < w.heap.size) (hsm : ∃ e, SmT e t) (hT : Tx w) : Calls Tryz.prog 15 #[v] w (TxP (sdB d t) (txtV d t) w) := by
  have HC : Hid _ := vcheck_any h hS hsm hT.1
  cases hZ : sdB d t with
  | false =>
    rw [hZ] at HC
    have HP : Hid (∀ w', Only (fun _ => False) w w' → TxP false (txtV d t) w (.returned (.tuple #[.string ⟨#[]⟩, .int .i64 1])) w') := fun w' o => ⟨rfl, o⟩
    clear h hS hsm hT hZ
    go_enter Tryz.func15, Tryz.ntmps15
    go_wp2_with fail
    refine (show Calls Tryz.prog 12 _ _ _ from HC.out).mono ?_
    rintro e w1 ⟨rfl, o1⟩
    have O1 : Hid (Only (fun _ => False) w w1) := o1
    clear HC o1
    go_wp2
    go_ret2
    exact HP.out _ O1.out
  | true =>
    rw [hZ] at HC
    have hz := hZ
    unfold sdB msB at hz
    simp only [Bool.and_eq_true, decide_eq_true_eq] at hz
    obtain ⟨⟨hok, hsz⟩, _⟩ := hz
    have hl : (wdL d false t).length ≤ 2048 := by have := wdL_len d false t; omega
    have hne : wdL d false t ≠ [] := by
      cases d with
      | zero => exact h.elim
      | succ d => exact wdL_ne d t
    have HA : Hid (∀ w1, Only (fun _ => False) w w1 → Calls Tryz.prog 37 #[.slice none 0 0, v] w1 fun e w' => ∃ ao' n' cap', e = .returned (.slice ao' n' cap') ∧ Hid (WdAt w' w.heap.size (.slice ao' n' cap') ([] ++ wdL d false t) ∧ Only (fun _ => False) w w')) := fun w1 o1 =>
      (aw_all (d + 1) d (by omega)).1 t v w S h hok hsm hT w1 none 0 0 [] o1 (wd_nil _ _) (by simpa using (by omega : (wdL d false t).length ≤ 1000000))
    have HJ : Hid (∀ w1 ao n cap, WdAt w1 w.heap.size (.slice ao n cap) (wdL d false t) → Calls Tryz.prog 36 #[.slice ao n cap, .string ⟨#[32]⟩] w1 fun e w' => e = .returned (.string (txtV d t)) ∧ Only (fun _ => False) w1 w') := by
      intro w1 ao n cap hw
      have hlen : n = (wdL d false t).length := by
        obtain ⟨a', c', e⟩ := hw.form
        injection e
      rcases hw.2 with ⟨_, h2⟩ | ⟨g, c2, cur, hv, hB, hg, hn, hcm, hcs, htk⟩
      · exact absurd (List.length_eq_zero_iff.1 h2) hne
      · injection hv with e1 e2 e3
        subst e1
        subst e3
        have hj := join_le (wdL d false t) (wdL_size d false t hok)
        have key := Any.strings_Join Tryz.laysJoin Tryz.joinExtra g 0 cap (wdL d false t) ⟨#[32]⟩ w1 (fun j x hx => by
          have hc := hw.cells (g := g) rfl j (.string x) (by rw [List.getElem?_map, hx]; rfl)
          rw [addr_ad] at hc
          simpa using hc) (Array.getElem?_eq_some_iff.1 hg).1 (by omega) hn (by show (Lib.join _ [32]).length ≤ _; omega)
        rw [← hlen] at key
        exact key.mono fun e w' g => ⟨g.1, ⟨g.2.os, g.2.tape, g.2.output, g.2.size, fun k hk _ => g.2.block k hk⟩⟩
    have HP : Hid (∀ w', Only (fun _ => False) w w' → TxP true (txtV d t) w (.returned (.tuple #[.string (txtV d t), .int .i64 0])) w') := fun w' o => ⟨rfl, o⟩
    obtain ⟨T, hTT⟩ : ∃ T, T = txtV d t := ⟨_, rfl⟩
    rw [← hTT] at HJ HP ⊢
    clear h hS hsm hT hZ hok hsz hl hne hTT
    go_enter Tryz.func15, Tryz.ntmps15
    go_wp2_with fail
    refine (show Calls Tryz.prog 12 _ _ _ from HC.out).mono ?_
    rintro e w1 ⟨rfl, o1⟩
    have O1 : Hid (Only (fun _ => False) w w1) := o1
    clear HC o1
    go_wp2_with fail
    refine (show Calls Tryz.prog 37 _ _ _ from HA.out _ O1.out).mono ?_
    rintro e w2 ⟨ao, n, c, rfl, G2⟩
    clear HA O1
    go_wp2_with fail
    refine (show Calls Tryz.prog 36 _ _ _ from HJ.out _ _ _ _ G2.out.1).mono ?_
    rintro e w3 ⟨rfl, o3⟩
    have O3 : Hid (Only (fun _ => False) w w3) := G2.out.2.trans o3 (fun _ _ g => g)
    clear HJ G2 o3
    go_wp2
    go_ret2
    exact HP.out _ O3.out
end Go.Proofs.YtdfbnnephfoboaaGreatDoor
namespace Go.Proofs.YtdfbnnephfoboaaGreatDoor
open Go.RowKit Go.Lib
set_option linter.unusedSimpArgs false
set_option linter.unusedVariables false
theorem nm_sm : ∀ (d : Nat) (i : Bool) (t : Vt), SmT d t → SmT d (nm d i t)
  | 0, _, _, h => h.elim
  | d + 1, i, t, h => by
    obtain ⟨k, n, s, l⟩ := t
    obtain ⟨h1, h2, h3, h4, h5⟩ := h
    dsimp only at h1 h2 h3 h4 h5
    have z : ∀ m : Int, m ∈ [0, 1, 2, 3, 4, 5, 6, 7, 8] → (-9223372036854775808 : Int) ≤ m ∧ m ≤ 9223372036854775807 := fun m hm => by
      simp only [List.mem_cons, List.not_mem_nil, or_false] at hm
      omega
    have e0 : (⟨#[]⟩ : ByteArray).size ≤ 140737488355328 := Nat.zero_le _
    unfold nm
    dsimp only
    split
    · exact ⟨e0, Nat.zero_le _, z 1 (by simp), h4, fun x hx => by cases hx⟩
    split
    · exact ⟨h1, Nat.zero_le _, z 2 (by simp), z 0 (by simp), fun x hx => by cases hx⟩
    split
    · refine ⟨e0, Nat.zero_le _, z 3 (by simp), ?_, fun x hx => by cases hx⟩
      dsimp only
      split
      · exact z 1 (by simp)
      · exact z 0 (by simp)
    split
    · refine ⟨e0, by simpa using h2, z 4 (by simp), z 0 (by simp), fun x hx => ?_⟩
      obtain ⟨y, hy, rfl⟩ := List.mem_map.1 hx
      exact nm_sm d false y (h5 y hy)
    split
    · refine ⟨e0, by simpa using h2, z 5 (by simp), z 0 (by simp), fun x hx => ?_⟩
      obtain ⟨y, hy, rfl⟩ := List.mem_map.1 hx
      exact nm_sm d true y (h5 y hy)
    split
    · exact ⟨e0, Nat.zero_le _, z 6 (by simp), h4, fun x hx => by cases hx⟩
    split
    · exact ⟨h1, Nat.zero_le _, z 7 (by simp), z 0 (by simp), fun x hx => by cases hx⟩
    · exact ⟨e0, Nat.zero_le _, z 8 (by simp), z 0 (by simp), fun x hx => by cases hx⟩
/-- what a tree that came in has become as a value x, since block B: its own blocks, and what is known of its tree -/
def Vx (w : World) (B d : Nat) (t : Vt) (x : Value) : Prop := NiAt w B (2 * d + 1) false (nm d false t) x
theorem Vx.only {w w' : World} {B d : Nat} {t : Vt} {x : Value} {bs : Nat → Prop} (h : Vx w B d t x) (o : Only bs w w') (hb : ∀ b, B ≤ b → ¬ bs b) : Vx w' B d t x := NiAt.only h o hb
theorem value_calls {a : Vt} {va : Value} {d : Nat} {w : World} (ha : VsAt w (fun _ => True) d a.l va) (sa : SmT d a) : ∀ w1, Only (fun _ => False) w w1 → Calls Tryz.prog 9 #[.agg #[.int .i64 a.k, .int .i64 a.n, .string a.s, va]] w1 fun e w' => ∃ v, e = .returned v ∧ Hid (Vx w' w1.heap.size d a v ∧ Only (fun _ => False) w1 w') := fun w1 o1 => value_all d a va w1 _ (ha.only o1) sa
end Go.Proofs.YtdfbnnephfoboaaGreatDoor
namespace Go.Proofs.YtdfbnnephfoboaaGreatDoor
open Go.RowKit Go.Lib
set_option linter.unusedSimpArgs false
set_option linter.unusedVariables false
set_option maxRecDepth 100000 in
theorem add7 (w : World) : Calls Tryz.prog 37 #[.slice none 0 0, i7] w fun e w' => ∃ g c : Nat, e = .returned (.slice (some ⟨g, 0, none⟩) 1 c) ∧ w'.cell? ⟨g, 0, none⟩ = some (.string ⟨#[55]⟩) ∧ Only (fun _ => False) w w' := by
  have HV : Hid (∀ w1, Calls Tryz.prog 58 #[p7] w1 fun e w' => e = .returned (.string ⟨#[55]⟩) ∧ Only (fun _ => False) w1 w') := word7
  have hl := va_miss 59 80 27 _ Tryz.underlying80 (by intro m h; cases h) (by decide) (.agg #[.slice none 0 0]) (fun _ => rfl)
  have hq := va_miss 59 82 27 _ Tryz.underlying82 (by intro m h; cases h) (by decide) (.agg #[.slice none 0 0]) (fun _ => rfl)
  have hx := va_miss 59 84 27 _ Tryz.underlying84 (by intro m h; cases h) (by decide) (.agg #[.int .i64 0]) (fun _ => rfl)
  go_enter Tryz.func37, Tryz.ntmps37
  go_wp2_with fail
  refine (show Calls Tryz.prog 58 _ _ _ from HV.out _).mono ?_
  rintro e w1 ⟨rfl, o1⟩
  have O1 : Hid (Only (fun _ => False) w w1) := ((((Only.refl (fun _ => False) w).alloc _).alloc _).alloc _).trans o1 (fun _ _ g => g)
  clear HV o1 hl hq hx
  go_wp2
  go_ret
  refine ⟨_, _, rfl, ?_, ?_⟩
  · refine (wr_cell (va_at (w1.alloc (.cells #[.string ⟨#[55]⟩] 9)) _ _ (Array.size_push ..).symm) 0).trans ?_
    rw [Array.getElem?_append_left (by simp)]
    rfl
  · have o := (O1.out.alloc (.cells #[.string ⟨#[55]⟩] 9)).alloc (.cells (#[.string ⟨#[55]⟩] ++ Builtin.zeroCells #[.string ⟨#[]⟩] ((Question.appendCap 1 0 9).cut (w1.tape w1.drawn (Question.appendCap 1 0 9)) - 1)) 9)
    exact ⟨o.os, o.tape, o.output, o.size, o.block⟩
set_option maxRecDepth 100000 in
theorem joined1 (w : World) (g c : Nat) (s : ByteArray) (hg : w.cell? ⟨g, 0, none⟩ = some (.string s)) : Calls Tryz.prog 36 #[.slice (some ⟨g, 0, none⟩) 1 c, .string ⟨#[32]⟩] w fun e w' => e = .returned (.string s) ∧ w' = w := by
  go_enter Tryz.func36, Tryz.ntmps36
  go_wp2
  go_ret
  exact ⟨rfl, rfl⟩
set_option maxRecDepth 100000 in
theorem vtext7 (w : World) : Calls Tryz.prog 15 #[i7] w fun e w' => e = .returned (.tuple #[.string ⟨#[55]⟩, .int .i64 0]) ∧ Only (fun _ => False) w w' := by
  have HC : Hid (∀ w1, Calls Tryz.prog 12 #[i7] w1 fun e w' => e = .returned (.int .i64 0) ∧ Only (fun _ => False) w1 w') := check7
  have HA : Hid (∀ w1, Calls Tryz.prog 37 #[.slice none 0 0, i7] w1 fun e w' => ∃ g c : Nat, e = .returned (.slice (some ⟨g, 0, none⟩) 1 c) ∧ w'.cell? ⟨g, 0, none⟩ = some (.string ⟨#[55]⟩) ∧ Only (fun _ => False) w1 w') := add7
  have HJ : Hid (∀ w1 g c s, w1.cell? ⟨g, 0, none⟩ = some (.string s) → Calls Tryz.prog 36 #[.slice (some ⟨g, 0, none⟩) 1 c, .string ⟨#[32]⟩] w1 fun e w' => e = .returned (.string s) ∧ w' = w1) := joined1
  go_enter Tryz.func15, Tryz.ntmps15
  go_wp2_with fail
  refine (show Calls Tryz.prog 12 _ _ _ from HC.out _).mono ?_
  rintro e w1 ⟨rfl, o1⟩
  have O1 : Hid (Only (fun _ => False) w w1) := o1
  clear HC o1
  go_wp2_with fail
  refine (show Calls Tryz.prog 37 _ _ _ from HA.out _).mono ?_
  rintro e w2 ⟨g, c, rfl, hg, o2⟩
  have O2 : Hid (Only (fun _ => False) w w2) := O1.out.trans o2 (fun _ _ g => g)
  have HG : Hid (w2.cell? ⟨g, 0, none⟩ = some (.string ⟨#[55]⟩)) := hg
  clear HA o2 hg O1
  go_wp2_with fail
  refine (show Calls Tryz.prog 36 _ _ _ from HJ.out _ _ _ _ HG.out).mono ?_
  rintro e w3 ⟨rfl, rfl⟩
  clear HJ HG
  go_wp2
  go_ret2
  exact ⟨rfl, O2.out⟩
set_option maxRecDepth 100000 in
theorem vawake (w : World) : Calls Tryz.prog 8 #[] w fun e w' => e = .returned (.bool true) ∧ Only (fun _ => False) w w' := by
  have HT : Hid (∀ w1, Calls Tryz.prog 15 #[i7] w1 fun e w' => e = .returned (.tuple #[.string ⟨#[55]⟩, .int .i64 0]) ∧ Only (fun _ => False) w1 w') := vtext7
  go_enter Tryz.func8, Tryz.ntmps8
  go_wp2_with fail
  refine (show Calls Tryz.prog 15 _ _ _ from HT.out _).mono ?_
  rintro e w1 ⟨rfl, o1⟩
  have O1 : Hid (Only (fun _ => False) w w1) := o1
  clear HT o1
  go_wp2
  all_goals
    go_ret
    exact ⟨rfl, O1.out⟩
end Go.Proofs.YtdfbnnephfoboaaGreatDoor
namespace Go.Proofs.YtdfbnnephfoboaaGreatDoor
open Go.RowKit Go.Lib
set_option linter.unusedSimpArgs false
set_option linter.unusedVariables false
theorem ck_calls {a : Vt} {x : Value} {d C : Nat} {w : World} (h : Vx w C d a x) (sa : SmT d a) (hT : Tb w) : ∀ v, Only (fun _ => False) w v → Calls Tryz.prog 12 #[x] v fun e w' => e = .returned (.int .i64 (if sdB (2 * d + 1) (nm d false a) then 0 else 1)) ∧ Only (fun _ => False) v w' := fun v o => by
  obtain ⟨S, h1, h2⟩ := h.only o (fun _ _ g => g)
  exact vcheck_any h1 (fun b hb => (h2 b hb).2) ⟨d, nm_sm d false a sa⟩ (hT.frame o)
theorem sz_calls {a : Vt} {x : Value} {d C : Nat} {w : World} (h : Vx w C d a x) (sa : SmT d a) (hT : Tb w) (hp : sdB (2 * d + 1) (nm d false a) = true) : ∀ v, Only (fun _ => False) w v → Calls Tryz.prog 13 #[x] v fun e w' => e = .returned (.tuple #[.int .i64 (sz (2 * d + 1) false (nm d false a) : Int), .int .i64 0]) ∧ Only (fun _ => False) v w' := fun v o => by
  obtain ⟨S, h1, h2⟩ := h.only o (fun _ _ g => g)
  have := vsize_any h1 (fun b hb => (h2 b hb).2) ⟨d, nm_sm d false a sa⟩ (hT.frame o)
  rw [hp] at this
  exact this
theorem tx_calls {a : Vt} {x : Value} {d C : Nat} {w : World} (h : Vx w C d a x) (sa : SmT d a) (hT : Tx w) (hp : sdB (2 * d + 1) (nm d false a) = true) : ∀ v, Only (fun _ => False) w v → Calls Tryz.prog 15 #[x] v fun e w' => e = .returned (.tuple #[.string (txtV (2 * d + 1) (nm d false a)), .int .i64 0]) ∧ Only (fun _ => False) v w' := fun v o => by
  obtain ⟨S, h1, h2⟩ := h.only o (fun _ _ g => g)
  have := vtext_any h1 (fun b hb => (h2 b hb).2) ⟨d, nm_sm d false a sa⟩ (hT.frame o)
  rw [hp] at this
  exact this
theorem co_calls {a : Vt} {x : Value} {d C : Nat} {w : World} (h : Vx w C d a x) (sa : SmT d a) (hT : Tb w) (hp : sdB (2 * d + 1) (nm d false a) = true) : ∀ v, Only (fun _ => False) w v → Calls Tryz.prog 17 #[x] v fun e w' => ∃ v', e = .returned (.tuple #[v', .int .i64 0]) ∧ Hid (Vx w' v.heap.size d a v' ∧ Only (fun _ => False) v w') := fun v o => by
  obtain ⟨S, h1, h2⟩ := h.only o (fun _ _ g => g)
  have := vcopy_any h1 (fun b hb => (h2 b hb).2) ⟨d, nm_sm d false a sa⟩ (hT.frame o)
  rw [hp] at this
  refine this.mono fun e w' g => ?_
  obtain ⟨v', he, g1, _, g2⟩ := g
  exact ⟨v', he, g1 rfl, g2⟩
theorem eq_calls {a b : Vt} {x y : Value} {d C C' : Nat} {w : World} (h : Vx w C d a x) (h' : Vx w C' d b y) (sa : SmT d a) (sb : SmT d b) (hT : Tb w) : ∀ v, Only (fun _ => False) w v → Calls Tryz.prog 27 #[x, y] v fun e w' => e = .returned (.tuple #[.bool (sdB (2 * d + 1) (nm d false a) && sdB (2 * d + 1) (nm d false b) && smV (2 * d + 1) false (nm d false a) (nm d false b)), .int .i64 (if sdB (2 * d + 1) (nm d false a) && sdB (2 * d + 1) (nm d false b) then 0 else 1)]) ∧ Only (fun _ => False) v w' := fun v o => by
  obtain ⟨S1, t1, s1⟩ := h.only o (fun _ _ g => g)
  obtain ⟨S2, t2, s2⟩ := h'.only o (fun _ _ g => g)
  have h1 : TiAt v (fun b => S1 b ∨ S2 b) (2 * d + 1) false (nm d false a) x := t1.step (fun _ g => .inl g) (fun _ _ _ g => g) (Nat.le_refl _)
  have h2 : TiAt v (fun b => S1 b ∨ S2 b) (2 * d + 1) false (nm d false b) y := t2.step (fun _ g => .inr g) (fun _ _ _ g => g) (Nat.le_refl _)
  exact vequal_any h1 h2 (fun b hb => by rcases hb with g | g; exact (s1 b g).2; exact (s2 b g).2) ⟨d, nm_sm d false a sa⟩ ⟨d, nm_sm d false b sb⟩ (hT.frame o)
set_option maxRecDepth 100000 in
set_option maxHeartbeats 8000000 in
theorem vorder_walk {a b c : Vt} {va vb vc : Value} {d : Nat} {w : World} (ha : VsAt w (fun _ => True) d a.l va) (hb : VsAt w (fun _ => True) d b.l vb) (hc : VsAt w (fun _ => True) d c.l vc) (sa : SmT d a) (sb : SmT d b) (sc : SmT d c) (hT : Tx w) :
    Calls Tryz.prog 5 #[vV a.k a.n a.s va, vV b.k b.n b.s vb, vV c.k c.n c.s vc] w fun e w' => e = .returned (.bool true) ∧ Only (fun _ => False) w w' := by
  have HA : Hid (∀ w1, Calls Tryz.prog 8 #[] w1 fun e w' => e = .returned (.bool true) ∧ Only (fun _ => False) w1 w') := vawake
  have HVa : Hid _ := value_calls ha sa
  have HVb : Hid _ := value_calls hb sb
  have HVc : Hid _ := value_calls hc sc
  have HT : Hid (Tx w ∧ SmT d a ∧ SmT d b ∧ SmT d c) := ⟨hT, sa, sb, sc⟩
  obtain ⟨aa, ca, rfl⟩ := ha.form
  obtain ⟨ab, cb, rfl⟩ := hb.form
  obtain ⟨ac, cc, rfl⟩ := hc.form
  have O0 : Hid (Only (fun _ => False) w w) := Only.refl _ _
  clear ha hb hc sa sb sc hT
  unfold vV
  obtain ⟨ka, hka⟩ : ∃ k, k = a.k := ⟨_, rfl⟩
  obtain ⟨na, hna⟩ : ∃ k, k = a.n := ⟨_, rfl⟩
  obtain ⟨ta, hta⟩ : ∃ k, k = a.s := ⟨_, rfl⟩
  obtain ⟨La, hLa⟩ : ∃ k, k = a.l.length := ⟨_, rfl⟩
  obtain ⟨kb, hkb⟩ : ∃ k, k = b.k := ⟨_, rfl⟩
  obtain ⟨nb, hnb⟩ : ∃ k, k = b.n := ⟨_, rfl⟩
  obtain ⟨tb, htb⟩ : ∃ k, k = b.s := ⟨_, rfl⟩
  obtain ⟨Lb, hLb⟩ : ∃ k, k = b.l.length := ⟨_, rfl⟩
  obtain ⟨kc, hkc⟩ : ∃ k, k = c.k := ⟨_, rfl⟩
  obtain ⟨nc, hnc⟩ : ∃ k, k = c.n := ⟨_, rfl⟩
  obtain ⟨tc, htc⟩ : ∃ k, k = c.s := ⟨_, rfl⟩
  obtain ⟨Lc, hLc⟩ : ∃ k, k = c.l.length := ⟨_, rfl⟩
  rw [← hka, ← hna, ← hta, ← hLa] at HVa
  rw [← hkb, ← hnb, ← htb, ← hLb] at HVb
  rw [← hkc, ← hnc, ← htc, ← hLc] at HVc
  rw [← hka, ← hna, ← hta, ← hLa, ← hkb, ← hnb, ← htb, ← hLb, ← hkc, ← hnc, ← htc, ← hLc]
  clear hka hna hta hLa hkb hnb htb hLb hkc hnc htc hLc
  have HB0 : Hid (∀ w1 : World, Only (fun _ => False) (((w.alloc (.cells #[.int .i64 ka, .int .i64 na, .string ta, .slice aa La ca] 24)).alloc (.cells #[.int .i64 kb, .int .i64 nb, .string tb, .slice ab Lb cb] 24)).alloc (.cells #[.int .i64 kc, .int .i64 nc, .string tc, .slice ac Lc cc] 24)) w1 → (w1.heap[w.heap.size]? = some (.cells #[.int .i64 ka, .int .i64 na, .string ta, .slice aa La ca] 24) ∧ w1.heap[w.heap.size + 1]? = some (.cells #[.int .i64 kb, .int .i64 nb, .string tb, .slice ab Lb cb] 24) ∧ w1.heap[w.heap.size + 2]? = some (.cells #[.int .i64 kc, .int .i64 nc, .string tc, .slice ac Lc cc] 24)) ∧ w.heap.size + 2 < w1.heap.size ∧ Only (fun _ => False) w w1) := fun w1 o1 => by
    have R2 := (o1.block (w.heap.size + 2) (by simp) (fun h => h)).trans (valloc_at _ _ _ (by simp))
    refine ⟨⟨?_, ?_, R2⟩, (Array.getElem?_eq_some_iff.1 R2).1, (((O0.out.alloc _).alloc _).alloc _).trans o1 (fun _ _ g => g)⟩
    · refine (o1.block w.heap.size (by simp; omega) (fun h => h)).trans ?_
      refine (((((Only.refl (fun _ => False) (w.alloc (.cells #[.int .i64 ka, .int .i64 na, .string ta, .slice aa La ca] 24)))).alloc _).alloc _).block w.heap.size (by simp) (fun h => h)).trans (valloc_at _ _ _ rfl)
    · refine (o1.block (w.heap.size + 1) (by simp) (fun h => h)).trans ?_
      refine ((((Only.refl (fun _ => False) ((w.alloc (.cells #[.int .i64 ka, .int .i64 na, .string ta, .slice aa La ca] 24)).alloc (.cells #[.int .i64 kb, .int .i64 nb, .string tb, .slice ab Lb cb] 24)))).alloc _).block (w.heap.size + 1) (by simp) (fun h => h)).trans (valloc_at _ _ _ (by simp))
  go_enter Tryz.func5, Tryz.ntmps5
  go_wp2_with fail
  refine (show Calls Tryz.prog 8 _ _ _ from HA.out _).mono ?_
  rintro e w1 ⟨rfl, o1⟩
  obtain ⟨hR, hsz, ow⟩ := HB0.out w1 o1
  have OW : Hid (Only (fun _ => False) w w1) := ow
  clear HA O0 o1 ow HB0
  obtain ⟨BA, hBA⟩ : ∃ B, B = w.heap.size := ⟨_, rfl⟩
  rw [← hBA] at hR hsz ⊢
  have HS : Hid (∀ w2, Only (fun _ => False) w1 w2 → (w2.cell? ⟨BA, 0, none⟩ = some (.int .i64 ka) ∧ w2.cell? ⟨BA, 1, none⟩ = some (.int .i64 na) ∧ w2.cell? ⟨BA, 2, none⟩ = some (.string ta) ∧ w2.cell? ⟨BA, 3, none⟩ = some (.slice aa La ca)) ∧ (w2.cell? ⟨BA + 1, 0, none⟩ = some (.int .i64 kb) ∧ w2.cell? ⟨BA + 1, 1, none⟩ = some (.int .i64 nb) ∧ w2.cell? ⟨BA + 1, 2, none⟩ = some (.string tb) ∧ w2.cell? ⟨BA + 1, 3, none⟩ = some (.slice ab Lb cb)) ∧ (w2.cell? ⟨BA + 2, 0, none⟩ = some (.int .i64 kc) ∧ w2.cell? ⟨BA + 2, 1, none⟩ = some (.int .i64 nc) ∧ w2.cell? ⟨BA + 2, 2, none⟩ = some (.string tc) ∧ w2.cell? ⟨BA + 2, 3, none⟩ = some (.slice ac Lc cc))) := fun w2 o => by
    have r1 := (o.block BA (by omega) (fun g => g)).trans hR.1
    have r2 := (o.block (BA + 1) (by omega) (fun g => g)).trans hR.2.1
    have r3 := (o.block (BA + 2) (by omega) (fun g => g)).trans hR.2.2
    exact ⟨⟨vblk_cells r1 0, vblk_cells r1 1, vblk_cells r1 2, vblk_cells r1 3⟩, ⟨vblk_cells r2 0, vblk_cells r2 1, vblk_cells r2 2, vblk_cells r2 3⟩, vblk_cells r3 0, vblk_cells r3 1, vblk_cells r3 2, vblk_cells r3 3⟩
  clear hR hsz hBA
  have OR : Hid (Only (fun _ => False) w1 w1) := Only.refl _ _
  go_wp2_with fail
  go_region_held3 (fun w2 => (w2.cell? ⟨BA, 0, none⟩ = some (.int .i64 ka) ∧ w2.cell? ⟨BA, 1, none⟩ = some (.int .i64 na) ∧ w2.cell? ⟨BA, 2, none⟩ = some (.string ta) ∧ w2.cell? ⟨BA, 3, none⟩ = some (.slice aa La ca)) ∧ (w2.cell? ⟨BA + 1, 0, none⟩ = some (.int .i64 kb) ∧ w2.cell? ⟨BA + 1, 1, none⟩ = some (.int .i64 nb) ∧ w2.cell? ⟨BA + 1, 2, none⟩ = some (.string tb) ∧ w2.cell? ⟨BA + 1, 3, none⟩ = some (.slice ab Lb cb)) ∧ (w2.cell? ⟨BA + 2, 0, none⟩ = some (.int .i64 kc) ∧ w2.cell? ⟨BA + 2, 1, none⟩ = some (.int .i64 nc) ∧ w2.cell? ⟨BA + 2, 2, none⟩ = some (.string tc) ∧ w2.cell? ⟨BA + 2, 3, none⟩ = some (.slice ac Lc cc)))
    (first
      | with_reducible exact HS.out _ OR.out.drew
      | with_reducible exact HS.out _ O2.out
      | with_reducible exact HS.out _ O3.out
      | with_reducible exact HS.out _ O4.out)
    (first
      | (go_at_call 9; have o9 := O3.out; refine (show Calls Tryz.prog 9 _ _ _ from HVc.out _ (OW.out.trans O3.out (fun _ _ g => g))).mono ?_; rintro ex w4 ⟨z, rfl, G4⟩; have O4 : Hid (Only (fun _ => False) w1 w4) := O3.out.trans G4.out.2 (fun _ _ g => g))
      | (go_at_call 9; have o9 := O2.out; refine (show Calls Tryz.prog 9 _ _ _ from HVb.out _ (OW.out.trans O2.out (fun _ _ g => g))).mono ?_; rintro ex w3 ⟨y, rfl, G3⟩; have O3 : Hid (Only (fun _ => False) w1 w3) := O2.out.trans G3.out.2 (fun _ _ g => g))
      | (go_at_call 9; refine (show Calls Tryz.prog 9 _ _ _ from HVa.out _ OW.out.drew).mono ?_; rintro ex w2 ⟨x, rfl, G2⟩; have O2 : Hid (Only (fun _ => False) w1 w2) := OR.out.drew.trans G2.out.2 (fun _ _ g => g)))
  have vx : Vx w4 w1.heap.size d a x := (NiAt.lower G2.out.1 (by simp)).only (G3.out.2.trans G4.out.2 (fun _ _ g => g)) (fun _ _ g => g)
  have vy : Vx w4 w1.heap.size d b y := (NiAt.lower G3.out.1 O2.out.size).only G4.out.2 (fun _ _ g => g)
  have vz : Vx w4 w1.heap.size d c z := NiAt.lower G4.out.1 O3.out.size
  have HW : Hid (Only (fun _ => False) w w4) := OW.out.trans O4.out (fun _ _ g => g)
  have hT4 : Tx w4 := HT.out.1.frame HW.out
  obtain ⟨_, sa, sb, sc⟩ := HT.out
  have Cx : Hid _ := ck_calls vx sa hT4.1
  have Cy : Hid _ := ck_calls vy sb hT4.1
  have Cz : Hid _ := ck_calls vz sc hT4.1
  have Exy : Hid _ := eq_calls vx vy sa sb hT4.1
  have HV : Hid (Vx w4 w1.heap.size d a x ∧ Vx w4 w1.heap.size d b y ∧ Vx w4 w1.heap.size d c z ∧ Tx w4 ∧ SmT d a ∧ SmT d b ∧ SmT d c) := ⟨vx, vy, vz, hT4, sa, sb, sc⟩
  obtain ⟨p, hp⟩ : ∃ p, p = sdB (2 * d + 1) (nm d false a) := ⟨_, rfl⟩
  obtain ⟨q, hq⟩ : ∃ q, q = sdB (2 * d + 1) (nm d false b) := ⟨_, rfl⟩
  obtain ⟨r, hr⟩ : ∃ r, r = sdB (2 * d + 1) (nm d false c) := ⟨_, rfl⟩
  obtain ⟨F, hF⟩ : ∃ F, F = smV (2 * d + 1) false (nm d false a) (nm d false b) := ⟨_, rfl⟩
  rw [← hp] at Cx
  rw [← hq] at Cy
  rw [← hr] at Cz
  rw [← hp, ← hq, ← hF] at Exy
  have HPQ : Hid (p = sdB (2 * d + 1) (nm d false a) ∧ q = sdB (2 * d + 1) (nm d false b) ∧ r = sdB (2 * d + 1) (nm d false c) ∧ F = smV (2 * d + 1) false (nm d false a) (nm d false b)) := ⟨hp, hq, hr, hF⟩
  have O4' : Hid (Only (fun _ => False) w4 w4) := Only.refl _ _
  clear hp hq hr hF vx vy vz hT4 sa sb sc HT HVa HVb HVc HS OR OW G2 G3 G4 O2 O3 O4
  cases p with
  | false =>
    go_wp2_with fail
    refine (show Calls Tryz.prog 12 _ _ _ from Cx.out _ O4'.out).mono ?_
    rintro e w5 ⟨rfl, o5⟩
    have O5 : Hid (Only (fun _ => False) w4 w5) := o5
    clear o5
    go_wp2_with fail
    refine (show Calls Tryz.prog 27 _ _ _ from Exy.out _ O5.out).mono ?_
    rintro e w6 ⟨rfl, o6⟩
    have O6 : Hid (Only (fun _ => False) w w6) := (HW.out.trans O5.out (fun _ _ g => g)).trans o6 (fun _ _ g => g)
    clear o6 O5
    go_wp2
    go_ret
    exact ⟨rfl, O6.out⟩
  | true =>
    go_wp2_with fail
    refine (show Calls Tryz.prog 12 _ _ _ from Cx.out _ O4'.out).mono ?_
    rintro e w5 ⟨rfl, o5⟩
    have O5 : Hid (Only (fun _ => False) w4 w5) := o5
    clear o5
    go_wp2_with fail
    refine (show Calls Tryz.prog 12 _ _ _ from Cy.out _ O5.out).mono ?_
    rintro e w6 ⟨rfl, o6⟩
    have O6 : Hid (Only (fun _ => False) w4 w6) := O5.out.trans o6 (fun _ _ g => g)
    clear o6 O5
    cases q with
    | false =>
      go_wp2_with fail
      refine (show Calls Tryz.prog 27 _ _ _ from Exy.out _ O6.out).mono ?_
      rintro e w7 ⟨rfl, o7⟩
      have O7 : Hid (Only (fun _ => False) w w7) := (HW.out.trans O6.out (fun _ _ g => g)).trans o7 (fun _ _ g => g)
      clear o7 O6
      go_wp2
      go_ret
      exact ⟨rfl, O7.out⟩
    | true =>
      go_wp2_with fail
      refine (show Calls Tryz.prog 12 _ _ _ from Cz.out _ O6.out).mono ?_
      rintro e w7 ⟨rfl, o7⟩
      have O7 : Hid (Only (fun _ => False) w4 w7) := O6.out.trans o7 (fun _ _ g => g)
      clear o7 O6
      cases r with
      | false =>
        go_wp2_with fail
        refine (show Calls Tryz.prog 27 _ _ _ from Exy.out _ O7.out).mono ?_
        rintro e w8 ⟨rfl, o8⟩
        have O8 : Hid (Only (fun _ => False) w w8) := (HW.out.trans O7.out (fun _ _ g => g)).trans o8 (fun _ _ g => g)
        clear o8 O7
        go_wp2
        go_ret
        exact ⟨rfl, O8.out⟩
      | true =>
        obtain ⟨vx, vy, vz, hT4, sa, sb, sc⟩ := HV.out
        obtain ⟨hp, hq, hr, hF⟩ := HPQ.out
        have Co : Hid _ := co_calls vx sa hT4.1 hp.symm
        have Eyx : Hid _ := eq_calls vy vx sb sa hT4.1
        have Eyz : Hid _ := eq_calls vy vz sb sc hT4.1
        have Exz : Hid _ := eq_calls vx vz sa sc hT4.1
        obtain ⟨YZ, hYZ⟩ : ∃ F, F = smV (2 * d + 1) false (nm d false b) (nm d false c) := ⟨_, rfl⟩
        obtain ⟨XZ, hXZ⟩ : ∃ F, F = smV (2 * d + 1) false (nm d false a) (nm d false c) := ⟨_, rfl⟩
        have e1 := sm_nm sa sb hp.symm hq.symm
        have e2 := sm_nm sb sa hq.symm hp.symm
        have e3 := sm_nm sb sc hq.symm hr.symm
        have e4 := sm_nm sa sc hp.symm hr.symm
        have hyx : smV (2 * d + 1) false (nm d false b) (nm d false a) = F := by
          rw [hF]
          apply Bool.eq_iff_iff.2
          rw [e1, e2]
          exact ⟨fun g => g.symm, fun g => g.symm⟩
        rw [← hp, ← hq, hyx] at Eyx
        rw [← hq, ← hr, ← hYZ] at Eyz
        rw [← hp, ← hr, ← hXZ] at Exz
        rw [← hF] at e1
        rw [← hYZ] at e3
        rw [← hXZ] at e4
        have HX : Hid ((F = true → nm d false a = nm d false b) ∧ (F = true → YZ = true → XZ = true)) := ⟨fun g => e1.1 g, fun g g' => e4.2 ((e1.1 g).trans (e3.1 g'))⟩
        clear vx vy vz hT4 sa sb sc hp hq hr hF e1 e2 e3 e4 hyx hYZ hXZ
        go_wp2_with fail
        refine (show Calls Tryz.prog 17 _ _ _ from Co.out _ O7.out).mono ?_
        rintro e w8 ⟨own, rfl, G8⟩
        have O8 : Hid (Only (fun _ => False) w4 w8) := O7.out.trans G8.out.2 (fun _ _ g => g)
        have Exo : Hid (∀ v, Only (fun _ => False) w8 v → Calls Tryz.prog 27 #[x, own] v fun e w' => e = .returned (.tuple #[.bool true, .int .i64 0]) ∧ Only (fun _ => False) v w') := by
          obtain ⟨vx, vy, vz, hT4, sa, sb, sc⟩ := HV.out
          have key := eq_calls (vx.only O8.out (fun _ _ g => g)) G8.out.1 sa sa (hT4.1.frame O8.out)
          have hp := HPQ.out.1.symm
          rw [hp, (sm_nm sa sa hp hp).2 rfl] at key
          exact key
        clear Co G8 O7
        go_wp2_with fail
        refine (show Calls Tryz.prog 27 _ _ _ from Exo.out _ (Only.refl _ _)).mono ?_
        rintro e w9 ⟨rfl, o9⟩
        have O9 : Hid (Only (fun _ => False) w4 w9) := O8.out.trans o9 (fun _ _ g => g)
        clear o9 O8 Exo
        go_wp2_with fail
        refine (show Calls Tryz.prog 27 _ _ _ from Exy.out _ O9.out).mono ?_
        rintro e w10 ⟨rfl, o10⟩
        have O10 : Hid (Only (fun _ => False) w4 w10) := O9.out.trans o10 (fun _ _ g => g)
        clear o10 O9
        go_wp2_with fail
        refine (show Calls Tryz.prog 27 _ _ _ from Eyx.out _ O10.out).mono ?_
        rintro e w11 ⟨rfl, o11⟩
        have O11 : Hid (Only (fun _ => False) w4 w11) := O10.out.trans o11 (fun _ _ g => g)
        clear o11 O10
        go_wp2_with fail
        refine (show Calls Tryz.prog 27 _ _ _ from Eyz.out _ O11.out).mono ?_
        rintro e w12 ⟨rfl, o12⟩
        have O12 : Hid (Only (fun _ => False) w4 w12) := O11.out.trans o12 (fun _ _ g => g)
        clear o12 O11
        go_wp2_with fail
        refine (show Calls Tryz.prog 27 _ _ _ from Exz.out _ O12.out).mono ?_
        rintro e w13 ⟨rfl, o13⟩
        have O13 : Hid (Only (fun _ => False) w4 w13) := O12.out.trans o13 (fun _ _ g => g)
        clear o13 O12 Exy Eyx Eyz Exz Cx Cy Cz O4'
        simp only [Bool.true_and]
        cases F with
        | false =>
          have OF : Hid (Only (fun _ => False) w w13) := HW.out.trans O13.out (fun _ _ g => g)
          clear HX HV HPQ
          go_wp2
          go_ret
          exact ⟨rfl, OF.out⟩
        | true =>
          obtain ⟨vx, vy, vz, hT4, sa, sb, sc⟩ := HV.out
          obtain ⟨hp, hq, hr, hF⟩ := HPQ.out
          have Tx1 : Hid _ := tx_calls vx sa hT4 hp.symm
          have Ty1 : Hid _ := tx_calls vy sb hT4 hq.symm
          have Sx1 : Hid _ := sz_calls vx sa hT4.1 hp.symm
          have Sy1 : Hid _ := sz_calls vy sb hT4.1 hq.symm
          rw [← HX.out.1 rfl] at Ty1 Sy1
          obtain ⟨T, hT⟩ : ∃ T, T = txtV (2 * d + 1) (nm d false a) := ⟨_, rfl⟩
          obtain ⟨M, hM⟩ : ∃ M : Int, M = (sz (2 * d + 1) false (nm d false a) : Int) := ⟨_, rfl⟩
          rw [← hT] at Tx1 Ty1
          rw [← hM] at Sx1 Sy1
          have HYZ : Hid (YZ = true → XZ = true) := HX.out.2 rfl
          clear vx vy vz hT4 sa sb sc hp hq hr hF hT hM HV HPQ HX
          have tail : ∀ W : World, Only (fun _ => False) w4 W → True := fun _ _ => trivial
          cases YZ with
          | false =>
            cases XZ with
            | false =>
              go_wp2_with fail
              refine (show Calls Tryz.prog 15 _ _ _ from Tx1.out _ O13.out).mono ?_
              rintro e w14 ⟨rfl, o14⟩
              have O14 : Hid (Only (fun _ => False) w4 w14) := O13.out.trans o14 (fun _ _ g => g)
              clear o14 O13
              go_wp2_with fail
              refine (show Calls Tryz.prog 15 _ _ _ from Ty1.out _ O14.out).mono ?_
              rintro e w15 ⟨rfl, o15⟩
              have O15 : Hid (Only (fun _ => False) w4 w15) := O14.out.trans o15 (fun _ _ g => g)
              clear o15 O14
              go_wp2_with fail
              refine (show Calls Tryz.prog 13 _ _ _ from Sx1.out _ O15.out).mono ?_
              rintro e w16 ⟨rfl, o16⟩
              have O16 : Hid (Only (fun _ => False) w4 w16) := O15.out.trans o16 (fun _ _ g => g)
              clear o16 O15
              go_wp2_with fail
              refine (show Calls Tryz.prog 13 _ _ _ from Sy1.out _ O16.out).mono ?_
              rintro e w17 ⟨rfl, o17⟩
              have O17 : Hid (Only (fun _ => False) w w17) := (HW.out.trans O16.out (fun _ _ g => g)).trans o17 (fun _ _ g => g)
              clear o17 O16 Tx1 Ty1 Sx1 Sy1
              go_wp2
              go_ret
              exact ⟨by simp, O17.out⟩
            | true =>
              go_wp2_with fail
              refine (show Calls Tryz.prog 15 _ _ _ from Tx1.out _ O13.out).mono ?_
              rintro e w14 ⟨rfl, o14⟩
              have O14 : Hid (Only (fun _ => False) w4 w14) := O13.out.trans o14 (fun _ _ g => g)
              clear o14 O13
              go_wp2_with fail
              refine (show Calls Tryz.prog 15 _ _ _ from Ty1.out _ O14.out).mono ?_
              rintro e w15 ⟨rfl, o15⟩
              have O15 : Hid (Only (fun _ => False) w4 w15) := O14.out.trans o15 (fun _ _ g => g)
              clear o15 O14
              go_wp2_with fail
              refine (show Calls Tryz.prog 13 _ _ _ from Sx1.out _ O15.out).mono ?_
              rintro e w16 ⟨rfl, o16⟩
              have O16 : Hid (Only (fun _ => False) w4 w16) := O15.out.trans o16 (fun _ _ g => g)
              clear o16 O15
              go_wp2_with fail
              refine (show Calls Tryz.prog 13 _ _ _ from Sy1.out _ O16.out).mono ?_
              rintro e w17 ⟨rfl, o17⟩
              have O17 : Hid (Only (fun _ => False) w w17) := (HW.out.trans O16.out (fun _ _ g => g)).trans o17 (fun _ _ g => g)
              clear o17 O16 Tx1 Ty1 Sx1 Sy1
              go_wp2
              go_ret
              exact ⟨by simp, O17.out⟩
          | true =>
            obtain rfl : XZ = true := HYZ.out rfl
            go_wp2_with fail
            refine (show Calls Tryz.prog 15 _ _ _ from Tx1.out _ O13.out).mono ?_
            rintro e w14 ⟨rfl, o14⟩
            have O14 : Hid (Only (fun _ => False) w4 w14) := O13.out.trans o14 (fun _ _ g => g)
            clear o14 O13
            go_wp2_with fail
            refine (show Calls Tryz.prog 15 _ _ _ from Ty1.out _ O14.out).mono ?_
            rintro e w15 ⟨rfl, o15⟩
            have O15 : Hid (Only (fun _ => False) w4 w15) := O14.out.trans o15 (fun _ _ g => g)
            clear o15 O14
            go_wp2_with fail
            refine (show Calls Tryz.prog 13 _ _ _ from Sx1.out _ O15.out).mono ?_
            rintro e w16 ⟨rfl, o16⟩
            have O16 : Hid (Only (fun _ => False) w4 w16) := O15.out.trans o16 (fun _ _ g => g)
            clear o16 O15
            go_wp2_with fail
            refine (show Calls Tryz.prog 13 _ _ _ from Sy1.out _ O16.out).mono ?_
            rintro e w17 ⟨rfl, o17⟩
            have O17 : Hid (Only (fun _ => False) w w17) := (HW.out.trans O16.out (fun _ _ g => g)).trans o17 (fun _ _ g => g)
            clear o17 O16 Tx1 Ty1 Sx1 Sy1
            go_wp2
            go_ret
            exact ⟨by simp, O17.out⟩
end Go.Proofs.YtdfbnnephfoboaaGreatDoor
namespace Go.Proofs.YtdfbnnephfoboaaGreatDoor
open Go.RowKit Go.ChangeShapes Go.WideShapes
set_option linter.unusedVariables false
set_option linter.unusedSimpArgs false
theorem vfour {α : Type} : ∀ (l : List α), l.length = 4 → ∃ a b c d, l = [a, b, c, d]
  | [a, b, c, d], _ => ⟨a, b, c, d, rfl⟩
theorem vexists_list {α : Type} : ∀ (len : Nat) (p : Nat → α → Prop), (∀ i, i < len → ∃ x, p i x) → ∃ l : List α, l.length = len ∧ ∀ i (h : i < l.length), p i l[i]
  | 0, _, _ => ⟨[], rfl, fun i h => by simp at h⟩
  | n + 1, p, hp => by
    obtain ⟨l, hl, hq⟩ := vexists_list n p (fun i hi => hp i (by omega))
    obtain ⟨x, hx⟩ := hp n (by omega)
    refine ⟨l ++ [x], by simp [hl], fun i hi => ?_⟩
    by_cases e : i < l.length
    · rw [List.getElem_append_left e]; exact hq i e
    · have : i = l.length := by simp at hi; omega
      subst this
      rw [List.getElem_append_right (by omega)]
      simpa [hl] using hx
theorem vuniform (q : Nat → Nat → Prop) (hm : ∀ i d d', d ≤ d' → q i d → q i d') : ∀ len, (∀ i, i < len → ∃ d, q i d) → ∃ D, ∀ i, i < len → q i D
  | 0, _ => ⟨0, fun i h => by omega⟩
  | n + 1, h => by
    obtain ⟨D, hD⟩ := vuniform q hm n (fun i hi => h i (by omega))
    obtain ⟨d, hd⟩ := h n (by omega)
    refine ⟨max D d, fun i hi => ?_⟩
    by_cases e : i < n
    · exact hm i D _ (by omega) (hD i e)
    · obtain rfl : i = n := by omega
      exact hm i d _ (by omega) hd
theorem vcellsI : Tryz.prog.cellsOf 3 = 1 := by kernel_rfl
theorem vcellsN : Tryz.prog.cellsOf 2 = 1 := by kernel_rfl
theorem vcellsS : Tryz.prog.cellsOf 9 = 1 := by kernel_rfl
theorem vcellsL : Tryz.prog.cellsOf 22 = 1 := by kernel_rfl
theorem vcellsV : Tryz.prog.cellsOf 24 = 4 := by kernel_rfl
section
variable {H : Type} {enc : TypeId × Value → H} {w : World} {base : Nat} {held : Bool}
theorem vcells_get {a : Addr} {n : Nat} {cs : List Value} (h : w.cells? base a n = some cs) : cs.length = n ∧ ∀ j v, cs[j]? = some v → w.cell? (a.add j) = some v := by
  unfold World.cells? at h
  split at h
  · refine ⟨by simpa using mapM_some_length h, fun j v hv => ?_⟩
    have hj : j < n := by
      have := (List.getElem?_eq_some_iff.1 hv).1
      have hl : cs.length = n := by simpa using mapM_some_length h
      omega
    have := mapM_some_get h j j (by simp [hj])
    rw [this]; exact hv
  · cases h
theorem vbulk_mem : ∀ (l : List (DataW H)) (d : DataW H), d ∈ l → Rows.uptoBulk d ≤ Rows.uptoBulkAll l
  | [], _, h => by cases h
  | a :: r, d, h => by
    simp only [Rows.uptoBulkAll]
    rcases List.mem_cons.1 h with rfl | h
    · omega
    · have := vbulk_mem r d h
      omega
theorem vbulk_pos (d : DataW H) : 0 < Rows.uptoBulk d := by
  rcases d with l | _ | _ | _ | _ | _ | _ | _ <;> try simp [Rows.uptoBulk]
  cases l <;> simp [Rows.uptoBulk]
theorem vbulk_len : ∀ (l : List (DataW H)), l.length ≤ Rows.uptoBulkAll l
  | [] => by simp [Rows.uptoBulkAll]
  | d :: r => by
    have := vbulk_len r
    have := vbulk_pos d
    simp only [Rows.uptoBulkAll, List.length_cons]
    omega
theorem vbounds {n : Int} (h : (Lit.int .i64 n).wf = true) : -9223372036854775808 ≤ n ∧ n ≤ 9223372036854775807 := by
  have := h
  simp only [Lit.wf, Bool.and_eq_true, decide_eq_true_eq] at this
  exact this
theorem read_v (fuel : Nat) : ∀ {cs : List Value} {x : DataW H × List MemPlace}, DataW.trod enc Tryz.prog w base (fun _ => true) held fuel 24 cs = some x → Rows.uptoBulk x.1 ≤ 1048576 → ∃ (t : Vt) (lv : Value) (d : Nat), cs = [.int .i64 t.k, .int .i64 t.n, .string t.s, lv] ∧ SmT d t ∧ VsAt w (fun _ => True) d t.l lv := by
  induction fuel using Nat.strongRecOn with
  | ind fuel ih =>
  intro cs x h hb
  obtain ⟨xs, n, hn, rfl, hl, hxl, hf⟩ := DataW.trod_struct Tryz.underlying24 h
  rw [vcellsV] at hl
  obtain ⟨c0, c1, c2, c3, rfl⟩ := vfour cs hl
  obtain ⟨y0, y1, y2, y3, rfl⟩ := vfour xs hxl
  have g0 : DataW.trod enc Tryz.prog w base (fun _ => true) held n 3 (([c0, c1, c2, c3].drop 0).take (Tryz.prog.cellsOf 3)) = some y0 := hf 0 _ rfl
  have g1 : DataW.trod enc Tryz.prog w base (fun _ => true) held n 2 (([c0, c1, c2, c3].drop 1).take (Tryz.prog.cellsOf 2)) = some y1 := hf 1 _ rfl
  have g2 : DataW.trod enc Tryz.prog w base (fun _ => true) held n 9 (([c0, c1, c2, c3].drop 2).take (Tryz.prog.cellsOf 9)) = some y2 := hf 2 _ rfl
  have g3 : DataW.trod enc Tryz.prog w base (fun _ => true) held n 22 (([c0, c1, c2, c3].drop 3).take (Tryz.prog.cellsOf 22)) = some y3 := hf 3 _ rfl
  rw [vcellsI] at g0
  rw [vcellsN] at g1
  rw [vcellsS] at g2
  rw [vcellsL] at g3
  simp only [List.drop_succ_cons, List.drop_zero, List.take_succ_cons, List.take_zero] at g0 g1 g2 g3
  obtain ⟨n0, e0, _, w0⟩ := DataW.trod_int Tryz.underlying3 g0
  obtain ⟨n1, e1, _, w1⟩ := DataW.trod_int Tryz.underlying2 g1
  obtain ⟨s, e2, hs2, _⟩ := DataW.trod_string Tryz.underlying9 g2
  simp only [List.cons.injEq, and_true] at e0 e1 e2
  subst e0 e1 e2
  simp only [List.map_cons, List.map_nil, Rows.uptoBulk, Rows.uptoBulkAll] at hb
  have hs : s.size ≤ 1048576 := by
    rw [hs2] at hb
    simp only [Rows.uptoBulk] at hb
    have : s.data.toList.length = s.size := Array.length_toList
    omega
  rcases DataW.trod_slice Tryz.underlying22 g3 with ⟨hcs, _⟩ | ⟨a, len, cap, elems, rest, m, hm, hcs, hx, _, hlc, _, hel, hget, _, _⟩
  · simp only [List.cons.injEq, and_true] at hcs
    subst hcs
    exact ⟨⟨n0, n1, s, []⟩, _, 1, rfl, ⟨(by dsimp only; omega), Nat.zero_le _, vbounds w0, vbounds w1, fun x hx => by cases hx⟩, none, 0, rfl, Nat.zero_le _, fun i x hx => by simp at hx⟩
  · simp only [List.cons.injEq, and_true] at hcs
    subst hcs
    have hb3 : Rows.uptoBulkAll (elems.map (·.1)) ≤ 1048576 := by
      rw [hx] at hb
      simp only [Rows.uptoBulk] at hb
      omega
    have hlen : len ≤ 1048576 := by
      have := vbulk_len (elems.map (·.1))
      simp at this
      omega
    obtain ⟨ts, htl, hts⟩ := vexists_list len (fun i (t : Vt) => ∃ lv d, (∀ j v, ([.int .i64 t.k, .int .i64 t.n, .string t.s, lv] : List Value)[j]? = some v → w.cell? (a.add (i * 4 + j)) = some v) ∧ SmT d t ∧ VsAt w (fun _ => True) d t.l lv) (fun i hi => by
      have h1 := hget i hi
      rw [vcellsV] at h1
      have hie : i < elems.length := by omega
      rw [List.getElem?_eq_getElem hie] at h1
      obtain ⟨cs', h2, h3⟩ := Option.bind_eq_some_iff.1 h1
      have hbi : Rows.uptoBulk (elems[i]).1 ≤ 1048576 := by
        have := vbulk_mem (elems.map (·.1)) (elems[i]).1 (List.mem_map.2 ⟨_, List.getElem_mem hie, rfl⟩)
        omega
      obtain ⟨t, lv, d, hc, q1, q2⟩ := ih m (by omega) h3 hbi
      refine ⟨t, lv, d, fun j v hv => ?_, q1, q2⟩
      rw [← hc] at hv
      rw [← Deep.add_add]
      exact (vcells_get h2).2 j v hv)
    obtain ⟨D, hD⟩ := vuniform (fun i d => ∀ (h : i < ts.length), ∃ lv, (∀ j v, ([.int .i64 ts[i].k, .int .i64 ts[i].n, .string ts[i].s, lv] : List Value)[j]? = some v → w.cell? (a.add (i * 4 + j)) = some v) ∧ SmT d ts[i] ∧ VsAt w (fun _ => True) d ts[i].l lv) (fun i d d' hd hq h => by
      obtain ⟨lv, q1, q2, q3⟩ := hq h
      exact ⟨lv, q1, q2.mono hd, q3.step (fun _ g => g) (fun _ _ _ g => g) hd⟩) ts.length (fun i hi => by
      obtain ⟨lv, d, q1, q2, q3⟩ := hts i hi
      exact ⟨d, fun _ => ⟨lv, q1, q2, q3⟩⟩)
    refine ⟨⟨n0, n1, s, ts⟩, _, D + 1, rfl, ⟨(by dsimp only; omega), by dsimp only; omega, vbounds w0, vbounds w1, fun x hx => ?_⟩, some a, cap, by dsimp only; rw [htl], by dsimp only; omega, fun i x hx => ?_⟩
    · obtain ⟨i, hi, rfl⟩ := List.getElem_of_mem hx
      obtain ⟨lv, q1, q2, q3⟩ := hD i hi hi
      exact q2
    · dsimp only at hx
      obtain ⟨hi, rfl⟩ := List.getElem?_eq_some_iff.1 hx
      obtain ⟨lv, q1, q2, q3⟩ := hD i hi hi
      have p0 := q1 0 _ rfl
      have p1 := q1 1 _ rfl
      have p2 := q1 2 _ rfl
      have p3 := q1 3 _ rfl
      have h0 : 0 < ts.length := by omega
      obtain ⟨lv0, z1, _, _⟩ := hD 0 h0 h0
      have hsp := World.cell?_spot (z1 0 _ rfl)
      obtain ⟨g, o, spot⟩ := a
      have hs0 : spot = none := by simpa [Addr.add] using hsp
      subst hs0
      rw [Addr.add_mid] at p0 p1 p2 p3
      exact ⟨g, o, lv, rfl, trivial, ⟨p0, by rw [Nat.add_assoc]; exact p1, by rw [Nat.add_assoc]; exact p2, by rw [Nat.add_assoc]; exact p3⟩, q3⟩
end
end Go.Proofs.YtdfbnnephfoboaaGreatDoor
namespace Go.Proofs.YtdfbnnephfoboaaGreatDoor
open Go.RowKit Go.ChangeShapes Go.WideShapes
set_option linter.unusedVariables false
set_option linter.unusedSimpArgs false
theorem vbytesV : Tryz.prog.bytesOf 24 = 56 := by kernel_rfl
section
variable {H : Type} {enc : TypeId × Value → H} {w : World} {base : Nat} {held : Bool}
theorem vweights_mem : ∀ (l : List (DataW H)) (d : DataW H), d ∈ l → (DataW.weightsAll Tryz.prog 24 l).all (· ≤ reachBytes) = true → (d.weights Tryz.prog 24).all (· ≤ reachBytes) = true
  | [], _, h, _ => by cases h
  | a :: r, d, h, g => by
    simp only [DataW.weightsAll, List.all_append, Bool.and_eq_true] at g
    rcases List.mem_cons.1 h with rfl | h
    · exact g.1
    · exact vweights_mem r d h g.2
theorem read_w (fuel : Nat) : ∀ {cs : List Value} {x : DataW H × List MemPlace}, DataW.trod enc Tryz.prog w base (fun _ => true) held fuel 24 cs = some x → (x.1.weights Tryz.prog 24).all (· ≤ reachBytes) = true → ∃ (t : Vt) (lv : Value) (d : Nat), cs = [.int .i64 t.k, .int .i64 t.n, .string t.s, lv] ∧ SmT d t ∧ VsAt w (fun _ => True) d t.l lv := by
  induction fuel using Nat.strongRecOn with
  | ind fuel ih =>
  intro cs x h hb
  obtain ⟨xs, n, hn, rfl, hl, hxl, hf⟩ := DataW.trod_struct Tryz.underlying24 h
  rw [vcellsV] at hl
  obtain ⟨c0, c1, c2, c3, rfl⟩ := vfour cs hl
  obtain ⟨y0, y1, y2, y3, rfl⟩ := vfour xs hxl
  have g0 : DataW.trod enc Tryz.prog w base (fun _ => true) held n 3 (([c0, c1, c2, c3].drop 0).take (Tryz.prog.cellsOf 3)) = some y0 := hf 0 _ rfl
  have g1 : DataW.trod enc Tryz.prog w base (fun _ => true) held n 2 (([c0, c1, c2, c3].drop 1).take (Tryz.prog.cellsOf 2)) = some y1 := hf 1 _ rfl
  have g2 : DataW.trod enc Tryz.prog w base (fun _ => true) held n 9 (([c0, c1, c2, c3].drop 2).take (Tryz.prog.cellsOf 9)) = some y2 := hf 2 _ rfl
  have g3 : DataW.trod enc Tryz.prog w base (fun _ => true) held n 22 (([c0, c1, c2, c3].drop 3).take (Tryz.prog.cellsOf 22)) = some y3 := hf 3 _ rfl
  rw [vcellsI] at g0
  rw [vcellsN] at g1
  rw [vcellsS] at g2
  rw [vcellsL] at g3
  simp only [List.drop_succ_cons, List.drop_zero, List.take_succ_cons, List.take_zero] at g0 g1 g2 g3
  obtain ⟨n0, e0, _, w0⟩ := DataW.trod_int Tryz.underlying3 g0
  obtain ⟨n1, e1, _, w1⟩ := DataW.trod_int Tryz.underlying2 g1
  obtain ⟨s, e2, hs2, _⟩ := DataW.trod_string Tryz.underlying9 g2
  simp only [List.cons.injEq, and_true] at e0 e1 e2
  subst e0 e1 e2
  have hb' : (DataW.weights Tryz.prog 9 y2.1).all (· ≤ reachBytes) = true ∧ (DataW.weights Tryz.prog 22 y3.1).all (· ≤ reachBytes) = true := by
    simp only [DataW.weights, Tryz.underlying24, List.map_cons, List.map_nil, DataW.weightsEach, List.all_append, Bool.and_eq_true] at hb
    exact ⟨hb.2.2.1, hb.2.2.2.1⟩
  have hr : reachBytes = 140737488351232 := rfl
  have hs : s.size ≤ 140737488355328 := by
    have h1 := hb'.1
    rw [hs2] at h1
    simp only [DataW.weights, List.all_cons, List.all_nil, Bool.and_true, decide_eq_true_eq] at h1
    have : s.data.toList.length = s.size := Array.length_toList
    omega
  rcases DataW.trod_slice Tryz.underlying22 g3 with ⟨hcs, _⟩ | ⟨a, len, cap, elems, rest, m, hm, hcs, hx, _, hlc, _, hel, hget, _, _⟩
  · simp only [List.cons.injEq, and_true] at hcs
    subst hcs
    exact ⟨⟨n0, n1, s, []⟩, _, 1, rfl, ⟨(by dsimp only; omega), Nat.zero_le _, vbounds w0, vbounds w1, fun x hx => by cases hx⟩, none, 0, rfl, Nat.zero_le _, fun i x hx => by simp at hx⟩
  · simp only [List.cons.injEq, and_true] at hcs
    subst hcs
    have hb3 : (elems.length + rest.length) * 56 ≤ reachBytes ∧ (DataW.weightsAll Tryz.prog 24 (elems.map (·.1))).all (· ≤ reachBytes) = true := by
      have h1 := hb'.2
      rw [hx] at h1
      simp only [DataW.weights, Tryz.underlying22, List.all_cons, List.all_append, Bool.and_eq_true, decide_eq_true_eq, vbytesV, List.length_map] at h1
      exact ⟨h1.1, h1.2.1⟩
    have hlen : len ≤ 2600000000000 := by omega
    obtain ⟨ts, htl, hts⟩ := vexists_list len (fun i (t : Vt) => ∃ lv d, (∀ j v, ([.int .i64 t.k, .int .i64 t.n, .string t.s, lv] : List Value)[j]? = some v → w.cell? (a.add (i * 4 + j)) = some v) ∧ SmT d t ∧ VsAt w (fun _ => True) d t.l lv) (fun i hi => by
      have h1 := hget i hi
      rw [vcellsV] at h1
      have hie : i < elems.length := by omega
      rw [List.getElem?_eq_getElem hie] at h1
      obtain ⟨cs', h2, h3⟩ := Option.bind_eq_some_iff.1 h1
      have hbi : ((elems[i]).1.weights Tryz.prog 24).all (· ≤ reachBytes) = true := vweights_mem (elems.map (·.1)) (elems[i]).1 (List.mem_map.2 ⟨_, List.getElem_mem hie, rfl⟩) hb3.2
      obtain ⟨t, lv, d, hc, q1, q2⟩ := ih m (by omega) h3 hbi
      refine ⟨t, lv, d, fun j v hv => ?_, q1, q2⟩
      rw [← hc] at hv
      rw [← Deep.add_add]
      exact (vcells_get h2).2 j v hv)
    obtain ⟨D, hD⟩ := vuniform (fun i d => ∀ (h : i < ts.length), ∃ lv, (∀ j v, ([.int .i64 ts[i].k, .int .i64 ts[i].n, .string ts[i].s, lv] : List Value)[j]? = some v → w.cell? (a.add (i * 4 + j)) = some v) ∧ SmT d ts[i] ∧ VsAt w (fun _ => True) d ts[i].l lv) (fun i d d' hd hq h => by
      obtain ⟨lv, q1, q2, q3⟩ := hq h
      exact ⟨lv, q1, q2.mono hd, q3.step (fun _ g => g) (fun _ _ _ g => g) hd⟩) ts.length (fun i hi => by
      obtain ⟨lv, d, q1, q2, q3⟩ := hts i hi
      exact ⟨d, fun _ => ⟨lv, q1, q2, q3⟩⟩)
    refine ⟨⟨n0, n1, s, ts⟩, _, D + 1, rfl, ⟨(by dsimp only; omega), by dsimp only; omega, vbounds w0, vbounds w1, fun x hx => ?_⟩, some a, cap, by dsimp only; rw [htl], by dsimp only; omega, fun i x hx => ?_⟩
    · obtain ⟨i, hi, rfl⟩ := List.getElem_of_mem hx
      obtain ⟨lv, q1, q2, q3⟩ := hD i hi hi
      exact q2
    · dsimp only at hx
      obtain ⟨hi, rfl⟩ := List.getElem?_eq_some_iff.1 hx
      obtain ⟨lv, q1, q2, q3⟩ := hD i hi hi
      have p0 := q1 0 _ rfl
      have p1 := q1 1 _ rfl
      have p2 := q1 2 _ rfl
      have p3 := q1 3 _ rfl
      have h0 : 0 < ts.length := by omega
      obtain ⟨lv0, z1, _, _⟩ := hD 0 h0 h0
      have hsp := World.cell?_spot (z1 0 _ rfl)
      obtain ⟨g, o, spot⟩ := a
      have hs0 : spot = none := by simpa [Addr.add] using hsp
      subst hs0
      rw [Addr.add_mid] at p0 p1 p2 p3
      exact ⟨g, o, lv, rfl, trivial, ⟨p0, by rw [Nat.add_assoc]; exact p1, by rw [Nat.add_assoc]; exact p2, by rw [Nat.add_assoc]; exact p3⟩, q3⟩
end
end Go.Proofs.YtdfbnnephfoboaaGreatDoor
