import Derived.Test.YtenjollhlgjjdaaGreatDoorGab
import Derived.Test.YtenjollhlgjjdaaGreatDoorGaa
import Derived.Lib.ItoaLen
import Derived.Lib.ItoaMem
import Derived.Test.YtenjollhlgjjdaaGreatDoorGap
import Derived.Test.YtenjollhlgjjdaaGreatDoorGao
import Derived.Test.YtenjollhlgjjdaaGreatDoorGaj
import Derived.Test.YtenjollhlgjjdaaGreatDoorGay
import Derived.Test.YtenjollhlgjjdaaGreatDoorGaw
/-    -/
set_option linter.unusedSimpArgs false
set_option linter.unusedVariables false
set_option maxRecDepth 100000
set_option maxHeartbeats 40000000
namespace Go.Proofs.YtenjollhlgjjdaaGreatDoor
open Go.RowKit Go.Lib
theorem td_small {u : Nat} (h : u < 10) : decDigits u = [UInt8.ofNat (48 + u)] := by
 rw [decDigits]
 simp [h]
theorem td_big {u : Nat} (h : ¬ u < 10) : decDigits u = decDigits (u / 10) ++ [UInt8.ofNat (48 + u % 10)] := by
 rw [decDigits]
 simp [h]
def DdI (U m : Nat) (l : List UInt8) : Prop := (l = [] ∧ m = U) ∨ (l ≠ [] ∧ decDigits U = (if 0 < m then decDigits m else []) ++ l)
theorem DdI.more {U m : Nat} {l : List UInt8} (h : DdI U m l) (hm : 0 < m ∨ l = []) : DdI U (m / 10) (UInt8.ofNat (48 + m % 10) :: l) := by
 have key : ∀ m, (0 < m ∨ l = []) → decDigits m ++ l = (if 0 < m / 10 then decDigits (m / 10) else []) ++ (UInt8.ofNat (48 + m % 10) :: l) := fun m _ => by
  by_cases h10 : m < 10
  ·rw [td_small h10, if_neg (by omega), show m % 10 = m by omega]
   rfl
  ·rw [td_big h10, if_pos (by omega), List.append_assoc]
   rfl
 refine .inr ⟨by simp, ?_⟩
 rcases h with ⟨rfl, rfl⟩ | ⟨h1, h2⟩
 ·have := key m hm
  rwa [List.append_nil] at this
 ·rcases hm with hm | hm
  ·rw [h2, if_pos hm]
   exact key m (.inl hm)
  ·exact absurd hm h1
theorem DdI.len {U m : Nat} {l : List UInt8} (h : DdI U m l) : l.length ≤ (decDigits U).length := by
 rcases h with ⟨rfl, _⟩ | ⟨_, h⟩
 ·exact Nat.zero_le _
 ·rw [h, List.length_append]
  omega
theorem ba_cons (b : UInt8) (l : List UInt8) : (⟨#[b]⟩ : ByteArray) ++ (⟨l.toArray⟩ : ByteArray) = ⟨(b :: l).toArray⟩ := by
 apply ByteArray.ext
 simp
theorem dec_any {U : Nat} (hU : U ≤ 9223372036854775808) (hl : (decDigits U).length ≤ 21) (w : World) :
  Cz 124 #[.int .u64 (U : Int)] w fun e w' => e = .returned (.string ⟨(decDigits U).toArray⟩) ∧ Oz w w' := by
 have HO : Hid (Oz w w) := Only.refl _ _
 have HU : Hid (U ≤ 9223372036854775808 ∧ (decDigits U).length ≤ 21) := ⟨hU, hl⟩
 clear hU hl
 go_enter Tryz.func124, Tryz.ntmps124
 go_wp2
 go_loopw [0, 3] (fun u s w' => ∃ (m : Nat) (l : List UInt8), u = .int .u64 (m : Nat) ∧ s = .string ⟨l.toArray⟩ ∧ Hid (DdI U m l ∧ m ≤ U ∧ Oz w w')) (fun u s _ => uOf u + sOf s)
 case atStart => exact ⟨U, [], rfl, rfl, .inl ⟨rfl, rfl⟩, Nat.le_refl _, HO.out⟩
 case round =>
  obtain ⟨m, l, rfl, rfl, HI⟩ := hrel
  have hd10 : m % 10 < 10 := Nat.mod_lt _ (by omega)
  have hll : l.length ≤ 21 := Nat.le_trans HI.out.1.len HU.out.2
  have hcv : ∀ W : World, (convert 181 9 (.slice (some ⟨W.heap.size, 0, none⟩) 1 1)).run Tryz.prog (W.alloc (.cells #[.int .u8 (48 + (m : Int) % 10)] 5)) = .ok (.string ⟨#[UInt8.ofNat (48 + m % 10)]⟩) (W.alloc (.cells #[.int .u8 (48 + (m : Int) % 10)] 5)) := fun W => one_byte hd10 W
  have had : ∀ W : World, (Op.stringOp .add (⟨#[UInt8.ofNat (48 + m % 10)]⟩ : ByteArray) ⟨l.toArray⟩).run Tryz.prog W = .ok (.string ⟨(UInt8.ofNat (48 + m % 10) :: l).toArray⟩) W := fun W => by
   rw [run_string_add_sum, ba_cons]
   have e : (ByteArray.mk #[UInt8.ofNat (48 + m % 10)]).size = 1 := rfl
   have e2 : (ByteArray.mk l.toArray).size = l.length := by show l.toArray.size = _; simp
   omega
  have HN : Hid ((0 < m ∨ l = []) → DdI U (m / 10) (UInt8.ofNat (48 + m % 10) :: l) ∧ m / 10 ≤ U ∧ Oz w (wr.alloc (.cells #[.int .u8 (48 + (m : Int) % 10)] 5))) := fun g => ⟨HI.out.1.more g, by have := HI.out.2.1; omega, HI.out.2.2.alloc _⟩
  have hmU : m ≤ 9223372036854775808 := Nat.le_trans HI.out.2.1 HU.out.1
  have e3 : IntKind.u64.wrap ((m : Int) / 10) = ((m / 10 : Nat) : Int) := by rw [IntKind.wrap_u64]; omega
  obtain ⟨D, hD⟩ : ∃ D, D = (⟨#[UInt8.ofNat (48 + m % 10)]⟩ : ByteArray) := ⟨_, rfl⟩
  obtain ⟨l', hl'⟩ : ∃ l', l' = UInt8.ofNat (48 + m % 10) :: l := ⟨_, rfl⟩
  have HS : Hid (1 ≤ (ByteArray.mk l'.toArray).size) := by show 1 ≤ l'.toArray.size; rw [hl']; simp
  rw [← hD, ← hl'] at had
  rw [← hD] at hcv
  rw [← hl'] at HN
  clear hD hd10 hl'
  by_cases hm : 0 < m
  ·have i1 : (0 : Int) < (m : Int) := by omega
   clear HI hll
   go_wp2
   go_roundw
   case rel => exact ⟨m / 10, l', by first | rfl | go_num, rfl, HN.out (.inl hm)⟩
   case measure =>
    have := HS.out
    simp only [uOf, sOf] at this ⊢
    omega
  ·have i1 : ¬ (0 : Int) < (m : Int) := by omega
   have i0 : Hid (m = 0) := (by omega : m = 0)
   by_cases hs : l = []
   ·subst hs
    clear HI hll
    go_wp2
    go_roundw
    case rel => exact ⟨m / 10, l', by first | rfl | go_num, rfl, HN.out (.inr rfl)⟩
    case measure =>
     have := HS.out
     have e0 : (ByteArray.mk #[]).size = 0 := rfl
     have i0' : m = 0 := i0.out
     simp only [uOf, sOf, e0] at this ⊢
     omega
   ·have hz2 : (ByteArray.mk l.toArray).toList.isEmpty = false := by
     rw [ByteArray.toList_eq]
     cases l with
     | nil => exact absurd rfl hs
     | cons a b => rfl
    have HE : Hid (decDigits U = l ∧ Oz w wr) := by
     refine ⟨?_, HI.out.2.2⟩
     rcases HI.out.1 with ⟨g, _⟩ | ⟨_, g⟩
     ·exact absurd g hs
     ·rw [g, if_neg (by omega)]
      rfl
    obtain ⟨Lb, hLb⟩ : ∃ Lb, Lb = (ByteArray.mk l.toArray) := ⟨_, rfl⟩
    rw [← hLb] at hz2 had ⊢
    have HF : Hid ((ByteArray.mk (decDigits U).toArray) = Lb) := by show (ByteArray.mk (decDigits U).toArray) = Lb; rw [HE.out.1, hLb]
    clear HI HN HS hs hll hm hLb had hcv
    go_wp2
    go_ret
    exact ⟨by rw [show _ = Lb from HF.out]; rfl, HE.out.2⟩
theorem dd_len {U : Nat} (hU : U ≤ 9223372036854775808) : (decDigits U).length ≤ 21 := by
 by_cases h0 : U = 0
 ·subst h0
  rw [td_small (by omega)]
  decide
 ·have := itoa_length_le (-(U : Int)) (by omega) (by omega)
  rw [itoa_neg U (by omega), List.length_cons] at this
  omega
theorem signed_any {n : Int} (h1 : -9223372036854775808 ≤ n) (h2 : n ≤ 9223372036854775807) (w : World) :
  Cz 99 #[.int .i64 n] w fun e w' => e = .returned (.string ⟨(itoa n).toArray⟩) ∧ Oz w w' := by
 obtain ⟨U, hU⟩ : ∃ U, U = n.natAbs := ⟨_, rfl⟩
 have hle : U ≤ 9223372036854775808 := by omega
 have HC : Hid _ := dec_any hle (dd_len hle) w
 by_cases hn : n < 0
 ·have e1 : IntKind.u64.wrap n = n + 18446744073709551616 := by rw [IntKind.wrap_u64]; omega
  have e2 : IntKind.u64.wrap (-(n + 18446744073709551616)) = (U : Int) := by rw [IntKind.wrap_u64]; omega
  have hit : itoa n = 45 :: decDigits U := by unfold itoa; rw [if_pos hn, hU]
  have hdl := dd_len hle
  rw [hit]
  obtain ⟨l, hl⟩ : ∃ l, l = decDigits U := ⟨_, rfl⟩
  rw [← hl] at HC hdl ⊢
  have had : ∀ W : World, (Op.stringOp .add (⟨#[45]⟩ : ByteArray) ⟨l.toArray⟩).run Tryz.prog W = .ok (.string ⟨(45 :: l).toArray⟩) W := fun W => by
   rw [run_string_add_sum, ba_cons]
   have e : (ByteArray.mk #[45]).size = 1 := rfl
   have e2 : (ByteArray.mk l.toArray).size = l.length := by show l.toArray.size = _; simp
   omega
  clear hU hle hit hdl hl h1 h2
  go_enter Tryz.func99, Tryz.ntmps99
  go_wp2_with fail
  refine (show Cz 124 _ _ _ from HC.out).mono ?_
  rintro e w1 ⟨rfl, o1⟩
  have O1 : Hid (Oz w w1) := o1
  clear HC o1
  go_wp2
  go_ret
  exact ⟨rfl, O1.out⟩
 ·have e1 : IntKind.u64.wrap n = (U : Int) := by rw [IntKind.wrap_u64]; omega
  have hit : itoa n = decDigits U := by unfold itoa; rw [if_neg hn]; congr 1; omega
  rw [hit]
  obtain ⟨l, hl⟩ : ∃ l, l = decDigits U := ⟨_, rfl⟩
  rw [← hl] at HC ⊢
  clear hU hle hit hl h1 h2
  go_enter Tryz.func99, Tryz.ntmps99
  go_wp2_with fail
  refine (show Cz 124 _ _ _ from HC.out).mono ?_
  rintro e w1 ⟨rfl, o1⟩
  have O1 : Hid (Oz w w1) := o1
  clear HC o1
  go_wp2
  go_ret
  exact ⟨rfl, O1.out⟩
def opB (k : Int) : List UInt8 := if k = 5 then [91, 32] else [123, 32]
def shB (k : Int) : List UInt8 := if k = 5 then [93] else [125]
def tdD : Nat → Vt → List UInt8
 | 0, _ => []
 | d + 1, t => if t.k = 1 then itoa t.n else if t.k = 2 then (quoR t.s).1.data.toList else if t.k = 3 then (flT (t.n != 0)).data.toList else if t.k = 6 then [98, 111, 120] else if t.k = 7 then t.s.data.toList
   else opB t.k ++ t.l.flatMap (fun x => tdD d x ++ [32]) ++ shB t.k
theorem td_list {d : Nat} {t : Vt} (hk : t.k = 4 ∨ t.k = 5) : tdD (d + 1) t = opB t.k ++ t.l.flatMap (fun x => tdD d x ++ [32]) ++ shB t.k := by
 show (if t.k = 1 then _ else _) = _
 rw [if_neg (by omega), if_neg (by omega), if_neg (by omega), if_neg (by omega), if_neg (by omega)]
theorem td_def (d : Nat) (t : Vt) : tdD (d + 1) t = (if t.k = 1 then itoa t.n else if t.k = 2 then (quoR t.s).1.data.toList else if t.k = 3 then (flT (t.n != 0)).data.toList else if t.k = 6 then [98, 111, 120] else if t.k = 7 then t.s.data.toList
  else opB t.k ++ t.l.flatMap (fun x => tdD d x ++ [32]) ++ shB t.k) := rfl
theorem jn_app {a b : List (List UInt8)} {s : List UInt8} (ha : a ≠ []) (hb : b ≠ []) : join (a ++ b) s = join a s ++ s ++ join b s := by
 cases a with
 | nil => exact absurd rfl ha
 | cons x a =>
   cases b with
   | nil => exact absurd rfl hb
   | cons y b =>
     rw [List.cons_append, join_cons, join_cons, join_cons]
     simp [joinTail]
theorem jn_flat (f : Vt → List (List UInt8)) (e : List UInt8) : ∀ (l : List Vt), (∀ x ∈ l, f x ≠ []) → join (l.flatMap f ++ [e]) [32] = l.flatMap (fun x => join (f x) [32] ++ [32]) ++ e
 | [], _ => by simp [join_one]
 | x :: l, h => by
   rw [List.flatMap_cons, List.append_assoc, jn_app (h x (List.mem_cons_self ..)) (by simp), jn_flat f e l (fun y hy => h y (List.mem_cons_of_mem _ hy)), List.flatMap_cons]
   simp
theorem wdL_nz : ∀ (F : Nat) (i : Bool) (t : Vt), 2 ≤ F → wdL F i t ≠ []
 | 0, _, _, h => by omega
 | 1, _, _, h => by omega
 | F + 2, false, t, _ => wdL_ne (F + 1) t
 | F + 2, true, t, _ => by
   unfold wdL
   split
   ·simp
   ·exact wdL_ne F t
theorem td_join : ∀ (d : Nat) (t : Vt), LfT d t → ∀ (i : Bool) (F : Nat), 2 * d + 1 + (if i = true then 1 else 0) ≤ F → okD d i t = true → join ((wdL F i t).map (·.data.toList)) [32] = tdD d t
 | 0, _, h, _, _, _, _ => h.elim
 | d + 1, t, h, i, F, hF, hok => by
   have val : ∀ F', 2 * (d + 1) + 1 ≤ F' → okD (d + 1) false t = true → join ((wdL F' false t).map (·.data.toList)) [32] = tdD (d + 1) t := by
    intro F' hF' hok'
    obtain ⟨G, rfl⟩ : ∃ G, F' = G + 1 := ⟨F' - 1, by omega⟩
    unfold okD at hok'
    by_cases hk : t.k = 4 ∨ t.k = 5
    ·rw [if_pos hk, List.all_eq_true] at hok'
     have key : ∀ (j : Bool) (o c : UInt8), decide (t.k = 5) = j → opB t.k = [o, 32] → shB t.k = [c] → join (((⟨#[o]⟩ : ByteArray) :: (t.l.flatMap (wdL G j) ++ [⟨#[c]⟩])).map (·.data.toList)) [32] = tdD (d + 1) t := fun j o c hj ho hc => by
      rw [List.map_cons, List.map_append, show ([⟨#[c]⟩] : List ByteArray).map (·.data.toList) = [[c]] from rfl]
      have e1 : (t.l.flatMap (wdL G j)).map (·.data.toList) = t.l.flatMap (fun x => (wdL G j x).map (·.data.toList)) := by rw [List.map_flatMap]
      rw [e1, show ((⟨#[o]⟩ : ByteArray).data.toList :: (t.l.flatMap (fun x => (wdL G j x).map (·.data.toList)) ++ [[c]])) = [[o]] ++ (t.l.flatMap (fun x => (wdL G j x).map (·.data.toList)) ++ [[c]]) from rfl]
      rw [jn_app (by simp) (by simp), join_one, jn_flat _ _ _ (fun x hx => by simpa using wdL_nz G j x (by omega))]
      have e2 : t.l.flatMap (fun x => join ((wdL G j x).map (·.data.toList)) [32] ++ [32]) = t.l.flatMap (fun x => tdD d x ++ [32]) := by
       have : ∀ x ∈ t.l, join ((wdL G j x).map (·.data.toList)) [32] ++ [32] = tdD d x ++ [32] := fun x hx => by
        rw [td_join d x (h.2 x hx) j G (by split <;> omega) (by rw [← hj]; exact hok' x hx)]
       rw [List.flatMap_def, List.flatMap_def, List.map_congr_left this]
      rw [e2]
      rw [td_list hk, ho, hc]
      simp
     rcases hk with h4 | h5
     ·rw [show wdL (G + 1) false t = ⟨#[123]⟩ :: (t.l.flatMap (wdL G false) ++ [⟨#[125]⟩]) from if_pos h4]
      exact key false 123 125 (decide_eq_false (by omega)) (if_neg (by omega)) (if_neg (by omega))
     ·rw [show wdL (G + 1) false t = ⟨#[91]⟩ :: (t.l.flatMap (wdL G true) ++ [⟨#[93]⟩]) from (if_neg (by omega)).trans (if_pos h5)]
      exact key true 91 93 (decide_eq_true h5) (if_pos h5) (if_pos h5)
    ·rw [if_neg hk, if_neg (by simp)] at hok'
     unfold wdL
     rw [td_def, if_neg (by omega), if_neg (by omega)]
     by_cases h6 : t.k = 6
     ·rw [if_pos h6, if_neg (by omega), if_neg (by omega), if_neg (by omega), if_pos h6]
      rfl
     ·rw [if_neg h6]
      show join [(lfT t).data.toList] [32] = _
      rw [join_one]
      unfold lfT
      by_cases h1 : t.k = 1
      ·rw [if_pos h1, if_pos h1]
      ·rw [if_neg h1, if_neg h1]
       by_cases h2 : t.k = 2
       ·rw [if_pos h2, if_pos h2]
       ·rw [if_neg h2, if_neg h2]
        have h3 : t.k = 3 := by
         unfold alB at hok'
         rw [if_neg h1, if_neg h2, if_neg h6] at hok'
         exact of_decide_eq_true hok'
        rw [if_pos h3]
   cases i with
   | false => exact val F (by simpa using hF) hok
   | true =>
     obtain ⟨G, rfl⟩ : ∃ G, F = G + 1 := ⟨F - 1, by omega⟩
     by_cases h7 : t.k = 7
     ·rw [show wdL (G + 1) true t = [t.s] from if_pos h7]
      show join [t.s.data.toList] [32] = _
      rw [join_one, td_def]
      rw [if_neg (by omega), if_neg (by omega), if_neg (by omega), if_neg (by omega), if_pos h7]
     ·rw [show wdL (G + 1) true t = wdL G false t from if_neg h7]
      refine val G (by simp at hF; omega) ?_
      unfold okD at hok ⊢
      by_cases hk : t.k = 4 ∨ t.k = 5
      ·rw [if_pos hk] at hok ⊢; exact hok
      ·rw [if_neg hk, if_neg (fun g => h7 g.2)] at hok
       rw [if_neg hk, if_neg (fun g => h7 g.2)]
       exact hok
theorem sum_le {α : Type} (f g : α → Nat) (l : List α) (h : ∀ x ∈ l, f x ≤ g x) : (l.map f).sum ≤ (l.map g).sum := by
 induction l with
 | nil => simp
 | cons x l ih =>
   simp only [List.map_cons, List.sum_cons]
   have h1 := h x (List.mem_cons_self ..)
   have h2 := ih (fun y hy => h y (List.mem_cons_of_mem _ hy))
   omega
theorem sum_mul (c : Nat) {α : Type} (f : α → Nat) (l : List α) : (l.map (fun x => c * f x)).sum = c * (l.map f).sum := by
 induction l with
 | nil => simp
 | cons x l ih => simp only [List.map_cons, List.sum_cons, ih, Nat.mul_add]
theorem td_len : ∀ (d : Nat) (t : Vt) (i : Bool), okD d i t = true → (tdD d t).length + 1 ≤ 70000 * szD d t
 | 0, t, i, h => by unfold okD at h; cases h
 | d + 1, t, i, h => by
   have hs := szD_pos (d + 1) t
   unfold okD at h
   rw [td_def]
   by_cases hk : t.k = 4 ∨ t.k = 5
   ·rw [if_pos hk, List.all_eq_true] at h
    rw [if_neg (by omega), if_neg (by omega), if_neg (by omega), if_neg (by omega), if_neg (by omega)]
    have e1 : (t.l.flatMap (fun x => tdD d x ++ [32])).length ≤ (t.l.map (fun x => 70000 * szD d x)).sum := by
     rw [List.length_flatMap]
     refine sum_le _ _ _ (fun x hx => ?_)
     rw [List.length_append]
     exact td_len d x _ (h x hx)
    rw [sum_mul] at e1
    have e2 : (opB t.k).length = 2 := by unfold opB; split <;> rfl
    have e3 : (shB t.k).length = 1 := by unfold shB; split <;> rfl
    rw [List.length_append, List.length_append, e2, e3]
    unfold szD
    omega
   ·rw [if_neg hk] at h
    by_cases h7 : i = true ∧ t.k = 7
    ·rw [if_pos h7] at h
     unfold clB at h
     simp only [Bool.and_eq_true] at h
     have := (name_size h.1).1
     rw [if_neg (by omega), if_neg (by omega), if_neg (by omega), if_neg (by omega), if_pos h7.2]
     have e : t.s.data.toList.length = t.s.size := by rw [Array.length_toList]; rfl
     omega
    ·rw [if_neg h7] at h
     by_cases h1 : t.k = 1
     ·rw [if_pos h1]
      have hb : -1152921504606846976 ≤ t.n ∧ t.n ≤ 1152921504606846975 := by
       rw [show alB t = (decide (-1152921504606846976 ≤ t.n) && decide (t.n ≤ 1152921504606846975)) from if_pos h1] at h
       simpa using h
      have := itoa_length_le t.n (by omega) (by omega)
      omega
     ·rw [if_neg h1]
      by_cases h2 : t.k = 2
      ·rw [if_pos h2]
       have hb : t.s.size ≤ 4096 ∧ vlB t.s = true := by
        rw [show alB t = (decide (t.s.size ≤ 4096) && vlB t.s) from (if_neg (by omega)).trans (if_pos h2)] at h
        simpa using h
       have := (quo_sizes hb.1 hb.2).2
       have e : (quoR t.s).1.data.toList.length = (quoR t.s).1.size := by rw [Array.length_toList]; rfl
       omega
      ·rw [if_neg h2]
       by_cases h3 : t.k = 3
       ·rw [if_pos h3]
        cases t.n != 0 <;> (show 1 + 1 ≤ _; omega)
       ·rw [if_neg h3]
        by_cases h6 : t.k = 6
        ·rw [if_pos h6]
         show 3 + 1 ≤ _
         omega
        ·unfold alB at h
         rw [if_neg h1, if_neg h2, if_neg h6] at h
         exact absurd (of_decide_eq_true h) h3
def ToC (d : Nat) : Prop := ∀ (t : Vt) (lv : Value) (i : Bool) (w : World) (S : Nat → Prop), VsAt w S d t.l lv → okD d i t = true → (∃ e, SmT e t) → (tdD d t).length ≤ 100000000 →
 Cz 71 #[vV t.k t.n t.s lv] w fun e w' => e = .returned (.string ⟨(tdD d t).toArray⟩) ∧ Oz w w'
theorem ba_app (a b : List UInt8) : (⟨a.toArray⟩ : ByteArray) ++ (⟨b.toArray⟩ : ByteArray) = ⟨(a ++ b).toArray⟩ := by
 apply ByteArray.ext
 simp
theorem ba_size (a : List UInt8) : (ByteArray.mk a.toArray).size = a.length := by show a.toArray.size = _; simp
theorem ba_back (s : ByteArray) : (⟨s.data.toList.toArray⟩ : ByteArray) = s := by
 apply ByteArray.ext
 simp
theorem told_leaf (d : Nat) : ∀ (t : Vt) (lv : Value) (i : Bool) (w : World), ¬ (t.k = 4 ∨ t.k = 5) → okD (d + 1) i t = true → (-9223372036854775808 ≤ t.n ∧ t.n ≤ 9223372036854775807) → (∃ ao n cap, lv = .slice ao n cap) →
  Cz 71 #[vV t.k t.n t.s lv] w fun e w' => e = .returned (.string ⟨(tdD (d + 1) t).toArray⟩) ∧ Oz w w' := by
 intro t lv i w hk hok hn ⟨ao, N, cap, hlv⟩
 subst hlv
 obtain ⟨k, n, s, l⟩ := t
 dsimp only at hk hn ⊢
 unfold okD at hok
 dsimp only at hok
 rw [if_neg hk] at hok
 rw [td_def]
 unfold vV
 dsimp only
 have O0 : Hid (Oz w w) := Only.refl _ _
 by_cases h1 : k = 1
 ·subst h1
  rw [if_pos rfl]
  have HC : Hid (∀ w1, Cz 99 #[.int .i64 n] w1 fun e w' => e = .returned (.string ⟨(itoa n).toArray⟩) ∧ Oz w1 w') := fun w1 => signed_any hn.1 hn.2 w1
  clear hok hk hn
  go_enter Tryz.func71, Tryz.ntmps71
  go_wp2_with fail
  refine (show Cz 99 _ _ _ from HC.out _).mono ?_
  rintro e w1 ⟨rfl, o1⟩
  have O1 : Hid (Oz w w1) := (O0.out.alloc _).trans o1 (fun _ _ g => g)
  clear HC o1
  go_wp2
  go_ret
  exact ⟨rfl, O1.out⟩
 rw [if_neg h1]
 by_cases h2 : k = 2
 ·subst h2
  rw [if_pos rfl]
  have hb : s.size ≤ 4096 := by
   rw [if_neg (by omega)] at hok
   unfold alB at hok
   dsimp only at hok
   rw [if_neg (by omega), if_pos rfl] at hok
   simp at hok
   exact hok.1
  rw [ba_back]
  have HC : Hid (∀ w1, Cz 100 #[.string s] w1 fun e w' => e = .returned (.tuple #[.string (quoR s).1, .int .i64 (quoR s).2]) ∧ Oz w1 w') := fun w1 => rQuoted_any s (by omega) w1
  obtain ⟨Q, hQ⟩ : ∃ Q, Q = quoR s := ⟨_, rfl⟩
  rw [← hQ] at HC ⊢
  clear hok hk hn hQ hb
  go_enter Tryz.func71, Tryz.ntmps71
  go_wp2_with fail
  refine (show Cz 100 _ _ _ from HC.out _).mono ?_
  rintro e w1 ⟨rfl, o1⟩
  have O1 : Hid (Oz w w1) := (O0.out.alloc _).trans o1 (fun _ _ g => g)
  clear HC o1
  go_wp2
  go_ret
  exact ⟨rfl, O1.out⟩
 rw [if_neg h2]
 by_cases h3 : k = 3
 ·subst h3
  rw [if_pos rfl, ba_back]
  clear hok hk
  by_cases h0 : n = 0
  ·subst h0
   go_enter Tryz.func71, Tryz.ntmps71
   go_wp2
   go_ret
   exact ⟨rfl, O0.out.alloc _⟩
  ·have e0 : (n != 0) = true := by simpa using h0
   rw [e0]
   go_enter Tryz.func71, Tryz.ntmps71
   go_wp2
   go_ret
   exact ⟨rfl, O0.out.alloc _⟩
 rw [if_neg h3]
 by_cases h6 : k = 6
 ·subst h6
  rw [if_pos rfl]
  clear hok hk hn
  go_enter Tryz.func71, Tryz.ntmps71
  go_wp2
  go_ret
  exact ⟨rfl, O0.out.alloc _⟩
 rw [if_neg h6]
 by_cases h7 : k = 7
 ·subst h7
  rw [if_pos rfl, ba_back]
  clear hok hk hn
  go_enter Tryz.func71, Tryz.ntmps71
  go_wp2
  go_ret
  exact ⟨rfl, O0.out.alloc _⟩
 exfalso
 rw [if_neg (fun g => h7 g.2)] at hok
 unfold alB at hok
 dsimp only at hok
 rw [if_neg h1, if_neg h2, if_neg h6] at hok
 exact absurd (of_decide_eq_true hok) h3
theorem told_list (d : Nat) (H : ToC d) (n : Int) (s : ByteArray) (l : List Vt) (ao : Option Addr) (cap : Nat) (w : World) (S : Nat → Prop) (hv : VsAt w S (d + 1) l (.slice ao l.length cap)) (hok : ∀ x ∈ l, okD d false x = true) (hsm : ∀ x ∈ l, ∃ e, SmT e x) (hlen : l.length ≤ 1048576) (hb : ([123, 32] ++ l.flatMap (fun x => tdD d x ++ [32]) ++ [125]).length ≤ 100000000) :
  Cz 71 #[vV 4 n s (.slice ao l.length cap)] w fun e w' => e = .returned (.string ⟨([123, 32] ++ l.flatMap (fun x => tdD d x ++ [32]) ++ [125]).toArray⟩) ∧ Oz w w' := by
 obtain ⟨g', hg'⟩ : ∃ g' : Vt → List UInt8, g' = fun x => tdD d x ++ [32] := ⟨_, rfl⟩
 rw [← hg'] at hb ⊢
 obtain ⟨W, hW⟩ : ∃ W, W = w.alloc (.cells #[.int .i64 4, .int .i64 n, .string s, .slice ao l.length cap] 38) := ⟨_, rfl⟩
 obtain ⟨B, hB⟩ : ∃ B, B = w.heap.size := ⟨_, rfl⟩
 have oW : Oz w W := by rw [hW]; exact (Only.refl _ w).alloc _
 have bW : W.heap[B]? = some (.cells #[.int .i64 4, .int .i64 n, .string s, .slice ao l.length cap] 38) := by rw [hW]; exact valloc_at _ _ _ hB
 obtain ⟨ao', cap', he, hcap, hel⟩ := hv
 obtain ⟨rfl, rfl⟩ : ao = ao' ∧ cap = cap' := by simpa using he
 have hsz : ∀ (j : Nat) (x : Vt), l[j]? = some x → ([123, 32] ++ (l.take j).flatMap g').length + (tdD d x).length + 1 ≤ 100000000 ∧ [123, 32] ++ (l.take (j + 1)).flatMap g' = [123, 32] ++ (l.take j).flatMap g' ++ tdD d x ++ [32] := fun j x hx => by
  have e1 : (l.take (j + 1)).flatMap g' = (l.take j).flatMap g' ++ (tdD d x ++ [32]) := by
   rw [List.take_add_one, hx]
   simp [hg']
  refine ⟨?_, by rw [e1]; simp⟩
  have e2 : l.flatMap g' = (l.take (j + 1)).flatMap g' ++ (l.drop (j + 1)).flatMap g' := by
   conv => lhs; rw [← List.take_append_drop (j + 1) l]
   rw [List.flatMap_append]
  rw [e2, e1] at hb
  simp only [List.length_append, List.length_cons, List.length_nil] at hb ⊢
  omega
 have HE : Hid (∀ (j : Nat) (x : Vt), l[j]? = some x → ([123, 32] ++ (l.take j).flatMap g').length + (tdD d x).length + 1 ≤ 100000000 ∧ [123, 32] ++ (l.take (j + 1)).flatMap g' = [123, 32] ++ (l.take j).flatMap g' ++ tdD d x ++ [32] ∧ ∃ g q lx, ao = some ⟨g, q, none⟩ ∧ (∀ w1, Oz w w1 → w1.cell? ⟨g, q + j * 4, none⟩ = some (.int .i64 x.k) ∧ w1.cell? ⟨g, q + j * 4 + 1, none⟩ = some (.int .i64 x.n) ∧ w1.cell? ⟨g, q + j * 4 + 2, none⟩ = some (.string x.s) ∧ w1.cell? ⟨g, q + j * 4 + 3, none⟩ = some lx) ∧ ∀ w1, Oz w w1 → Cz 71 #[.agg #[.int .i64 x.k, .int .i64 x.n, .string x.s, lx]] w1 fun e w' => e = .returned (.string ⟨(tdD d x).toArray⟩) ∧ Oz w1 w') := fun j x hx => by
  obtain ⟨g, q, lx, p1, p2, ⟨c0, c1, c2, c3⟩, p4⟩ := hel j x hx
  have hm := List.mem_of_getElem? hx
  obtain ⟨z1, z2⟩ := hsz j x hx
  refine ⟨z1, z2, g, q, lx, p1, fun w1 o => ⟨o.cell c0 (fun g => g), o.cell c1 (fun g => g), o.cell c2 (fun g => g), o.cell c3 (fun g => g)⟩, fun w1 o => ?_⟩
  exact H x lx _ w1 S (p4.only o) (hok x hm) (hsm x hm) (by omega)
 obtain ⟨N, hN⟩ : ∃ N, N = l.length := ⟨_, rfl⟩
 have HN : Hid (N = l.length ∧ N ≤ 1048576 ∧ ([123, 32] ++ l.flatMap g' ++ [125]).length ≤ 100000000) := ⟨hN, by omega, hb⟩
 have HW : Hid (W.heap[B]? = some (.cells #[.int .i64 4, .int .i64 n, .string s, .slice ao N cap] 38) ∧ Oz w W) := by rw [hN]; exact ⟨bW, oW⟩
 rw [← hN] at hW ⊢
 obtain ⟨R, hR⟩ : ∃ R : ByteArray, R = ⟨([123, 32] ++ l.flatMap g' ++ [125]).toArray⟩ := ⟨_, rfl⟩
 rw [← hR]
 have HR : Hid (R = ⟨([123, 32] ++ l.flatMap g' ++ [125]).toArray⟩) := hR
 clear hR
 clear hel hok hsm hlen hb hcap he hsz hN bW oW H hg'
 unfold vV
 go_enter Tryz.func71, Tryz.ntmps71
 go_wp2
 rw [← hW, ← hB]
 clear hW hB
 go_loopw [5, 7] (fun r5 r7 wr => ∃ (j : Nat) (A : List UInt8), r7 = .int .i64 (j : Int) ∧ r5 = .string ⟨A.toArray⟩ ∧ j ≤ N ∧ Hid (A = [123, 32] ++ (l.take j).flatMap g' ∧ Oz W wr)) (fun _ r7 _ => N - vuOf r7)
 case atStart => exact ⟨0, [123, 32], rfl, rfl, Nat.zero_le _, by simp, Only.refl _ _⟩
 case round =>
  obtain ⟨j, A, rfl, rfl, hj, HI⟩ := hrel
  obtain ⟨w1, hw1⟩ : ∃ w1, w1 = wr := ⟨_, rfl⟩
  rw [← hw1] at HI ⊢
  clear hw1
  have hb1 := (HI.out.2.block B (Array.getElem?_eq_some_iff.1 HW.out.1).1 (fun g => g)).trans HW.out.1
  have cB0 := (vblk_cells hb1 0).trans rfl
  have cB3 := (vblk_cells hb1 3).trans rfl
  have hNl := HN.out.1
  have hN2 := HN.out.2.1
  by_cases hjN : j < N
  ·obtain ⟨x, hx⟩ : ∃ x, l[j]? = some x := ⟨l[j]'(by omega), List.getElem?_eq_getElem (by omega)⟩
   obtain ⟨z1, z2, g, q, lx, rfl, hc, hcall⟩ := HE.out j x hx
   have ow := HW.out.2.trans HI.out.2 (fun _ _ g => g)
   obtain ⟨c0, c1, c2, c3⟩ := hc w1 ow
   have HC : Hid _ := hcall w1 ow
   rw [← HI.out.1] at z1 z2
   have i1 : (j : Int) < (N : Int) := by omega
   have i0 : (0 : Int) ≤ (j : Int) := by omega
   have i4 : j ≤ 1048576 := by omega
   obtain ⟨X, hX⟩ : ∃ X, X = tdD d x := ⟨_, rfl⟩
   rw [← hX] at HC z1 z2
   have a1 : ∀ W : World, (Op.stringOp .add (⟨A.toArray⟩ : ByteArray) ⟨X.toArray⟩).run Tryz.prog W = .ok (.string ⟨(A ++ X).toArray⟩) W := fun W => by
    rw [run_string_add_sum, ba_app]
    rw [ba_size, ba_size]
    omega
   have a2 : ∀ W : World, (Op.stringOp .add (⟨(A ++ X).toArray⟩ : ByteArray) ⟨#[32]⟩).run Tryz.prog W = .ok (.string ⟨(A ++ X ++ [32]).toArray⟩) W := fun W => by
    rw [run_string_add_sum, show (⟨#[32]⟩ : ByteArray) = ⟨([32] : List UInt8).toArray⟩ from rfl, ba_app]
    rw [ba_size, ba_size, List.length_append]
    simp only [List.length_cons, List.length_nil]
    omega
   obtain ⟨A2, hA2⟩ : ∃ A2, A2 = A ++ X ++ [32] := ⟨_, rfl⟩
   have HA2 : Hid (A2 = [123, 32] ++ (l.take (j + 1)).flatMap g' ∧ j < N) := ⟨by rw [z2]; exact hA2, hjN⟩
   obtain ⟨A1, hA1⟩ : ∃ A1, A1 = A ++ X := ⟨_, rfl⟩
   rw [← hA2] at a2
   rw [← hA1] at a1 a2
   obtain ⟨b0, hb0⟩ : ∃ b, b = (⟨A.toArray⟩ : ByteArray) := ⟨_, rfl⟩
   obtain ⟨b1, hb1'⟩ : ∃ b, b = (⟨X.toArray⟩ : ByteArray) := ⟨_, rfl⟩
   obtain ⟨b2, hb2⟩ : ∃ b, b = (⟨A1.toArray⟩ : ByteArray) := ⟨_, rfl⟩
   obtain ⟨b3, hb3⟩ : ∃ b, b = (⟨A2.toArray⟩ : ByteArray) := ⟨_, rfl⟩
   have HB3 : Hid (b3 = (⟨A2.toArray⟩ : ByteArray)) := hb3
   rw [← hb1'] at HC
   rw [← hb0, ← hb1', ← hb2] at a1
   rw [← hb2, ← hb3] at a2
   rw [← hb0]
   obtain ⟨x0, hx0⟩ : ∃ x0, x0 = x.k := ⟨_, rfl⟩
   obtain ⟨x1, hx1⟩ : ∃ x1, x1 = x.n := ⟨_, rfl⟩
   obtain ⟨x2, hx2⟩ : ∃ x2, x2 = x.s := ⟨_, rfl⟩
   rw [← hx0, ← hx1, ← hx2] at HC
   rw [← hx0] at c0
   rw [← hx1] at c1
   rw [← hx2] at c2
   clear hc hcall ow hNl hN2 hjN hj hx hX hA1 hA2 hb0 hb1' hb2 hb3 z1 z2 hx0 hx1 hx2 hb1 cB0 HE
   go_wp2_with fail
   refine (show Cz 71 _ _ _ from HC.out).mono ?_
   rintro e w2 ⟨rfl, o2⟩
   have HF : Hid (Oz W w2) := HI.out.2.trans o2 (fun _ _ g => g)
   clear HC o2 HI cB3 c0 c1 c2 c3
   go_wp2
   go_roundw
   case rel => exact ⟨j + 1, A2, by go_num, by rw [show b3 = _ from HB3.out], by have := HA2.out.2; omega, HA2.out.1, HF.out⟩
   case measure => simp only [vuOf]; have := HA2.out.2; omega
  ·obtain rfl : j = N := by omega
   have i1 : ¬ (j : Int) < (j : Int) := by omega
   have hA := HI.out.1
   rw [show l.take j = l from by rw [hNl]; exact List.take_length] at hA
   have hN3 := HN.out.2.2
   have a1 : ∀ W : World, (Op.stringOp .add (⟨A.toArray⟩ : ByteArray) ⟨#[125]⟩).run Tryz.prog W = .ok (.string ⟨([123, 32] ++ l.flatMap g' ++ [125]).toArray⟩) W := fun W => by
    rw [run_string_add_sum, show (⟨#[125]⟩ : ByteArray) = ⟨([125] : List UInt8).toArray⟩ from rfl, ba_app, hA]
    rw [ba_size, ba_size, hA]
    simp only [List.length_append, List.length_cons, List.length_nil] at hN3 ⊢
    omega
   have HF : Hid (Oz w w1) := HW.out.2.trans HI.out.2 (fun _ _ g => g)
   obtain ⟨b0, hb0⟩ : ∃ b, b = (⟨A.toArray⟩ : ByteArray) := ⟨_, rfl⟩
   rw [← hb0, ← show R = _ from HR.out] at a1
   rw [← hb0]
   clear hNl hN2 hjN hj hA hN3 hb0 hb1 HE HI
   go_wp2
   go_ret
   exact ⟨rfl, HF.out⟩
theorem told_quot (d : Nat) (H : ToC d) (n : Int) (s : ByteArray) (l : List Vt) (ao : Option Addr) (cap : Nat) (w : World) (S : Nat → Prop) (hv : VsAt w S (d + 1) l (.slice ao l.length cap)) (hok : ∀ x ∈ l, okD d true x = true) (hsm : ∀ x ∈ l, ∃ e, SmT e x) (hlen : l.length ≤ 1048576) (hb : ([91, 32] ++ l.flatMap (fun x => tdD d x ++ [32]) ++ [93]).length ≤ 100000000) :
  Cz 71 #[vV 5 n s (.slice ao l.length cap)] w fun e w' => e = .returned (.string ⟨([91, 32] ++ l.flatMap (fun x => tdD d x ++ [32]) ++ [93]).toArray⟩) ∧ Oz w w' := by
 obtain ⟨g', hg'⟩ : ∃ g' : Vt → List UInt8, g' = fun x => tdD d x ++ [32] := ⟨_, rfl⟩
 rw [← hg'] at hb ⊢
 obtain ⟨W, hW⟩ : ∃ W, W = w.alloc (.cells #[.int .i64 5, .int .i64 n, .string s, .slice ao l.length cap] 38) := ⟨_, rfl⟩
 obtain ⟨B, hB⟩ : ∃ B, B = w.heap.size := ⟨_, rfl⟩
 have oW : Oz w W := by rw [hW]; exact (Only.refl _ w).alloc _
 have bW : W.heap[B]? = some (.cells #[.int .i64 5, .int .i64 n, .string s, .slice ao l.length cap] 38) := by rw [hW]; exact valloc_at _ _ _ hB
 obtain ⟨ao', cap', he, hcap, hel⟩ := hv
 obtain ⟨rfl, rfl⟩ : ao = ao' ∧ cap = cap' := by simpa using he
 have hsz : ∀ (j : Nat) (x : Vt), l[j]? = some x → ([91, 32] ++ (l.take j).flatMap g').length + (tdD d x).length + 1 ≤ 100000000 ∧ [91, 32] ++ (l.take (j + 1)).flatMap g' = [91, 32] ++ (l.take j).flatMap g' ++ tdD d x ++ [32] := fun j x hx => by
  have e1 : (l.take (j + 1)).flatMap g' = (l.take j).flatMap g' ++ (tdD d x ++ [32]) := by
   rw [List.take_add_one, hx]
   simp [hg']
  refine ⟨?_, by rw [e1]; simp⟩
  have e2 : l.flatMap g' = (l.take (j + 1)).flatMap g' ++ (l.drop (j + 1)).flatMap g' := by
   conv => lhs; rw [← List.take_append_drop (j + 1) l]
   rw [List.flatMap_append]
  rw [e2, e1] at hb
  simp only [List.length_append, List.length_cons, List.length_nil] at hb ⊢
  omega
 have HE : Hid (∀ (j : Nat) (x : Vt), l[j]? = some x → ([91, 32] ++ (l.take j).flatMap g').length + (tdD d x).length + 1 ≤ 100000000 ∧ [91, 32] ++ (l.take (j + 1)).flatMap g' = [91, 32] ++ (l.take j).flatMap g' ++ tdD d x ++ [32] ∧ ∃ g q lx, ao = some ⟨g, q, none⟩ ∧ (∀ w1, Oz w w1 → w1.cell? ⟨g, q + j * 4, none⟩ = some (.int .i64 x.k) ∧ w1.cell? ⟨g, q + j * 4 + 1, none⟩ = some (.int .i64 x.n) ∧ w1.cell? ⟨g, q + j * 4 + 2, none⟩ = some (.string x.s) ∧ w1.cell? ⟨g, q + j * 4 + 3, none⟩ = some lx) ∧ ∀ w1, Oz w w1 → Cz 71 #[.agg #[.int .i64 x.k, .int .i64 x.n, .string x.s, lx]] w1 fun e w' => e = .returned (.string ⟨(tdD d x).toArray⟩) ∧ Oz w1 w') := fun j x hx => by
  obtain ⟨g, q, lx, p1, p2, ⟨c0, c1, c2, c3⟩, p4⟩ := hel j x hx
  have hm := List.mem_of_getElem? hx
  obtain ⟨z1, z2⟩ := hsz j x hx
  refine ⟨z1, z2, g, q, lx, p1, fun w1 o => ⟨o.cell c0 (fun g => g), o.cell c1 (fun g => g), o.cell c2 (fun g => g), o.cell c3 (fun g => g)⟩, fun w1 o => ?_⟩
  exact H x lx _ w1 S (p4.only o) (hok x hm) (hsm x hm) (by omega)
 obtain ⟨N, hN⟩ : ∃ N, N = l.length := ⟨_, rfl⟩
 have HN : Hid (N = l.length ∧ N ≤ 1048576 ∧ ([91, 32] ++ l.flatMap g' ++ [93]).length ≤ 100000000) := ⟨hN, by omega, hb⟩
 have HW : Hid (W.heap[B]? = some (.cells #[.int .i64 5, .int .i64 n, .string s, .slice ao N cap] 38) ∧ Oz w W) := by rw [hN]; exact ⟨bW, oW⟩
 rw [← hN] at hW ⊢
 obtain ⟨R, hR⟩ : ∃ R : ByteArray, R = ⟨([91, 32] ++ l.flatMap g' ++ [93]).toArray⟩ := ⟨_, rfl⟩
 rw [← hR]
 have HR : Hid (R = ⟨([91, 32] ++ l.flatMap g' ++ [93]).toArray⟩) := hR
 clear hR
 clear hel hok hsm hlen hb hcap he hsz hN bW oW H hg'
 unfold vV
 go_enter Tryz.func71, Tryz.ntmps71
 go_wp2
 rw [← hW, ← hB]
 clear hW hB
 go_loopw [5, 7] (fun r5 r7 wr => ∃ (j : Nat) (A : List UInt8), r7 = .int .i64 (j : Int) ∧ r5 = .string ⟨A.toArray⟩ ∧ j ≤ N ∧ Hid (A = [91, 32] ++ (l.take j).flatMap g' ∧ Oz W wr)) (fun _ r7 _ => N - vuOf r7)
 case atStart => exact ⟨0, [91, 32], rfl, rfl, Nat.zero_le _, by simp, Only.refl _ _⟩
 case round =>
  obtain ⟨j, A, rfl, rfl, hj, HI⟩ := hrel
  obtain ⟨w1, hw1⟩ : ∃ w1, w1 = wr := ⟨_, rfl⟩
  rw [← hw1] at HI ⊢
  clear hw1
  have hb1 := (HI.out.2.block B (Array.getElem?_eq_some_iff.1 HW.out.1).1 (fun g => g)).trans HW.out.1
  have cB0 := (vblk_cells hb1 0).trans rfl
  have cB3 := (vblk_cells hb1 3).trans rfl
  have hNl := HN.out.1
  have hN2 := HN.out.2.1
  by_cases hjN : j < N
  ·obtain ⟨x, hx⟩ : ∃ x, l[j]? = some x := ⟨l[j]'(by omega), List.getElem?_eq_getElem (by omega)⟩
   obtain ⟨z1, z2, g, q, lx, rfl, hc, hcall⟩ := HE.out j x hx
   have ow := HW.out.2.trans HI.out.2 (fun _ _ g => g)
   obtain ⟨c0, c1, c2, c3⟩ := hc w1 ow
   have HC : Hid _ := hcall w1 ow
   rw [← HI.out.1] at z1 z2
   have i1 : (j : Int) < (N : Int) := by omega
   have i0 : (0 : Int) ≤ (j : Int) := by omega
   have i4 : j ≤ 1048576 := by omega
   obtain ⟨X, hX⟩ : ∃ X, X = tdD d x := ⟨_, rfl⟩
   rw [← hX] at HC z1 z2
   have a1 : ∀ W : World, (Op.stringOp .add (⟨A.toArray⟩ : ByteArray) ⟨X.toArray⟩).run Tryz.prog W = .ok (.string ⟨(A ++ X).toArray⟩) W := fun W => by
    rw [run_string_add_sum, ba_app]
    rw [ba_size, ba_size]
    omega
   have a2 : ∀ W : World, (Op.stringOp .add (⟨(A ++ X).toArray⟩ : ByteArray) ⟨#[32]⟩).run Tryz.prog W = .ok (.string ⟨(A ++ X ++ [32]).toArray⟩) W := fun W => by
    rw [run_string_add_sum, show (⟨#[32]⟩ : ByteArray) = ⟨([32] : List UInt8).toArray⟩ from rfl, ba_app]
    rw [ba_size, ba_size, List.length_append]
    simp only [List.length_cons, List.length_nil]
    omega
   obtain ⟨A2, hA2⟩ : ∃ A2, A2 = A ++ X ++ [32] := ⟨_, rfl⟩
   have HA2 : Hid (A2 = [91, 32] ++ (l.take (j + 1)).flatMap g' ∧ j < N) := ⟨by rw [z2]; exact hA2, hjN⟩
   obtain ⟨A1, hA1⟩ : ∃ A1, A1 = A ++ X := ⟨_, rfl⟩
   rw [← hA2] at a2
   rw [← hA1] at a1 a2
   obtain ⟨b0, hb0⟩ : ∃ b, b = (⟨A.toArray⟩ : ByteArray) := ⟨_, rfl⟩
   obtain ⟨b1, hb1'⟩ : ∃ b, b = (⟨X.toArray⟩ : ByteArray) := ⟨_, rfl⟩
   obtain ⟨b2, hb2⟩ : ∃ b, b = (⟨A1.toArray⟩ : ByteArray) := ⟨_, rfl⟩
   obtain ⟨b3, hb3⟩ : ∃ b, b = (⟨A2.toArray⟩ : ByteArray) := ⟨_, rfl⟩
   have HB3 : Hid (b3 = (⟨A2.toArray⟩ : ByteArray)) := hb3
   rw [← hb1'] at HC
   rw [← hb0, ← hb1', ← hb2] at a1
   rw [← hb2, ← hb3] at a2
   rw [← hb0]
   obtain ⟨x0, hx0⟩ : ∃ x0, x0 = x.k := ⟨_, rfl⟩
   obtain ⟨x1, hx1⟩ : ∃ x1, x1 = x.n := ⟨_, rfl⟩
   obtain ⟨x2, hx2⟩ : ∃ x2, x2 = x.s := ⟨_, rfl⟩
   rw [← hx0, ← hx1, ← hx2] at HC
   rw [← hx0] at c0
   rw [← hx1] at c1
   rw [← hx2] at c2
   clear hc hcall ow hNl hN2 hjN hj hx hX hA1 hA2 hb0 hb1' hb2 hb3 z1 z2 hx0 hx1 hx2 hb1 cB0 HE
   go_wp2_with fail
   refine (show Cz 71 _ _ _ from HC.out).mono ?_
   rintro e w2 ⟨rfl, o2⟩
   have HF : Hid (Oz W w2) := HI.out.2.trans o2 (fun _ _ g => g)
   clear HC o2 HI cB3 c0 c1 c2 c3
   go_wp2
   go_roundw
   case rel => exact ⟨j + 1, A2, by go_num, by rw [show b3 = _ from HB3.out], by have := HA2.out.2; omega, HA2.out.1, HF.out⟩
   case measure => simp only [vuOf]; have := HA2.out.2; omega
  ·obtain rfl : j = N := by omega
   have i1 : ¬ (j : Int) < (j : Int) := by omega
   have hA := HI.out.1
   rw [show l.take j = l from by rw [hNl]; exact List.take_length] at hA
   have hN3 := HN.out.2.2
   have a1 : ∀ W : World, (Op.stringOp .add (⟨A.toArray⟩ : ByteArray) ⟨#[93]⟩).run Tryz.prog W = .ok (.string ⟨([91, 32] ++ l.flatMap g' ++ [93]).toArray⟩) W := fun W => by
    rw [run_string_add_sum, show (⟨#[93]⟩ : ByteArray) = ⟨([93] : List UInt8).toArray⟩ from rfl, ba_app, hA]
    rw [ba_size, ba_size, hA]
    simp only [List.length_append, List.length_cons, List.length_nil] at hN3 ⊢
    omega
   have HF : Hid (Oz w w1) := HW.out.2.trans HI.out.2 (fun _ _ g => g)
   obtain ⟨b0, hb0⟩ : ∃ b, b = (⟨A.toArray⟩ : ByteArray) := ⟨_, rfl⟩
   rw [← hb0, ← show R = _ from HR.out] at a1
   rw [← hb0]
   clear hNl hN2 hjN hj hA hN3 hb0 hb1 HE HI
   go_wp2
   go_ret
   exact ⟨rfl, HF.out⟩
theorem told_all : ∀ d : Nat, ToC d
 | 0 => fun t lv i w S h => h.elim
 | d + 1 => by
   intro t lv i w S hv hok hsm hb
   obtain ⟨ao, cap, hlv⟩ := hv.form
   have hn : -9223372036854775808 ≤ t.n ∧ t.n ≤ 9223372036854775807 := by
    obtain ⟨e, he⟩ := hsm
    cases e with
    | zero => exact he.elim
    | succ e => exact he.2.2.2.1
   by_cases hk : t.k = 4 ∨ t.k = 5
   ·have hps : t.l.length ≤ 1048576 ∧ ∀ x ∈ t.l, ∃ e, SmT e x := by
     obtain ⟨e, he⟩ := hsm
     exact ⟨he.len, he.parts⟩
    have hall : ∀ x ∈ t.l, okD d (decide (t.k = 5)) x = true := by
     unfold okD at hok
     rw [if_pos hk, List.all_eq_true] at hok
     exact hok
    rw [td_list hk] at hb ⊢
    rw [hlv] at hv ⊢
    rcases hk with h4 | h5
    ·rw [show opB t.k = [123, 32] from if_neg (by omega), show shB t.k = [125] from if_neg (by omega)] at hb ⊢
     rw [decide_eq_false (show ¬ t.k = 5 by omega)] at hall
     rw [h4]
     exact told_list d (told_all d) t.n t.s t.l ao cap w S hv hall hps.2 hps.1 hb
    ·rw [show opB t.k = [91, 32] from if_pos h5, show shB t.k = [93] from if_pos h5] at hb ⊢
     rw [decide_eq_true h5] at hall
     rw [h5]
     exact told_quot d (told_all d) t.n t.s t.l ao cap w S hv hall hps.2 hps.1 hb
   ·exact told_leaf d t lv i w hk hok hn ⟨ao, _, cap, hlv⟩
theorem sd_okv {d : Nat} {t : Vt} (h : sdB d t = true) : okV d false t = true ∧ sz d false t ≤ 1024 := by
 unfold sdB msB at h
 simp only [Bool.and_eq_true, decide_eq_true_eq] at h
 exact ⟨h.1.1, by have := h.1.2; omega⟩
theorem gd_ok {d D : Nat} {l : List Vt} (hg : Gd d D l) (hd : 2 * D + 1 ≤ d) {x : Vt} (hx : x ∈ l) : okD D false x = true ∧ szD D x ≤ 1024 := by
 have h := hg x hx
 have h1 := ok_eq D x h.2.1 false d (by simpa using hd)
 have h2 := sd_okv h.2.2.2.1
 exact ⟨h1.1 ▸ h2.1, h1.2.1 ▸ h2.2⟩
theorem gd_q {d D : Nat} {l : List Vt} (hg : Gd d D l) {x : Vt} (hx : x ∈ l) (hk : x.k = 2) : ∃ q, VL q ∧ x.s = tx q ∧ x.l = [] ∧ x.n = 0 := by
 have h := hg x hx
 obtain ⟨q, h1, h2⟩ := sd_q h.2.2.2.1 hk
 obtain ⟨e, he⟩ := h.2.2.1
 exact ⟨q, h1, h2, lf_no h.2.1 (by omega), nf_str he hk⟩
theorem gd_r {d D : Nat} {l : List Vt} (hg : Gd d D l) {x : Vt} (hx : x ∈ l) (hk : x.k = 4 ∨ x.k = 5) : x.n = 0 ∧ x.s = ⟨#[]⟩ := by
 obtain ⟨e, he⟩ := (hg x hx).2.2.1
 exact nf_row he hk
theorem ba_nil (s : ByteArray) : s ++ (⟨#[]⟩ : ByteArray) = s := by
 apply ByteArray.ext
 simp
theorem apc_18 : ApC q18 := by
 refine apc_rows fr_18 (by kernel_rfl) mnd_18 kq0_18 (fun d D l g o c w S hd hD hl hS hlen hg hf => ?_) (fun d D l rs hd hD hlen hg hf h => ?_)
 ·obtain ⟨x, y, rfl, kx, ky⟩ := fit2 hlen hf
  obtain ⟨a0, c0, v0, t0⟩ := vs_v4 hl 0 (x := x) rfl
  obtain ⟨a1, c1, v1, t1⟩ := vs_v4 hl 1 (x := y) rfl
  have u0 : V4 w g o x.k x.n x.s (.slice a0 x.l.length c0) := by simpa using v0
  have u1 : V4 w g (o + 4) y.k y.n y.s (.slice a1 y.l.length c1) := by simpa using v1
  have hsa : smV d false x y = saV D x y := sm_sa D x y (hg x (by simp)).2.1 (hg y (by simp)).2.1 false d (by simpa using hd) (gd_ok hg hd (by simp)).1
  have h := rro_eq g o c x.k x.n y.k y.n x.s y.s a0 a1 x.l.length c0 y.l.length c1 w (saV D x y) u0 u1 (fun W q => (dsame_all D).2 x y _ _ W S S (t0.only q) (t1.only q) (hg x (by simp)).1 (hg y (by simp)).1)
  rw [← hsa] at h
  exact h.mono fun e w' h => h.up (by omega)
 ·obtain ⟨x, y, rfl, kx, ky⟩ := fit2 hlen hf
  exact ok_few h (bo_sm _)
theorem apc_38 : ApC q38 := by
 refine apc_rows fr_38 (by kernel_rfl) mnd_38 kq0_38 (fun d D l g o c w S hd hD hl hS hlen hg hf => ?_) (fun d D l rs hd hD hlen hg hf h => ?_)
 ·obtain ⟨x, rfl, kx⟩ := fit1 hlen hf
  obtain ⟨a0, c0, v0, t0⟩ := vs_v4 hl 0 (x := x) rfl
  have u0 : V4 w g o x.k x.n x.s (.slice a0 x.l.length c0) := by simpa using v0
  have hok := gd_ok hg hd (x := x) (by simp)
  have hx := hg x (by simp)
  have ht : txtV d x = ⟨(tdD D x).toArray⟩ := by unfold txtV; rw [td_join D x hx.2.1 false d (by simpa using hd) hok.1]
  have hlen : (tdD D x).length ≤ 100000000 := by have := td_len D x false hok.1; omega
  have h := rro_told g o c x ⟨(tdD D x).toArray⟩ a0 x.l.length c0 w u0 (fun W q => told_all D x _ false W S (t0.only q) hok.1 hx.1 hlen)
  rw [← ht] at h
  exact h.mono fun e w' h => h.up (by omega)
 ·obtain ⟨x, rfl, kx⟩ := fit1 hlen hf
  exact ok_few h (st_sm (txt_size (hg x (by simp)).2.2.2.1))
theorem rv_sm {d D : Nat} {l : List Vt} (hg : Gd d D l) {x : Vt} (hx : x ∈ l) (hk : x.k = 2 ∨ x.k = 4) : ∃ e, SmT e (rvT x) := by
 have h := hg x hx
 unfold rvT
 split
 ·rename_i h2
  obtain ⟨q, hv, hs, _⟩ := gd_q hg hx h2
  rw [hs, rns_tx hv]
  refine st_sm ?_
  rw [tx_rev, ← hs]
  omega
 ·exact jl_sm (.inl rfl) (fun y hy => sm_parts h.1 y (List.mem_reverse.1 hy)) (by rw [List.length_reverse]; omega)
theorem apc_35 : ApC q35 := by
 refine apc_rows fr_35 (by kernel_rfl) mnd_35 kq0_35 (fun d D l g o c w S hd hD hl hS hlen hg hf => ?_) (fun d D l rs hd hD hlen hg hf h => ?_)
 ·obtain ⟨x, rfl, kx⟩ := fit1 hlen hf
  obtain ⟨a0, c0, v0, t0⟩ := vs_v4 hl 0 (x := x) rfl
  have u0 : V4 w g o x.k x.n x.s (.slice a0 x.l.length c0) := by simpa using v0
  have hx := hg x (by simp)
  obtain ⟨E, rfl⟩ : ∃ E, D = E + 1 := ⟨D - 1, by omega⟩
  refine (show Cz 42 _ w _ from rro_rev g o c x (rvT x) a0 x.l.length c0 (E + 1) w u0 (fun W q => ?_)).mono fun e w' h => h.up (by omega)
  rcases fb_10 kx with k2 | k4
  ·obtain ⟨qq, hv, hs, hl0, hn0⟩ := gd_q hg (x := x) (by simp) k2
   have hr : rvT x = stT (tx qq.reverse) := by unfold rvT; rw [if_pos k2, hs, rns_tx hv]
   rw [hr, hl0, hs, k2]
   refine (rrev_str hv (by rw [← hs]; exact hx.2.2.2.2.2) 2 x.n a0 c0 W).mono fun e w' h => ?_
   exact ⟨none, 0, 0, h.1, ⟨⟨fun _ => False, none, 0, rfl, Nat.le_refl _, fun i y hy => by simp [stT] at hy⟩, h.2⟩⟩
  ·obtain ⟨hn0, hs0⟩ := gd_r hg (x := x) (by simp) (.inl k4)
   have hr : rvT x = ⟨4, 0, ⟨#[]⟩, x.l.reverse⟩ := by unfold rvT; rw [if_neg (by omega)]
   rw [hr, hs0, k4]
   refine (rrev_list (k0 := x.n) (t0.only q) (fun b hb => Nat.lt_of_lt_of_le (hS b hb) q.size) hx.2.2.2.2.1).mono fun e w' h => ?_
   obtain ⟨a2, c2, he, h⟩ := h
   exact ⟨a2, _, c2, he, h⟩
 ·obtain ⟨x, rfl, kx⟩ := fit1 hlen hf
  exact ok_few h (rv_sm hg (x := x) (by simp) (fb_10 kx))
theorem jn_q {x y : Vt} (hx : x.k = 5) (hy : y.k = 5) : jnR x y = .ok ⟨5, 0, ⟨#[]⟩, x.l ++ y.l⟩ := by
 unfold jnR kd
 simp [hx, hy]
theorem jn_sm {d D : Nat} {l : List Vt} (hg : Gd d D l) {x y : Vt} (hx : x ∈ l) (hy : y ∈ l) {k : Int} (hk : k = 4 ∨ k = 5) : ∃ e, SmT e ⟨k, 0, ⟨#[]⟩, x.l ++ y.l⟩ :=
 jl_sm hk (fun z hz => (List.mem_append.1 hz).elim (sm_parts (hg x hx).1 z) (sm_parts (hg y hy).1 z)) (by rw [List.length_append]; have := (hg x hx).2.2.2.2.1; have := (hg y hy).2.2.2.2.1; omega)
theorem apc_36 : ApC q36 := by
 refine apc_rows fr_36 (by kernel_rfl) mnd_36 kq0_36 (fun d D l g o c w S hd hD hl hS hlen hg hf => ?_) (fun d D l rs hd hD hlen hg hf h => ?_)
 ·obtain ⟨x, y, rfl, kx, ky⟩ := fit2 hlen hf
  obtain ⟨a0, c0, v0, t0⟩ := vs_v4 hl 0 (x := x) rfl
  obtain ⟨a1, c1, v1, t1⟩ := vs_v4 hl 1 (x := y) rfl
  have u0 : V4 w g o x.k x.n x.s (.slice a0 x.l.length c0) := by simpa using v0
  have u1 : V4 w g (o + 4) y.k y.n y.s (.slice a1 y.l.length c1) := by simpa using v1
  have hy := hg y (by simp)
  obtain ⟨E, rfl⟩ : ∃ E, D = E + 1 := ⟨D - 1, by omega⟩
  have h := rro_curry g o c x y a0 a1 c0 c1 E S w u0 u1 t0 (t1.step (fun _ g => g) (fun _ _ _ g => g) (by omega)) hS hy.2.2.2.2.1
  have e : jnR (quoT [x]) y = .ok ⟨5, 0, ⟨#[]⟩, x :: y.l⟩ := jn_q rfl (fb_16 ky)
  rw [← e] at h
  exact h.mono fun e w' h => h.up (by omega)
 ·obtain ⟨x, y, rfl, kx, ky⟩ := fit2 hlen hf
  have e : jnR (quoT [x]) y = .ok ⟨5, 0, ⟨#[]⟩, x :: y.l⟩ := jn_q rfl (fb_16 ky)
  have h2 : oneR (jnR (quoT [x]) y) = .ok rs := h
  rw [e] at h2
  exact ok_few h2 (jl_sm (.inr rfl) (fun z hz => by
   rcases List.mem_cons.1 hz with e | hz
   ·rw [e]; exact (hg x (by simp)).1
   ·exact sm_parts (hg y (by simp)).1 z hz) (by have := (hg y (by simp)).2.2.2.2.1; simp; omega))
theorem apc_37 : ApC q37 := by
 refine apc_rows fr_37 (by kernel_rfl) mnd_37 kq0_37 (fun d D l g o c w S hd hD hl hS hlen hg hf => ?_) (fun d D l rs hd hD hlen hg hf h => ?_)
 ·obtain ⟨x, y, rfl, kx, ky⟩ := fit2 hlen hf
  obtain ⟨a0, c0, v0, t0⟩ := vs_v4 hl 0 (x := x) rfl
  obtain ⟨a1, c1, v1, t1⟩ := vs_v4 hl 1 (x := y) rfl
  have u0 : V4 w g o x.k x.n x.s (.slice a0 x.l.length c0) := by simpa using v0
  have u1 : V4 w g (o + 4) y.k y.n y.s (.slice a1 y.l.length c1) := by simpa using v1
  have hx := hg x (by simp)
  have hy := hg y (by simp)
  obtain ⟨E, rfl⟩ : ∃ E, D = E + 1 := ⟨D - 1, by omega⟩
  have h := rro_compose g o c x y a0 a1 c0 c1 E S w u0 u1 t0 t1 hS (fun z hz => sm_parts hx.1 z hz) ⟨hx.2.2.2.2.1, hy.2.2.2.2.1⟩ ⟨hx.2.2.2.2.2, hy.2.2.2.2.2⟩
  rw [(gd_r hg (x := x) (by simp) (.inr (fb_16 kx))).2, (gd_r hg (x := y) (by simp) (.inr (fb_16 ky))).2, ba_nil, fb_16 kx, ← jn_q (fb_16 kx) (fb_16 ky)] at h
  exact h.mono fun e w' h => h.up (by omega)
 ·obtain ⟨x, y, rfl, kx, ky⟩ := fit2 hlen hf
  have h2 : oneR (jnR x y) = .ok rs := h
  rw [jn_q (fb_16 kx) (fb_16 ky)] at h2
  exact ok_few h2 (jn_sm hg (by simp) (by simp) (.inr rfl))
end Go.Proofs.YtenjollhlgjjdaaGreatDoor
