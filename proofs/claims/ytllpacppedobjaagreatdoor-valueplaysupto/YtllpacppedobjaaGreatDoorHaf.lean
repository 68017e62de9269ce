/- A measure of an item; of all values and items; measured, Check, CheckItems. measured, Check, CheckItems, Size: of any value. When two values that hold no others are equal. Equal values: the plain function; slices.EqualFunc. Equal values: same, sameItem; Equal. Equal values: those that hold no others; items; all; Equal. -/
import Derived.Test.YtllpacppedobjaaGreatDoorHae
import Derived.Laws.StructEq
namespace Go.Proofs.YtllpacppedobjaaGreatDoor
open Go.RowKit Go.Lib
set_option linter.unusedSimpArgs false
set_option linter.unusedVariables false
theorem nilP (W : World) : (Instr.typeAssert .nilIface 86 99 true).run Tryz.prog W = .ok (.tuple #[.agg #[.nilIface], .bool false]) W := by kernel_rfl
theorem nilC (W : World) : (Instr.typeAssert .nilIface 86 102 true).run Tryz.prog W = .ok (.tuple #[.agg #[.string ⟨#[]⟩], .bool false]) W := by kernel_rfl
set_option maxRecDepth 100000 in
set_option maxHeartbeats 4000000 in
theorem mitem (d : Nat) (H : MsC d false 44) : MsC (d + 1) true 66 := by
  intro t v w S M k o dd h hM hsm hv hk hd1 hd2 ho hT hg
  rcases h with ⟨h7, hl, rfl⟩ | ⟨h8, hl, rfl⟩ | ⟨h7, h8, u, rfl, hu⟩
  · have hms : msB (d + 1) true t k o = (decide (k + 1 ≤ 1024) && clB t.s) := by
      unfold msB okV sz dp
      rw [if_pos h7, if_pos (.inl h7), if_pos (.inl h7), decide_eq_true (show o + 0 ≤ 32 by omega), Bool.and_true, Bool.and_comm]
    have hsz : sz (d + 1) true t = 1 := by unfold sz; rw [if_pos (.inl h7)]
    have hdp : dp (d + 1) true t = 0 := by unfold dp; rw [if_pos (.inl h7)]
    have mP := va_miss 102 99 86 _ Tryz.underlying99 (by intro m h; cases h) (by decide) _ vzero_Push
    have hC := va_hit 102 86 _ Tryz.underlying102 (by intro m h; cases h)
    have HM : Hid (∀ w1, Only (fun _ => False) w w1 → Calls Tryz.prog 62 #[.pointer (some ⟨M, 0, none⟩)] w1 fun e w' => e = .returned (.bool (decide ((k : Int) + 1 ≤ 1024))) ∧ Only (fun b => b = M) w1 w' ∧ VmB w' M ((k : Int) + 1) dd) := fun w1 o1 => vcount_all M k dd w1 (hv.keep o1) (by omega) (by omega)
    have HA : Hid (∀ w1, Only (fun b => b = M) w w1 → Calls Tryz.prog 75 #[.agg #[.string t.s]] w1 fun e w' => e = .returned (.bool (clB t.s)) ∧ Only (fun _ => False) w1 w') := fun w1 o1 => vcallable_any t.s w1 (hT.keep o1 hg.1 hg.2.1 hg.2.2).1
    have HD : Hid (dd = max dd ((o + 0 : Nat) : Int) ∧ dd ≤ 1000 ∧ M < w.heap.size) := ⟨by omega, hd2, (Array.getElem?_eq_some_iff.1 hv).1⟩
    have O0 : Hid (Only (fun _ => False) w w) := Only.refl _ _
    rw [hms, hsz, hdp]
    clear hdp
    obtain ⟨a, ha⟩ : ∃ a, a = clB t.s := ⟨_, rfl⟩
    obtain ⟨s, hs⟩ : ∃ s, s = t.s := ⟨_, rfl⟩
    rw [← ha] at HA ⊢
    rw [← hs] at HA ⊢
    clear hM hsm hv hd1 hd2 ho hT hg hsz hms ha hs hl h7 H
    by_cases h1 : k + 1 ≤ 1024
    · have e1 : decide ((k : Int) + 1 ≤ 1024) = true := decide_eq_true (by omega)
      rw [e1] at HM
      rw [decide_eq_true h1]
      clear e1
      go_enter Tryz.func66, Tryz.ntmps66
      go_wp2_with fail
      refine (show Calls Tryz.prog 62 _ _ _ from HM.out _ (by repeat' first | exact O0.out | apply Only.alloc)).mono ?_
      rintro e w1 ⟨rfl, o1, m1⟩
      have O1 : Hid (Only (fun b => b = M) w w1 ∧ VmB w1 M ((k : Int) + 1) dd) := ⟨Only.trans (show Only (fun b => b = M) w _ by repeat' first | exact (Only.refl _ _) | apply Only.alloc) o1 (fun _ _ g => g), m1⟩
      have x0 : w1.cell? ⟨w.heap.size + 1, 0, none⟩ = some (.string s) := o1.cell (a := ⟨w.heap.size + 1, 0, none⟩) (by simp [go_sem]) (by have := HD.out; simp only; omega)
      have HA1 : Hid _ := HA.out w1 O1.out.1
      clear HM o1 m1 HA
      go_wp2_with fail
      refine (show Calls Tryz.prog 75 _ _ _ from HA1.out).mono ?_
      rintro e w2 ⟨rfl, o2⟩
      have HF : Hid (Only (fun b => b = M) w w2 ∧ VmB w2 M ((k + 1 : Nat) : Int) dd) := ⟨O1.out.1.trans (o2.mono (bs' := fun b => b = M) (fun _ _ g => g.elim)) (fun _ _ g => g), by have := O1.out.2.keep o2; simpa using this⟩
      clear HA1 o2 O1 x0
      go_wp2
      go_ret
      exact ⟨by simp, HF.out.1, fun _ => ⟨dd, HF.out.2, HD.out.1, HD.out.2.1⟩⟩
    · have e1 : decide ((k : Int) + 1 ≤ 1024) = false := decide_eq_false (by omega)
      rw [e1] at HM
      rw [decide_eq_false h1]
      clear e1 HA
      go_enter Tryz.func66, Tryz.ntmps66
      go_wp2_with fail
      refine (show Calls Tryz.prog 62 _ _ _ from HM.out _ (by repeat' first | exact O0.out | apply Only.alloc)).mono ?_
      rintro e w1 ⟨rfl, o1, m1⟩
      have O1 : Hid (Only (fun b => b = M) w w1) := Only.trans (show Only (fun b => b = M) w _ by repeat' first | exact (Only.refl _ _) | apply Only.alloc) o1 (fun _ _ g => g)
      clear HM o1 m1
      go_wp2
      go_ret
      exact ⟨by simp, O1.out, fun h => by simp at h⟩
  · have hms : msB (d + 1) true t k o = false := by
      unfold msB okV
      rw [if_neg (by omega), if_pos h8]
      rfl
    have mP := nilP
    have mC := nilC
    have O0 : Hid (Only (fun b => b = M) w w) := Only.refl _ _
    rw [hms]
    clear hM hsm hv hd1 hd2 ho hT hg hms hl h8 H
    go_enter Tryz.func66, Tryz.ntmps66
    go_wp2
    go_ret
    exact ⟨rfl, (by repeat' first | exact O0.out | apply Only.alloc), fun h => by cases h⟩
  · have hsz : sz (d + 1) true t = sz d false t := by
      show (if t.k = 7 ∨ t.k = 8 then 1 else sz d false t) = sz d false t
      rw [if_neg (by omega)]
    have hdp : dp (d + 1) true t = dp d false t := by
      show (if t.k = 7 ∨ t.k = 8 then 0 else dp d false t) = dp d false t
      rw [if_neg (by omega)]
    have hok : okV (d + 1) true t = okV d false t := by
      show (if t.k = 7 then clB t.s else if t.k = 8 then false else okV d false t) = okV d false t
      rw [if_neg h7, if_neg h8]
    have hms : msB (d + 1) true t k o = msB d false t k o := by
      unfold msB
      rw [hok, hsz, hdp]
    clear hok
    obtain ⟨T1, y1, rfl⟩ := hu.iface h8
    have hP := va_hit 99 86 _ Tryz.underlying99 (by intro m h; cases h)
    have HV : Hid (∀ w1, Only (fun _ => False) w w1 → Calls Tryz.prog 44 #[.pointer (some ⟨M, 0, none⟩), .iface T1 y1, .int .i64 (o : Int)] w1 fun e w' => e = .returned (.bool (msB d false t k o)) ∧ Hid (Only (fun b => b = M) w1 w' ∧ (msB d false t k o = true → ∃ dd' : Int, VmB w' M ((k + sz d false t : Nat) : Int) dd' ∧ dd' = max dd ((o + dp d false t : Nat) : Int) ∧ dd' ≤ 1000))) := fun w1 o1 => H t _ w1 S M k o dd (hu.only o1 (fun _ _ g => g)) hM hsm (hv.keep o1) hk hd1 hd2 ho (hT.frame o1) hg
    have O0 : Hid (Only (fun _ => False) w w) := Only.refl _ _
    rw [hms, hsz, hdp]
    clear hdp
    obtain ⟨Z, hZ⟩ : ∃ Z, Z = msB d false t k o := ⟨_, rfl⟩
    rw [← hZ] at HV ⊢
    clear hM hsm hv hd1 hd2 ho hT hg hms hsz h7 h8 H hu hZ
    go_enter Tryz.func66, Tryz.ntmps66
    go_wp2_with fail
    refine (show Calls Tryz.prog 44 _ _ _ from HV.out _ (by repeat' first | exact O0.out | apply Only.alloc)).mono ?_
    rintro e w1 ⟨rfl, G1⟩
    have HF : Hid (Only (fun b => b = M) w w1 ∧ (Z = true → ∃ dd' : Int, VmB w1 M ((k + sz d false t : Nat) : Int) dd' ∧ dd' = max dd ((o + dp d false t : Nat) : Int) ∧ dd' ≤ 1000)) := ⟨Only.trans (show Only (fun b => b = M) w _ by repeat' first | exact (Only.refl _ _) | apply Only.alloc) G1.out.1 (fun _ _ g => g), G1.out.2⟩
    clear HV G1
    go_wp2
    go_ret
    exact ⟨rfl, HF.out⟩
theorem mval (d : Nat) (H1 : MsC d false 44) (H2 : MsC d true 66) : MsC (d + 1) false 44 := by
  intro t v w S M k o dd h hM hsm hv hk hd1 hd2 ho hT hg
  by_cases h4 : t.k = 4
  · exact mlist d (ev_values d H1) t v w S M k o dd h h4 hM hsm hv hk hd1 hd2 ho hT hg
  by_cases h5 : t.k = 5
  · exact mquot d (ev_items d H2) t v w S M k o dd h h5 hM hsm hv hk hd1 hd2 ho hT hg
  exact mleaf d t v w S M k o dd h (by omega) (by obtain ⟨e, he⟩ := hsm; exact he.str) hv hk hd1 hd2 ho hT hg
theorem ms_all : ∀ d : Nat, MsC d false 44 ∧ MsC d true 66
  | 0 => ⟨fun t v w S M k o dd h => h.elim, fun t v w S M k o dd h => h.elim⟩
  | d + 1 => ⟨mval d (ms_all d).1 (ms_all d).2, mitem d (ms_all d).1⟩
end Go.Proofs.YtllpacppedobjaaGreatDoor
namespace Go.Proofs.YtllpacppedobjaaGreatDoor
open Go.RowKit Go.Lib
set_option linter.unusedSimpArgs false
set_option linter.unusedVariables false
/-- is a value sound? -/
def sdB (d : Nat) (t : Vt) : Bool := msB d false t 0 0
/-- what measured answers -/
def MeP (Z : Bool) (Y Q : Nat) (w : World) (e : Ending) (w' : World) : Prop := ∃ dd : Int, (Z = true → dd = (Q : Int)) ∧ e = .returned (.tuple #[.agg #[.int .i64 (if Z then (Y : Int) else 0), .int .i64 (if Z then dd else 0)], .int .i64 (if Z then 0 else 1)]) ∧ Only (fun _ => False) w w'
set_option maxRecDepth 100000 in
set_option maxHeartbeats 1000000 in
theorem measured_any {d : Nat} {t : Vt} {v : Value} {w : World} {S : Nat → Prop} (h : TiAt w S d false t v) (hS : ∀ b, S b → b < w.heap.size) (hsm : ∃ e, SmT e t) (hT : Tb w) : Calls Tryz.prog 29 #[v] w (MeP (sdB d t) (sz d false t) (dp d false t) w) := by
  obtain ⟨W, hW⟩ : ∃ W, W = (w.alloc (.cells #[.int .i64 0, .int .i64 0] 78)).alloc (.cells #[.int .i64 0, .int .i64 0] 78) := ⟨_, rfl⟩
  obtain ⟨N, hN⟩ : ∃ N, N = w.heap.size := ⟨_, rfl⟩
  have oW : Only (fun _ => False) w W := by rw [hW]; exact ((Only.refl _ w).alloc _).alloc _
  have a0 : W.heap[N]? = some (.cells #[.int .i64 0, .int .i64 0] 78) := by rw [hW]; exact (((Only.refl (fun _ => False) _).alloc _).block N (by simp [hN]) (fun g => g)).trans (va_at _ _ _ hN)
  have a1 : W.heap[N + 1]? = some (.cells #[.int .i64 0, .int .i64 0] 78) := by rw [hW]; exact va_at _ _ _ (by simp [hN])
  have lt := hT.lt
  have HV : Hid (Calls Tryz.prog 44 #[.pointer (some ⟨N + 1, 0, none⟩), v, .int .i64 0] W fun e w' => e = .returned (.bool (sdB d t)) ∧ Hid (Only (fun b => b = N + 1) W w' ∧ (sdB d t = true → ∃ dd' : Int, VmB w' (N + 1) ((0 + sz d false t : Nat) : Int) dd' ∧ dd' = max 0 ((0 + dp d false t : Nat) : Int) ∧ dd' ≤ 1000))) :=
    (ms_all d).1 t v W S (N + 1) 0 0 0 (h.only oW (fun _ _ g => g)) (fun b hb => by have := hS b hb; omega) hsm a1 (by omega) (by omega) (by omega) (by omega) (hT.frame oW) ⟨by omega, by omega, by omega⟩
  have HA : Hid (W.heap[N]? = some (.cells #[.int .i64 0, .int .i64 0] 78) ∧ Only (fun _ => False) w W ∧ N = w.heap.size) := ⟨a0, oW, hN⟩
  obtain ⟨Z, hZ⟩ : ∃ Z, Z = sdB d t := ⟨_, rfl⟩
  obtain ⟨Y, hY⟩ : ∃ Y, Y = sz d false t := ⟨_, rfl⟩
  obtain ⟨Q, hQ⟩ : ∃ Q, Q = dp d false t := ⟨_, rfl⟩
  rw [← hZ, ← hY, ← hQ] at HV
  rw [← hZ, ← hY, ← hQ]
  clear h hS hsm hT oW a0 a1 lt hZ hY hQ
  go_enter Tryz.func29, Tryz.ntmps29
  go_wp2_with fail
  rw [← hW, ← hN]
  clear hW hN
  refine (show Calls Tryz.prog 44 _ _ _ from HV.out).mono ?_
  rintro e w1 ⟨rfl, G1⟩
  have o1 := G1.out.1
  have h0 := (o1.block N (Array.getElem?_eq_some_iff.1 HA.out.1).1 (by omega)).trans HA.out.1
  have O1 : Hid (Only (fun _ => False) w w1) := HA.out.2.1.trans o1 (fun k hk e => by have := HA.out.2.2; omega)
  have c0 := wr_cell h0 0
  have c1 := wr_cell h0 1
  have f0 := wr_froz h0 0
  have f1 := wr_froz h0 1
  simp only [List.getElem?_toArray, List.getElem?_cons_succ, List.getElem?_cons_zero] at c0 c1
  cases Z with
  | false =>
    have q := set2 c0 c1 (.int .i64 0) (.int .i64 0)
    have QQ : Hid _ := q
    clear h0 HV o1 G1 q
    go_wp2
    refine bodyPost_ret (results_two rfl _ _ N QQ.out.1 QQ.out.2 rfl) rfl ?_
    refine ⟨0, (fun h => by cases h), rfl, (O1.out.setCell _ _ (fun g => ?_)).setCell _ _ (fun g => ?_)⟩ <;> (have := HA.out.2.2; simp only at g; omega)
  | true =>
    obtain ⟨dd, m1, m2, _⟩ := G1.out.2 rfl
    have HM2 : Hid (dd = (Q : Int)) := by show dd = (Q : Int); rw [m2]; omega
    have d0 := wr_cell m1 0
    have d1 := wr_cell m1 1
    simp only [List.getElem?_toArray, List.getElem?_cons_succ, List.getElem?_cons_zero, Nat.zero_add] at d0 d1
    have q := set2 c0 c1 (.int .i64 (Y : Int)) (.int .i64 dd)
    have QQ : Hid _ := q
    clear h0 HV o1 G1 q m1 m2
    go_wp2
    refine bodyPost_ret (results_two rfl _ _ N QQ.out.1 QQ.out.2 rfl) rfl ?_
    refine ⟨dd, (fun _ => HM2.out), rfl, (O1.out.setCell _ _ (fun g => ?_)).setCell _ _ (fun g => ?_)⟩ <;> (have := HA.out.2.2; simp only at g; omega)
set_option maxRecDepth 100000 in
theorem vcheck_any {d : Nat} {t : Vt} {v : Value} {w : World} {S : Nat → Prop} (h : TiAt w S d false t v) (hS : ∀ b, S b → b < w.heap.size) (hsm : ∃ e, SmT e t) (hT : Tb w) : Calls Tryz.prog 9 #[v] w fun e w' => e = .returned (.int .i64 (if sdB d t then 0 else 1)) ∧ Only (fun _ => False) w w' := by
  have HV : Hid _ := measured_any h hS hsm hT
  clear h hS hsm hT
  obtain ⟨X3, h3⟩ : ∃ X : Int, X = (if sdB d t then 0 else 1) := ⟨_, rfl⟩
  rw [← h3]
  have H3 : Hid (X3 = (if sdB d t then 0 else 1)) := h3
  clear h3
  go_enter Tryz.func9, Tryz.ntmps9
  go_wp2_with fail
  refine (show Calls Tryz.prog 29 _ _ _ from HV.out).mono ?_
  rintro e w1 ⟨dd, _, rfl, o1⟩
  have O1 : Hid (Only (fun _ => False) w w1) := o1
  obtain ⟨X1, h1⟩ : ∃ X : Int, X = (if sdB d t then (sz d false t : Int) else 0) := ⟨_, rfl⟩
  obtain ⟨X2, h2⟩ : ∃ X : Int, X = (if sdB d t then dd else 0) := ⟨_, rfl⟩
  rw [← h1, ← h2, ← H3.out]
  clear HV o1 h1 h2
  go_wp2
  go_ret
  exact ⟨rfl, O1.out.alloc _⟩
set_option maxRecDepth 100000 in
theorem vsize_any {d : Nat} {t : Vt} {v : Value} {w : World} {S : Nat → Prop} (h : TiAt w S d false t v) (hS : ∀ b, S b → b < w.heap.size) (hsm : ∃ e, SmT e t) (hT : Tb w) : Calls Tryz.prog 10 #[v] w fun e w' => e = .returned (.tuple #[.int .i64 (if sdB d t then (sz d false t : Int) else 0), .int .i64 (if sdB d t then 0 else 1)]) ∧ Only (fun _ => False) w w' := by
  have HV : Hid _ := measured_any h hS hsm hT
  clear h hS hsm hT
  obtain ⟨X1, h1⟩ : ∃ X : Int, X = (if sdB d t then (sz d false t : Int) else 0) := ⟨_, rfl⟩
  obtain ⟨X3, h3⟩ : ∃ X : Int, X = (if sdB d t then 0 else 1) := ⟨_, rfl⟩
  rw [← h1, ← h3]
  have H1 : Hid (X1 = (if sdB d t then (sz d false t : Int) else 0)) := h1
  have H3 : Hid (X3 = (if sdB d t then 0 else 1)) := h3
  clear h1 h3
  go_enter Tryz.func10, Tryz.ntmps10
  go_wp2_with fail
  refine (show Calls Tryz.prog 29 _ _ _ from HV.out).mono ?_
  rintro e w1 ⟨dd, _, rfl, o1⟩
  have O1 : Hid (Only (fun _ => False) w w1) := o1
  obtain ⟨X2, h2⟩ : ∃ X : Int, X = (if sdB d t then dd else 0) := ⟨_, rfl⟩
  rw [← H1.out, ← h2, ← H3.out]
  clear HV o1 h2
  go_wp2
  go_ret2
  exact ⟨rfl, O1.out.alloc _⟩
set_option maxRecDepth 100000 in
theorem vdepth_any {d : Nat} {t : Vt} {v : Value} {w : World} {S : Nat → Prop} (h : TiAt w S d false t v) (hS : ∀ b, S b → b < w.heap.size) (hsm : ∃ e, SmT e t) (hT : Tb w) : Calls Tryz.prog 11 #[v] w fun e w' => e = .returned (.tuple #[.int .i64 (if sdB d t then (dp d false t : Int) else 0), .int .i64 (if sdB d t then 0 else 1)]) ∧ Only (fun _ => False) w w' := by
  have HV : Hid _ := measured_any h hS hsm hT
  clear h hS hsm hT
  obtain ⟨XD, hD⟩ : ∃ X : Int, X = (if sdB d t then (dp d false t : Int) else 0) := ⟨_, rfl⟩
  obtain ⟨X3, h3⟩ : ∃ X : Int, X = (if sdB d t then 0 else 1) := ⟨_, rfl⟩
  rw [← hD, ← h3]
  have HXD : Hid (XD = (if sdB d t then (dp d false t : Int) else 0)) := hD
  clear hD
  have H3 : Hid (X3 = (if sdB d t then 0 else 1)) := h3
  clear h3
  go_enter Tryz.func11, Tryz.ntmps11
  go_wp2_with fail
  refine (show Calls Tryz.prog 29 _ _ _ from HV.out).mono ?_
  rintro e w1 ⟨dd, hdd, rfl, o1⟩
  have O1 : Hid (Only (fun _ => False) w w1) := o1
  obtain ⟨X1, h1⟩ : ∃ X : Int, X = (if sdB d t then (sz d false t : Int) else 0) := ⟨_, rfl⟩
  obtain ⟨X2, h2⟩ : ∃ X : Int, X = (if sdB d t then dd else 0) := ⟨_, rfl⟩
  have hX2 : X2 = XD := by
    rw [show XD = _ from HXD.out, h2]
    split
    · rename_i g
      exact hdd g
    · rfl
  rw [← h1, ← h2, ← H3.out]
  clear HV o1 h1 h2 hdd
  subst hX2
  go_wp2
  go_ret2
  exact ⟨rfl, O1.out.alloc _⟩
end Go.Proofs.YtllpacppedobjaaGreatDoor
namespace Go.Proofs.YtllpacppedobjaaGreatDoor
open Go.RowKit Go.Lib
set_option linter.unusedSimpArgs false
set_option linter.unusedVariables false
theorem eql_iface (U T1 T2 : TypeId) (x y : Value) (w : World) : (binOp .eql U (.iface T1 x) (.iface T2 y)).run Tryz.prog w = ((Op.equalIn Op.maxDepth U (.iface T1 x) (.iface T2 y)).run Tryz.prog w).andThen fun b w' => .ok (.bool b) w' := by
  simp only [binOp]
  simp [Op.equal]
theorem eq_iface {U T : TypeId} {m} {i : TypeInfo} (d : Nat) (x y : Value) (w : World) (hU : Tryz.prog.underlying U = some (.interface m)) (hi : Tryz.prog.info? T = some i) (hc : i.comparable = true) : (Op.equalIn (d + 1) U (.iface T x) (.iface T y)).run Tryz.prog w = (Op.equalIn d T x y).run Tryz.prog w := by
  simp [Op.equalIn, run_underlying hU, typeInfo, hi, hc]
set_option maxRecDepth 100000 in
theorem eq_int (d : Nat) (n m : Int) (w : World) : (Op.equalIn (d + 2) 63 (.agg #[.int .i64 n]) (.agg #[.int .i64 m])).run Tryz.prog w = .ok (n == m) w := by
  have hS : Tryz.prog.underlying 63 = some (.struct (Tryz.prog.fieldsOf 63)) := by kernel_rfl
  have hp : Tryz.prog.stoodInHeld 63 = false := by kernel_rfl
  have u := Tryz.underlying2
  have a := Tryz.isAgg2
  have z := Tryz.sizeOf2
  rw [run_equalIn_agg w (d + 1) 63 _ _ hS hp]
  simp only [Program.fieldsOf, Tryz.underlying63]
  go_simp
  all_goals (cases h : (n == m) <;> simp_all)
theorem eqv_int (U : TypeId) {q} (hU : Tryz.prog.underlying U = some (.interface q)) (n m : Int) (w : World) : (binOp .eql U (.iface 63 (.agg #[.int .i64 n])) (.iface 63 (.agg #[.int .i64 m]))).run Tryz.prog w = .ok (.bool (n == m)) w := by
  obtain ⟨D, hD⟩ : ∃ D, Op.maxDepth = D + 2 + 1 := ⟨9997, rfl⟩
  have h1 := eq_iface (D + 2) (.agg #[.int .i64 n]) (.agg #[.int .i64 m]) w hU (T := 63) (i := Tryz.t63) (by kernel_rfl) (by kernel_rfl)
  rw [eql_iface, hD, h1, eq_int D n m w]
  rfl
set_option maxRecDepth 100000 in
theorem eq_str (d : Nat) (n m : ByteArray) (w : World) : (Op.equalIn (d + 2) 65 (.agg #[.string n]) (.agg #[.string m])).run Tryz.prog w = .ok (n.toList == m.toList) w := by
  have hS : Tryz.prog.underlying 65 = some (.struct (Tryz.prog.fieldsOf 65)) := by kernel_rfl
  have hp : Tryz.prog.stoodInHeld 65 = false := by kernel_rfl
  have u := Tryz.underlying9
  have a := Tryz.isAgg9
  have z := Tryz.sizeOf9
  rw [run_equalIn_agg w (d + 1) 65 _ _ hS hp]
  simp only [Program.fieldsOf, Tryz.underlying65]
  go_simp
  all_goals (cases h : (n.toList == m.toList) <;> simp_all)
theorem eqv_str (U : TypeId) {q} (hU : Tryz.prog.underlying U = some (.interface q)) (n m : ByteArray) (w : World) : (binOp .eql U (.iface 65 (.agg #[.string n])) (.iface 65 (.agg #[.string m]))).run Tryz.prog w = .ok (.bool (n.toList == m.toList)) w := by
  obtain ⟨D, hD⟩ : ∃ D, Op.maxDepth = D + 2 + 1 := ⟨9997, rfl⟩
  have h1 := eq_iface (D + 2) (.agg #[.string n]) (.agg #[.string m]) w hU (T := 65) (i := Tryz.t65) (by kernel_rfl) (by kernel_rfl)
  rw [eql_iface, hD, h1, eq_str D n m w]
  rfl
set_option maxRecDepth 100000 in
theorem eq_bool (d : Nat) (n m : Bool) (w : World) : (Op.equalIn (d + 2) 67 (.agg #[.bool n]) (.agg #[.bool m])).run Tryz.prog w = .ok (n == m) w := by
  have hS : Tryz.prog.underlying 67 = some (.struct (Tryz.prog.fieldsOf 67)) := by kernel_rfl
  have hp : Tryz.prog.stoodInHeld 67 = false := by kernel_rfl
  have u := Tryz.underlying4
  have a := Tryz.isAgg4
  have z := Tryz.sizeOf4
  rw [run_equalIn_agg w (d + 1) 67 _ _ hS hp]
  simp only [Program.fieldsOf, Tryz.underlying67]
  go_simp
  all_goals (cases h : (n == m) <;> simp_all)
theorem eqv_bool (U : TypeId) {q} (hU : Tryz.prog.underlying U = some (.interface q)) (n m : Bool) (w : World) : (binOp .eql U (.iface 67 (.agg #[.bool n])) (.iface 67 (.agg #[.bool m]))).run Tryz.prog w = .ok (.bool (n == m)) w := by
  obtain ⟨D, hD⟩ : ∃ D, Op.maxDepth = D + 2 + 1 := ⟨9997, rfl⟩
  have h1 := eq_iface (D + 2) (.agg #[.bool n]) (.agg #[.bool m]) w hU (T := 67) (i := Tryz.t67) (by kernel_rfl) (by kernel_rfl)
  rw [eql_iface, hD, h1, eq_bool D n m w]
  rfl
set_option maxRecDepth 100000 in
theorem eq_box (d : Nat) (n m : Int) (w : World) : (Op.equalIn (d + 2) 75 (.agg #[.int .i64 n]) (.agg #[.int .i64 m])).run Tryz.prog w = .ok (n == m) w := by
  have hS : Tryz.prog.underlying 75 = some (.struct (Tryz.prog.fieldsOf 75)) := by kernel_rfl
  have hp : Tryz.prog.stoodInHeld 75 = false := by kernel_rfl
  have u := Tryz.underlying3
  have a := Tryz.isAgg3
  have z := Tryz.sizeOf3
  rw [run_equalIn_agg w (d + 1) 75 _ _ hS hp]
  simp only [Program.fieldsOf, Tryz.underlying75]
  go_simp
  all_goals (cases h : (n == m) <;> simp_all)
theorem eqv_box (U : TypeId) {q} (hU : Tryz.prog.underlying U = some (.interface q)) (n m : Int) (w : World) : (binOp .eql U (.iface 75 (.agg #[.int .i64 n])) (.iface 75 (.agg #[.int .i64 m]))).run Tryz.prog w = .ok (.bool (n == m)) w := by
  obtain ⟨D, hD⟩ : ∃ D, Op.maxDepth = D + 2 + 1 := ⟨9997, rfl⟩
  have h1 := eq_iface (D + 2) (.agg #[.int .i64 n]) (.agg #[.int .i64 m]) w hU (T := 75) (i := Tryz.t75) (by kernel_rfl) (by kernel_rfl)
  rw [eql_iface, hD, h1, eq_box D n m w]
  rfl
set_option maxRecDepth 100000 in
theorem eq_call (d : Nat) (n m : ByteArray) (w : World) : (Op.equalIn (d + 2) 102 (.agg #[.string n]) (.agg #[.string m])).run Tryz.prog w = .ok (n.toList == m.toList) w := by
  have hS : Tryz.prog.underlying 102 = some (.struct (Tryz.prog.fieldsOf 102)) := by kernel_rfl
  have hp : Tryz.prog.stoodInHeld 102 = false := by kernel_rfl
  have u := Tryz.underlying9
  have a := Tryz.isAgg9
  have z := Tryz.sizeOf9
  rw [run_equalIn_agg w (d + 1) 102 _ _ hS hp]
  simp only [Program.fieldsOf, Tryz.underlying102]
  go_simp
  all_goals (cases h : (n.toList == m.toList) <;> simp_all)
theorem eqv_call (U : TypeId) {q} (hU : Tryz.prog.underlying U = some (.interface q)) (n m : ByteArray) (w : World) : (binOp .eql U (.iface 102 (.agg #[.string n])) (.iface 102 (.agg #[.string m]))).run Tryz.prog w = .ok (.bool (n.toList == m.toList)) w := by
  obtain ⟨D, hD⟩ : ∃ D, Op.maxDepth = D + 2 + 1 := ⟨9997, rfl⟩
  have h1 := eq_iface (D + 2) (.agg #[.string n]) (.agg #[.string m]) w hU (T := 102) (i := Tryz.t102) (by kernel_rfl) (by kernel_rfl)
  rw [eql_iface, hD, h1, eq_call D n m w]
  rfl
theorem eqv_ne (U T1 T2 : TypeId) {q} (hU : Tryz.prog.underlying U = some (.interface q)) (x y : Value) (h : T1 ≠ T2) (w : World) : (binOp .eql U (.iface T1 x) (.iface T2 y)).run Tryz.prog w = .ok (.bool false) w := by
  obtain ⟨D, hD⟩ : ∃ D, Op.maxDepth = D + 1 := ⟨9999, rfl⟩
  have h1 : (Op.equalIn (D + 1) U (.iface T1 x) (.iface T2 y)).run Tryz.prog w = .ok false w := by
    simp only [Op.equalIn, Sem.run_bind, run_underlying hU, Result.andThen_ok]
    simp [h]
  rw [eql_iface, hD, h1]
  rfl
end Go.Proofs.YtllpacppedobjaaGreatDoor
namespace Go.Proofs.YtllpacppedobjaaGreatDoor
open Go.RowKit Go.Lib
set_option linter.unusedSimpArgs false
set_option linter.unusedVariables false
def smL (f : Vt → Vt → Bool) : List Vt → List Vt → Bool
  | [], [] => true
  | x :: a, y :: b => f x y && smL f a b
  | _, _ => false
/-- are two values (items) the same? -/
def smV : Nat → Bool → Vt → Vt → Bool
  | 0, _, _, _ => false
  | d + 1, true, a, b => if a.k = 7 ∨ b.k = 7 then decide (a.k = 7) && decide (b.k = 7) && (a.s.toList == b.s.toList) else smV d false a b
  | d + 1, false, a, b => decide (a.k = b.k) && (if a.k = 1 ∨ a.k = 6 then a.n == b.n else if a.k = 2 then a.s.toList == b.s.toList else if a.k = 3 then (a.n != 0) == (b.n != 0) else smL (smV d (decide (a.k = 5))) a.l b.l)
theorem smL_len (f : Vt → Vt → Bool) : ∀ a b : List Vt, a.length ≠ b.length → smL f a b = false
  | [], [], h => absurd rfl h
  | [], y :: b, _ => rfl
  | x :: a, [], _ => rfl
  | x :: a, y :: b, h => by
    unfold smL
    rw [smL_len f a b (by simpa using h), Bool.and_false]
theorem drop_at {l : List Vt} {j : Nat} {x : Vt} (hx : l[j]? = some x) : l.drop j = x :: l.drop (j + 1) := by
  obtain ⟨hlt, he⟩ := List.getElem?_eq_some_iff.1 hx
  rw [List.drop_eq_getElem_cons hlt, he]
/-- what same, sameItem answer of what is what it may be -/
def SaV (d : Nat) (i : Bool) (F : Nat) : Prop := ∀ (a b : Vt) (va vb : Value) (w : World) (S : Nat → Prop), TiAt w S d i a va → TiAt w S d i b vb → (okV d i a = true ∧ ∃ e, SmT e a) → (okV d i b = true ∧ ∃ e, SmT e b) → Calls Tryz.prog F #[va, vb] w fun e w' => e = .returned (.bool (smV d i a b)) ∧ Only (fun _ => False) w w'
def EfV (d : Nat) (i : Bool) (F Fm : Nat) : Prop := ∀ (la lb : List Vt) (ao bo : Option Addr) (ca cb : Nat) (w : World) (S : Nat → Prop), (∀ (j : Nat) (x : Vt), la[j]? = some x → ∃ g q u, ao = some ⟨g, q, none⟩ ∧ S g ∧ w.cell? ⟨g, q + j, none⟩ = some u ∧ TiAt w S d i x u) → (∀ (j : Nat) (x : Vt), lb[j]? = some x → ∃ g q u, bo = some ⟨g, q, none⟩ ∧ S g ∧ w.cell? ⟨g, q + j, none⟩ = some u ∧ TiAt w S d i x u) → (∀ x ∈ la, okV d i x = true ∧ ∃ e, SmT e x) → (∀ x ∈ lb, okV d i x = true ∧ ∃ e, SmT e x) → la.length ≤ 1048576 → lb.length ≤ 1048576 → Calls Tryz.prog F #[.slice ao la.length ca, .slice bo lb.length cb, .func (.func Fm) #[] #[]] w fun e w' => e = .returned (.bool (smL (smV d i) la lb)) ∧ Only (fun _ => False) w w'
set_option maxRecDepth 100000 in
set_option maxHeartbeats 4000000 in
theorem ef_values (d : Nat) (H : SaV d false 43) : EfV d false 59 43 := by
  intro la lb ao bo ca cb w S ha hb hoa hob hna hnb
  have HE : Hid (∀ (j : Nat) (x y : Vt), la[j]? = some x → lb[j]? = some y → ∃ g q u g' q' u', ao = some ⟨g, q, none⟩ ∧ bo = some ⟨g', q', none⟩ ∧ w.cell? ⟨g, q + j, none⟩ = some u ∧ w.cell? ⟨g', q' + j, none⟩ = some u' ∧ ∀ w1, Only (fun _ => False) w w1 → Calls Tryz.prog 43 #[u, u'] w1 fun e w' => e = .returned (.bool (smV d false x y)) ∧ Only (fun _ => False) w1 w') := by
    intro j x y hx hy
    obtain ⟨g, q, u, p1, p2, p3, p4⟩ := ha j x hx
    obtain ⟨g', q', u', r1, r2, r3, r4⟩ := hb j y hy
    exact ⟨g, q, u, g', q', u', p1, r1, p3, r3, fun w1 o1 => H x y u u' w1 S (p4.only o1 (fun _ _ g => g)) (r4.only o1 (fun _ _ g => g)) (hoa x (List.mem_of_getElem? hx)) (hob y (List.mem_of_getElem? hy))⟩
  obtain ⟨Z, hZ⟩ : ∃ Z, Z = smL (smV d false) la lb := ⟨_, rfl⟩
  have HZ : Hid (Z = smL (smV d false) la lb) := hZ
  obtain ⟨N, hN⟩ : ∃ N, N = la.length := ⟨_, rfl⟩
  obtain ⟨K, hK⟩ : ∃ K, K = lb.length := ⟨_, rfl⟩
  have HN : Hid (N = la.length ∧ K = lb.length ∧ N ≤ 1048576 ∧ K ≤ 1048576) := ⟨hN, hK, by omega, by omega⟩
  rw [← hN, ← hK, ← hZ]
  clear ha hb hoa hob hna hnb hZ hN hK H
  by_cases hNK : N = K
  · have e1 : ((N : Int) == (K : Int)) = true := by simp [hNK]
    subst hNK
    clear e1
    go_enter Tryz.func59, Tryz.ntmps59
    go_wp2
    go_loopw [17] (fun r wr => ∃ j : Nat, r = .int .i64 (j : Int) ∧ j ≤ N ∧ Hid (Z = smL (smV d false) (la.drop j) (lb.drop j) ∧ Only (fun _ => False) w wr)) (fun r _ => N - vuOf r)
    case atStart => exact ⟨0, rfl, Nat.zero_le _, by simpa using HZ.out, Only.refl _ _⟩
    case round =>
      obtain ⟨j, rfl, hj, HI⟩ := hrel
      obtain ⟨w1, hw1⟩ : ∃ w1, w1 = wr := ⟨_, rfl⟩
      rw [← hw1] at HI ⊢
      clear hw1
      have hNl := HN.out
      by_cases hjN : j < N
      · obtain ⟨x, hx⟩ : ∃ x, la[j]? = some x := ⟨la[j]'(by omega), List.getElem?_eq_getElem (by omega)⟩
        obtain ⟨y, hy⟩ : ∃ y, lb[j]? = some y := ⟨lb[j]'(by omega), List.getElem?_eq_getElem (by omega)⟩
        obtain ⟨g, q, u, g', q', u', rfl, rfl, c0, c1, hcall⟩ := HE.out j x y hx hy
        have o1 := HI.out.2
        have c0 := o1.cell c0 (fun g => g)
        have c1 := o1.cell c1 (fun g => g)
        have HC : Hid _ := hcall w1 o1
        have HX : Hid (j < N ∧ Z = smL (smV d false) (x :: la.drop (j + 1)) (y :: lb.drop (j + 1))) := ⟨hjN, by rw [← drop_at hx, ← drop_at hy]; exact HI.out.1⟩
        have O1 : Hid (Only (fun _ => False) w w1) := o1
        have i1 : (j : Int) < (N : Int) := by omega
        have i0 : (0 : Int) ≤ (j : Int) := by omega
        have i4 : j ≤ 1048576 := by omega
        obtain ⟨b, hb⟩ : ∃ b, b = smV d false x y := ⟨_, rfl⟩
        have HB : Hid (b = smV d false x y) := hb
        rw [← hb] at HC
        clear hcall o1 hx hy hNl hjN hj HI hb
        go_wp2_with fail
        refine (show Calls Tryz.prog 43 _ _ _ from HC.out).mono ?_
        rintro e w2 ⟨rfl, o2⟩
        have O2 : Hid (Only (fun _ => False) w w2) := O1.out.trans o2 (fun _ _ g => g)
        clear HC c0 c1 o2 O1
        cases b with
        | false =>
          have hzf : Z = false := by
            have := HX.out.2
            unfold smL at this
            rw [← HB.out] at this
            simpa using this
          have HF : Hid (Z = false) := hzf
          clear hzf
          go_wp2
          go_ret
          exact ⟨by rw [HF.out]; rfl, O2.out⟩
        | true =>
          have HF : Hid (Z = smL (smV d false) (la.drop (j + 1)) (lb.drop (j + 1)) ∧ Only (fun _ => False) w w2) := by
            have := HX.out.2
            unfold smL at this
            rw [← HB.out] at this
            exact ⟨by simpa using this, O2.out⟩
          have HJ : Hid (j < N) := HX.out.1
          clear HX HB O2
          go_wp2
          go_roundw
          case rel => exact ⟨j + 1, by go_num, by have := HJ.out; omega, HF⟩
          case measure => simp only [vuOf]; have := HJ.out; omega
      · obtain rfl : j = N := by omega
        have i1 : ¬ (j : Int) < (j : Int) := by omega
        have HF : Hid (Z = true ∧ Only (fun _ => False) w w1) := by
          obtain ⟨hz, o1⟩ := HI.out
          rw [show la.drop j = [] from List.drop_eq_nil_of_le (by omega), show lb.drop j = [] from List.drop_eq_nil_of_le (by omega)] at hz
          exact ⟨hz, o1⟩
        clear HI hNl hjN hj
        go_wp2
        go_ret
        exact ⟨by rw [HF.out.1]; rfl, HF.out.2⟩
  · have HF : Hid (Z = false) := by rw [HZ.out]; exact smL_len _ _ _ (by have := HN.out; omega)
    have O0 : Hid (Only (fun _ => False) w w) := Only.refl _ _
    have e1 : ((N : Int) != (K : Int)) = true := by
      simp only [bne_iff_ne, ne_eq]
      omega
    clear hNK
    go_enter Tryz.func59, Tryz.ntmps59
    go_wp2
    go_ret
    exact ⟨by rw [HF.out]; rfl, O0.out⟩
set_option maxRecDepth 100000 in
set_option maxHeartbeats 4000000 in
theorem ef_items (d : Nat) (H : SaV d true 61) : EfV d true 60 61 := by
  intro la lb ao bo ca cb w S ha hb hoa hob hna hnb
  have HE : Hid (∀ (j : Nat) (x y : Vt), la[j]? = some x → lb[j]? = some y → ∃ g q u g' q' u', ao = some ⟨g, q, none⟩ ∧ bo = some ⟨g', q', none⟩ ∧ w.cell? ⟨g, q + j, none⟩ = some u ∧ w.cell? ⟨g', q' + j, none⟩ = some u' ∧ ∀ w1, Only (fun _ => False) w w1 → Calls Tryz.prog 61 #[u, u'] w1 fun e w' => e = .returned (.bool (smV d true x y)) ∧ Only (fun _ => False) w1 w') := by
    intro j x y hx hy
    obtain ⟨g, q, u, p1, p2, p3, p4⟩ := ha j x hx
    obtain ⟨g', q', u', r1, r2, r3, r4⟩ := hb j y hy
    exact ⟨g, q, u, g', q', u', p1, r1, p3, r3, fun w1 o1 => H x y u u' w1 S (p4.only o1 (fun _ _ g => g)) (r4.only o1 (fun _ _ g => g)) (hoa x (List.mem_of_getElem? hx)) (hob y (List.mem_of_getElem? hy))⟩
  obtain ⟨Z, hZ⟩ : ∃ Z, Z = smL (smV d true) la lb := ⟨_, rfl⟩
  have HZ : Hid (Z = smL (smV d true) la lb) := hZ
  obtain ⟨N, hN⟩ : ∃ N, N = la.length := ⟨_, rfl⟩
  obtain ⟨K, hK⟩ : ∃ K, K = lb.length := ⟨_, rfl⟩
  have HN : Hid (N = la.length ∧ K = lb.length ∧ N ≤ 1048576 ∧ K ≤ 1048576) := ⟨hN, hK, by omega, by omega⟩
  rw [← hN, ← hK, ← hZ]
  clear ha hb hoa hob hna hnb hZ hN hK H
  by_cases hNK : N = K
  · have e1 : ((N : Int) == (K : Int)) = true := by simp [hNK]
    subst hNK
    clear e1
    go_enter Tryz.func60, Tryz.ntmps60
    go_wp2
    go_loopw [17] (fun r wr => ∃ j : Nat, r = .int .i64 (j : Int) ∧ j ≤ N ∧ Hid (Z = smL (smV d true) (la.drop j) (lb.drop j) ∧ Only (fun _ => False) w wr)) (fun r _ => N - vuOf r)
    case atStart => exact ⟨0, rfl, Nat.zero_le _, by simpa using HZ.out, Only.refl _ _⟩
    case round =>
      obtain ⟨j, rfl, hj, HI⟩ := hrel
      obtain ⟨w1, hw1⟩ : ∃ w1, w1 = wr := ⟨_, rfl⟩
      rw [← hw1] at HI ⊢
      clear hw1
      have hNl := HN.out
      by_cases hjN : j < N
      · obtain ⟨x, hx⟩ : ∃ x, la[j]? = some x := ⟨la[j]'(by omega), List.getElem?_eq_getElem (by omega)⟩
        obtain ⟨y, hy⟩ : ∃ y, lb[j]? = some y := ⟨lb[j]'(by omega), List.getElem?_eq_getElem (by omega)⟩
        obtain ⟨g, q, u, g', q', u', rfl, rfl, c0, c1, hcall⟩ := HE.out j x y hx hy
        have o1 := HI.out.2
        have c0 := o1.cell c0 (fun g => g)
        have c1 := o1.cell c1 (fun g => g)
        have HC : Hid _ := hcall w1 o1
        have HX : Hid (j < N ∧ Z = smL (smV d true) (x :: la.drop (j + 1)) (y :: lb.drop (j + 1))) := ⟨hjN, by rw [← drop_at hx, ← drop_at hy]; exact HI.out.1⟩
        have O1 : Hid (Only (fun _ => False) w w1) := o1
        have i1 : (j : Int) < (N : Int) := by omega
        have i0 : (0 : Int) ≤ (j : Int) := by omega
        have i4 : j ≤ 1048576 := by omega
        obtain ⟨b, hb⟩ : ∃ b, b = smV d true x y := ⟨_, rfl⟩
        have HB : Hid (b = smV d true x y) := hb
        rw [← hb] at HC
        clear hcall o1 hx hy hNl hjN hj HI hb
        go_wp2_with fail
        refine (show Calls Tryz.prog 61 _ _ _ from HC.out).mono ?_
        rintro e w2 ⟨rfl, o2⟩
        have O2 : Hid (Only (fun _ => False) w w2) := O1.out.trans o2 (fun _ _ g => g)
        clear HC c0 c1 o2 O1
        cases b with
        | false =>
          have hzf : Z = false := by
            have := HX.out.2
            unfold smL at this
            rw [← HB.out] at this
            simpa using this
          have HF : Hid (Z = false) := hzf
          clear hzf
          go_wp2
          go_ret
          exact ⟨by rw [HF.out]; rfl, O2.out⟩
        | true =>
          have HF : Hid (Z = smL (smV d true) (la.drop (j + 1)) (lb.drop (j + 1)) ∧ Only (fun _ => False) w w2) := by
            have := HX.out.2
            unfold smL at this
            rw [← HB.out] at this
            exact ⟨by simpa using this, O2.out⟩
          have HJ : Hid (j < N) := HX.out.1
          clear HX HB O2
          go_wp2
          go_roundw
          case rel => exact ⟨j + 1, by go_num, by have := HJ.out; omega, HF⟩
          case measure => simp only [vuOf]; have := HJ.out; omega
      · obtain rfl : j = N := by omega
        have i1 : ¬ (j : Int) < (j : Int) := by omega
        have HF : Hid (Z = true ∧ Only (fun _ => False) w w1) := by
          obtain ⟨hz, o1⟩ := HI.out
          rw [show la.drop j = [] from List.drop_eq_nil_of_le (by omega), show lb.drop j = [] from List.drop_eq_nil_of_le (by omega)] at hz
          exact ⟨hz, o1⟩
        clear HI hNl hjN hj
        go_wp2
        go_ret
        exact ⟨by rw [HF.out.1]; rfl, HF.out.2⟩
  · have HF : Hid (Z = false) := by rw [HZ.out]; exact smL_len _ _ _ (by have := HN.out; omega)
    have O0 : Hid (Only (fun _ => False) w w) := Only.refl _ _
    have e1 : ((N : Int) != (K : Int)) = true := by
      simp only [bne_iff_ne, ne_eq]
      omega
    clear hNK
    go_enter Tryz.func60, Tryz.ntmps60
    go_wp2
    go_ret
    exact ⟨by rw [HF.out]; rfl, O0.out⟩
end Go.Proofs.YtllpacppedobjaaGreatDoor
namespace Go.Proofs.YtllpacppedobjaaGreatDoor
open Go.RowKit Go.Lib
set_option linter.unusedSimpArgs false
set_option linter.unusedVariables false
theorem ok_ne8 {d : Nat} {t : Vt} (h : okV d false t = true) : t.k ≠ 8 := by
  cases d with
  | zero => cases h
  | succ d =>
    intro e
    have : okV (d + 1) false t = alB t := by
      show (if t.k = 4 ∨ t.k = 5 then _ else alB t) = _
      rw [if_neg (by omega)]
    rw [this] at h
    unfold alB at h
    rw [if_neg (by omega), if_neg (by omega), if_neg (by omega)] at h
    simp only [decide_eq_true_eq] at h
    omega
theorem ti_list {w : World} {S : Nat → Prop} {d : Nat} {t : Vt} {v : Value} {k : Int} (h : TiAt w S (d + 1) false t v) (hk : t.k = k) (hk4 : k = 4 ∨ k = 5) : ∃ ao cap, v = .iface (if k = 4 then 71 else 73) (.agg #[.slice ao t.l.length cap]) ∧ t.l.length ≤ cap ∧ ∀ i x, t.l[i]? = some x → ∃ g q u, ao = some ⟨g, q, none⟩ ∧ S g ∧ w.cell? ⟨g, q + i, none⟩ = some u ∧ TiAt w S d (decide (k = 5)) x u := by
  rcases h with ⟨e, _⟩ | ⟨e, _⟩ | ⟨e, _⟩ | ⟨e, _⟩ | ⟨e, _⟩ | ⟨_, ao, cap, h1, h2, h3⟩
  · omega
  · omega
  · omega
  · omega
  · omega
  · rw [hk] at h1 h3
    exact ⟨ao, cap, h1, h2, h3⟩
theorem miss_list {w : World} {S : Nat → Prop} {d : Nat} {t : Vt} {v : Value} (h : TiAt w S (d + 1) false t v) (hk : ¬ t.k = 4) (h8 : t.k ≠ 8) : ∀ W : World, (Instr.typeAssert v 27 71 true).run Tryz.prog W = .ok (.tuple #[.agg #[.slice none 0 0], .bool false]) W := by
  by_cases h5 : t.k = 5
  · obtain ⟨ao, cap, rfl, _⟩ := ti_list h h5 (.inr rfl)
    exact va_miss 73 71 27 _ Tryz.underlying71 (by intro m h; cases h) (by decide) _ zL _
  · exact (leaf_lq h (by omega)).1.1
theorem miss_quot {w : World} {S : Nat → Prop} {d : Nat} {t : Vt} {v : Value} (h : TiAt w S (d + 1) false t v) (hk : ¬ t.k = 5) (h8 : t.k ≠ 8) : ∀ W : World, (Instr.typeAssert v 27 73 true).run Tryz.prog W = .ok (.tuple #[.agg #[.slice none 0 0], .bool false]) W := by
  by_cases h4 : t.k = 4
  · obtain ⟨ao, cap, rfl, _⟩ := ti_list h h4 (.inl rfl)
    exact va_miss 71 73 27 _ Tryz.underlying73 (by intro m h; cases h) (by decide) _ zQ _
  · exact (leaf_lq h (by omega)).1.2
set_option maxRecDepth 100000 in
set_option maxHeartbeats 4000000 in
theorem same_list (d : Nat) (H : EfV d false 59 43) (a b : Vt) (va vb : Value) (w : World) (S : Nat → Prop) (h1 : TiAt w S (d + 1) false a va) (h2 : TiAt w S (d + 1) false b vb) (ho1 : okV (d + 1) false a = true ∧ ∃ e, SmT e a) (ho2 : okV (d + 1) false b = true ∧ ∃ e, SmT e b) (hk : a.k = 4) : Calls Tryz.prog 43 #[va, vb] w fun e w' => e = .returned (.bool (smV (d + 1) false a b)) ∧ Only (fun _ => False) w w' := by
  obtain ⟨ao, ca, rfl, _, hea⟩ := ti_list h1 hk (by decide)
  have hHit := va_hit 71 27 _ Tryz.underlying71 (by intro m h; cases h)
  have O0 : Hid (Only (fun _ => False) w w) := Only.refl _ _
  by_cases hb : b.k = 4
  · obtain ⟨bo, cb, rfl, _, heb⟩ := ti_list h2 hb (by decide)
    have hsm : smV (d + 1) false a b = smL (smV d false) a.l b.l := by
      show (decide (a.k = b.k) && _) = _
      rw [hk, hb]
      rfl
    have hall : ∀ t : Vt, t.k = 4 → okV (d + 1) false t = true ∧ (∃ e, SmT e t) → (∀ x ∈ t.l, okV d false x = true ∧ ∃ e, SmT e x) ∧ t.l.length ≤ 1048576 := by
      rintro t ht ⟨hok, e, he⟩
      have : okV (d + 1) false t = t.l.all (okV d false) := by
        show (if t.k = 4 ∨ t.k = 5 then t.l.all (okV d (decide (t.k = 5))) else alB t) = _
        rw [if_pos (by omega), ht]
        rfl
      rw [this, List.all_eq_true] at hok
      exact ⟨fun x hx => ⟨hok x hx, he.parts x hx⟩, he.len⟩
    have HE : Hid (∀ w1, Only (fun _ => False) w w1 → Calls Tryz.prog 59 #[.slice ao a.l.length ca, .slice bo b.l.length cb, .func (.func 43) #[] #[]] w1 fun e w' => e = .returned (.bool (smL (smV d false) a.l b.l)) ∧ Only (fun _ => False) w1 w') := fun w1 o1 => H a.l b.l ao bo ca cb w1 S (fun j x hx => by obtain ⟨g, q, u, p1, p2, p3, p4⟩ := hea j x hx; exact ⟨g, q, u, p1, p2, o1.cell p3 (fun g => g), p4.only o1 (fun _ _ g => g)⟩) (fun j x hx => by obtain ⟨g, q, u, p1, p2, p3, p4⟩ := heb j x hx; exact ⟨g, q, u, p1, p2, o1.cell p3 (fun g => g), p4.only o1 (fun _ _ g => g)⟩) (hall a hk ho1).1 (hall b hb ho2).1 (hall a hk ho1).2 (hall b hb ho2).2
    rw [hsm]
    obtain ⟨Z, hZ⟩ : ∃ Z, Z = smL (smV d false) a.l b.l := ⟨_, rfl⟩
    obtain ⟨L, hL⟩ : ∃ L, L = a.l.length := ⟨_, rfl⟩
    obtain ⟨K, hK⟩ : ∃ K, K = b.l.length := ⟨_, rfl⟩
    rw [← hZ, ← hL, ← hK] at HE
    rw [← hZ, ← hL, ← hK]
    clear h1 h2 ho1 ho2 hk hb hea heb hsm hall hZ hL hK H
    go_enter Tryz.func43, Tryz.ntmps43
    go_wp2_with fail
    refine (show Calls Tryz.prog 59 _ _ _ from HE.out _ (by repeat' first | exact O0.out | apply Only.alloc)).mono ?_
    rintro e w1 ⟨rfl, o1⟩
    have O1 : Hid (Only (fun _ => False) w w1) := Only.trans (show Only (fun _ => False) w _ by repeat' first | exact (Only.refl _ _) | apply Only.alloc) o1 (fun _ _ g => g)
    clear HE o1
    go_wp2
    go_ret
    exact ⟨rfl, O1.out⟩
  · have hsm : smV (d + 1) false a b = false := by
      show (decide (a.k = b.k) && _) = _
      rw [decide_eq_false (by omega), Bool.false_and]
    have hbm := miss_list h2 hb (ok_ne8 ho2.1)
    rw [hsm]
    obtain ⟨L, hL⟩ : ∃ L, L = a.l.length := ⟨_, rfl⟩
    rw [← hL]
    clear h1 h2 ho1 ho2 hk hb hea hsm hL H
    go_enter Tryz.func43, Tryz.ntmps43
    go_wp2
    go_ret
    exact ⟨rfl, (by repeat' first | exact O0.out | apply Only.alloc)⟩
set_option maxRecDepth 100000 in
set_option maxHeartbeats 4000000 in
theorem same_quot (d : Nat) (H : EfV d true 60 61) (a b : Vt) (va vb : Value) (w : World) (S : Nat → Prop) (h1 : TiAt w S (d + 1) false a va) (h2 : TiAt w S (d + 1) false b vb) (ho1 : okV (d + 1) false a = true ∧ ∃ e, SmT e a) (ho2 : okV (d + 1) false b = true ∧ ∃ e, SmT e b) (hk : a.k = 5) : Calls Tryz.prog 43 #[va, vb] w fun e w' => e = .returned (.bool (smV (d + 1) false a b)) ∧ Only (fun _ => False) w w' := by
  obtain ⟨ao, ca, rfl, _, hea⟩ := ti_list h1 hk (by decide)
  have hHit := va_hit 73 27 _ Tryz.underlying73 (by intro m h; cases h)
  have hMissA := va_miss 73 71 27 _ Tryz.underlying71 (by intro m h; cases h) (by decide) _ zL
  have O0 : Hid (Only (fun _ => False) w w) := Only.refl _ _
  by_cases hb : b.k = 5
  · obtain ⟨bo, cb, rfl, _, heb⟩ := ti_list h2 hb (by decide)
    have hsm : smV (d + 1) false a b = smL (smV d true) a.l b.l := by
      show (decide (a.k = b.k) && _) = _
      rw [hk, hb]
      rfl
    have hall : ∀ t : Vt, t.k = 5 → okV (d + 1) false t = true ∧ (∃ e, SmT e t) → (∀ x ∈ t.l, okV d true x = true ∧ ∃ e, SmT e x) ∧ t.l.length ≤ 1048576 := by
      rintro t ht ⟨hok, e, he⟩
      have : okV (d + 1) false t = t.l.all (okV d true) := by
        show (if t.k = 4 ∨ t.k = 5 then t.l.all (okV d (decide (t.k = 5))) else alB t) = _
        rw [if_pos (by omega), ht]
        rfl
      rw [this, List.all_eq_true] at hok
      exact ⟨fun x hx => ⟨hok x hx, he.parts x hx⟩, he.len⟩
    have HE : Hid (∀ w1, Only (fun _ => False) w w1 → Calls Tryz.prog 60 #[.slice ao a.l.length ca, .slice bo b.l.length cb, .func (.func 61) #[] #[]] w1 fun e w' => e = .returned (.bool (smL (smV d true) a.l b.l)) ∧ Only (fun _ => False) w1 w') := fun w1 o1 => H a.l b.l ao bo ca cb w1 S (fun j x hx => by obtain ⟨g, q, u, p1, p2, p3, p4⟩ := hea j x hx; exact ⟨g, q, u, p1, p2, o1.cell p3 (fun g => g), p4.only o1 (fun _ _ g => g)⟩) (fun j x hx => by obtain ⟨g, q, u, p1, p2, p3, p4⟩ := heb j x hx; exact ⟨g, q, u, p1, p2, o1.cell p3 (fun g => g), p4.only o1 (fun _ _ g => g)⟩) (hall a hk ho1).1 (hall b hb ho2).1 (hall a hk ho1).2 (hall b hb ho2).2
    rw [hsm]
    obtain ⟨Z, hZ⟩ : ∃ Z, Z = smL (smV d true) a.l b.l := ⟨_, rfl⟩
    obtain ⟨L, hL⟩ : ∃ L, L = a.l.length := ⟨_, rfl⟩
    obtain ⟨K, hK⟩ : ∃ K, K = b.l.length := ⟨_, rfl⟩
    rw [← hZ, ← hL, ← hK] at HE
    rw [← hZ, ← hL, ← hK]
    clear h1 h2 ho1 ho2 hk hb hea heb hsm hall hZ hL hK H
    go_enter Tryz.func43, Tryz.ntmps43
    go_wp2_with fail
    refine (show Calls Tryz.prog 60 _ _ _ from HE.out _ (by repeat' first | exact O0.out | apply Only.alloc)).mono ?_
    rintro e w1 ⟨rfl, o1⟩
    have O1 : Hid (Only (fun _ => False) w w1) := Only.trans (show Only (fun _ => False) w _ by repeat' first | exact (Only.refl _ _) | apply Only.alloc) o1 (fun _ _ g => g)
    clear HE o1
    go_wp2
    go_ret
    exact ⟨rfl, O1.out⟩
  · have hsm : smV (d + 1) false a b = false := by
      show (decide (a.k = b.k) && _) = _
      rw [decide_eq_false (by omega), Bool.false_and]
    have hbm := miss_quot h2 hb (ok_ne8 ho2.1)
    rw [hsm]
    obtain ⟨L, hL⟩ : ∃ L, L = a.l.length := ⟨_, rfl⟩
    rw [← hL]
    clear h1 h2 ho1 ho2 hk hb hea hsm hL H
    go_enter Tryz.func43, Tryz.ntmps43
    go_wp2
    go_ret
    exact ⟨rfl, (by repeat' first | exact O0.out | apply Only.alloc)⟩
end Go.Proofs.YtllpacppedobjaaGreatDoor
namespace Go.Proofs.YtllpacppedobjaaGreatDoor
open Go.RowKit Go.Lib
set_option linter.unusedSimpArgs false
set_option linter.unusedVariables false
theorem sm_ne (d : Nat) {a b : Vt} (h : a.k ≠ b.k) : smV (d + 1) false a b = false := by
  show (decide (a.k = b.k) && _) = _
  rw [decide_eq_false h, Bool.false_and]
theorem eq_leaf {w : World} {S : Nat → Prop} {d : Nat} {a b : Vt} {va vb : Value} (h1 : TiAt w S (d + 1) false a va) (h2 : TiAt w S (d + 1) false b vb) (hk : ¬ (a.k = 4 ∨ a.k = 5)) (ha8 : a.k ≠ 8) (hb8 : b.k ≠ 8) (W : World) : (binOp .eql 27 va vb).run Tryz.prog W = .ok (.bool (smV (d + 1) false a b)) W := by
  obtain ⟨k, n, s, l⟩ := a
  obtain ⟨k', n', s', l'⟩ := b
  have hU := Tryz.underlying27
  rcases h1 with ⟨e, _, rfl⟩ | ⟨e, _, rfl⟩ | ⟨e, _, rfl⟩ | ⟨e, _, rfl⟩ | ⟨e, _, rfl⟩ | ⟨e, _⟩
  · simp only at e
    subst e
    rcases h2 with ⟨e', _, rfl⟩ | ⟨e', _, rfl⟩ | ⟨e', _, rfl⟩ | ⟨e', _, rfl⟩ | ⟨e', _, rfl⟩ | ⟨e', ao, cap, rfl, _⟩
    · simp only at e'
      subst e'
      exact eqv_int _ hU n n' W
    · simp only at e'
      subst e'
      exact eqv_ne _ _ _ hU _ _ (by decide) W
    · simp only at e'
      subst e'
      exact eqv_ne _ _ _ hU _ _ (by decide) W
    · simp only at e'
      subst e'
      exact eqv_ne _ _ _ hU _ _ (by decide) W
    · exact absurd e' hb8
    · simp only at e'
      rw [sm_ne d (by simp only; omega)]
      rcases e' with rfl | rfl <;> exact eqv_ne _ _ _ hU _ _ (by simp) W
  · simp only at e
    subst e
    rcases h2 with ⟨e', _, rfl⟩ | ⟨e', _, rfl⟩ | ⟨e', _, rfl⟩ | ⟨e', _, rfl⟩ | ⟨e', _, rfl⟩ | ⟨e', ao, cap, rfl, _⟩
    · simp only at e'
      subst e'
      exact eqv_ne _ _ _ hU _ _ (by decide) W
    · simp only at e'
      subst e'
      exact eqv_str _ hU s s' W
    · simp only at e'
      subst e'
      exact eqv_ne _ _ _ hU _ _ (by decide) W
    · simp only at e'
      subst e'
      exact eqv_ne _ _ _ hU _ _ (by decide) W
    · exact absurd e' hb8
    · simp only at e'
      rw [sm_ne d (by simp only; omega)]
      rcases e' with rfl | rfl <;> exact eqv_ne _ _ _ hU _ _ (by simp) W
  · simp only at e
    subst e
    rcases h2 with ⟨e', _, rfl⟩ | ⟨e', _, rfl⟩ | ⟨e', _, rfl⟩ | ⟨e', _, rfl⟩ | ⟨e', _, rfl⟩ | ⟨e', ao, cap, rfl, _⟩
    · simp only at e'
      subst e'
      exact eqv_ne _ _ _ hU _ _ (by decide) W
    · simp only at e'
      subst e'
      exact eqv_ne _ _ _ hU _ _ (by decide) W
    · simp only at e'
      subst e'
      exact eqv_bool _ hU (n != 0) (n' != 0) W
    · simp only at e'
      subst e'
      exact eqv_ne _ _ _ hU _ _ (by decide) W
    · exact absurd e' hb8
    · simp only at e'
      rw [sm_ne d (by simp only; omega)]
      rcases e' with rfl | rfl <;> exact eqv_ne _ _ _ hU _ _ (by simp) W
  · simp only at e
    subst e
    rcases h2 with ⟨e', _, rfl⟩ | ⟨e', _, rfl⟩ | ⟨e', _, rfl⟩ | ⟨e', _, rfl⟩ | ⟨e', _, rfl⟩ | ⟨e', ao, cap, rfl, _⟩
    · simp only at e'
      subst e'
      exact eqv_ne _ _ _ hU _ _ (by decide) W
    · simp only at e'
      subst e'
      exact eqv_ne _ _ _ hU _ _ (by decide) W
    · simp only at e'
      subst e'
      exact eqv_ne _ _ _ hU _ _ (by decide) W
    · simp only at e'
      subst e'
      exact eqv_box _ hU n n' W
    · exact absurd e' hb8
    · simp only at e'
      rw [sm_ne d (by simp only; omega)]
      rcases e' with rfl | rfl <;> exact eqv_ne _ _ _ hU _ _ (by simp) W
  · exact absurd e ha8
  · exact absurd e hk
set_option maxRecDepth 100000 in
theorem same_leaf (d : Nat) (a b : Vt) (va vb : Value) (w : World) (S : Nat → Prop) (h1 : TiAt w S (d + 1) false a va) (h2 : TiAt w S (d + 1) false b vb) (hk : ¬ (a.k = 4 ∨ a.k = 5)) (ha8 : a.k ≠ 8) (hb8 : b.k ≠ 8) : Calls Tryz.prog 43 #[va, vb] w fun e w' => e = .returned (.bool (smV (d + 1) false a b)) ∧ Only (fun _ => False) w w' := by
  have hEq := eq_leaf h1 h2 hk ha8 hb8
  obtain ⟨⟨hl, hq⟩, _⟩ := leaf_lq h1 hk
  have O0 : Hid (Only (fun _ => False) w w) := Only.refl _ _
  obtain ⟨Z, hZ⟩ : ∃ Z, Z = smV (d + 1) false a b := ⟨_, rfl⟩
  rw [← hZ] at hEq ⊢
  have HS : Hid (∃ T y, va = .iface T y) := h1.iface ha8
  have HS2 : Hid (∃ T y, vb = .iface T y) := h2.iface hb8
  clear h1 h2 hk ha8 hb8 hZ
  obtain ⟨T1, y1, rfl⟩ := HS.out
  obtain ⟨T2, y2, rfl⟩ := HS2.out
  go_enter Tryz.func43, Tryz.ntmps43
  go_wp2
  go_ret
  exact ⟨rfl, (by repeat' first | exact O0.out | apply Only.alloc)⟩
set_option maxRecDepth 100000 in
set_option maxHeartbeats 1000000 in
theorem same_item (d : Nat) (H : SaV d false 43) : SaV (d + 1) true 61 := by
  intro a b va vb w S h1 h2 ho1 ho2
  have hP := va_hit 99 86 _ Tryz.underlying99 (by intro m h; cases h)
  have mP := va_miss 102 99 86 _ Tryz.underlying99 (by intro m h; cases h) (by decide) _ vzero_Push
  have O0 : Hid (Only (fun _ => False) w w) := Only.refl _ _
  have no8 : ∀ t : Vt, okV (d + 1) true t = true → t.k ≠ 8 := by
    intro t h e
    have h : (if t.k = 7 then clB t.s else if t.k = 8 then false else okV d false t) = true := h
    rw [if_neg (by omega), if_pos e] at h
    cases h
  have okd : ∀ t : Vt, t.k ≠ 7 → okV (d + 1) true t = true → okV d false t = true := by
    intro t h7 h
    have h : (if t.k = 7 then clB t.s else if t.k = 8 then false else okV d false t) = true := h
    rw [if_neg h7] at h
    split at h
    · cases h
    · exact h
  rcases h1 with ⟨a7, _, rfl⟩ | ⟨a8, _, rfl⟩ | ⟨a7, a8, u, rfl, hu⟩
  · rcases h2 with ⟨b7, _, rfl⟩ | ⟨b8, _, rfl⟩ | ⟨b7, b8, u', rfl, hu'⟩
    · have hsm : smV (d + 1) true a b = (a.s.toList == b.s.toList) := by
        show (if a.k = 7 ∨ b.k = 7 then _ else _) = _
        rw [if_pos (.inl a7), decide_eq_true a7, decide_eq_true b7]
        rfl
      have hEq := eqv_call _ Tryz.underlying86 a.s b.s
      rw [hsm]
      obtain ⟨Z, hZ⟩ : ∃ Z, Z = (a.s.toList == b.s.toList) := ⟨_, rfl⟩
      rw [← hZ] at hEq ⊢
      obtain ⟨s, hs⟩ : ∃ s, s = a.s := ⟨_, rfl⟩
      obtain ⟨r, hr⟩ : ∃ r, r = b.s := ⟨_, rfl⟩
      rw [← hs, ← hr] at hEq ⊢
      clear ho1 ho2 no8 okd a7 b7 hsm hZ hs hr hP
      go_enter Tryz.func61, Tryz.ntmps61
      go_wp2
      go_ret
      exact ⟨rfl, (by repeat' first | exact O0.out | apply Only.alloc)⟩
    · exact absurd b8 (no8 b ho2.1)
    · have hsm : smV (d + 1) true a b = false := by
        show (if a.k = 7 ∨ b.k = 7 then _ else _) = _
        rw [if_pos (.inl a7), decide_eq_false b7]
        simp
      have hEq := eqv_ne 86 102 99 Tryz.underlying86 (.agg #[.string a.s]) (.agg #[u']) (by decide)
      rw [hsm]
      obtain ⟨s, hs⟩ : ∃ s, s = a.s := ⟨_, rfl⟩
      rw [← hs] at hEq ⊢
      clear ho1 ho2 no8 okd a7 b7 hsm hs hP hu'
      go_enter Tryz.func61, Tryz.ntmps61
      go_wp2
      go_ret
      exact ⟨rfl, (by repeat' first | exact O0.out | apply Only.alloc)⟩
  · exact absurd a8 (no8 a ho1.1)
  · obtain ⟨T1, y1, rfl⟩ := hu.iface a8
    rcases h2 with ⟨b7, _, rfl⟩ | ⟨b8, _, rfl⟩ | ⟨b7, b8, u', rfl, hu'⟩
    · have hsm : smV (d + 1) true a b = false := by
        show (if a.k = 7 ∨ b.k = 7 then _ else _) = _
        rw [if_pos (.inr b7), decide_eq_false a7]
        simp
      rw [hsm]
      obtain ⟨s, hs⟩ : ∃ s, s = b.s := ⟨_, rfl⟩
      rw [← hs]
      clear ho1 ho2 no8 okd a7 a8 b7 hsm hs hu
      go_enter Tryz.func61, Tryz.ntmps61
      go_wp2
      go_ret
      exact ⟨rfl, (by repeat' first | exact O0.out | apply Only.alloc)⟩
    · exact absurd b8 (no8 b ho2.1)
    · obtain ⟨T2, y2, rfl⟩ := hu'.iface b8
      have hsm : smV (d + 1) true a b = smV d false a b := by
        show (if a.k = 7 ∨ b.k = 7 then _ else _) = _
        rw [if_neg (by omega)]
      have HC : Hid (∀ w1, Only (fun _ => False) w w1 → Calls Tryz.prog 43 #[.iface T1 y1, .iface T2 y2] w1 fun e w' => e = .returned (.bool (smV d false a b)) ∧ Only (fun _ => False) w1 w') := fun w1 o1 => H a b _ _ w1 S (hu.only o1 (fun _ _ g => g)) (hu'.only o1 (fun _ _ g => g)) ⟨okd a a7 ho1.1, ho1.2⟩ ⟨okd b b7 ho2.1, ho2.2⟩
      rw [hsm]
      obtain ⟨Z, hZ⟩ : ∃ Z, Z = smV d false a b := ⟨_, rfl⟩
      rw [← hZ] at HC ⊢
      clear ho1 ho2 no8 okd a7 a8 b7 b8 hsm hZ hu hu' H
      go_enter Tryz.func61, Tryz.ntmps61
      go_wp2_with fail
      refine (show Calls Tryz.prog 43 _ _ _ from HC.out _ (by repeat' first | exact O0.out | apply Only.alloc)).mono ?_
      rintro e w1 ⟨rfl, o1⟩
      have O1 : Hid (Only (fun _ => False) w w1) := Only.trans (show Only (fun _ => False) w _ by repeat' first | exact (Only.refl _ _) | apply Only.alloc) o1 (fun _ _ g => g)
      clear HC o1
      go_wp2
      go_ret
      exact ⟨rfl, O1.out⟩
theorem same_val (d : Nat) (H1 : SaV d false 43) (H2 : SaV d true 61) : SaV (d + 1) false 43 := by
  intro a b va vb w S h1 h2 ho1 ho2
  by_cases h4 : a.k = 4
  · exact same_list d (ef_values d H1) a b va vb w S h1 h2 ho1 ho2 h4
  by_cases h5 : a.k = 5
  · exact same_quot d (ef_items d H2) a b va vb w S h1 h2 ho1 ho2 h5
  exact same_leaf d a b va vb w S h1 h2 (by omega) (ok_ne8 ho1.1) (ok_ne8 ho2.1)
theorem same_all : ∀ d : Nat, SaV d false 43 ∧ SaV d true 61
  | 0 => ⟨fun a b va vb w S h => h.elim, fun a b va vb w S h => h.elim⟩
  | d + 1 => ⟨same_val d (same_all d).1 (same_all d).2, same_item d (same_all d).1⟩
set_option maxRecDepth 100000 in
/-- Equal, of any two values -/
theorem vequal_any {d : Nat} {a b : Vt} {va vb : Value} {w : World} {S : Nat → Prop} (h1 : TiAt w S d false a va) (h2 : TiAt w S d false b vb) (hS : ∀ x, S x → x < w.heap.size) (hs1 : ∃ e, SmT e a) (hs2 : ∃ e, SmT e b) (hT : Tb w) : Calls Tryz.prog 25 #[va, vb] w fun e w' => e = .returned (.tuple #[.bool (sdB d a && sdB d b && smV d false a b), .int .i64 (if sdB d a && sdB d b then 0 else 1)]) ∧ Only (fun _ => False) w w' := by
  have ok : ∀ t, sdB d t = true → okV d false t = true := by
    intro t h
    unfold sdB msB at h
    simp only [Bool.and_eq_true] at h
    exact h.1.1
  have HA : Hid _ := vcheck_any h1 hS hs1 hT
  have HB : Hid (∀ w1, Only (fun _ => False) w w1 → Calls Tryz.prog 9 #[vb] w1 fun e w' => e = .returned (.int .i64 (if sdB d b then 0 else 1)) ∧ Only (fun _ => False) w1 w') := fun w1 o => vcheck_any (h2.only o (fun _ _ g => g)) (fun x hx => Nat.lt_of_lt_of_le (hS x hx) o.size) hs2 (hT.frame o)
  have HC : Hid (sdB d a = true → sdB d b = true → ∀ w1, Only (fun _ => False) w w1 → Calls Tryz.prog 43 #[va, vb] w1 fun e w' => e = .returned (.bool (smV d false a b)) ∧ Only (fun _ => False) w1 w') := fun p q w1 o => (same_all d).1 a b va vb w1 S (h1.only o (fun _ _ g => g)) (h2.only o (fun _ _ g => g)) ⟨ok a p, hs1⟩ ⟨ok b q, hs2⟩
  obtain ⟨X, hX⟩ : ∃ X, X = sdB d a := ⟨_, rfl⟩
  obtain ⟨Y, hY⟩ : ∃ Y, Y = sdB d b := ⟨_, rfl⟩
  obtain ⟨Z, hZ⟩ : ∃ Z, Z = smV d false a b := ⟨_, rfl⟩
  rw [← hX] at HA HC ⊢
  rw [← hY] at HB HC ⊢
  rw [← hZ] at HC ⊢
  clear h1 h2 hS hs1 hs2 hT ok hX hY hZ
  cases X with
  | false =>
    clear HB HC
    go_enter Tryz.func25, Tryz.ntmps25
    go_wp2_with fail
    refine (show Calls Tryz.prog 9 _ _ _ from HA.out).mono ?_
    rintro e w1 ⟨rfl, o1⟩
    have O1 : Hid (Only (fun _ => False) w w1) := o1
    clear HA o1
    go_wp2
    go_ret2
    exact ⟨rfl, O1.out⟩
  | true =>
    go_enter Tryz.func25, Tryz.ntmps25
    go_wp2_with fail
    refine (show Calls Tryz.prog 9 _ _ _ from HA.out).mono ?_
    rintro e w1 ⟨rfl, o1⟩
    have O1 : Hid (Only (fun _ => False) w w1) := o1
    have HB1 : Hid _ := HB.out w1 o1
    clear HA HB o1
    go_wp2_with fail
    refine (show Calls Tryz.prog 9 _ _ _ from HB1.out).mono ?_
    rintro e w2 ⟨rfl, o2⟩
    have O2 : Hid (Only (fun _ => False) w w2) := O1.out.trans o2 (fun _ _ g => g)
    clear HB1 o2 O1
    cases Y with
    | false =>
      go_wp2
      go_ret2
      exact ⟨rfl, O2.out⟩
    | true =>
      have HC2 : Hid _ := HC.out (by simp) (by simp) w2 O2.out
      clear HC
      go_wp2_with fail
      refine (show Calls Tryz.prog 43 _ _ _ from HC2.out).mono ?_
      rintro e w3 ⟨rfl, o3⟩
      have O3 : Hid (Only (fun _ => False) w w3) := O2.out.trans o3 (fun _ _ g => g)
      clear HC2 o3 O2
      go_wp2
      go_ret2
      exact ⟨by simp, O3.out⟩
end Go.Proofs.YtllpacppedobjaaGreatDoor
