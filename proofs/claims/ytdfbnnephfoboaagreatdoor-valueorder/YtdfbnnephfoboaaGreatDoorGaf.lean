/- A measure of an item; of all values and items; measured, Check, CheckItems. measured, Check, CheckItems, Size: of any value. When two values that hold no others are equal. Equal values: the plain function; slices.EqualFunc. The document's Same and SameAll of any two trees, in both verdicts. A call of a function within a region that draws. -/
import Derived.Test.YtdfbnnephfoboaaGreatDoorGae
import Derived.Laws.StructEq
import Derived.Test.YtdfbnnephfoboaaGreatDoorGaa
import Derived.Deep.RegionHeld3
import Derived.BigQuiet
namespace Go.Proofs.YtdfbnnephfoboaaGreatDoor
open Go.RowKit Go.Lib
set_option linter.unusedSimpArgs false
set_option linter.unusedVariables false
theorem nilP (W : World) : (Instr.typeAssert .nilIface 94 108 true).run Tryz.prog W = .ok (.tuple #[.agg #[.nilIface], .bool false]) W := by kernel_rfl
theorem nilC (W : World) : (Instr.typeAssert .nilIface 94 111 true).run Tryz.prog W = .ok (.tuple #[.agg #[.string ⟨#[]⟩], .bool false]) W := by kernel_rfl
set_option maxRecDepth 100000 in
set_option maxHeartbeats 4000000 in
theorem mitem (d : Nat) (H : MsC d false 53) : MsC (d + 1) true 78 := by
  intro t v w S M k o dd h hM hsm hv hk hd1 hd2 ho hT hg
  rcases h with ⟨h7, hl, rfl⟩ | ⟨h8, hl, rfl⟩ | ⟨h7, h8, u, rfl, hu⟩
  · have hms : msB (d + 1) true t k o = (decide (k + 1 ≤ 1024) && clB t.s) := by
      unfold msB okV sz dp
      rw [if_pos h7, if_pos (.inl h7), if_pos (.inl h7), decide_eq_true (show o + 0 ≤ 32 by omega), Bool.and_true, Bool.and_comm]
    have hsz : sz (d + 1) true t = 1 := by unfold sz; rw [if_pos (.inl h7)]
    have mP := va_miss 111 108 94 _ Tryz.underlying108 (by intro m h; cases h) (by decide) _ vzero_Push
    have hC := va_hit 111 94 _ Tryz.underlying111 (by intro m h; cases h)
    have HM : Hid (∀ w1, Only (fun _ => False) w w1 → Calls Tryz.prog 74 #[.pointer (some ⟨M, 0, none⟩)] w1 fun e w' => e = .returned (.bool (decide ((k : Int) + 1 ≤ 1024))) ∧ Only (fun b => b = M) w1 w' ∧ VmB w' M ((k : Int) + 1) dd) := fun w1 o1 => vcount_all M k dd w1 (hv.keep o1) (by omega) (by omega)
    have HA : Hid (∀ w1, Only (fun b => b = M) w w1 → Calls Tryz.prog 91 #[.agg #[.string t.s]] w1 fun e w' => e = .returned (.bool (clB t.s)) ∧ Only (fun _ => False) w1 w') := fun w1 o1 => vcallable_any t.s w1 (hT.keep o1 hg.1 hg.2.1 hg.2.2).1
    have HD : Hid (0 ≤ dd ∧ dd ≤ 1000 ∧ M < w.heap.size) := ⟨hd1, hd2, (Array.getElem?_eq_some_iff.1 hv).1⟩
    have O0 : Hid (Only (fun _ => False) w w) := Only.refl _ _
    rw [hms, hsz]
    obtain ⟨a, ha⟩ : ∃ a, a = clB t.s := ⟨_, rfl⟩
    obtain ⟨s, hs⟩ : ∃ s, s = t.s := ⟨_, rfl⟩
    rw [← ha] at HA ⊢
    rw [← hs] at HA ⊢
    clear hM hsm hv hd1 hd2 ho hT hg hsz hms ha hs hl h7 H
    by_cases h1 : k + 1 ≤ 1024
    · have e1 : decide ((k : Int) + 1 ≤ 1024) = true := decide_eq_true (by omega)
      rw [e1] at HM
      rw [decide_eq_true h1]
      clear e1
      go_enter Tryz.func78, Tryz.ntmps78
      go_wp2_with fail
      refine (show Calls Tryz.prog 74 _ _ _ from HM.out _ (by repeat' first | exact O0.out | apply Only.alloc)).mono ?_
      rintro e w1 ⟨rfl, o1, m1⟩
      have O1 : Hid (Only (fun b => b = M) w w1 ∧ VmB w1 M ((k : Int) + 1) dd) := ⟨Only.trans (show Only (fun b => b = M) w _ by repeat' first | exact (Only.refl _ _) | apply Only.alloc) o1 (fun _ _ g => g), m1⟩
      have x0 : w1.cell? ⟨w.heap.size + 1, 0, none⟩ = some (.string s) := o1.cell (a := ⟨w.heap.size + 1, 0, none⟩) (by simp [go_sem]) (by have := HD.out; simp only; omega)
      have HA1 : Hid _ := HA.out w1 O1.out.1
      clear HM o1 m1 HA
      go_wp2_with fail
      refine (show Calls Tryz.prog 91 _ _ _ from HA1.out).mono ?_
      rintro e w2 ⟨rfl, o2⟩
      have HF : Hid (Only (fun b => b = M) w w2 ∧ VmB w2 M ((k + 1 : Nat) : Int) dd) := ⟨O1.out.1.trans (o2.mono (bs' := fun b => b = M) (fun _ _ g => g.elim)) (fun _ _ g => g), by have := O1.out.2.keep o2; simpa using this⟩
      clear HA1 o2 O1 x0
      go_wp2
      go_ret
      exact ⟨by simp, HF.out.1, fun _ => ⟨dd, HF.out.2, HD.out.1, HD.out.2.1⟩⟩
    · have e1 : decide ((k : Int) + 1 ≤ 1024) = false := decide_eq_false (by omega)
      rw [e1] at HM
      rw [decide_eq_false h1]
      clear e1 HA
      go_enter Tryz.func78, Tryz.ntmps78
      go_wp2_with fail
      refine (show Calls Tryz.prog 74 _ _ _ from HM.out _ (by repeat' first | exact O0.out | apply Only.alloc)).mono ?_
      rintro e w1 ⟨rfl, o1, m1⟩
      have O1 : Hid (Only (fun b => b = M) w w1) := Only.trans (show Only (fun b => b = M) w _ by repeat' first | exact (Only.refl _ _) | apply Only.alloc) o1 (fun _ _ g => g)
      clear HM o1 m1
      go_wp2
      go_ret
      exact ⟨by simp, O1.out, fun h => by simp at h⟩
  · have hms : msB (d + 1) true t k o = false := by
      unfold msB okV
      rw [if_neg (by omega), if_pos h8]
      rfl
    have mP := nilP
    have mC := nilC
    have O0 : Hid (Only (fun b => b = M) w w) := Only.refl _ _
    rw [hms]
    clear hM hsm hv hd1 hd2 ho hT hg hms hl h8 H
    go_enter Tryz.func78, Tryz.ntmps78
    go_wp2
    go_ret
    exact ⟨rfl, (by repeat' first | exact O0.out | apply Only.alloc), fun h => by cases h⟩
  · have hsz : sz (d + 1) true t = sz d false t := by
      show (if t.k = 7 ∨ t.k = 8 then 1 else sz d false t) = sz d false t
      rw [if_neg (by omega)]
    have hdp : dp (d + 1) true t = dp d false t := by
      show (if t.k = 7 ∨ t.k = 8 then 0 else dp d false t) = dp d false t
      rw [if_neg (by omega)]
    have hok : okV (d + 1) true t = okV d false t := by
      show (if t.k = 7 then clB t.s else if t.k = 8 then false else okV d false t) = okV d false t
      rw [if_neg h7, if_neg h8]
    have hms : msB (d + 1) true t k o = msB d false t k o := by
      unfold msB
      rw [hok, hsz, hdp]
    clear hok hdp
    obtain ⟨T1, y1, rfl⟩ := hu.iface h8
    have hP := va_hit 108 94 _ Tryz.underlying108 (by intro m h; cases h)
    have HV : Hid (∀ w1, Only (fun _ => False) w w1 → Calls Tryz.prog 53 #[.pointer (some ⟨M, 0, none⟩), .iface T1 y1, .int .i64 (o : Int)] w1 fun e w' => e = .returned (.bool (msB d false t k o)) ∧ Hid (Only (fun b => b = M) w1 w' ∧ (msB d false t k o = true → ∃ dd' : Int, VmB w' M ((k + sz d false t : Nat) : Int) dd' ∧ 0 ≤ dd' ∧ dd' ≤ 1000))) := fun w1 o1 => H t _ w1 S M k o dd (hu.only o1 (fun _ _ g => g)) hM hsm (hv.keep o1) hk hd1 hd2 ho (hT.frame o1) hg
    have O0 : Hid (Only (fun _ => False) w w) := Only.refl _ _
    rw [hms, hsz]
    obtain ⟨Z, hZ⟩ : ∃ Z, Z = msB d false t k o := ⟨_, rfl⟩
    rw [← hZ] at HV ⊢
    clear hM hsm hv hd1 hd2 ho hT hg hms hsz h7 h8 H hu hZ
    go_enter Tryz.func78, Tryz.ntmps78
    go_wp2_with fail
    refine (show Calls Tryz.prog 53 _ _ _ from HV.out _ (by repeat' first | exact O0.out | apply Only.alloc)).mono ?_
    rintro e w1 ⟨rfl, G1⟩
    have HF : Hid (Only (fun b => b = M) w w1 ∧ (Z = true → ∃ dd' : Int, VmB w1 M ((k + sz d false t : Nat) : Int) dd' ∧ 0 ≤ dd' ∧ dd' ≤ 1000)) := ⟨Only.trans (show Only (fun b => b = M) w _ by repeat' first | exact (Only.refl _ _) | apply Only.alloc) G1.out.1 (fun _ _ g => g), G1.out.2⟩
    clear HV G1
    go_wp2
    go_ret
    exact ⟨rfl, HF.out⟩
theorem mval (d : Nat) (H1 : MsC d false 53) (H2 : MsC d true 78) : MsC (d + 1) false 53 := by
  intro t v w S M k o dd h hM hsm hv hk hd1 hd2 ho hT hg
  by_cases h4 : t.k = 4
  · exact mlist d (ev_values d H1) t v w S M k o dd h h4 hM hsm hv hk hd1 hd2 ho hT hg
  by_cases h5 : t.k = 5
  · exact mquot d (ev_items d H2) t v w S M k o dd h h5 hM hsm hv hk hd1 hd2 ho hT hg
  exact mleaf d t v w S M k o dd h (by omega) (by obtain ⟨e, he⟩ := hsm; exact he.str) hv hk hd1 hd2 ho hT hg
theorem ms_all : ∀ d : Nat, MsC d false 53 ∧ MsC d true 78
  | 0 => ⟨fun t v w S M k o dd h => h.elim, fun t v w S M k o dd h => h.elim⟩
  | d + 1 => ⟨mval d (ms_all d).1 (ms_all d).2, mitem d (ms_all d).1⟩
end Go.Proofs.YtdfbnnephfoboaaGreatDoor
namespace Go.Proofs.YtdfbnnephfoboaaGreatDoor
open Go.RowKit Go.Lib
set_option linter.unusedSimpArgs false
set_option linter.unusedVariables false
/-- is a value sound? -/
def sdB (d : Nat) (t : Vt) : Bool := msB d false t 0 0
/-- what measured answers -/
def MeP (Z : Bool) (Y : Nat) (w : World) (e : Ending) (w' : World) : Prop := ∃ dd : Int, e = .returned (.tuple #[.agg #[.int .i64 (if Z then (Y : Int) else 0), .int .i64 (if Z then dd else 0)], .int .i64 (if Z then 0 else 1)]) ∧ Only (fun _ => False) w w'
set_option maxRecDepth 100000 in
set_option maxHeartbeats 1000000 in
theorem measured_any {d : Nat} {t : Vt} {v : Value} {w : World} {S : Nat → Prop} (h : TiAt w S d false t v) (hS : ∀ b, S b → b < w.heap.size) (hsm : ∃ e, SmT e t) (hT : Tb w) : Calls Tryz.prog 35 #[v] w (MeP (sdB d t) (sz d false t) w) := by
  obtain ⟨W, hW⟩ : ∃ W, W = (w.alloc (.cells #[.int .i64 0, .int .i64 0] 86)).alloc (.cells #[.int .i64 0, .int .i64 0] 86) := ⟨_, rfl⟩
  obtain ⟨N, hN⟩ : ∃ N, N = w.heap.size := ⟨_, rfl⟩
  have oW : Only (fun _ => False) w W := by rw [hW]; exact ((Only.refl _ w).alloc _).alloc _
  have a0 : W.heap[N]? = some (.cells #[.int .i64 0, .int .i64 0] 86) := by rw [hW]; exact (((Only.refl (fun _ => False) _).alloc _).block N (by simp [hN]) (fun g => g)).trans (va_at _ _ _ hN)
  have a1 : W.heap[N + 1]? = some (.cells #[.int .i64 0, .int .i64 0] 86) := by rw [hW]; exact va_at _ _ _ (by simp [hN])
  have lt := hT.lt
  have HV : Hid (Calls Tryz.prog 53 #[.pointer (some ⟨N + 1, 0, none⟩), v, .int .i64 0] W fun e w' => e = .returned (.bool (sdB d t)) ∧ Hid (Only (fun b => b = N + 1) W w' ∧ (sdB d t = true → ∃ dd' : Int, VmB w' (N + 1) ((0 + sz d false t : Nat) : Int) dd' ∧ 0 ≤ dd' ∧ dd' ≤ 1000))) :=
    (ms_all d).1 t v W S (N + 1) 0 0 0 (h.only oW (fun _ _ g => g)) (fun b hb => by have := hS b hb; omega) hsm a1 (by omega) (by omega) (by omega) (by omega) (hT.frame oW) ⟨by omega, by omega, by omega⟩
  have HA : Hid (W.heap[N]? = some (.cells #[.int .i64 0, .int .i64 0] 86) ∧ Only (fun _ => False) w W ∧ N = w.heap.size) := ⟨a0, oW, hN⟩
  obtain ⟨Z, hZ⟩ : ∃ Z, Z = sdB d t := ⟨_, rfl⟩
  obtain ⟨Y, hY⟩ : ∃ Y, Y = sz d false t := ⟨_, rfl⟩
  rw [← hZ, ← hY] at HV
  rw [← hZ, ← hY]
  clear h hS hsm hT oW a0 a1 lt hZ hY
  go_enter Tryz.func35, Tryz.ntmps35
  go_wp2_with fail
  rw [← hW, ← hN]
  clear hW hN
  refine (show Calls Tryz.prog 53 _ _ _ from HV.out).mono ?_
  rintro e w1 ⟨rfl, G1⟩
  have o1 := G1.out.1
  have h0 := (o1.block N (Array.getElem?_eq_some_iff.1 HA.out.1).1 (by omega)).trans HA.out.1
  have O1 : Hid (Only (fun _ => False) w w1) := HA.out.2.1.trans o1 (fun k hk e => by have := HA.out.2.2; omega)
  have c0 := wr_cell h0 0
  have c1 := wr_cell h0 1
  have f0 := wr_froz h0 0
  have f1 := wr_froz h0 1
  simp only [List.getElem?_toArray, List.getElem?_cons_succ, List.getElem?_cons_zero] at c0 c1
  cases Z with
  | false =>
    have q := set2 c0 c1 (.int .i64 0) (.int .i64 0)
    have Q : Hid _ := q
    clear h0 HV o1 G1 q
    go_wp2
    refine bodyPost_ret (results_two rfl _ _ N Q.out.1 Q.out.2 rfl) rfl ?_
    refine ⟨0, rfl, (O1.out.setCell _ _ (fun g => ?_)).setCell _ _ (fun g => ?_)⟩ <;> (have := HA.out.2.2; simp only at g; omega)
  | true =>
    obtain ⟨dd, m1, _, _⟩ := G1.out.2 rfl
    have d0 := wr_cell m1 0
    have d1 := wr_cell m1 1
    simp only [List.getElem?_toArray, List.getElem?_cons_succ, List.getElem?_cons_zero, Nat.zero_add] at d0 d1
    have q := set2 c0 c1 (.int .i64 (Y : Int)) (.int .i64 dd)
    have Q : Hid _ := q
    clear h0 HV o1 G1 q m1
    go_wp2
    refine bodyPost_ret (results_two rfl _ _ N Q.out.1 Q.out.2 rfl) rfl ?_
    refine ⟨dd, rfl, (O1.out.setCell _ _ (fun g => ?_)).setCell _ _ (fun g => ?_)⟩ <;> (have := HA.out.2.2; simp only at g; omega)
set_option maxRecDepth 100000 in
theorem vcheck_any {d : Nat} {t : Vt} {v : Value} {w : World} {S : Nat → Prop} (h : TiAt w S d false t v) (hS : ∀ b, S b → b < w.heap.size) (hsm : ∃ e, SmT e t) (hT : Tb w) : Calls Tryz.prog 12 #[v] w fun e w' => e = .returned (.int .i64 (if sdB d t then 0 else 1)) ∧ Only (fun _ => False) w w' := by
  have HV : Hid _ := measured_any h hS hsm hT
  clear h hS hsm hT
  obtain ⟨X3, h3⟩ : ∃ X : Int, X = (if sdB d t then 0 else 1) := ⟨_, rfl⟩
  rw [← h3]
  have H3 : Hid (X3 = (if sdB d t then 0 else 1)) := h3
  clear h3
  go_enter Tryz.func12, Tryz.ntmps12
  go_wp2_with fail
  refine (show Calls Tryz.prog 35 _ _ _ from HV.out).mono ?_
  rintro e w1 ⟨dd, rfl, o1⟩
  have O1 : Hid (Only (fun _ => False) w w1) := o1
  obtain ⟨X1, h1⟩ : ∃ X : Int, X = (if sdB d t then (sz d false t : Int) else 0) := ⟨_, rfl⟩
  obtain ⟨X2, h2⟩ : ∃ X : Int, X = (if sdB d t then dd else 0) := ⟨_, rfl⟩
  rw [← h1, ← h2, ← H3.out]
  clear HV o1 h1 h2
  go_wp2
  go_ret
  exact ⟨rfl, O1.out.alloc _⟩
set_option maxRecDepth 100000 in
theorem vsize_any {d : Nat} {t : Vt} {v : Value} {w : World} {S : Nat → Prop} (h : TiAt w S d false t v) (hS : ∀ b, S b → b < w.heap.size) (hsm : ∃ e, SmT e t) (hT : Tb w) : Calls Tryz.prog 13 #[v] w fun e w' => e = .returned (.tuple #[.int .i64 (if sdB d t then (sz d false t : Int) else 0), .int .i64 (if sdB d t then 0 else 1)]) ∧ Only (fun _ => False) w w' := by
  have HV : Hid _ := measured_any h hS hsm hT
  clear h hS hsm hT
  obtain ⟨X1, h1⟩ : ∃ X : Int, X = (if sdB d t then (sz d false t : Int) else 0) := ⟨_, rfl⟩
  obtain ⟨X3, h3⟩ : ∃ X : Int, X = (if sdB d t then 0 else 1) := ⟨_, rfl⟩
  rw [← h1, ← h3]
  have H1 : Hid (X1 = (if sdB d t then (sz d false t : Int) else 0)) := h1
  have H3 : Hid (X3 = (if sdB d t then 0 else 1)) := h3
  clear h1 h3
  go_enter Tryz.func13, Tryz.ntmps13
  go_wp2_with fail
  refine (show Calls Tryz.prog 35 _ _ _ from HV.out).mono ?_
  rintro e w1 ⟨dd, rfl, o1⟩
  have O1 : Hid (Only (fun _ => False) w w1) := o1
  obtain ⟨X2, h2⟩ : ∃ X : Int, X = (if sdB d t then dd else 0) := ⟨_, rfl⟩
  rw [← H1.out, ← h2, ← H3.out]
  clear HV o1 h2
  go_wp2
  go_ret2
  exact ⟨rfl, O1.out.alloc _⟩
end Go.Proofs.YtdfbnnephfoboaaGreatDoor
namespace Go.Proofs.YtdfbnnephfoboaaGreatDoor
open Go.RowKit Go.Lib
set_option linter.unusedSimpArgs false
set_option linter.unusedVariables false
theorem eql_iface (U T1 T2 : TypeId) (x y : Value) (w : World) : (binOp .eql U (.iface T1 x) (.iface T2 y)).run Tryz.prog w = ((Op.equalIn Op.maxDepth U (.iface T1 x) (.iface T2 y)).run Tryz.prog w).andThen fun b w' => .ok (.bool b) w' := by
  simp only [binOp]
  simp [Op.equal]
theorem eq_iface {U T : TypeId} {m} {i : TypeInfo} (d : Nat) (x y : Value) (w : World) (hU : Tryz.prog.underlying U = some (.interface m)) (hi : Tryz.prog.info? T = some i) (hc : i.comparable = true) : (Op.equalIn (d + 1) U (.iface T x) (.iface T y)).run Tryz.prog w = (Op.equalIn d T x y).run Tryz.prog w := by
  simp [Op.equalIn, run_underlying hU, typeInfo, hi, hc]
set_option maxRecDepth 100000 in
theorem eq_int (d : Nat) (n m : Int) (w : World) : (Op.equalIn (d + 2) 59 (.agg #[.int .i64 n]) (.agg #[.int .i64 m])).run Tryz.prog w = .ok (n == m) w := by
  have hS : Tryz.prog.underlying 59 = some (.struct (Tryz.prog.fieldsOf 59)) := by kernel_rfl
  have hp : Tryz.prog.stoodInHeld 59 = false := by kernel_rfl
  have u := Tryz.underlying2
  have a := Tryz.isAgg2
  have z := Tryz.sizeOf2
  rw [run_equalIn_agg w (d + 1) 59 _ _ hS hp]
  simp only [Program.fieldsOf, Tryz.underlying59]
  go_simp
  all_goals (cases h : (n == m) <;> simp_all)
theorem eqv_int (U : TypeId) {q} (hU : Tryz.prog.underlying U = some (.interface q)) (n m : Int) (w : World) : (binOp .eql U (.iface 59 (.agg #[.int .i64 n])) (.iface 59 (.agg #[.int .i64 m]))).run Tryz.prog w = .ok (.bool (n == m)) w := by
  obtain ⟨D, hD⟩ : ∃ D, Op.maxDepth = D + 2 + 1 := ⟨9997, rfl⟩
  have h1 := eq_iface (D + 2) (.agg #[.int .i64 n]) (.agg #[.int .i64 m]) w hU (T := 59) (i := Tryz.t59) (by kernel_rfl) (by kernel_rfl)
  rw [eql_iface, hD, h1, eq_int D n m w]
  rfl
set_option maxRecDepth 100000 in
theorem eq_str (d : Nat) (n m : ByteArray) (w : World) : (Op.equalIn (d + 2) 76 (.agg #[.string n]) (.agg #[.string m])).run Tryz.prog w = .ok (n.toList == m.toList) w := by
  have hS : Tryz.prog.underlying 76 = some (.struct (Tryz.prog.fieldsOf 76)) := by kernel_rfl
  have hp : Tryz.prog.stoodInHeld 76 = false := by kernel_rfl
  have u := Tryz.underlying9
  have a := Tryz.isAgg9
  have z := Tryz.sizeOf9
  rw [run_equalIn_agg w (d + 1) 76 _ _ hS hp]
  simp only [Program.fieldsOf, Tryz.underlying76]
  go_simp
  all_goals (cases h : (n.toList == m.toList) <;> simp_all)
theorem eqv_str (U : TypeId) {q} (hU : Tryz.prog.underlying U = some (.interface q)) (n m : ByteArray) (w : World) : (binOp .eql U (.iface 76 (.agg #[.string n])) (.iface 76 (.agg #[.string m]))).run Tryz.prog w = .ok (.bool (n.toList == m.toList)) w := by
  obtain ⟨D, hD⟩ : ∃ D, Op.maxDepth = D + 2 + 1 := ⟨9997, rfl⟩
  have h1 := eq_iface (D + 2) (.agg #[.string n]) (.agg #[.string m]) w hU (T := 76) (i := Tryz.t76) (by kernel_rfl) (by kernel_rfl)
  rw [eql_iface, hD, h1, eq_str D n m w]
  rfl
set_option maxRecDepth 100000 in
theorem eq_bool (d : Nat) (n m : Bool) (w : World) : (Op.equalIn (d + 2) 78 (.agg #[.bool n]) (.agg #[.bool m])).run Tryz.prog w = .ok (n == m) w := by
  have hS : Tryz.prog.underlying 78 = some (.struct (Tryz.prog.fieldsOf 78)) := by kernel_rfl
  have hp : Tryz.prog.stoodInHeld 78 = false := by kernel_rfl
  have u := Tryz.underlying4
  have a := Tryz.isAgg4
  have z := Tryz.sizeOf4
  rw [run_equalIn_agg w (d + 1) 78 _ _ hS hp]
  simp only [Program.fieldsOf, Tryz.underlying78]
  go_simp
  all_goals (cases h : (n == m) <;> simp_all)
theorem eqv_bool (U : TypeId) {q} (hU : Tryz.prog.underlying U = some (.interface q)) (n m : Bool) (w : World) : (binOp .eql U (.iface 78 (.agg #[.bool n])) (.iface 78 (.agg #[.bool m]))).run Tryz.prog w = .ok (.bool (n == m)) w := by
  obtain ⟨D, hD⟩ : ∃ D, Op.maxDepth = D + 2 + 1 := ⟨9997, rfl⟩
  have h1 := eq_iface (D + 2) (.agg #[.bool n]) (.agg #[.bool m]) w hU (T := 78) (i := Tryz.t78) (by kernel_rfl) (by kernel_rfl)
  rw [eql_iface, hD, h1, eq_bool D n m w]
  rfl
set_option maxRecDepth 100000 in
theorem eq_box (d : Nat) (n m : Int) (w : World) : (Op.equalIn (d + 2) 84 (.agg #[.int .i64 n]) (.agg #[.int .i64 m])).run Tryz.prog w = .ok (n == m) w := by
  have hS : Tryz.prog.underlying 84 = some (.struct (Tryz.prog.fieldsOf 84)) := by kernel_rfl
  have hp : Tryz.prog.stoodInHeld 84 = false := by kernel_rfl
  have u := Tryz.underlying3
  have a := Tryz.isAgg3
  have z := Tryz.sizeOf3
  rw [run_equalIn_agg w (d + 1) 84 _ _ hS hp]
  simp only [Program.fieldsOf, Tryz.underlying84]
  go_simp
  all_goals (cases h : (n == m) <;> simp_all)
theorem eqv_box (U : TypeId) {q} (hU : Tryz.prog.underlying U = some (.interface q)) (n m : Int) (w : World) : (binOp .eql U (.iface 84 (.agg #[.int .i64 n])) (.iface 84 (.agg #[.int .i64 m]))).run Tryz.prog w = .ok (.bool (n == m)) w := by
  obtain ⟨D, hD⟩ : ∃ D, Op.maxDepth = D + 2 + 1 := ⟨9997, rfl⟩
  have h1 := eq_iface (D + 2) (.agg #[.int .i64 n]) (.agg #[.int .i64 m]) w hU (T := 84) (i := Tryz.t84) (by kernel_rfl) (by kernel_rfl)
  rw [eql_iface, hD, h1, eq_box D n m w]
  rfl
set_option maxRecDepth 100000 in
theorem eq_call (d : Nat) (n m : ByteArray) (w : World) : (Op.equalIn (d + 2) 111 (.agg #[.string n]) (.agg #[.string m])).run Tryz.prog w = .ok (n.toList == m.toList) w := by
  have hS : Tryz.prog.underlying 111 = some (.struct (Tryz.prog.fieldsOf 111)) := by kernel_rfl
  have hp : Tryz.prog.stoodInHeld 111 = false := by kernel_rfl
  have u := Tryz.underlying9
  have a := Tryz.isAgg9
  have z := Tryz.sizeOf9
  rw [run_equalIn_agg w (d + 1) 111 _ _ hS hp]
  simp only [Program.fieldsOf, Tryz.underlying111]
  go_simp
  all_goals (cases h : (n.toList == m.toList) <;> simp_all)
theorem eqv_call (U : TypeId) {q} (hU : Tryz.prog.underlying U = some (.interface q)) (n m : ByteArray) (w : World) : (binOp .eql U (.iface 111 (.agg #[.string n])) (.iface 111 (.agg #[.string m]))).run Tryz.prog w = .ok (.bool (n.toList == m.toList)) w := by
  obtain ⟨D, hD⟩ : ∃ D, Op.maxDepth = D + 2 + 1 := ⟨9997, rfl⟩
  have h1 := eq_iface (D + 2) (.agg #[.string n]) (.agg #[.string m]) w hU (T := 111) (i := Tryz.t111) (by kernel_rfl) (by kernel_rfl)
  rw [eql_iface, hD, h1, eq_call D n m w]
  rfl
theorem eqv_ne (U T1 T2 : TypeId) {q} (hU : Tryz.prog.underlying U = some (.interface q)) (x y : Value) (h : T1 ≠ T2) (w : World) : (binOp .eql U (.iface T1 x) (.iface T2 y)).run Tryz.prog w = .ok (.bool false) w := by
  obtain ⟨D, hD⟩ : ∃ D, Op.maxDepth = D + 1 := ⟨9999, rfl⟩
  have h1 : (Op.equalIn (D + 1) U (.iface T1 x) (.iface T2 y)).run Tryz.prog w = .ok false w := by
    simp only [Op.equalIn, Sem.run_bind, run_underlying hU, Result.andThen_ok]
    simp [h]
  rw [eql_iface, hD, h1]
  rfl
end Go.Proofs.YtdfbnnephfoboaaGreatDoor
namespace Go.Proofs.YtdfbnnephfoboaaGreatDoor
open Go.RowKit Go.Lib
set_option linter.unusedSimpArgs false
set_option linter.unusedVariables false
def smL (f : Vt → Vt → Bool) : List Vt → List Vt → Bool
  | [], [] => true
  | x :: a, y :: b => f x y && smL f a b
  | _, _ => false
/-- are two values (items) the same? -/
def smV : Nat → Bool → Vt → Vt → Bool
  | 0, _, _, _ => false
  | d + 1, true, a, b => if a.k = 7 ∨ b.k = 7 then decide (a.k = 7) && decide (b.k = 7) && (a.s.toList == b.s.toList) else smV d false a b
  | d + 1, false, a, b => decide (a.k = b.k) && (if a.k = 1 ∨ a.k = 6 then a.n == b.n else if a.k = 2 then a.s.toList == b.s.toList else if a.k = 3 then (a.n != 0) == (b.n != 0) else smL (smV d (decide (a.k = 5))) a.l b.l)
theorem smL_len (f : Vt → Vt → Bool) : ∀ a b : List Vt, a.length ≠ b.length → smL f a b = false
  | [], [], h => absurd rfl h
  | [], y :: b, _ => rfl
  | x :: a, [], _ => rfl
  | x :: a, y :: b, h => by
    unfold smL
    rw [smL_len f a b (by simpa using h), Bool.and_false]
theorem drop_at {l : List Vt} {j : Nat} {x : Vt} (hx : l[j]? = some x) : l.drop j = x :: l.drop (j + 1) := by
  obtain ⟨hlt, he⟩ := List.getElem?_eq_some_iff.1 hx
  rw [List.drop_eq_getElem_cons hlt, he]
/-- what same, sameItem answer of what is what it may be -/
def SaV (d : Nat) (i : Bool) (F : Nat) : Prop := ∀ (a b : Vt) (va vb : Value) (w : World) (S : Nat → Prop), TiAt w S d i a va → TiAt w S d i b vb → (okV d i a = true ∧ ∃ e, SmT e a) → (okV d i b = true ∧ ∃ e, SmT e b) → Calls Tryz.prog F #[va, vb] w fun e w' => e = .returned (.bool (smV d i a b)) ∧ Only (fun _ => False) w w'
def EfV (d : Nat) (i : Bool) (F Fm : Nat) : Prop := ∀ (la lb : List Vt) (ao bo : Option Addr) (ca cb : Nat) (w : World) (S : Nat → Prop), (∀ (j : Nat) (x : Vt), la[j]? = some x → ∃ g q u, ao = some ⟨g, q, none⟩ ∧ S g ∧ w.cell? ⟨g, q + j, none⟩ = some u ∧ TiAt w S d i x u) → (∀ (j : Nat) (x : Vt), lb[j]? = some x → ∃ g q u, bo = some ⟨g, q, none⟩ ∧ S g ∧ w.cell? ⟨g, q + j, none⟩ = some u ∧ TiAt w S d i x u) → (∀ x ∈ la, okV d i x = true ∧ ∃ e, SmT e x) → (∀ x ∈ lb, okV d i x = true ∧ ∃ e, SmT e x) → la.length ≤ 2600000000000 → lb.length ≤ 2600000000000 → Calls Tryz.prog F #[.slice ao la.length ca, .slice bo lb.length cb, .func (.func Fm) #[] #[]] w fun e w' => e = .returned (.bool (smL (smV d i) la lb)) ∧ Only (fun _ => False) w w'
set_option maxRecDepth 100000 in
set_option maxHeartbeats 4000000 in
theorem ef_values (d : Nat) (H : SaV d false 46) : EfV d false 66 46 := by
  intro la lb ao bo ca cb w S ha hb hoa hob hna hnb
  have HE : Hid (∀ (j : Nat) (x y : Vt), la[j]? = some x → lb[j]? = some y → ∃ g q u g' q' u', ao = some ⟨g, q, none⟩ ∧ bo = some ⟨g', q', none⟩ ∧ w.cell? ⟨g, q + j, none⟩ = some u ∧ w.cell? ⟨g', q' + j, none⟩ = some u' ∧ ∀ w1, Only (fun _ => False) w w1 → Calls Tryz.prog 46 #[u, u'] w1 fun e w' => e = .returned (.bool (smV d false x y)) ∧ Only (fun _ => False) w1 w') := by
    intro j x y hx hy
    obtain ⟨g, q, u, p1, p2, p3, p4⟩ := ha j x hx
    obtain ⟨g', q', u', r1, r2, r3, r4⟩ := hb j y hy
    exact ⟨g, q, u, g', q', u', p1, r1, p3, r3, fun w1 o1 => H x y u u' w1 S (p4.only o1 (fun _ _ g => g)) (r4.only o1 (fun _ _ g => g)) (hoa x (List.mem_of_getElem? hx)) (hob y (List.mem_of_getElem? hy))⟩
  obtain ⟨Z, hZ⟩ : ∃ Z, Z = smL (smV d false) la lb := ⟨_, rfl⟩
  have HZ : Hid (Z = smL (smV d false) la lb) := hZ
  obtain ⟨N, hN⟩ : ∃ N, N = la.length := ⟨_, rfl⟩
  obtain ⟨K, hK⟩ : ∃ K, K = lb.length := ⟨_, rfl⟩
  have HN : Hid (N = la.length ∧ K = lb.length ∧ N ≤ 2600000000000 ∧ K ≤ 2600000000000) := ⟨hN, hK, by omega, by omega⟩
  rw [← hN, ← hK, ← hZ]
  clear ha hb hoa hob hna hnb hZ hN hK H
  by_cases hNK : N = K
  · have e1 : ((N : Int) == (K : Int)) = true := by simp [hNK]
    subst hNK
    clear e1
    go_enter Tryz.func66, Tryz.ntmps66
    go_wp2
    go_loopw [17] (fun r wr => ∃ j : Nat, r = .int .i64 (j : Int) ∧ j ≤ N ∧ Hid (Z = smL (smV d false) (la.drop j) (lb.drop j) ∧ Only (fun _ => False) w wr)) (fun r _ => N - vuOf r)
    case atStart => exact ⟨0, rfl, Nat.zero_le _, by simpa using HZ.out, Only.refl _ _⟩
    case round =>
      obtain ⟨j, rfl, hj, HI⟩ := hrel
      obtain ⟨w1, hw1⟩ : ∃ w1, w1 = wr := ⟨_, rfl⟩
      rw [← hw1] at HI ⊢
      clear hw1
      have hNl := HN.out
      by_cases hjN : j < N
      · obtain ⟨x, hx⟩ : ∃ x, la[j]? = some x := ⟨la[j]'(by omega), List.getElem?_eq_getElem (by omega)⟩
        obtain ⟨y, hy⟩ : ∃ y, lb[j]? = some y := ⟨lb[j]'(by omega), List.getElem?_eq_getElem (by omega)⟩
        obtain ⟨g, q, u, g', q', u', rfl, rfl, c0, c1, hcall⟩ := HE.out j x y hx hy
        have o1 := HI.out.2
        have c0 := o1.cell c0 (fun g => g)
        have c1 := o1.cell c1 (fun g => g)
        have HC : Hid _ := hcall w1 o1
        have HX : Hid (j < N ∧ Z = smL (smV d false) (x :: la.drop (j + 1)) (y :: lb.drop (j + 1))) := ⟨hjN, by rw [← drop_at hx, ← drop_at hy]; exact HI.out.1⟩
        have O1 : Hid (Only (fun _ => False) w w1) := o1
        have i1 : (j : Int) < (N : Int) := by omega
        have i0 : (0 : Int) ≤ (j : Int) := by omega
        have i4 : j ≤ 2600000000000 := by omega
        obtain ⟨b, hb⟩ : ∃ b, b = smV d false x y := ⟨_, rfl⟩
        have HB : Hid (b = smV d false x y) := hb
        rw [← hb] at HC
        clear hcall o1 hx hy hNl hjN hj HI hb
        go_wp2_with fail
        refine (show Calls Tryz.prog 46 _ _ _ from HC.out).mono ?_
        rintro e w2 ⟨rfl, o2⟩
        have O2 : Hid (Only (fun _ => False) w w2) := O1.out.trans o2 (fun _ _ g => g)
        clear HC c0 c1 o2 O1
        cases b with
        | false =>
          have hzf : Z = false := by
            have := HX.out.2
            unfold smL at this
            rw [← HB.out] at this
            simpa using this
          have HF : Hid (Z = false) := hzf
          clear hzf
          go_wp2
          go_ret
          exact ⟨by rw [HF.out]; rfl, O2.out⟩
        | true =>
          have HF : Hid (Z = smL (smV d false) (la.drop (j + 1)) (lb.drop (j + 1)) ∧ Only (fun _ => False) w w2) := by
            have := HX.out.2
            unfold smL at this
            rw [← HB.out] at this
            exact ⟨by simpa using this, O2.out⟩
          have HJ : Hid (j < N) := HX.out.1
          clear HX HB O2
          go_wp2
          go_roundw
          case rel => exact ⟨j + 1, by go_num, by have := HJ.out; omega, HF⟩
          case measure => simp only [vuOf]; have := HJ.out; omega
      · obtain rfl : j = N := by omega
        have i1 : ¬ (j : Int) < (j : Int) := by omega
        have HF : Hid (Z = true ∧ Only (fun _ => False) w w1) := by
          obtain ⟨hz, o1⟩ := HI.out
          rw [show la.drop j = [] from List.drop_eq_nil_of_le (by omega), show lb.drop j = [] from List.drop_eq_nil_of_le (by omega)] at hz
          exact ⟨hz, o1⟩
        clear HI hNl hjN hj
        go_wp2
        go_ret
        exact ⟨by rw [HF.out.1]; rfl, HF.out.2⟩
  · have HF : Hid (Z = false) := by rw [HZ.out]; exact smL_len _ _ _ (by have := HN.out; omega)
    have O0 : Hid (Only (fun _ => False) w w) := Only.refl _ _
    have e1 : ((N : Int) != (K : Int)) = true := by
      simp only [bne_iff_ne, ne_eq]
      omega
    clear hNK
    go_enter Tryz.func66, Tryz.ntmps66
    go_wp2
    go_ret
    exact ⟨by rw [HF.out]; rfl, O0.out⟩
set_option maxRecDepth 100000 in
set_option maxHeartbeats 4000000 in
theorem ef_items (d : Nat) (H : SaV d true 68) : EfV d true 67 68 := by
  intro la lb ao bo ca cb w S ha hb hoa hob hna hnb
  have HE : Hid (∀ (j : Nat) (x y : Vt), la[j]? = some x → lb[j]? = some y → ∃ g q u g' q' u', ao = some ⟨g, q, none⟩ ∧ bo = some ⟨g', q', none⟩ ∧ w.cell? ⟨g, q + j, none⟩ = some u ∧ w.cell? ⟨g', q' + j, none⟩ = some u' ∧ ∀ w1, Only (fun _ => False) w w1 → Calls Tryz.prog 68 #[u, u'] w1 fun e w' => e = .returned (.bool (smV d true x y)) ∧ Only (fun _ => False) w1 w') := by
    intro j x y hx hy
    obtain ⟨g, q, u, p1, p2, p3, p4⟩ := ha j x hx
    obtain ⟨g', q', u', r1, r2, r3, r4⟩ := hb j y hy
    exact ⟨g, q, u, g', q', u', p1, r1, p3, r3, fun w1 o1 => H x y u u' w1 S (p4.only o1 (fun _ _ g => g)) (r4.only o1 (fun _ _ g => g)) (hoa x (List.mem_of_getElem? hx)) (hob y (List.mem_of_getElem? hy))⟩
  obtain ⟨Z, hZ⟩ : ∃ Z, Z = smL (smV d true) la lb := ⟨_, rfl⟩
  have HZ : Hid (Z = smL (smV d true) la lb) := hZ
  obtain ⟨N, hN⟩ : ∃ N, N = la.length := ⟨_, rfl⟩
  obtain ⟨K, hK⟩ : ∃ K, K = lb.length := ⟨_, rfl⟩
  have HN : Hid (N = la.length ∧ K = lb.length ∧ N ≤ 2600000000000 ∧ K ≤ 2600000000000) := ⟨hN, hK, by omega, by omega⟩
  rw [← hN, ← hK, ← hZ]
  clear ha hb hoa hob hna hnb hZ hN hK H
  by_cases hNK : N = K
  · have e1 : ((N : Int) == (K : Int)) = true := by simp [hNK]
    subst hNK
    clear e1
    go_enter Tryz.func67, Tryz.ntmps67
    go_wp2
    go_loopw [17] (fun r wr => ∃ j : Nat, r = .int .i64 (j : Int) ∧ j ≤ N ∧ Hid (Z = smL (smV d true) (la.drop j) (lb.drop j) ∧ Only (fun _ => False) w wr)) (fun r _ => N - vuOf r)
    case atStart => exact ⟨0, rfl, Nat.zero_le _, by simpa using HZ.out, Only.refl _ _⟩
    case round =>
      obtain ⟨j, rfl, hj, HI⟩ := hrel
      obtain ⟨w1, hw1⟩ : ∃ w1, w1 = wr := ⟨_, rfl⟩
      rw [← hw1] at HI ⊢
      clear hw1
      have hNl := HN.out
      by_cases hjN : j < N
      · obtain ⟨x, hx⟩ : ∃ x, la[j]? = some x := ⟨la[j]'(by omega), List.getElem?_eq_getElem (by omega)⟩
        obtain ⟨y, hy⟩ : ∃ y, lb[j]? = some y := ⟨lb[j]'(by omega), List.getElem?_eq_getElem (by omega)⟩
        obtain ⟨g, q, u, g', q', u', rfl, rfl, c0, c1, hcall⟩ := HE.out j x y hx hy
        have o1 := HI.out.2
        have c0 := o1.cell c0 (fun g => g)
        have c1 := o1.cell c1 (fun g => g)
        have HC : Hid _ := hcall w1 o1
        have HX : Hid (j < N ∧ Z = smL (smV d true) (x :: la.drop (j + 1)) (y :: lb.drop (j + 1))) := ⟨hjN, by rw [← drop_at hx, ← drop_at hy]; exact HI.out.1⟩
        have O1 : Hid (Only (fun _ => False) w w1) := o1
        have i1 : (j : Int) < (N : Int) := by omega
        have i0 : (0 : Int) ≤ (j : Int) := by omega
        have i4 : j ≤ 2600000000000 := by omega
        obtain ⟨b, hb⟩ : ∃ b, b = smV d true x y := ⟨_, rfl⟩
        have HB : Hid (b = smV d true x y) := hb
        rw [← hb] at HC
        clear hcall o1 hx hy hNl hjN hj HI hb
        go_wp2_with fail
        refine (show Calls Tryz.prog 68 _ _ _ from HC.out).mono ?_
        rintro e w2 ⟨rfl, o2⟩
        have O2 : Hid (Only (fun _ => False) w w2) := O1.out.trans o2 (fun _ _ g => g)
        clear HC c0 c1 o2 O1
        cases b with
        | false =>
          have hzf : Z = false := by
            have := HX.out.2
            unfold smL at this
            rw [← HB.out] at this
            simpa using this
          have HF : Hid (Z = false) := hzf
          clear hzf
          go_wp2
          go_ret
          exact ⟨by rw [HF.out]; rfl, O2.out⟩
        | true =>
          have HF : Hid (Z = smL (smV d true) (la.drop (j + 1)) (lb.drop (j + 1)) ∧ Only (fun _ => False) w w2) := by
            have := HX.out.2
            unfold smL at this
            rw [← HB.out] at this
            exact ⟨by simpa using this, O2.out⟩
          have HJ : Hid (j < N) := HX.out.1
          clear HX HB O2
          go_wp2
          go_roundw
          case rel => exact ⟨j + 1, by go_num, by have := HJ.out; omega, HF⟩
          case measure => simp only [vuOf]; have := HJ.out; omega
      · obtain rfl : j = N := by omega
        have i1 : ¬ (j : Int) < (j : Int) := by omega
        have HF : Hid (Z = true ∧ Only (fun _ => False) w w1) := by
          obtain ⟨hz, o1⟩ := HI.out
          rw [show la.drop j = [] from List.drop_eq_nil_of_le (by omega), show lb.drop j = [] from List.drop_eq_nil_of_le (by omega)] at hz
          exact ⟨hz, o1⟩
        clear HI hNl hjN hj
        go_wp2
        go_ret
        exact ⟨by rw [HF.out.1]; rfl, HF.out.2⟩
  · have HF : Hid (Z = false) := by rw [HZ.out]; exact smL_len _ _ _ (by have := HN.out; omega)
    have O0 : Hid (Only (fun _ => False) w w) := Only.refl _ _
    have e1 : ((N : Int) != (K : Int)) = true := by
      simp only [bne_iff_ne, ne_eq]
      omega
    clear hNK
    go_enter Tryz.func67, Tryz.ntmps67
    go_wp2
    go_ret
    exact ⟨by rw [HF.out]; rfl, O0.out⟩
end Go.Proofs.YtdfbnnephfoboaaGreatDoor
namespace Go.Proofs.YtdfbnnephfoboaaGreatDoor
open Go.RowKit Go.Lib
set_option linter.unusedSimpArgs false
set_option linter.unusedVariables false
/-- do two nodes of one kind hold the same? -/
def saL (k na nb : Int) (sa sb : ByteArray) : Bool := if k = 1 ∨ k = 6 then na == nb else if k = 3 then (na != 0) == (nb != 0) else if k = 2 ∨ k = 7 then sa.toList == sb.toList else true
/-- are two trees the same, as the document has it? -/
def saV : Nat → Vt → Vt → Bool
  | 0, _, _ => false
  | d + 1, a, b => decide (a.k = b.k) && decide (a.l.length = b.l.length) && saL a.k a.n b.n a.s b.s && smL (saV d) a.l b.l
/-- what SameAll answers of trees of depth d -/
def DaC (d : Nat) : Prop := ∀ (la lb : List Vt) (va vb : Value) (w : World) (S S' : Nat → Prop), VsAt w S d la va → VsAt w S' d lb vb → la.length ≤ 2600000000000 → lb.length ≤ 2600000000000 → (∀ x ∈ la, ∃ e, SmT e x) → (∀ x ∈ lb, ∃ e, SmT e x) → Calls Tryz.prog 30 #[va, vb] w fun e w' => e = .returned (.bool (smL (saV (d - 1)) la lb)) ∧ Only (fun _ => False) w w'
/-- what Same answers -/
def DmC (d : Nat) : Prop := ∀ (a b : Vt) (va vb : Value) (w : World) (S S' : Nat → Prop), VsAt w S d a.l va → VsAt w S' d b.l vb → (∃ e, SmT e a) → (∃ e, SmT e b) → Calls Tryz.prog 24 #[.agg #[.int .i64 a.k, .int .i64 a.n, .string a.s, va], .agg #[.int .i64 b.k, .int .i64 b.n, .string b.s, vb]] w fun e w' => e = .returned (.bool (saV d a b)) ∧ Only (fun _ => False) w w'
set_option maxRecDepth 100000 in
set_option maxHeartbeats 4000000 in
theorem samed_ne (ka na kb nb : Int) (sa sb : ByteArray) (a1 a2 : Option Addr) (La Lb c1 c2 : Nat) (w : World) (h : ¬ ka = kb ∨ ¬ (La : Int) = (Lb : Int)) :
    Calls Tryz.prog 24 #[.agg #[.int .i64 ka, .int .i64 na, .string sa, .slice a1 La c1], .agg #[.int .i64 kb, .int .i64 nb, .string sb, .slice a2 Lb c2]] w fun e w' => e = .returned (.bool false) ∧ Only (fun _ => False) w w' := by
  have O0 : Hid (Only (fun _ => False) w w) := Only.refl _ _
  by_cases hk : ka = kb
  · have h2 : ¬ (La : Int) = (Lb : Int) := by
      rcases h with h | h
      · exact absurd hk h
      · exact h
    subst hk
    clear h
    go_enter Tryz.func24, Tryz.ntmps24
    go_wp2
    go_ret
    exact ⟨rfl, (O0.out.alloc _).alloc _⟩
  · clear h
    go_enter Tryz.func24, Tryz.ntmps24
    go_wp2
    go_ret
    exact ⟨rfl, (O0.out.alloc _).alloc _⟩
set_option maxRecDepth 100000 in
set_option maxHeartbeats 4000000 in
theorem samed_1n (na nb : Int) (sa sb : ByteArray) (a1 a2 : Option Addr) (L c1 c2 : Nat) (R : Bool) (w : World) (HC0 : ∀ w1, Only (fun _ => False) w w1 → Calls Tryz.prog 30 #[.slice a1 L c1, .slice a2 L c2] w1 fun e w' => e = .returned (.bool R) ∧ Only (fun _ => False) w1 w') (h : ¬ na = nb) :
    Calls Tryz.prog 24 #[.agg #[.int .i64 1, .int .i64 na, .string sa, .slice a1 L c1], .agg #[.int .i64 1, .int .i64 nb, .string sb, .slice a2 L c2]] w fun e w' => e = .returned (.bool false) ∧ Only (fun _ => False) w w' := by
  have O0 : Hid (Only (fun _ => False) w w) := Only.refl _ _
  clear HC0
  go_enter Tryz.func24, Tryz.ntmps24
  go_wp2
  go_ret
  exact ⟨rfl, (O0.out.alloc _).alloc _⟩
set_option maxRecDepth 100000 in
set_option maxHeartbeats 4000000 in
theorem samed_1y (na : Int) (sa sb : ByteArray) (a1 a2 : Option Addr) (L c1 c2 : Nat) (R : Bool) (w : World) (HC0 : ∀ w1, Only (fun _ => False) w w1 → Calls Tryz.prog 30 #[.slice a1 L c1, .slice a2 L c2] w1 fun e w' => e = .returned (.bool R) ∧ Only (fun _ => False) w1 w') :
    Calls Tryz.prog 24 #[.agg #[.int .i64 1, .int .i64 na, .string sa, .slice a1 L c1], .agg #[.int .i64 1, .int .i64 na, .string sb, .slice a2 L c2]] w fun e w' => e = .returned (.bool R) ∧ Only (fun _ => False) w w' := by
  have O0 : Hid (Only (fun _ => False) w w) := Only.refl _ _
  have HC : Hid (∀ w1, Only (fun _ => False) w w1 → Calls Tryz.prog 30 #[.slice a1 L c1, .slice a2 L c2] w1 fun e w' => e = .returned (.bool R) ∧ Only (fun _ => False) w1 w') := HC0
  clear HC0
  go_enter Tryz.func24, Tryz.ntmps24
  go_wp2_with fail
  refine (show Calls Tryz.prog 30 _ _ _ from HC.out _ ((O0.out.alloc _).alloc _)).mono ?_
  rintro e w1 ⟨rfl, o1⟩
  have O1 : Hid (Only (fun _ => False) w w1) := ((O0.out.alloc _).alloc _).trans o1 (fun _ _ g => g)
  clear HC o1
  go_wp2
  go_ret
  exact ⟨rfl, O1.out⟩
set_option maxRecDepth 100000 in
set_option maxHeartbeats 4000000 in
theorem samed_6n (na nb : Int) (sa sb : ByteArray) (a1 a2 : Option Addr) (L c1 c2 : Nat) (R : Bool) (w : World) (HC0 : ∀ w1, Only (fun _ => False) w w1 → Calls Tryz.prog 30 #[.slice a1 L c1, .slice a2 L c2] w1 fun e w' => e = .returned (.bool R) ∧ Only (fun _ => False) w1 w') (h : ¬ na = nb) :
    Calls Tryz.prog 24 #[.agg #[.int .i64 6, .int .i64 na, .string sa, .slice a1 L c1], .agg #[.int .i64 6, .int .i64 nb, .string sb, .slice a2 L c2]] w fun e w' => e = .returned (.bool false) ∧ Only (fun _ => False) w w' := by
  have O0 : Hid (Only (fun _ => False) w w) := Only.refl _ _
  clear HC0
  go_enter Tryz.func24, Tryz.ntmps24
  go_wp2
  go_ret
  exact ⟨rfl, (O0.out.alloc _).alloc _⟩
set_option maxRecDepth 100000 in
set_option maxHeartbeats 4000000 in
theorem samed_6y (na : Int) (sa sb : ByteArray) (a1 a2 : Option Addr) (L c1 c2 : Nat) (R : Bool) (w : World) (HC0 : ∀ w1, Only (fun _ => False) w w1 → Calls Tryz.prog 30 #[.slice a1 L c1, .slice a2 L c2] w1 fun e w' => e = .returned (.bool R) ∧ Only (fun _ => False) w1 w') :
    Calls Tryz.prog 24 #[.agg #[.int .i64 6, .int .i64 na, .string sa, .slice a1 L c1], .agg #[.int .i64 6, .int .i64 na, .string sb, .slice a2 L c2]] w fun e w' => e = .returned (.bool R) ∧ Only (fun _ => False) w w' := by
  have O0 : Hid (Only (fun _ => False) w w) := Only.refl _ _
  have HC : Hid (∀ w1, Only (fun _ => False) w w1 → Calls Tryz.prog 30 #[.slice a1 L c1, .slice a2 L c2] w1 fun e w' => e = .returned (.bool R) ∧ Only (fun _ => False) w1 w') := HC0
  clear HC0
  go_enter Tryz.func24, Tryz.ntmps24
  go_wp2_with fail
  refine (show Calls Tryz.prog 30 _ _ _ from HC.out _ ((O0.out.alloc _).alloc _)).mono ?_
  rintro e w1 ⟨rfl, o1⟩
  have O1 : Hid (Only (fun _ => False) w w1) := ((O0.out.alloc _).alloc _).trans o1 (fun _ _ g => g)
  clear HC o1
  go_wp2
  go_ret
  exact ⟨rfl, O1.out⟩
set_option maxRecDepth 100000 in
set_option maxHeartbeats 4000000 in
theorem samed_2n (na nb : Int) (sa sb : ByteArray) (a1 a2 : Option Addr) (L c1 c2 : Nat) (R : Bool) (w : World) (HC0 : ∀ w1, Only (fun _ => False) w w1 → Calls Tryz.prog 30 #[.slice a1 L c1, .slice a2 L c2] w1 fun e w' => e = .returned (.bool R) ∧ Only (fun _ => False) w1 w') (h : (sa.toList == sb.toList) = false) :
    Calls Tryz.prog 24 #[.agg #[.int .i64 2, .int .i64 na, .string sa, .slice a1 L c1], .agg #[.int .i64 2, .int .i64 nb, .string sb, .slice a2 L c2]] w fun e w' => e = .returned (.bool false) ∧ Only (fun _ => False) w w' := by
  have O0 : Hid (Only (fun _ => False) w w) := Only.refl _ _
  clear HC0
  go_enter Tryz.func24, Tryz.ntmps24
  go_wp2
  go_ret
  exact ⟨rfl, (O0.out.alloc _).alloc _⟩
set_option maxRecDepth 100000 in
set_option maxHeartbeats 4000000 in
theorem samed_2y (na nb : Int) (sa sb : ByteArray) (a1 a2 : Option Addr) (L c1 c2 : Nat) (R : Bool) (w : World) (HC0 : ∀ w1, Only (fun _ => False) w w1 → Calls Tryz.prog 30 #[.slice a1 L c1, .slice a2 L c2] w1 fun e w' => e = .returned (.bool R) ∧ Only (fun _ => False) w1 w') (h : (sa.toList == sb.toList) = true) :
    Calls Tryz.prog 24 #[.agg #[.int .i64 2, .int .i64 na, .string sa, .slice a1 L c1], .agg #[.int .i64 2, .int .i64 nb, .string sb, .slice a2 L c2]] w fun e w' => e = .returned (.bool R) ∧ Only (fun _ => False) w w' := by
  have O0 : Hid (Only (fun _ => False) w w) := Only.refl _ _
  have HC : Hid (∀ w1, Only (fun _ => False) w w1 → Calls Tryz.prog 30 #[.slice a1 L c1, .slice a2 L c2] w1 fun e w' => e = .returned (.bool R) ∧ Only (fun _ => False) w1 w') := HC0
  clear HC0
  go_enter Tryz.func24, Tryz.ntmps24
  go_wp2_with fail
  refine (show Calls Tryz.prog 30 _ _ _ from HC.out _ ((O0.out.alloc _).alloc _)).mono ?_
  rintro e w1 ⟨rfl, o1⟩
  have O1 : Hid (Only (fun _ => False) w w1) := ((O0.out.alloc _).alloc _).trans o1 (fun _ _ g => g)
  clear HC o1
  go_wp2
  go_ret
  exact ⟨rfl, O1.out⟩
set_option maxRecDepth 100000 in
set_option maxHeartbeats 4000000 in
theorem samed_7n (na nb : Int) (sa sb : ByteArray) (a1 a2 : Option Addr) (L c1 c2 : Nat) (R : Bool) (w : World) (HC0 : ∀ w1, Only (fun _ => False) w w1 → Calls Tryz.prog 30 #[.slice a1 L c1, .slice a2 L c2] w1 fun e w' => e = .returned (.bool R) ∧ Only (fun _ => False) w1 w') (h : (sa.toList == sb.toList) = false) :
    Calls Tryz.prog 24 #[.agg #[.int .i64 7, .int .i64 na, .string sa, .slice a1 L c1], .agg #[.int .i64 7, .int .i64 nb, .string sb, .slice a2 L c2]] w fun e w' => e = .returned (.bool false) ∧ Only (fun _ => False) w w' := by
  have O0 : Hid (Only (fun _ => False) w w) := Only.refl _ _
  clear HC0
  go_enter Tryz.func24, Tryz.ntmps24
  go_wp2
  go_ret
  exact ⟨rfl, (O0.out.alloc _).alloc _⟩
set_option maxRecDepth 100000 in
set_option maxHeartbeats 4000000 in
theorem samed_7y (na nb : Int) (sa sb : ByteArray) (a1 a2 : Option Addr) (L c1 c2 : Nat) (R : Bool) (w : World) (HC0 : ∀ w1, Only (fun _ => False) w w1 → Calls Tryz.prog 30 #[.slice a1 L c1, .slice a2 L c2] w1 fun e w' => e = .returned (.bool R) ∧ Only (fun _ => False) w1 w') (h : (sa.toList == sb.toList) = true) :
    Calls Tryz.prog 24 #[.agg #[.int .i64 7, .int .i64 na, .string sa, .slice a1 L c1], .agg #[.int .i64 7, .int .i64 nb, .string sb, .slice a2 L c2]] w fun e w' => e = .returned (.bool R) ∧ Only (fun _ => False) w w' := by
  have O0 : Hid (Only (fun _ => False) w w) := Only.refl _ _
  have HC : Hid (∀ w1, Only (fun _ => False) w w1 → Calls Tryz.prog 30 #[.slice a1 L c1, .slice a2 L c2] w1 fun e w' => e = .returned (.bool R) ∧ Only (fun _ => False) w1 w') := HC0
  clear HC0
  go_enter Tryz.func24, Tryz.ntmps24
  go_wp2_with fail
  refine (show Calls Tryz.prog 30 _ _ _ from HC.out _ ((O0.out.alloc _).alloc _)).mono ?_
  rintro e w1 ⟨rfl, o1⟩
  have O1 : Hid (Only (fun _ => False) w w1) := ((O0.out.alloc _).alloc _).trans o1 (fun _ _ g => g)
  clear HC o1
  go_wp2
  go_ret
  exact ⟨rfl, O1.out⟩
set_option maxRecDepth 100000 in
set_option maxHeartbeats 4000000 in
theorem samed_3y (na nb : Int) (sa sb : ByteArray) (a1 a2 : Option Addr) (L c1 c2 : Nat) (R : Bool) (w : World) (HC0 : ∀ w1, Only (fun _ => False) w w1 → Calls Tryz.prog 30 #[.slice a1 L c1, .slice a2 L c2] w1 fun e w' => e = .returned (.bool R) ∧ Only (fun _ => False) w1 w') (h : (!((na != 0) == (nb != 0))) = false) :
    Calls Tryz.prog 24 #[.agg #[.int .i64 3, .int .i64 na, .string sa, .slice a1 L c1], .agg #[.int .i64 3, .int .i64 nb, .string sb, .slice a2 L c2]] w fun e w' => e = .returned (.bool R) ∧ Only (fun _ => False) w w' := by
  have O0 : Hid (Only (fun _ => False) w w) := Only.refl _ _
  have HC : Hid (∀ w1, Only (fun _ => False) w w1 → Calls Tryz.prog 30 #[.slice a1 L c1, .slice a2 L c2] w1 fun e w' => e = .returned (.bool R) ∧ Only (fun _ => False) w1 w') := HC0
  clear HC0
  go_enter Tryz.func24, Tryz.ntmps24
  go_wp2_with fail
  refine (show Calls Tryz.prog 30 _ _ _ from HC.out _ ((O0.out.alloc _).alloc _)).mono ?_
  rintro e w1 ⟨rfl, o1⟩
  have O1 : Hid (Only (fun _ => False) w w1) := ((O0.out.alloc _).alloc _).trans o1 (fun _ _ g => g)
  clear HC o1
  go_wp2
  go_ret
  exact ⟨rfl, O1.out⟩
set_option maxRecDepth 100000 in
set_option maxHeartbeats 4000000 in
theorem samed_3n (na nb : Int) (sa sb : ByteArray) (a1 a2 : Option Addr) (L c1 c2 : Nat) (R : Bool) (w : World) (HC0 : ∀ w1, Only (fun _ => False) w w1 → Calls Tryz.prog 30 #[.slice a1 L c1, .slice a2 L c2] w1 fun e w' => e = .returned (.bool R) ∧ Only (fun _ => False) w1 w') (h : (!((na != 0) == (nb != 0))) = true) :
    Calls Tryz.prog 24 #[.agg #[.int .i64 3, .int .i64 na, .string sa, .slice a1 L c1], .agg #[.int .i64 3, .int .i64 nb, .string sb, .slice a2 L c2]] w fun e w' => e = .returned (.bool false) ∧ Only (fun _ => False) w w' := by
  have O0 : Hid (Only (fun _ => False) w w) := Only.refl _ _
  clear HC0
  go_enter Tryz.func24, Tryz.ntmps24
  go_wp2
  go_ret
  exact ⟨rfl, (O0.out.alloc _).alloc _⟩
set_option maxRecDepth 100000 in
set_option maxHeartbeats 4000000 in
theorem samed_o (k na nb : Int) (sa sb : ByteArray) (a1 a2 : Option Addr) (L c1 c2 : Nat) (R : Bool) (w : World) (HC0 : ∀ w1, Only (fun _ => False) w w1 → Calls Tryz.prog 30 #[.slice a1 L c1, .slice a2 L c2] w1 fun e w' => e = .returned (.bool R) ∧ Only (fun _ => False) w1 w') (h1 : ¬ k = 1) (h2 : ¬ k = 2) (h3 : ¬ k = 3) (h6 : ¬ k = 6) (h7 : ¬ k = 7) :
    Calls Tryz.prog 24 #[.agg #[.int .i64 k, .int .i64 na, .string sa, .slice a1 L c1], .agg #[.int .i64 k, .int .i64 nb, .string sb, .slice a2 L c2]] w fun e w' => e = .returned (.bool R) ∧ Only (fun _ => False) w w' := by
  have O0 : Hid (Only (fun _ => False) w w) := Only.refl _ _
  have HC : Hid (∀ w1, Only (fun _ => False) w w1 → Calls Tryz.prog 30 #[.slice a1 L c1, .slice a2 L c2] w1 fun e w' => e = .returned (.bool R) ∧ Only (fun _ => False) w1 w') := HC0
  clear HC0
  go_enter Tryz.func24, Tryz.ntmps24
  go_wp2_with fail
  refine (show Calls Tryz.prog 30 _ _ _ from HC.out _ ((O0.out.alloc _).alloc _)).mono ?_
  rintro e w1 ⟨rfl, o1⟩
  have O1 : Hid (Only (fun _ => False) w w1) := ((O0.out.alloc _).alloc _).trans o1 (fun _ _ g => g)
  clear HC o1
  go_wp2
  go_ret
  exact ⟨rfl, O1.out⟩
theorem SmT.subs {e : Nat} {t : Vt} (h : SmT e t) : t.l.length ≤ 2600000000000 ∧ ∀ x ∈ t.l, ∃ e, SmT e x := by
  cases e with
  | zero => exact h.elim
  | succ e => exact ⟨h.2.1, fun x hx => ⟨e, h.2.2.2.2 x hx⟩⟩
theorem dsame_of (d : Nat) (H : DaC (d + 1)) : DmC (d + 1) := by
  intro a b va vb w S S' h1 h2 ⟨e1, g1⟩ ⟨e2, g2⟩
  obtain ⟨a1, c1, rfl⟩ := h1.form
  obtain ⟨a2, c2, rfl⟩ := h2.form
  unfold saV
  by_cases hk : a.k = b.k
  · by_cases hl : a.l.length = b.l.length
    · have hc : ∀ w1, Only (fun _ => False) w w1 → Calls Tryz.prog 30 #[.slice a1 a.l.length c1, .slice a2 a.l.length c2] w1 fun e w' => e = .returned (.bool (smL (saV d) a.l b.l)) ∧ Only (fun _ => False) w1 w' := fun w1 o1 => by
        have := H a.l b.l _ _ w1 S S' (h1.only o1) (h2.only o1) g1.subs.1 g2.subs.1 g1.subs.2 g2.subs.2
        rw [← hl] at this
        exact this
      rw [← hk, ← hl, decide_eq_true rfl, decide_eq_true rfl, Bool.true_and, Bool.true_and]
      generalize smL (saV d) a.l b.l = R at hc ⊢
      generalize a.l.length = L at hc ⊢
      generalize a.k = k at *
      unfold saL
      by_cases k1 : k = 1
      · subst k1
        rw [if_pos (.inl rfl)]
        by_cases hn : a.n = b.n
        · rw [← hn, beq_self_eq_true, Bool.true_and]; exact samed_1y _ _ _ _ _ _ _ _ R w hc
        · rw [beq_false_of_ne hn, Bool.false_and]; exact samed_1n _ _ _ _ _ _ _ _ _ R w hc hn
      by_cases k6 : k = 6
      · subst k6
        rw [if_pos (.inr rfl)]
        by_cases hn : a.n = b.n
        · rw [← hn, beq_self_eq_true, Bool.true_and]; exact samed_6y _ _ _ _ _ _ _ _ R w hc
        · rw [beq_false_of_ne hn, Bool.false_and]; exact samed_6n _ _ _ _ _ _ _ _ _ R w hc hn
      rw [if_neg (fun g => g.elim k1 k6)]
      by_cases k3 : k = 3
      · subst k3
        rw [if_pos rfl]
        cases hn : ((a.n != 0) == (b.n != 0)) with
        | true => rw [Bool.true_and]; exact samed_3y _ _ _ _ _ _ _ _ _ R w hc (by rw [hn]; rfl)
        | false => rw [Bool.false_and]; exact samed_3n _ _ _ _ _ _ _ _ _ R w hc (by rw [hn]; rfl)
      rw [if_neg k3]
      by_cases k2 : k = 2
      · subst k2
        rw [if_pos (.inl rfl)]
        cases hn : (a.s.toList == b.s.toList) with
        | true => rw [Bool.true_and]; exact samed_2y _ _ _ _ _ _ _ _ _ R w hc hn
        | false => rw [Bool.false_and]; exact samed_2n _ _ _ _ _ _ _ _ _ R w hc hn
      by_cases k7 : k = 7
      · subst k7
        rw [if_pos (.inr rfl)]
        cases hn : (a.s.toList == b.s.toList) with
        | true => rw [Bool.true_and]; exact samed_7y _ _ _ _ _ _ _ _ _ R w hc hn
        | false => rw [Bool.false_and]; exact samed_7n _ _ _ _ _ _ _ _ _ R w hc hn
      rw [if_neg (fun g => g.elim k2 k7), Bool.true_and]
      exact samed_o k _ _ _ _ _ _ _ _ _ R w hc k1 k2 k3 k6 k7
    · rw [decide_eq_false hl, Bool.and_false, Bool.false_and, Bool.false_and]
      exact samed_ne _ _ _ _ _ _ _ _ _ _ _ _ w (.inr (by omega))
  · rw [decide_eq_false hk, Bool.false_and, Bool.false_and, Bool.false_and]
    exact samed_ne _ _ _ _ _ _ _ _ _ _ _ _ w (.inl hk)
end Go.Proofs.YtdfbnnephfoboaaGreatDoor
namespace Go.Proofs.YtdfbnnephfoboaaGreatDoor
open Go.RowKit
set_option linter.unusedSimpArgs false
set_option linter.unusedVariables false
theorem Only.drewN {bs : Nat → Prop} {a w : World} (h : Only bs a w) (n : Nat) : Only bs a (w.drewN n) := ⟨h.os, h.tape, h.output, h.size, h.block⟩
section
variable {P : Program} {n l : Nat} {ops : Array Oper} {op : Oper} {a : Act} {w w' : World} {K : Act → World → Prop} {Q : Exit → Act → World → Prop}
theorem wp_call_func {f : Nat} (args : Array Operand) (tys : Array TypeId) (ho : op.op = .call { callee := .value (.func f), args := args, argTypes := tys }) (vs : Array Value) (hvs : args.map a.eval = vs) (he : ∀ args w, (callFunc f args).run P w = .ok (.enter f args) w)
    {R : Ending → World → Prop} (hc : Calls P f vs w R) (hR : ∀ e w', R e w' → ∃ v, e = .returned v ∧ K (a.put op.dst v) w') : op.wp P a w K Q := by
  have hr : (execOp a.eval op).run P w = .ok (.enter f vs) w := by
    simp [execOp, ho, resolve, invoke, go_sem, he, hvs, Result.andThen]
  unfold Oper.wp
  rw [hr, Oper.upon_enter]
  refine hc.mono fun e w' h => ?_
  obtain ⟨v, rfl, hk⟩ := hR e w' h
  exact hk
end
end Go.Proofs.YtdfbnnephfoboaaGreatDoor
