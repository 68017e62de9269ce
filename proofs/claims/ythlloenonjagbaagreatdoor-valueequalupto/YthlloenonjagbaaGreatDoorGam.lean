/- measured, Check, CheckItems, Size: of any value. When two values that hold no others are equal. Equal values: the plain function; slices.EqualFunc. -/
import Derived.Test.YthlloenonjagbaaGreatDoorGal
import Derived.Laws.StructEq
namespace Go.Proofs.YthlloenonjagbaaGreatDoor
open Go.RowKit Go.Lib
set_option linter.unusedSimpArgs false
set_option linter.unusedVariables false
/-- is a value sound? -/
def sdB (d : Nat) (t : Vt) : Bool := msB d false t 0 0
/-- what measured answers -/
def MeP (Z : Bool) (Y : Nat) (w : World) (e : Ending) (w' : World) : Prop := ∃ dd : Int, e = .returned (.tuple #[.agg #[.int .i64 (if Z then (Y : Int) else 0), .int .i64 (if Z then dd else 0)], .int .i64 (if Z then 0 else 1)]) ∧ Only (fun _ => False) w w'
set_option maxRecDepth 100000 in
set_option maxHeartbeats 1000000 in
theorem measured_any {d : Nat} {t : Vt} {v : Value} {w : World} {S : Nat → Prop} (h : TiAt w S d false t v) (hS : ∀ b, S b → b < w.heap.size) (hsm : ∃ e, SmT e t) (hT : Tb w) : Calls Tryz.prog 35 #[v] w (MeP (sdB d t) (sz d false t) w) := by
  obtain ⟨W, hW⟩ : ∃ W, W = (w.alloc (.cells #[.int .i64 0, .int .i64 0] 86)).alloc (.cells #[.int .i64 0, .int .i64 0] 86) := ⟨_, rfl⟩
  obtain ⟨N, hN⟩ : ∃ N, N = w.heap.size := ⟨_, rfl⟩
  have oW : Only (fun _ => False) w W := by rw [hW]; exact ((Only.refl _ w).alloc _).alloc _
  have a0 : W.heap[N]? = some (.cells #[.int .i64 0, .int .i64 0] 86) := by rw [hW]; exact (((Only.refl (fun _ => False) _).alloc _).block N (by simp [hN]) (fun g => g)).trans (va_at _ _ _ hN)
  have a1 : W.heap[N + 1]? = some (.cells #[.int .i64 0, .int .i64 0] 86) := by rw [hW]; exact va_at _ _ _ (by simp [hN])
  have lt := hT.lt
  have HV : Hid (Calls Tryz.prog 53 #[.pointer (some ⟨N + 1, 0, none⟩), v, .int .i64 0] W fun e w' => e = .returned (.bool (sdB d t)) ∧ Hid (Only (fun b => b = N + 1) W w' ∧ (sdB d t = true → ∃ dd' : Int, VmB w' (N + 1) ((0 + sz d false t : Nat) : Int) dd' ∧ 0 ≤ dd' ∧ dd' ≤ 1000))) :=
    (ms_all d).1 t v W S (N + 1) 0 0 0 (h.only oW (fun _ _ g => g)) (fun b hb => by have := hS b hb; omega) hsm a1 (by omega) (by omega) (by omega) (by omega) (hT.frame oW) ⟨by omega, by omega, by omega⟩
  have HA : Hid (W.heap[N]? = some (.cells #[.int .i64 0, .int .i64 0] 86) ∧ Only (fun _ => False) w W ∧ N = w.heap.size) := ⟨a0, oW, hN⟩
  obtain ⟨Z, hZ⟩ : ∃ Z, Z = sdB d t := ⟨_, rfl⟩
  obtain ⟨Y, hY⟩ : ∃ Y, Y = sz d false t := ⟨_, rfl⟩
  rw [← hZ, ← hY] at HV
  rw [← hZ, ← hY]
  clear h hS hsm hT oW a0 a1 lt hZ hY
  go_enter Tryz.func35, Tryz.ntmps35
  go_wp2_with fail
  rw [← hW, ← hN]
  clear hW hN
  refine (show Calls Tryz.prog 53 _ _ _ from HV.out).mono ?_
  rintro e w1 ⟨rfl, G1⟩
  have o1 := G1.out.1
  have h0 := (o1.block N (Array.getElem?_eq_some_iff.1 HA.out.1).1 (by omega)).trans HA.out.1
  have O1 : Hid (Only (fun _ => False) w w1) := HA.out.2.1.trans o1 (fun k hk e => by have := HA.out.2.2; omega)
  have c0 := wr_cell h0 0
  have c1 := wr_cell h0 1
  have f0 := wr_froz h0 0
  have f1 := wr_froz h0 1
  simp only [List.getElem?_toArray, List.getElem?_cons_succ, List.getElem?_cons_zero] at c0 c1
  cases Z with
  | false =>
    have q := set2 c0 c1 (.int .i64 0) (.int .i64 0)
    have Q : Hid _ := q
    clear h0 HV o1 G1 q
    go_wp2
    refine bodyPost_ret (results_two rfl _ _ N Q.out.1 Q.out.2 rfl) rfl ?_
    refine ⟨0, rfl, (O1.out.setCell _ _ (fun g => ?_)).setCell _ _ (fun g => ?_)⟩ <;> (have := HA.out.2.2; simp only at g; omega)
  | true =>
    obtain ⟨dd, m1, _, _⟩ := G1.out.2 rfl
    have d0 := wr_cell m1 0
    have d1 := wr_cell m1 1
    simp only [List.getElem?_toArray, List.getElem?_cons_succ, List.getElem?_cons_zero, Nat.zero_add] at d0 d1
    have q := set2 c0 c1 (.int .i64 (Y : Int)) (.int .i64 dd)
    have Q : Hid _ := q
    clear h0 HV o1 G1 q m1
    go_wp2
    refine bodyPost_ret (results_two rfl _ _ N Q.out.1 Q.out.2 rfl) rfl ?_
    refine ⟨dd, rfl, (O1.out.setCell _ _ (fun g => ?_)).setCell _ _ (fun g => ?_)⟩ <;> (have := HA.out.2.2; simp only at g; omega)
set_option maxRecDepth 100000 in
theorem vcheck_any {d : Nat} {t : Vt} {v : Value} {w : World} {S : Nat → Prop} (h : TiAt w S d false t v) (hS : ∀ b, S b → b < w.heap.size) (hsm : ∃ e, SmT e t) (hT : Tb w) : Calls Tryz.prog 12 #[v] w fun e w' => e = .returned (.int .i64 (if sdB d t then 0 else 1)) ∧ Only (fun _ => False) w w' := by
  have HV : Hid _ := measured_any h hS hsm hT
  clear h hS hsm hT
  obtain ⟨X3, h3⟩ : ∃ X : Int, X = (if sdB d t then 0 else 1) := ⟨_, rfl⟩
  rw [← h3]
  have H3 : Hid (X3 = (if sdB d t then 0 else 1)) := h3
  clear h3
  go_enter Tryz.func12, Tryz.ntmps12
  go_wp2_with fail
  refine (show Calls Tryz.prog 35 _ _ _ from HV.out).mono ?_
  rintro e w1 ⟨dd, rfl, o1⟩
  have O1 : Hid (Only (fun _ => False) w w1) := o1
  obtain ⟨X1, h1⟩ : ∃ X : Int, X = (if sdB d t then (sz d false t : Int) else 0) := ⟨_, rfl⟩
  obtain ⟨X2, h2⟩ : ∃ X : Int, X = (if sdB d t then dd else 0) := ⟨_, rfl⟩
  rw [← h1, ← h2, ← H3.out]
  clear HV o1 h1 h2
  go_wp2
  go_ret
  exact ⟨rfl, O1.out.alloc _⟩
set_option maxRecDepth 100000 in
theorem vsize_any {d : Nat} {t : Vt} {v : Value} {w : World} {S : Nat → Prop} (h : TiAt w S d false t v) (hS : ∀ b, S b → b < w.heap.size) (hsm : ∃ e, SmT e t) (hT : Tb w) : Calls Tryz.prog 13 #[v] w fun e w' => e = .returned (.tuple #[.int .i64 (if sdB d t then (sz d false t : Int) else 0), .int .i64 (if sdB d t then 0 else 1)]) ∧ Only (fun _ => False) w w' := by
  have HV : Hid _ := measured_any h hS hsm hT
  clear h hS hsm hT
  obtain ⟨X1, h1⟩ : ∃ X : Int, X = (if sdB d t then (sz d false t : Int) else 0) := ⟨_, rfl⟩
  obtain ⟨X3, h3⟩ : ∃ X : Int, X = (if sdB d t then 0 else 1) := ⟨_, rfl⟩
  rw [← h1, ← h3]
  have H1 : Hid (X1 = (if sdB d t then (sz d false t : Int) else 0)) := h1
  have H3 : Hid (X3 = (if sdB d t then 0 else 1)) := h3
  clear h1 h3
  go_enter Tryz.func13, Tryz.ntmps13
  go_wp2_with fail
  refine (show Calls Tryz.prog 35 _ _ _ from HV.out).mono ?_
  rintro e w1 ⟨dd, rfl, o1⟩
  have O1 : Hid (Only (fun _ => False) w w1) := o1
  obtain ⟨X2, h2⟩ : ∃ X : Int, X = (if sdB d t then dd else 0) := ⟨_, rfl⟩
  rw [← H1.out, ← h2, ← H3.out]
  clear HV o1 h2
  go_wp2
  go_ret2
  exact ⟨rfl, O1.out.alloc _⟩
end Go.Proofs.YthlloenonjagbaaGreatDoor
namespace Go.Proofs.YthlloenonjagbaaGreatDoor
open Go.RowKit Go.Lib
set_option linter.unusedSimpArgs false
set_option linter.unusedVariables false
theorem eql_iface (U T1 T2 : TypeId) (x y : Value) (w : World) : (binOp .eql U (.iface T1 x) (.iface T2 y)).run Tryz.prog w = ((Op.equalIn Op.maxDepth U (.iface T1 x) (.iface T2 y)).run Tryz.prog w).andThen fun b w' => .ok (.bool b) w' := by
  simp only [binOp]
  simp [Op.equal]
theorem eq_iface {U T : TypeId} {m} {i : TypeInfo} (d : Nat) (x y : Value) (w : World) (hU : Tryz.prog.underlying U = some (.interface m)) (hi : Tryz.prog.info? T = some i) (hc : i.comparable = true) : (Op.equalIn (d + 1) U (.iface T x) (.iface T y)).run Tryz.prog w = (Op.equalIn d T x y).run Tryz.prog w := by
  simp [Op.equalIn, run_underlying hU, typeInfo, hi, hc]
set_option maxRecDepth 100000 in
theorem eq_int (d : Nat) (n m : Int) (w : World) : (Op.equalIn (d + 2) 59 (.agg #[.int .i64 n]) (.agg #[.int .i64 m])).run Tryz.prog w = .ok (n == m) w := by
  have hS : Tryz.prog.underlying 59 = some (.struct (Tryz.prog.fieldsOf 59)) := by kernel_rfl
  have hp : Tryz.prog.stoodInHeld 59 = false := by kernel_rfl
  have u := Tryz.underlying2
  have a := Tryz.isAgg2
  have z := Tryz.sizeOf2
  rw [run_equalIn_agg w (d + 1) 59 _ _ hS hp]
  simp only [Program.fieldsOf, Tryz.underlying59]
  go_simp
  all_goals (cases h : (n == m) <;> simp_all)
theorem eqv_int (U : TypeId) {q} (hU : Tryz.prog.underlying U = some (.interface q)) (n m : Int) (w : World) : (binOp .eql U (.iface 59 (.agg #[.int .i64 n])) (.iface 59 (.agg #[.int .i64 m]))).run Tryz.prog w = .ok (.bool (n == m)) w := by
  obtain ⟨D, hD⟩ : ∃ D, Op.maxDepth = D + 2 + 1 := ⟨9997, rfl⟩
  have h1 := eq_iface (D + 2) (.agg #[.int .i64 n]) (.agg #[.int .i64 m]) w hU (T := 59) (i := Tryz.t59) (by kernel_rfl) (by kernel_rfl)
  rw [eql_iface, hD, h1, eq_int D n m w]
  rfl
set_option maxRecDepth 100000 in
theorem eq_str (d : Nat) (n m : ByteArray) (w : World) : (Op.equalIn (d + 2) 76 (.agg #[.string n]) (.agg #[.string m])).run Tryz.prog w = .ok (n.toList == m.toList) w := by
  have hS : Tryz.prog.underlying 76 = some (.struct (Tryz.prog.fieldsOf 76)) := by kernel_rfl
  have hp : Tryz.prog.stoodInHeld 76 = false := by kernel_rfl
  have u := Tryz.underlying9
  have a := Tryz.isAgg9
  have z := Tryz.sizeOf9
  rw [run_equalIn_agg w (d + 1) 76 _ _ hS hp]
  simp only [Program.fieldsOf, Tryz.underlying76]
  go_simp
  all_goals (cases h : (n.toList == m.toList) <;> simp_all)
theorem eqv_str (U : TypeId) {q} (hU : Tryz.prog.underlying U = some (.interface q)) (n m : ByteArray) (w : World) : (binOp .eql U (.iface 76 (.agg #[.string n])) (.iface 76 (.agg #[.string m]))).run Tryz.prog w = .ok (.bool (n.toList == m.toList)) w := by
  obtain ⟨D, hD⟩ : ∃ D, Op.maxDepth = D + 2 + 1 := ⟨9997, rfl⟩
  have h1 := eq_iface (D + 2) (.agg #[.string n]) (.agg #[.string m]) w hU (T := 76) (i := Tryz.t76) (by kernel_rfl) (by kernel_rfl)
  rw [eql_iface, hD, h1, eq_str D n m w]
  rfl
set_option maxRecDepth 100000 in
theorem eq_bool (d : Nat) (n m : Bool) (w : World) : (Op.equalIn (d + 2) 78 (.agg #[.bool n]) (.agg #[.bool m])).run Tryz.prog w = .ok (n == m) w := by
  have hS : Tryz.prog.underlying 78 = some (.struct (Tryz.prog.fieldsOf 78)) := by kernel_rfl
  have hp : Tryz.prog.stoodInHeld 78 = false := by kernel_rfl
  have u := Tryz.underlying4
  have a := Tryz.isAgg4
  have z := Tryz.sizeOf4
  rw [run_equalIn_agg w (d + 1) 78 _ _ hS hp]
  simp only [Program.fieldsOf, Tryz.underlying78]
  go_simp
  all_goals (cases h : (n == m) <;> simp_all)
theorem eqv_bool (U : TypeId) {q} (hU : Tryz.prog.underlying U = some (.interface q)) (n m : Bool) (w : World) : (binOp .eql U (.iface 78 (.agg #[.bool n])) (.iface 78 (.agg #[.bool m]))).run Tryz.prog w = .ok (.bool (n == m)) w := by
  obtain ⟨D, hD⟩ : ∃ D, Op.maxDepth = D + 2 + 1 := ⟨9997, rfl⟩
  have h1 := eq_iface (D + 2) (.agg #[.bool n]) (.agg #[.bool m]) w hU (T := 78) (i := Tryz.t78) (by kernel_rfl) (by kernel_rfl)
  rw [eql_iface, hD, h1, eq_bool D n m w]
  rfl
set_option maxRecDepth 100000 in
theorem eq_box (d : Nat) (n m : Int) (w : World) : (Op.equalIn (d + 2) 84 (.agg #[.int .i64 n]) (.agg #[.int .i64 m])).run Tryz.prog w = .ok (n == m) w := by
  have hS : Tryz.prog.underlying 84 = some (.struct (Tryz.prog.fieldsOf 84)) := by kernel_rfl
  have hp : Tryz.prog.stoodInHeld 84 = false := by kernel_rfl
  have u := Tryz.underlying3
  have a := Tryz.isAgg3
  have z := Tryz.sizeOf3
  rw [run_equalIn_agg w (d + 1) 84 _ _ hS hp]
  simp only [Program.fieldsOf, Tryz.underlying84]
  go_simp
  all_goals (cases h : (n == m) <;> simp_all)
theorem eqv_box (U : TypeId) {q} (hU : Tryz.prog.underlying U = some (.interface q)) (n m : Int) (w : World) : (binOp .eql U (.iface 84 (.agg #[.int .i64 n])) (.iface 84 (.agg #[.int .i64 m]))).run Tryz.prog w = .ok (.bool (n == m)) w := by
  obtain ⟨D, hD⟩ : ∃ D, Op.maxDepth = D + 2 + 1 := ⟨9997, rfl⟩
  have h1 := eq_iface (D + 2) (.agg #[.int .i64 n]) (.agg #[.int .i64 m]) w hU (T := 84) (i := Tryz.t84) (by kernel_rfl) (by kernel_rfl)
  rw [eql_iface, hD, h1, eq_box D n m w]
  rfl
set_option maxRecDepth 100000 in
theorem eq_call (d : Nat) (n m : ByteArray) (w : World) : (Op.equalIn (d + 2) 111 (.agg #[.string n]) (.agg #[.string m])).run Tryz.prog w = .ok (n.toList == m.toList) w := by
  have hS : Tryz.prog.underlying 111 = some (.struct (Tryz.prog.fieldsOf 111)) := by kernel_rfl
  have hp : Tryz.prog.stoodInHeld 111 = false := by kernel_rfl
  have u := Tryz.underlying9
  have a := Tryz.isAgg9
  have z := Tryz.sizeOf9
  rw [run_equalIn_agg w (d + 1) 111 _ _ hS hp]
  simp only [Program.fieldsOf, Tryz.underlying111]
  go_simp
  all_goals (cases h : (n.toList == m.toList) <;> simp_all)
theorem eqv_call (U : TypeId) {q} (hU : Tryz.prog.underlying U = some (.interface q)) (n m : ByteArray) (w : World) : (binOp .eql U (.iface 111 (.agg #[.string n])) (.iface 111 (.agg #[.string m]))).run Tryz.prog w = .ok (.bool (n.toList == m.toList)) w := by
  obtain ⟨D, hD⟩ : ∃ D, Op.maxDepth = D + 2 + 1 := ⟨9997, rfl⟩
  have h1 := eq_iface (D + 2) (.agg #[.string n]) (.agg #[.string m]) w hU (T := 111) (i := Tryz.t111) (by kernel_rfl) (by kernel_rfl)
  rw [eql_iface, hD, h1, eq_call D n m w]
  rfl
theorem eqv_ne (U T1 T2 : TypeId) {q} (hU : Tryz.prog.underlying U = some (.interface q)) (x y : Value) (h : T1 ≠ T2) (w : World) : (binOp .eql U (.iface T1 x) (.iface T2 y)).run Tryz.prog w = .ok (.bool false) w := by
  obtain ⟨D, hD⟩ : ∃ D, Op.maxDepth = D + 1 := ⟨9999, rfl⟩
  have h1 : (Op.equalIn (D + 1) U (.iface T1 x) (.iface T2 y)).run Tryz.prog w = .ok false w := by
    simp only [Op.equalIn, Sem.run_bind, run_underlying hU, Result.andThen_ok]
    simp [h]
  rw [eql_iface, hD, h1]
  rfl
end Go.Proofs.YthlloenonjagbaaGreatDoor
namespace Go.Proofs.YthlloenonjagbaaGreatDoor
open Go.RowKit Go.Lib
set_option linter.unusedSimpArgs false
set_option linter.unusedVariables false
def smL (f : Vt → Vt → Bool) : List Vt → List Vt → Bool
  | [], [] => true
  | x :: a, y :: b => f x y && smL f a b
  | _, _ => false
/-- are two values (items) the same? -/
def smV : Nat → Bool → Vt → Vt → Bool
  | 0, _, _, _ => false
  | d + 1, true, a, b => if a.k = 7 ∨ b.k = 7 then decide (a.k = 7) && decide (b.k = 7) && (a.s.toList == b.s.toList) else smV d false a b
  | d + 1, false, a, b => decide (a.k = b.k) && (if a.k = 1 ∨ a.k = 6 then a.n == b.n else if a.k = 2 then a.s.toList == b.s.toList else if a.k = 3 then (a.n != 0) == (b.n != 0) else smL (smV d (decide (a.k = 5))) a.l b.l)
theorem smL_len (f : Vt → Vt → Bool) : ∀ a b : List Vt, a.length ≠ b.length → smL f a b = false
  | [], [], h => absurd rfl h
  | [], y :: b, _ => rfl
  | x :: a, [], _ => rfl
  | x :: a, y :: b, h => by
    unfold smL
    rw [smL_len f a b (by simpa using h), Bool.and_false]
theorem drop_at {l : List Vt} {j : Nat} {x : Vt} (hx : l[j]? = some x) : l.drop j = x :: l.drop (j + 1) := by
  obtain ⟨hlt, he⟩ := List.getElem?_eq_some_iff.1 hx
  rw [List.drop_eq_getElem_cons hlt, he]
/-- what same, sameItem answer of what is what it may be -/
def SaV (d : Nat) (i : Bool) (F : Nat) : Prop := ∀ (a b : Vt) (va vb : Value) (w : World) (S : Nat → Prop), TiAt w S d i a va → TiAt w S d i b vb → (okV d i a = true ∧ ∃ e, SmT e a) → (okV d i b = true ∧ ∃ e, SmT e b) → Calls Tryz.prog F #[va, vb] w fun e w' => e = .returned (.bool (smV d i a b)) ∧ Only (fun _ => False) w w'
def EfV (d : Nat) (i : Bool) (F Fm : Nat) : Prop := ∀ (la lb : List Vt) (ao bo : Option Addr) (ca cb : Nat) (w : World) (S : Nat → Prop), (∀ (j : Nat) (x : Vt), la[j]? = some x → ∃ g q u, ao = some ⟨g, q, none⟩ ∧ S g ∧ w.cell? ⟨g, q + j, none⟩ = some u ∧ TiAt w S d i x u) → (∀ (j : Nat) (x : Vt), lb[j]? = some x → ∃ g q u, bo = some ⟨g, q, none⟩ ∧ S g ∧ w.cell? ⟨g, q + j, none⟩ = some u ∧ TiAt w S d i x u) → (∀ x ∈ la, okV d i x = true ∧ ∃ e, SmT e x) → (∀ x ∈ lb, okV d i x = true ∧ ∃ e, SmT e x) → la.length ≤ 1048576 → lb.length ≤ 1048576 → Calls Tryz.prog F #[.slice ao la.length ca, .slice bo lb.length cb, .func (.func Fm) #[] #[]] w fun e w' => e = .returned (.bool (smL (smV d i) la lb)) ∧ Only (fun _ => False) w w'
set_option maxRecDepth 100000 in
set_option maxHeartbeats 4000000 in
theorem ef_values (d : Nat) (H : SaV d false 46) : EfV d false 66 46 := by
  intro la lb ao bo ca cb w S ha hb hoa hob hna hnb
  have HE : Hid (∀ (j : Nat) (x y : Vt), la[j]? = some x → lb[j]? = some y → ∃ g q u g' q' u', ao = some ⟨g, q, none⟩ ∧ bo = some ⟨g', q', none⟩ ∧ w.cell? ⟨g, q + j, none⟩ = some u ∧ w.cell? ⟨g', q' + j, none⟩ = some u' ∧ ∀ w1, Only (fun _ => False) w w1 → Calls Tryz.prog 46 #[u, u'] w1 fun e w' => e = .returned (.bool (smV d false x y)) ∧ Only (fun _ => False) w1 w') := by
    intro j x y hx hy
    obtain ⟨g, q, u, p1, p2, p3, p4⟩ := ha j x hx
    obtain ⟨g', q', u', r1, r2, r3, r4⟩ := hb j y hy
    exact ⟨g, q, u, g', q', u', p1, r1, p3, r3, fun w1 o1 => H x y u u' w1 S (p4.only o1 (fun _ _ g => g)) (r4.only o1 (fun _ _ g => g)) (hoa x (List.mem_of_getElem? hx)) (hob y (List.mem_of_getElem? hy))⟩
  obtain ⟨Z, hZ⟩ : ∃ Z, Z = smL (smV d false) la lb := ⟨_, rfl⟩
  have HZ : Hid (Z = smL (smV d false) la lb) := hZ
  obtain ⟨N, hN⟩ : ∃ N, N = la.length := ⟨_, rfl⟩
  obtain ⟨K, hK⟩ : ∃ K, K = lb.length := ⟨_, rfl⟩
  have HN : Hid (N = la.length ∧ K = lb.length ∧ N ≤ 1048576 ∧ K ≤ 1048576) := ⟨hN, hK, by omega, by omega⟩
  rw [← hN, ← hK, ← hZ]
  clear ha hb hoa hob hna hnb hZ hN hK H
  by_cases hNK : N = K
  · have e1 : ((N : Int) == (K : Int)) = true := by simp [hNK]
    subst hNK
    clear e1
    go_enter Tryz.func66, Tryz.ntmps66
    go_wp2
    go_loopw [17] (fun r wr => ∃ j : Nat, r = .int .i64 (j : Int) ∧ j ≤ N ∧ Hid (Z = smL (smV d false) (la.drop j) (lb.drop j) ∧ Only (fun _ => False) w wr)) (fun r _ => N - vuOf r)
    case atStart => exact ⟨0, rfl, Nat.zero_le _, by simpa using HZ.out, Only.refl _ _⟩
    case round =>
      obtain ⟨j, rfl, hj, HI⟩ := hrel
      obtain ⟨w1, hw1⟩ : ∃ w1, w1 = wr := ⟨_, rfl⟩
      rw [← hw1] at HI ⊢
      clear hw1
      have hNl := HN.out
      by_cases hjN : j < N
      · obtain ⟨x, hx⟩ : ∃ x, la[j]? = some x := ⟨la[j]'(by omega), List.getElem?_eq_getElem (by omega)⟩
        obtain ⟨y, hy⟩ : ∃ y, lb[j]? = some y := ⟨lb[j]'(by omega), List.getElem?_eq_getElem (by omega)⟩
        obtain ⟨g, q, u, g', q', u', rfl, rfl, c0, c1, hcall⟩ := HE.out j x y hx hy
        have o1 := HI.out.2
        have c0 := o1.cell c0 (fun g => g)
        have c1 := o1.cell c1 (fun g => g)
        have HC : Hid _ := hcall w1 o1
        have HX : Hid (j < N ∧ Z = smL (smV d false) (x :: la.drop (j + 1)) (y :: lb.drop (j + 1))) := ⟨hjN, by rw [← drop_at hx, ← drop_at hy]; exact HI.out.1⟩
        have O1 : Hid (Only (fun _ => False) w w1) := o1
        have i1 : (j : Int) < (N : Int) := by omega
        have i0 : (0 : Int) ≤ (j : Int) := by omega
        have i4 : j ≤ 1048576 := by omega
        obtain ⟨b, hb⟩ : ∃ b, b = smV d false x y := ⟨_, rfl⟩
        have HB : Hid (b = smV d false x y) := hb
        rw [← hb] at HC
        clear hcall o1 hx hy hNl hjN hj HI hb
        go_wp2_with fail
        refine (show Calls Tryz.prog 46 _ _ _ from HC.out).mono ?_
        rintro e w2 ⟨rfl, o2⟩
        have O2 : Hid (Only (fun _ => False) w w2) := O1.out.trans o2 (fun _ _ g => g)
        clear HC c0 c1 o2 O1
        cases b with
        | false =>
          have hzf : Z = false := by
            have := HX.out.2
            unfold smL at this
            rw [← HB.out] at this
            simpa using this
          have HF : Hid (Z = false) := hzf
          clear hzf
          go_wp2
          go_ret
          exact ⟨by rw [HF.out]; rfl, O2.out⟩
        | true =>
          have HF : Hid (Z = smL (smV d false) (la.drop (j + 1)) (lb.drop (j + 1)) ∧ Only (fun _ => False) w w2) := by
            have := HX.out.2
            unfold smL at this
            rw [← HB.out] at this
            exact ⟨by simpa using this, O2.out⟩
          have HJ : Hid (j < N) := HX.out.1
          clear HX HB O2
          go_wp2
          go_roundw
          case rel => exact ⟨j + 1, by go_num, by have := HJ.out; omega, HF⟩
          case measure => simp only [vuOf]; have := HJ.out; omega
      · obtain rfl : j = N := by omega
        have i1 : ¬ (j : Int) < (j : Int) := by omega
        have HF : Hid (Z = true ∧ Only (fun _ => False) w w1) := by
          obtain ⟨hz, o1⟩ := HI.out
          rw [show la.drop j = [] from List.drop_eq_nil_of_le (by omega), show lb.drop j = [] from List.drop_eq_nil_of_le (by omega)] at hz
          exact ⟨hz, o1⟩
        clear HI hNl hjN hj
        go_wp2
        go_ret
        exact ⟨by rw [HF.out.1]; rfl, HF.out.2⟩
  · have HF : Hid (Z = false) := by rw [HZ.out]; exact smL_len _ _ _ (by have := HN.out; omega)
    have O0 : Hid (Only (fun _ => False) w w) := Only.refl _ _
    have e1 : ((N : Int) != (K : Int)) = true := by
      simp only [bne_iff_ne, ne_eq]
      omega
    clear hNK
    go_enter Tryz.func66, Tryz.ntmps66
    go_wp2
    go_ret
    exact ⟨by rw [HF.out]; rfl, O0.out⟩
set_option maxRecDepth 100000 in
set_option maxHeartbeats 4000000 in
theorem ef_items (d : Nat) (H : SaV d true 68) : EfV d true 67 68 := by
  intro la lb ao bo ca cb w S ha hb hoa hob hna hnb
  have HE : Hid (∀ (j : Nat) (x y : Vt), la[j]? = some x → lb[j]? = some y → ∃ g q u g' q' u', ao = some ⟨g, q, none⟩ ∧ bo = some ⟨g', q', none⟩ ∧ w.cell? ⟨g, q + j, none⟩ = some u ∧ w.cell? ⟨g', q' + j, none⟩ = some u' ∧ ∀ w1, Only (fun _ => False) w w1 → Calls Tryz.prog 68 #[u, u'] w1 fun e w' => e = .returned (.bool (smV d true x y)) ∧ Only (fun _ => False) w1 w') := by
    intro j x y hx hy
    obtain ⟨g, q, u, p1, p2, p3, p4⟩ := ha j x hx
    obtain ⟨g', q', u', r1, r2, r3, r4⟩ := hb j y hy
    exact ⟨g, q, u, g', q', u', p1, r1, p3, r3, fun w1 o1 => H x y u u' w1 S (p4.only o1 (fun _ _ g => g)) (r4.only o1 (fun _ _ g => g)) (hoa x (List.mem_of_getElem? hx)) (hob y (List.mem_of_getElem? hy))⟩
  obtain ⟨Z, hZ⟩ : ∃ Z, Z = smL (smV d true) la lb := ⟨_, rfl⟩
  have HZ : Hid (Z = smL (smV d true) la lb) := hZ
  obtain ⟨N, hN⟩ : ∃ N, N = la.length := ⟨_, rfl⟩
  obtain ⟨K, hK⟩ : ∃ K, K = lb.length := ⟨_, rfl⟩
  have HN : Hid (N = la.length ∧ K = lb.length ∧ N ≤ 1048576 ∧ K ≤ 1048576) := ⟨hN, hK, by omega, by omega⟩
  rw [← hN, ← hK, ← hZ]
  clear ha hb hoa hob hna hnb hZ hN hK H
  by_cases hNK : N = K
  · have e1 : ((N : Int) == (K : Int)) = true := by simp [hNK]
    subst hNK
    clear e1
    go_enter Tryz.func67, Tryz.ntmps67
    go_wp2
    go_loopw [17] (fun r wr => ∃ j : Nat, r = .int .i64 (j : Int) ∧ j ≤ N ∧ Hid (Z = smL (smV d true) (la.drop j) (lb.drop j) ∧ Only (fun _ => False) w wr)) (fun r _ => N - vuOf r)
    case atStart => exact ⟨0, rfl, Nat.zero_le _, by simpa using HZ.out, Only.refl _ _⟩
    case round =>
      obtain ⟨j, rfl, hj, HI⟩ := hrel
      obtain ⟨w1, hw1⟩ : ∃ w1, w1 = wr := ⟨_, rfl⟩
      rw [← hw1] at HI ⊢
      clear hw1
      have hNl := HN.out
      by_cases hjN : j < N
      · obtain ⟨x, hx⟩ : ∃ x, la[j]? = some x := ⟨la[j]'(by omega), List.getElem?_eq_getElem (by omega)⟩
        obtain ⟨y, hy⟩ : ∃ y, lb[j]? = some y := ⟨lb[j]'(by omega), List.getElem?_eq_getElem (by omega)⟩
        obtain ⟨g, q, u, g', q', u', rfl, rfl, c0, c1, hcall⟩ := HE.out j x y hx hy
        have o1 := HI.out.2
        have c0 := o1.cell c0 (fun g => g)
        have c1 := o1.cell c1 (fun g => g)
        have HC : Hid _ := hcall w1 o1
        have HX : Hid (j < N ∧ Z = smL (smV d true) (x :: la.drop (j + 1)) (y :: lb.drop (j + 1))) := ⟨hjN, by rw [← drop_at hx, ← drop_at hy]; exact HI.out.1⟩
        have O1 : Hid (Only (fun _ => False) w w1) := o1
        have i1 : (j : Int) < (N : Int) := by omega
        have i0 : (0 : Int) ≤ (j : Int) := by omega
        have i4 : j ≤ 1048576 := by omega
        obtain ⟨b, hb⟩ : ∃ b, b = smV d true x y := ⟨_, rfl⟩
        have HB : Hid (b = smV d true x y) := hb
        rw [← hb] at HC
        clear hcall o1 hx hy hNl hjN hj HI hb
        go_wp2_with fail
        refine (show Calls Tryz.prog 68 _ _ _ from HC.out).mono ?_
        rintro e w2 ⟨rfl, o2⟩
        have O2 : Hid (Only (fun _ => False) w w2) := O1.out.trans o2 (fun _ _ g => g)
        clear HC c0 c1 o2 O1
        cases b with
        | false =>
          have hzf : Z = false := by
            have := HX.out.2
            unfold smL at this
            rw [← HB.out] at this
            simpa using this
          have HF : Hid (Z = false) := hzf
          clear hzf
          go_wp2
          go_ret
          exact ⟨by rw [HF.out]; rfl, O2.out⟩
        | true =>
          have HF : Hid (Z = smL (smV d true) (la.drop (j + 1)) (lb.drop (j + 1)) ∧ Only (fun _ => False) w w2) := by
            have := HX.out.2
            unfold smL at this
            rw [← HB.out] at this
            exact ⟨by simpa using this, O2.out⟩
          have HJ : Hid (j < N) := HX.out.1
          clear HX HB O2
          go_wp2
          go_roundw
          case rel => exact ⟨j + 1, by go_num, by have := HJ.out; omega, HF⟩
          case measure => simp only [vuOf]; have := HJ.out; omega
      · obtain rfl : j = N := by omega
        have i1 : ¬ (j : Int) < (j : Int) := by omega
        have HF : Hid (Z = true ∧ Only (fun _ => False) w w1) := by
          obtain ⟨hz, o1⟩ := HI.out
          rw [show la.drop j = [] from List.drop_eq_nil_of_le (by omega), show lb.drop j = [] from List.drop_eq_nil_of_le (by omega)] at hz
          exact ⟨hz, o1⟩
        clear HI hNl hjN hj
        go_wp2
        go_ret
        exact ⟨by rw [HF.out.1]; rfl, HF.out.2⟩
  · have HF : Hid (Z = false) := by rw [HZ.out]; exact smL_len _ _ _ (by have := HN.out; omega)
    have O0 : Hid (Only (fun _ => False) w w) := Only.refl _ _
    have e1 : ((N : Int) != (K : Int)) = true := by
      simp only [bne_iff_ne, ne_eq]
      omega
    clear hNK
    go_enter Tryz.func67, Tryz.ntmps67
    go_wp2
    go_ret
    exact ⟨by rw [HF.out]; rfl, O0.out⟩
end Go.Proofs.YthlloenonjagbaaGreatDoor
