/- Check of what is not sound. A measure of an item; of all values and items; measured, Check, CheckItems. measured, Check, CheckItems, Size: of any value. Values of any kind as the document's trees: how these lie in memory. Values as trees: Tree, ItemTree. -/
import Derived.Test.YtodbkihobgdpdaaGreatDoorGae
import Derived.Test.YtodbkihobgdpdaaGreatDoorGaa
import Derived.Test.YtodbkihobgdpdaaGreatDoorGac
namespace Go.Proofs.YtodbkihobgdpdaaGreatDoor
open Go.RowKit Go.Lib
set_option linter.unusedSimpArgs false
set_option linter.unusedVariables false
theorem vval_badw (v : Value) (M : Nat) (w0 w : World) (hv : BadW w0 v) (hM : w0.heap.size ≤ M) (o : Only (fun _ => False) w0 w) (h : VmB w M 0 0) : Calls Tryz.prog 45 #[.pointer (some ⟨M, 0, none⟩), v, .int .i64 0] w fun e w' => e = .returned (.bool false) ∧ Only (fun b => b = M) w w' := by
  have lt : ∀ g x, w0.cell? ⟨g, 0, none⟩ = some x → g ≠ M := by
    intro g x hg e
    subst e
    have : w0.heap[g]? = none := Array.getElem?_eq_none hM
    simp [World.cell?, this] at hg
  rcases hv with hv | ⟨g, v, rfl, hv, hg0, hg1⟩ | ⟨g, v, rfl, hv, hg0⟩
  · exact vval_bad v hv M 0 0 0 w h (by omega) (by omega)
  · exact vval_list M g v hv w h (lt g _ hg0) (o.cell hg0 (fun h => h)) (o.cell hg1 (fun h => h))
  · exact vval_quot M g v hv w h (lt g _ hg0) (o.cell hg0 (fun h => h))
theorem results_two {fn : Func} {t u : Tmp} (h : fn.results = #[.cell u 104, .tmp t]) (tmps : Array Value) (w : World) (B : Nat) {x y : Value} (h0 : w.cell? ⟨B, 0, none⟩ = some x) (h1 : w.cell? ⟨B, 1, none⟩ = some y) (ha : tmps.getD u undef = .pointer (some ⟨B, 0, none⟩)) :
    (results fn tmps).run Tryz.prog w = .ok (.tuple #[.agg #[x, y], tmps.getD t undef]) w := by
  have ha' : tmps[u]?.getD undef = .pointer (some ⟨B, 0, none⟩) := by simpa using ha
  simp [results, h, ha', asAddr, go_sem, loadVar, isAgg, Tryz.underlying104, h0, h1]
theorem set2 {w : World} {B : Nat} {x0 y0 : Value} (h0 : w.cell? ⟨B, 0, none⟩ = some x0) (h1 : w.cell? ⟨B, 1, none⟩ = some y0) (x y : Value) :
    ((w.setCell ⟨B, 0, none⟩ x).setCell ⟨B, 1, none⟩ y).cell? ⟨B, 0, none⟩ = some x ∧ ((w.setCell ⟨B, 0, none⟩ x).setCell ⟨B, 1, none⟩ y).cell? ⟨B, 1, none⟩ = some y := by
  have ne : ∀ (W : World) (i j : Nat) (v : Value), i ≠ j → (W.setCell ⟨B, i, none⟩ v).cell? ⟨B, j, none⟩ = W.cell? ⟨B, j, none⟩ := fun W i j v g => by apply World.cell?_setCell_other; intro e; exact g (by injection e)
  refine ⟨?_, ?_⟩
  · rw [ne _ 1 0 _ (by omega)]
    exact World.cell?_setCell_same' _ _ _ (by rw [h0]; rfl)
  · exact World.cell?_setCell_same' _ _ _ (by rw [ne _ 0 1 _ (by omega), h1]; rfl)
set_option maxRecDepth 100000 in
theorem measured_bad (v : Value) (w : World) (hv : BadW w v) : Calls Tryz.prog 40 #[v] w fun e w' => e = .returned (.tuple #[.agg #[.int .i64 0, .int .i64 0], .int .i64 1]) ∧ Only (fun _ => False) w w' := by
  have HV : Hid (Calls Tryz.prog 45 #[.pointer (some ⟨w.heap.size + 1, 0, none⟩), v, .int .i64 0] ((w.alloc (.cells #[.int .i64 0, .int .i64 0] 104)).alloc (.cells #[.int .i64 0, .int .i64 0] 104)) fun e w' => e = .returned (.bool false) ∧ Only (fun b => b = w.heap.size + 1) ((w.alloc (.cells #[.int .i64 0, .int .i64 0] 104)).alloc (.cells #[.int .i64 0, .int .i64 0] 104)) w') := vval_badw v (w.heap.size + 1) w _ hv (Nat.le_succ _) (((Only.refl _ w).alloc _).alloc _) (va_at (w.alloc (.cells #[.int .i64 0, .int .i64 0] 104)) _ _ (Array.size_push ..).symm)
  have ca : ((w.alloc (.cells #[.int .i64 0, .int .i64 0] 104)).alloc (.cells #[.int .i64 0, .int .i64 0] 104)).heap[w.heap.size]? = some (.cells #[.int .i64 0, .int .i64 0] 104) := (((Only.refl (fun _ => False) (w.alloc (.cells #[.int .i64 0, .int .i64 0] 104))).alloc _).block w.heap.size (by rw [show (w.alloc (.cells #[.int .i64 0, .int .i64 0] 104)).heap.size = w.heap.size + 1 from Array.size_push ..]; omega) (fun h => h)).trans (va_at w _ _ rfl)
  have CA : Hid (((w.alloc (.cells #[.int .i64 0, .int .i64 0] 104)).alloc (.cells #[.int .i64 0, .int .i64 0] 104)).heap[w.heap.size]? = some (.cells #[.int .i64 0, .int .i64 0] 104)) := ca
  have CZ : Hid (((w.alloc (.cells #[.int .i64 0, .int .i64 0] 104)).alloc (.cells #[.int .i64 0, .int .i64 0] 104)).heap.size = w.heap.size + 2) := (Array.size_push ..).trans (congrArg (· + 1) (Array.size_push ..))
  clear ca
  clear hv
  go_enter Tryz.func40, Tryz.ntmps40
  go_wp2_with fail
  refine (show Calls Tryz.prog 45 _ _ _ from HV.out).mono ?_
  rintro e w1 ⟨rfl, o1⟩
  have O1 : Hid (Only (fun _ => False) w w1) := (((Only.refl (fun _ => False) w).alloc _).alloc _).trans o1 (fun k hk e => by omega)
  have h0 := (o1.block w.heap.size (by rw [CZ.out]; omega) (by omega)).trans CA.out
  have c0 := wr_cell h0 0
  have c1 := wr_cell h0 1
  have f0 := wr_froz h0 0
  have f1 := wr_froz h0 1
  simp only [List.getElem?_toArray, List.getElem?_cons_succ, List.getElem?_cons_zero] at c0 c1
  clear h0 CA CZ
  clear HV o1
  have q := set2 c0 c1 (.int .i64 0) (.int .i64 0)
  have Q : Hid (((w1.setCell ⟨w.heap.size, 0, none⟩ (.int .i64 0)).setCell ⟨w.heap.size, 1, none⟩ (.int .i64 0)).cell? ⟨w.heap.size, 0, none⟩ = some (.int .i64 0) ∧ ((w1.setCell ⟨w.heap.size, 0, none⟩ (.int .i64 0)).setCell ⟨w.heap.size, 1, none⟩ (.int .i64 0)).cell? ⟨w.heap.size, 1, none⟩ = some (.int .i64 0)) := q
  clear q
  go_wp2
  refine bodyPost_ret (results_two rfl _ _ w.heap.size Q.out.1 Q.out.2 rfl) rfl ?_
  exact ⟨rfl, (O1.out.setCell _ _ (fun g => by simp only at g; omega)).setCell _ _ (fun g => by simp only at g; omega)⟩
set_option maxRecDepth 100000 in
theorem check_bad (v : Value) (w : World) (hv : BadW w v) : Calls Tryz.prog 32 #[v] w fun e w' => e = .returned (.int .i64 1) ∧ Only (fun _ => False) w w' := by
  have HV : Hid (Calls Tryz.prog 40 #[v] w fun e w' => e = .returned (.tuple #[.agg #[.int .i64 0, .int .i64 0], .int .i64 1]) ∧ Only (fun _ => False) w w') := measured_bad v w hv
  clear hv
  go_enter Tryz.func32, Tryz.ntmps32
  go_wp2_with fail
  refine (show Calls Tryz.prog 40 _ _ _ from HV.out).mono ?_
  rintro e w1 ⟨rfl, o1⟩
  have O1 : Hid (Only (fun _ => False) w w1) := o1
  clear HV o1
  go_wp2
  go_ret
  exact ⟨rfl, O1.out.alloc _⟩
set_option maxRecDepth 100000 in
theorem checkitems_bad (g : Nat) (v : Value) (w : World) (hv : BadI v) (hg : w.cell? ⟨g, 0, none⟩ = some v) : Calls Tryz.prog 18 #[.slice (some ⟨g, 0, none⟩) 1 1] w fun e w' => e = .returned (.int .i64 1) ∧ Only (fun _ => False) w w' := by
  have HV : Hid (Calls Tryz.prog 32 #[.iface 81 (.agg #[.slice (some ⟨g, 0, none⟩) 1 1])] w fun e w' => e = .returned (.int .i64 1) ∧ Only (fun _ => False) w w') := check_bad _ w (.quot g v hv hg)
  clear hv hg
  go_enter Tryz.func18, Tryz.ntmps18
  go_wp2_with fail
  refine (show Calls Tryz.prog 32 _ _ _ from HV.out).mono ?_
  rintro e w1 ⟨rfl, o1⟩
  have O1 : Hid (Only (fun _ => False) w w1) := o1
  clear HV o1
  go_wp2
  go_ret
  exact ⟨rfl, O1.out⟩
end Go.Proofs.YtodbkihobgdpdaaGreatDoor
namespace Go.Proofs.YtodbkihobgdpdaaGreatDoor
open Go.RowKit Go.Lib
set_option linter.unusedSimpArgs false
set_option linter.unusedVariables false
theorem nilP (W : World) : (Instr.typeAssert .nilIface 37 70 true).run Tryz.prog W = .ok (.tuple #[.agg #[.nilIface], .bool false]) W := by kernel_rfl
theorem nilC (W : World) : (Instr.typeAssert .nilIface 37 40 true).run Tryz.prog W = .ok (.tuple #[.agg #[.string ⟨#[]⟩], .bool false]) W := by kernel_rfl
set_option maxRecDepth 100000 in
set_option maxHeartbeats 4000000 in
theorem mitem (d : Nat) (H : MsC d false 45) : MsC (d + 1) true 52 := by
  intro t v w S M k o dd h hM hsm hv hk hd1 hd2 ho hT hg
  rcases h with ⟨h7, hl, rfl⟩ | ⟨h8, hl, rfl⟩ | ⟨h7, h8, u, rfl, hu⟩
  · have hms : msB (d + 1) true t k o = (decide (k + 1 ≤ 1024) && clB t.s) := by
      unfold msB okV sz dp
      rw [if_pos h7, if_pos (.inl h7), if_pos (.inl h7), decide_eq_true (show o + 0 ≤ 32 by omega), Bool.and_true, Bool.and_comm]
    have hsz : sz (d + 1) true t = 1 := by unfold sz; rw [if_pos (.inl h7)]
    have mP := va_miss 40 70 37 _ Tryz.underlying70 (by intro m h; cases h) (by decide) _ vzero_Push
    have hC := va_hit 40 37 _ Tryz.underlying40 (by intro m h; cases h)
    have HM : Hid (∀ w1, Only (fun _ => False) w w1 → Calls Tryz.prog 48 #[.pointer (some ⟨M, 0, none⟩)] w1 fun e w' => e = .returned (.bool (decide ((k : Int) + 1 ≤ 1024))) ∧ Only (fun b => b = M) w1 w' ∧ VmB w' M ((k : Int) + 1) dd) := fun w1 o1 => vcount_all M k dd w1 (hv.keep o1) (by omega) (by omega)
    have HA : Hid (∀ w1, Only (fun b => b = M) w w1 → Calls Tryz.prog 58 #[.agg #[.string t.s]] w1 fun e w' => e = .returned (.bool (clB t.s)) ∧ Only (fun _ => False) w1 w') := fun w1 o1 => vcallable_any t.s w1 (hT.keep o1 hg.1 hg.2.1 hg.2.2).1
    have HD : Hid (0 ≤ dd ∧ dd ≤ 1000 ∧ M < w.heap.size) := ⟨hd1, hd2, (Array.getElem?_eq_some_iff.1 hv).1⟩
    have O0 : Hid (Only (fun _ => False) w w) := Only.refl _ _
    rw [hms, hsz]
    obtain ⟨a, ha⟩ : ∃ a, a = clB t.s := ⟨_, rfl⟩
    obtain ⟨s, hs⟩ : ∃ s, s = t.s := ⟨_, rfl⟩
    rw [← ha] at HA ⊢
    rw [← hs] at HA ⊢
    clear hM hsm hv hd1 hd2 ho hT hg hsz hms ha hs hl h7 H
    by_cases h1 : k + 1 ≤ 1024
    · have e1 : decide ((k : Int) + 1 ≤ 1024) = true := decide_eq_true (by omega)
      rw [e1] at HM
      rw [decide_eq_true h1]
      clear e1
      go_enter Tryz.func52, Tryz.ntmps52
      go_wp2_with fail
      refine (show Calls Tryz.prog 48 _ _ _ from HM.out _ (by repeat' first | exact O0.out | apply Only.alloc)).mono ?_
      rintro e w1 ⟨rfl, o1, m1⟩
      have O1 : Hid (Only (fun b => b = M) w w1 ∧ VmB w1 M ((k : Int) + 1) dd) := ⟨Only.trans (show Only (fun b => b = M) w _ by repeat' first | exact (Only.refl _ _) | apply Only.alloc) o1 (fun _ _ g => g), m1⟩
      have x0 : w1.cell? ⟨w.heap.size + 1, 0, none⟩ = some (.string s) := o1.cell (a := ⟨w.heap.size + 1, 0, none⟩) (by simp [go_sem]) (by have := HD.out; simp only; omega)
      have HA1 : Hid _ := HA.out w1 O1.out.1
      clear HM o1 m1 HA
      go_wp2_with fail
      refine (show Calls Tryz.prog 58 _ _ _ from HA1.out).mono ?_
      rintro e w2 ⟨rfl, o2⟩
      have HF : Hid (Only (fun b => b = M) w w2 ∧ VmB w2 M ((k + 1 : Nat) : Int) dd) := ⟨O1.out.1.trans (o2.mono (bs' := fun b => b = M) (fun _ _ g => g.elim)) (fun _ _ g => g), by have := O1.out.2.keep o2; simpa using this⟩
      clear HA1 o2 O1 x0
      go_wp2
      go_ret
      exact ⟨by simp, HF.out.1, fun _ => ⟨dd, HF.out.2, HD.out.1, HD.out.2.1⟩⟩
    · have e1 : decide ((k : Int) + 1 ≤ 1024) = false := decide_eq_false (by omega)
      rw [e1] at HM
      rw [decide_eq_false h1]
      clear e1 HA
      go_enter Tryz.func52, Tryz.ntmps52
      go_wp2_with fail
      refine (show Calls Tryz.prog 48 _ _ _ from HM.out _ (by repeat' first | exact O0.out | apply Only.alloc)).mono ?_
      rintro e w1 ⟨rfl, o1, m1⟩
      have O1 : Hid (Only (fun b => b = M) w w1) := Only.trans (show Only (fun b => b = M) w _ by repeat' first | exact (Only.refl _ _) | apply Only.alloc) o1 (fun _ _ g => g)
      clear HM o1 m1
      go_wp2
      go_ret
      exact ⟨by simp, O1.out, fun h => by simp at h⟩
  · have hms : msB (d + 1) true t k o = false := by
      unfold msB okV
      rw [if_neg (by omega), if_pos h8]
      rfl
    have mP := nilP
    have mC := nilC
    have O0 : Hid (Only (fun b => b = M) w w) := Only.refl _ _
    rw [hms]
    clear hM hsm hv hd1 hd2 ho hT hg hms hl h8 H
    go_enter Tryz.func52, Tryz.ntmps52
    go_wp2
    go_ret
    exact ⟨rfl, (by repeat' first | exact O0.out | apply Only.alloc), fun h => by cases h⟩
  · have hsz : sz (d + 1) true t = sz d false t := by
      show (if t.k = 7 ∨ t.k = 8 then 1 else sz d false t) = sz d false t
      rw [if_neg (by omega)]
    have hdp : dp (d + 1) true t = dp d false t := by
      show (if t.k = 7 ∨ t.k = 8 then 0 else dp d false t) = dp d false t
      rw [if_neg (by omega)]
    have hok : okV (d + 1) true t = okV d false t := by
      show (if t.k = 7 then clB t.s else if t.k = 8 then false else okV d false t) = okV d false t
      rw [if_neg h7, if_neg h8]
    have hms : msB (d + 1) true t k o = msB d false t k o := by
      unfold msB
      rw [hok, hsz, hdp]
    clear hok hdp
    obtain ⟨T1, y1, rfl⟩ := hu.iface h8
    have hP := va_hit 70 37 _ Tryz.underlying70 (by intro m h; cases h)
    have HV : Hid (∀ w1, Only (fun _ => False) w w1 → Calls Tryz.prog 45 #[.pointer (some ⟨M, 0, none⟩), .iface T1 y1, .int .i64 (o : Int)] w1 fun e w' => e = .returned (.bool (msB d false t k o)) ∧ Hid (Only (fun b => b = M) w1 w' ∧ (msB d false t k o = true → ∃ dd' : Int, VmB w' M ((k + sz d false t : Nat) : Int) dd' ∧ 0 ≤ dd' ∧ dd' ≤ 1000))) := fun w1 o1 => H t _ w1 S M k o dd (hu.only o1 (fun _ _ g => g)) hM hsm (hv.keep o1) hk hd1 hd2 ho (hT.frame o1) hg
    have O0 : Hid (Only (fun _ => False) w w) := Only.refl _ _
    rw [hms, hsz]
    obtain ⟨Z, hZ⟩ : ∃ Z, Z = msB d false t k o := ⟨_, rfl⟩
    rw [← hZ] at HV ⊢
    clear hM hsm hv hd1 hd2 ho hT hg hms hsz h7 h8 H hu hZ
    go_enter Tryz.func52, Tryz.ntmps52
    go_wp2_with fail
    refine (show Calls Tryz.prog 45 _ _ _ from HV.out _ (by repeat' first | exact O0.out | apply Only.alloc)).mono ?_
    rintro e w1 ⟨rfl, G1⟩
    have HF : Hid (Only (fun b => b = M) w w1 ∧ (Z = true → ∃ dd' : Int, VmB w1 M ((k + sz d false t : Nat) : Int) dd' ∧ 0 ≤ dd' ∧ dd' ≤ 1000)) := ⟨Only.trans (show Only (fun b => b = M) w _ by repeat' first | exact (Only.refl _ _) | apply Only.alloc) G1.out.1 (fun _ _ g => g), G1.out.2⟩
    clear HV G1
    go_wp2
    go_ret
    exact ⟨rfl, HF.out⟩
theorem mval (d : Nat) (H1 : MsC d false 45) (H2 : MsC d true 52) : MsC (d + 1) false 45 := by
  intro t v w S M k o dd h hM hsm hv hk hd1 hd2 ho hT hg
  by_cases h4 : t.k = 4
  · exact mlist d (ev_values d H1) t v w S M k o dd h h4 hM hsm hv hk hd1 hd2 ho hT hg
  by_cases h5 : t.k = 5
  · exact mquot d (ev_items d H2) t v w S M k o dd h h5 hM hsm hv hk hd1 hd2 ho hT hg
  exact mleaf d t v w S M k o dd h (by omega) (by obtain ⟨e, he⟩ := hsm; exact he.str) hv hk hd1 hd2 ho hT hg
theorem ms_all : ∀ d : Nat, MsC d false 45 ∧ MsC d true 52
  | 0 => ⟨fun t v w S M k o dd h => h.elim, fun t v w S M k o dd h => h.elim⟩
  | d + 1 => ⟨mval d (ms_all d).1 (ms_all d).2, mitem d (ms_all d).1⟩
end Go.Proofs.YtodbkihobgdpdaaGreatDoor
namespace Go.Proofs.YtodbkihobgdpdaaGreatDoor
open Go.RowKit Go.Lib
set_option linter.unusedSimpArgs false
set_option linter.unusedVariables false
/-- is a value sound? -/
def sdB (d : Nat) (t : Vt) : Bool := msB d false t 0 0
/-- what measured answers -/
def MeP (Z : Bool) (Y : Nat) (w : World) (e : Ending) (w' : World) : Prop := ∃ dd : Int, e = .returned (.tuple #[.agg #[.int .i64 (if Z then (Y : Int) else 0), .int .i64 (if Z then dd else 0)], .int .i64 (if Z then 0 else 1)]) ∧ Only (fun _ => False) w w'
set_option maxRecDepth 100000 in
set_option maxHeartbeats 1000000 in
theorem measured_any {d : Nat} {t : Vt} {v : Value} {w : World} {S : Nat → Prop} (h : TiAt w S d false t v) (hS : ∀ b, S b → b < w.heap.size) (hsm : ∃ e, SmT e t) (hT : Tb w) : Calls Tryz.prog 40 #[v] w (MeP (sdB d t) (sz d false t) w) := by
  obtain ⟨W, hW⟩ : ∃ W, W = (w.alloc (.cells #[.int .i64 0, .int .i64 0] 104)).alloc (.cells #[.int .i64 0, .int .i64 0] 104) := ⟨_, rfl⟩
  obtain ⟨N, hN⟩ : ∃ N, N = w.heap.size := ⟨_, rfl⟩
  have oW : Only (fun _ => False) w W := by rw [hW]; exact ((Only.refl _ w).alloc _).alloc _
  have a0 : W.heap[N]? = some (.cells #[.int .i64 0, .int .i64 0] 104) := by rw [hW]; exact (((Only.refl (fun _ => False) _).alloc _).block N (by simp [hN]) (fun g => g)).trans (va_at _ _ _ hN)
  have a1 : W.heap[N + 1]? = some (.cells #[.int .i64 0, .int .i64 0] 104) := by rw [hW]; exact va_at _ _ _ (by simp [hN])
  have lt := hT.lt
  have HV : Hid (Calls Tryz.prog 45 #[.pointer (some ⟨N + 1, 0, none⟩), v, .int .i64 0] W fun e w' => e = .returned (.bool (sdB d t)) ∧ Hid (Only (fun b => b = N + 1) W w' ∧ (sdB d t = true → ∃ dd' : Int, VmB w' (N + 1) ((0 + sz d false t : Nat) : Int) dd' ∧ 0 ≤ dd' ∧ dd' ≤ 1000))) :=
    (ms_all d).1 t v W S (N + 1) 0 0 0 (h.only oW (fun _ _ g => g)) (fun b hb => by have := hS b hb; omega) hsm a1 (by omega) (by omega) (by omega) (by omega) (hT.frame oW) ⟨by omega, by omega, by omega⟩
  have HA : Hid (W.heap[N]? = some (.cells #[.int .i64 0, .int .i64 0] 104) ∧ Only (fun _ => False) w W ∧ N = w.heap.size) := ⟨a0, oW, hN⟩
  obtain ⟨Z, hZ⟩ : ∃ Z, Z = sdB d t := ⟨_, rfl⟩
  obtain ⟨Y, hY⟩ : ∃ Y, Y = sz d false t := ⟨_, rfl⟩
  rw [← hZ, ← hY] at HV
  rw [← hZ, ← hY]
  clear h hS hsm hT oW a0 a1 lt hZ hY
  go_enter Tryz.func40, Tryz.ntmps40
  go_wp2_with fail
  rw [← hW, ← hN]
  clear hW hN
  refine (show Calls Tryz.prog 45 _ _ _ from HV.out).mono ?_
  rintro e w1 ⟨rfl, G1⟩
  have o1 := G1.out.1
  have h0 := (o1.block N (Array.getElem?_eq_some_iff.1 HA.out.1).1 (by omega)).trans HA.out.1
  have O1 : Hid (Only (fun _ => False) w w1) := HA.out.2.1.trans o1 (fun k hk e => by have := HA.out.2.2; omega)
  have c0 := wr_cell h0 0
  have c1 := wr_cell h0 1
  have f0 := wr_froz h0 0
  have f1 := wr_froz h0 1
  simp only [List.getElem?_toArray, List.getElem?_cons_succ, List.getElem?_cons_zero] at c0 c1
  cases Z with
  | false =>
    have q := set2 c0 c1 (.int .i64 0) (.int .i64 0)
    have Q : Hid _ := q
    clear h0 HV o1 G1 q
    go_wp2
    refine bodyPost_ret (results_two rfl _ _ N Q.out.1 Q.out.2 rfl) rfl ?_
    refine ⟨0, rfl, (O1.out.setCell _ _ (fun g => ?_)).setCell _ _ (fun g => ?_)⟩ <;> (have := HA.out.2.2; simp only at g; omega)
  | true =>
    obtain ⟨dd, m1, _, _⟩ := G1.out.2 rfl
    have d0 := wr_cell m1 0
    have d1 := wr_cell m1 1
    simp only [List.getElem?_toArray, List.getElem?_cons_succ, List.getElem?_cons_zero, Nat.zero_add] at d0 d1
    have q := set2 c0 c1 (.int .i64 (Y : Int)) (.int .i64 dd)
    have Q : Hid _ := q
    clear h0 HV o1 G1 q m1
    go_wp2
    refine bodyPost_ret (results_two rfl _ _ N Q.out.1 Q.out.2 rfl) rfl ?_
    refine ⟨dd, rfl, (O1.out.setCell _ _ (fun g => ?_)).setCell _ _ (fun g => ?_)⟩ <;> (have := HA.out.2.2; simp only at g; omega)
set_option maxRecDepth 100000 in
theorem vcheck_any {d : Nat} {t : Vt} {v : Value} {w : World} {S : Nat → Prop} (h : TiAt w S d false t v) (hS : ∀ b, S b → b < w.heap.size) (hsm : ∃ e, SmT e t) (hT : Tb w) : Calls Tryz.prog 32 #[v] w fun e w' => e = .returned (.int .i64 (if sdB d t then 0 else 1)) ∧ Only (fun _ => False) w w' := by
  have HV : Hid _ := measured_any h hS hsm hT
  clear h hS hsm hT
  obtain ⟨X3, h3⟩ : ∃ X : Int, X = (if sdB d t then 0 else 1) := ⟨_, rfl⟩
  rw [← h3]
  have H3 : Hid (X3 = (if sdB d t then 0 else 1)) := h3
  clear h3
  go_enter Tryz.func32, Tryz.ntmps32
  go_wp2_with fail
  refine (show Calls Tryz.prog 40 _ _ _ from HV.out).mono ?_
  rintro e w1 ⟨dd, rfl, o1⟩
  have O1 : Hid (Only (fun _ => False) w w1) := o1
  obtain ⟨X1, h1⟩ : ∃ X : Int, X = (if sdB d t then (sz d false t : Int) else 0) := ⟨_, rfl⟩
  obtain ⟨X2, h2⟩ : ∃ X : Int, X = (if sdB d t then dd else 0) := ⟨_, rfl⟩
  rw [← h1, ← h2, ← H3.out]
  clear HV o1 h1 h2
  go_wp2
  go_ret
  exact ⟨rfl, O1.out.alloc _⟩
end Go.Proofs.YtodbkihobgdpdaaGreatDoor
namespace Go.Proofs.YtodbkihobgdpdaaGreatDoor
open Go.RowKit
set_option linter.unusedSimpArgs false
set_option linter.unusedVariables false
/-- the number and the text that a tree of its kind has -/
def vnn (t : Vt) : Int := if t.k = 1 ∨ t.k = 6 then t.n else if t.k = 3 then (if t.n != 0 then 1 else 0) else 0
def vss (t : Vt) : ByteArray := if t.k = 2 ∨ t.k = 7 then t.s else ⟨#[]⟩
/-- a tree as values have it: no number and no text but where its kind has one -/
def NfT : Nat → Vt → Prop
  | 0, _ => False
  | d + 1, t => t.l.length ≤ 2513169434900 ∧ (-9223372036854775808 ≤ t.n ∧ t.n ≤ 9223372036854775807) ∧ t.n = vnn t ∧ t.s = vss t ∧ ∀ x ∈ t.l, NfT d x
theorem NfT.mono : ∀ {d d' : Nat} {t : Vt}, d ≤ d' → NfT d t → NfT d' t
  | 0, _, _, _, h => h.elim
  | d + 1, 0, t, hd, h => by omega
  | d + 1, e + 1, t, hd, h => ⟨h.1, h.2.1, h.2.2.1, h.2.2.2.1, fun x hx => (h.2.2.2.2 x hx).mono (by omega)⟩
theorem nf8 {d : Nat} : NfT (d + 1) ⟨8, 0, ⟨#[]⟩, []⟩ := ⟨Nat.zero_le _, ⟨by decide, by decide⟩, rfl, rfl, fun x hx => by cases hx⟩
theorem nm_nf : ∀ (d : Nat) (i : Bool) (t : Vt), SmT d t → NfT d (nm d i t)
  | 0, _, _, h => h.elim
  | d + 1, i, t, h => by
    obtain ⟨k, n, s, l⟩ := t
    obtain ⟨h1, h2, h3, h4, h5⟩ := h
    dsimp only at h1 h2 h3 h4 h5
    unfold nm
    dsimp only
    have z0 : (-9223372036854775808 : Int) ≤ 0 ∧ (0 : Int) ≤ 9223372036854775807 := ⟨by decide, by decide⟩
    split
    · exact ⟨Nat.zero_le _, h4, rfl, rfl, fun x hx => by cases hx⟩
    split
    · exact ⟨Nat.zero_le _, z0, rfl, rfl, fun x hx => by cases hx⟩
    split
    · refine ⟨Nat.zero_le _, ?_, ?_, rfl, fun x hx => by cases hx⟩ <;> dsimp only [vnn] <;> cases n != 0 <;> decide
    split
    · refine ⟨by simpa using h2, z0, rfl, rfl, fun x hx => ?_⟩
      obtain ⟨y, hy, rfl⟩ := List.mem_map.1 hx
      exact nm_nf d false y (h5 y hy)
    split
    · refine ⟨by simpa using h2, z0, rfl, rfl, fun x hx => ?_⟩
      obtain ⟨y, hy, rfl⟩ := List.mem_map.1 hx
      exact nm_nf d true y (h5 y hy)
    split
    · exact ⟨Nat.zero_le _, h4, rfl, rfl, fun x hx => by cases hx⟩
    split
    · exact ⟨Nat.zero_le _, z0, rfl, rfl, fun x hx => by cases hx⟩
    · exact nf8
def NuAt (w : World) (B d : Nat) (t : Vt) (lv : Value) : Prop := ∃ S, VsAt w S d t.l lv ∧ ∀ b, S b → B ≤ b ∧ b < w.heap.size
theorem NuAt.only {w w' : World} {B d : Nat} {t : Vt} {lv : Value} {bs : Nat → Prop} (h : NuAt w B d t lv) (o : Only bs w w') (hb : ∀ b, B ≤ b → ¬ bs b) : NuAt w' B d t lv := by
  obtain ⟨S, ht, hS⟩ := h
  exact ⟨S, ht.step (fun _ g => g) (fun a u hs hc => o.cell hc (hb _ (hS _ hs).1)) (Nat.le_refl _), fun b hbS => ⟨(hS b hbS).1, Nat.lt_of_lt_of_le (hS b hbS).2 o.size⟩⟩
theorem NuAt.lower {w : World} {B C d : Nat} {t : Vt} {lv : Value} (h : NuAt w B d t lv) (hC : C ≤ B) : NuAt w C d t lv := by
  obtain ⟨S, ht, hS⟩ := h
  exact ⟨S, ht, fun b hbS => ⟨Nat.le_trans hC (hS b hbS).1, (hS b hbS).2⟩⟩
theorem NuAt.deep {w : World} {B d d' : Nat} {t : Vt} {lv : Value} (h : NuAt w B d t lv) (hd : d ≤ d') : NuAt w B d' t lv := by
  obtain ⟨S, ht, hS⟩ := h
  exact ⟨S, ht.step (fun _ g => g) (fun _ _ _ g => g) hd, hS⟩
theorem nu_nil {w : World} {B d : Nat} {t : Vt} (h : t.l = []) : NuAt w B (d + 1) t (.slice none 0 0) :=
  ⟨fun _ => False, ⟨none, 0, by rw [h]; rfl, by rw [h]; exact Nat.zero_le _, fun i x hx => by rw [h] at hx; simp at hx⟩, fun b h => h.elim⟩
theorem NuAt.form {w : World} {B d : Nat} {t : Vt} {lv : Value} (h : NuAt w B d t lv) : ∃ ao cap, lv = .slice ao t.l.length cap := by
  obtain ⟨S, ht, _⟩ := h
  cases d with
  | zero => exact ht.elim
  | succ d => obtain ⟨ao, cap, hv, _⟩ := ht; exact ⟨ao, cap, hv⟩
/-- a row of the document's trees that was made since block B -/
def UrAt (w : World) (B d : Nat) (v : Value) (l : List Vt) : Prop :=
  ∃ us S, w.ownsRow B 26 4 v l.length us ∧ (∀ (j : Nat) (x : Vt), l[j]? = some x → ∃ lx, (us[j * 4]? = some (.int .i64 x.k) ∧ us[j * 4 + 1]? = some (.int .i64 (x.n)) ∧ us[j * 4 + 2]? = some (.string (x.s)) ∧ us[j * 4 + 3]? = some lx) ∧ VsAt w S d x.l lx) ∧ ∀ b, S b → B ≤ b ∧ b < w.heap.size ∧ v.ownBlock ≠ some b
theorem ur_nil (w : World) (B d : Nat) : UrAt w B d (.slice none 0 0) [] :=
  ⟨[], fun _ => False, ⟨rfl, .inl ⟨rfl, rfl⟩⟩, fun j x h => by simp at h, fun b h => h.elim⟩
theorem UrAt.form {w : World} {B d : Nat} {v : Value} {l : List Vt} (h : UrAt w B d v l) : ∃ ao cap, v = .slice ao l.length cap := by
  obtain ⟨us, S, ho, _⟩ := h
  rcases ho.2 with ⟨h1, h2⟩ | ⟨g, cap, cur, h1, _⟩
  · exact ⟨_, _, by rw [h1, h2]⟩
  · exact ⟨_, _, h1⟩
theorem UrAt.only {w w' : World} {B d : Nat} {v : Value} {l : List Vt} {bs : Nat → Prop} (h : UrAt w B d v l) (o : Only bs w w') (hb : ∀ b, B ≤ b → ¬ bs b) : UrAt w' B d v l := by
  obtain ⟨us, S, ho, ht, hS⟩ := h
  refine ⟨us, S, o.owns ho (fun k hk => hb k (ho.lt k hk).1), fun j x hx => ?_, fun b hbS => ?_⟩
  · obtain ⟨lx, hu, h2⟩ := ht j x hx
    exact ⟨lx, hu, h2.step (fun _ g => g) (fun a u hs hc => o.cell hc (hb _ (hS _ hs).1)) (Nat.le_refl _)⟩
  · obtain ⟨h1, h2, h3⟩ := hS b hbS
    exact ⟨h1, Nat.lt_of_lt_of_le h2 o.size, h3⟩
theorem UrAt.snoc {w w' : World} {B C d : Nat} {v v' : Value} {l : List Vt} {t : Vt} {lv : Value} {us : List Value} {S : Nat → Prop} (hg : w.grownBy w' v.ownBlock) (ho : w.ownsRow B 26 4 v l.length us) (ht : ∀ (j : Nat) (x : Vt), l[j]? = some x → ∃ lx, (us[j * 4]? = some (.int .i64 x.k) ∧ us[j * 4 + 1]? = some (.int .i64 (x.n)) ∧ us[j * 4 + 2]? = some (.string (x.s)) ∧ us[j * 4 + 3]? = some lx) ∧ VsAt w S d x.l lx) (hS : ∀ b, S b → B ≤ b ∧ b < w.heap.size ∧ v.ownBlock ≠ some b)
    (hn : NuAt w C d t lv) (hC : B ≤ C) (hv : ∀ k, v.ownBlock = some k → k < C) (ho' : w'.ownsRow B 26 4 v' (l.length + 1) (us ++ [.int .i64 t.k, .int .i64 (t.n), .string (t.s), lv])) (hat : v'.ownBlock = v.ownBlock ∨ v'.ownBlock = some w.heap.size) : UrAt w' B d v' (l ++ [t]) := by
  obtain ⟨S1, t1, s1⟩ := hn
  have oo : Only (fun k => v.ownBlock = some k) w w' := (Only.refl _ w).grown hg (fun k e _ => e)
  have a1 : ∀ b, S b → ¬ v.ownBlock = some b := fun b h => (hS b h).2.2
  have a2 : ∀ b, S1 b → ¬ v.ownBlock = some b := fun b h e => by have := hv b e; have := (s1 b h).1; omega
  have hl : us.length = l.length * 4 := ho.1
  refine ⟨_, fun b => S b ∨ S1 b, by simpa using ho', fun j x hx => ?_, fun b hb => ?_⟩
  · by_cases hj : j < l.length
    · rw [List.getElem?_append_left hj] at hx
      obtain ⟨lx, ⟨h0, h1, h2, h3⟩, h6⟩ := ht j x hx
      have ap : ∀ i u, us[i]? = some u → (us ++ [.int .i64 t.k, .int .i64 (t.n), .string (t.s), lv])[i]? = some u := fun i u hu => by
        rw [List.getElem?_append_left (List.getElem?_eq_some_iff.1 hu).1]; exact hu
      exact ⟨lx, ⟨ap _ _ h0, ap _ _ h1, ap _ _ h2, ap _ _ h3⟩, h6.step (fun _ g => .inl g) (fun a y hs hc => oo.cell hc (a1 _ hs)) (Nat.le_refl _)⟩
    · have hj2 : j < (l ++ [t]).length := (List.getElem?_eq_some_iff.1 hx).1
      have hj3 : j = l.length := by simp at hj2; omega
      subst hj3
      simp at hx
      subst hx
      have ap : ∀ i, (us ++ [.int .i64 t.k, .int .i64 (t.n), .string (t.s), lv])[l.length * 4 + i]? = ([.int .i64 t.k, .int .i64 (t.n), .string (t.s), lv] : List Value)[i]? := fun i => by
        rw [List.getElem?_append_right (by omega)]
        congr 1
        omega
      exact ⟨lv, ⟨ap 0, ap 1, ap 2, ap 3⟩, t1.step (fun _ g => .inr g) (fun a y hs hc => oo.cell hc (a2 _ hs)) (Nat.le_refl _)⟩
  · have h1 : B ≤ b ∧ b < w.heap.size ∧ v.ownBlock ≠ some b := by
      rcases hb with h | h
      · exact hS b h
      · exact ⟨Nat.le_trans hC (s1 b h).1, (s1 b h).2, a2 b h⟩
    refine ⟨h1.1, Nat.lt_of_lt_of_le h1.2.1 oo.size, ?_⟩
    rcases hat with e | e <;> rw [e]
    · exact h1.2.2
    · intro e2
      injection e2 with e2
      have := h1.2.1
      omega
/-- a row as the parts of a tree -/
theorem UrAt.tree {w : World} {B d : Nat} {v : Value} {l : List Vt} {t : Vt} (h : UrAt w B d v l) (e : t.l = l) : NuAt w B (d + 1) t v := by
  subst e
  obtain ⟨us, S, ho, ht, hS⟩ := h
  refine ⟨fun b => S b ∨ v.ownBlock = some b, ?_, fun b hb => ?_⟩
  · rcases ho.2 with ⟨rfl, h2⟩ | ⟨g, cap, cur, hv, hB, hg, hn, hcm, hcs, htk⟩
    · exact ⟨none, 0, by rw [h2], by omega, fun i x hx => by have := (List.getElem?_eq_some_iff.1 hx).1; omega⟩
    · refine ⟨some ⟨g, 0, none⟩, cap, hv, hn, fun i x hx => ?_⟩
      obtain ⟨lx, ⟨h0, h1, h2, h3⟩, h4⟩ := ht i x hx
      have hc : ∀ j u, us[j]? = some u → w.cell? ⟨g, 0 + j, none⟩ = some u := fun j u hu => by
        have := ho.cells (g := g) (by rw [hv]; rfl) j u hu
        rwa [addr_ad, ← Nat.zero_add j] at this
      exact ⟨g, 0, lx, rfl, .inr (by rw [hv]; rfl), ⟨hc _ _ h0, hc _ _ h1, hc _ _ h2, hc _ _ h3⟩, h4.step (fun _ g => .inl g) (fun _ _ _ g => g) (Nat.le_refl _)⟩
  · rcases hb with h | h
    · exact ⟨(hS b h).1, (hS b h).2.1⟩
    · exact ho.lt b h
/-- what a type assertion with two values answers -/
theorem uas_hit (T xt : TypeId) (D : TypeDesc) (hD : Tryz.prog.underlying T = some D) (hn : ∀ m, D ≠ .interface m) (x : Value) (W : World) : (Instr.typeAssert (.iface T x) xt T true).run Tryz.prog W = .ok (.tuple #[x, .bool true]) W := by
  simp only [Instr.typeAssert, Sem.run_bind, run_underlying hD, Result.andThen_ok]
  cases D <;> simp_all
theorem uas_miss (T U xt : TypeId) (D : TypeDesc) (hD : Tryz.prog.underlying U = some D) (hn : ∀ m, D ≠ .interface m) (hT : T ≠ U) (z : Value) (hz : ∀ W : World, (zeroValue U).run Tryz.prog W = .ok z W) (x : Value) (W : World) : (Instr.typeAssert (.iface T x) xt U true).run Tryz.prog W = .ok (.tuple #[z, .bool false]) W := by
  simp only [Instr.typeAssert, Sem.run_bind, run_underlying hD, Result.andThen_ok]
  cases D <;> simp_all
theorem uas_nil (U xt : TypeId) (D : TypeDesc) (hD : Tryz.prog.underlying U = some D) (hn : ∀ m, D ≠ .interface m) (z : Value) (hz : ∀ W : World, (zeroValue U).run Tryz.prog W = .ok z W) (W : World) : (Instr.typeAssert .nilIface xt U true).run Tryz.prog W = .ok (.tuple #[z, .bool false]) W := by
  simp only [Instr.typeAssert, Sem.run_bind, run_underlying hD, Result.andThen_ok]
  cases D <;> simp_all
/-- trees in a slice of values or items -/
def QiAt (w : World) (S : Nat → Prop) (d : Nat) (i : Bool) (v : Value) (l : List Vt) : Prop := ∃ ao cap, v = .slice ao l.length cap ∧ l.length ≤ cap ∧ ∀ (j : Nat) (x : Vt), l[j]? = some x → ∃ g k u, ao = some ⟨g, k, none⟩ ∧ S g ∧ w.cell? ⟨g, k + j, none⟩ = some u ∧ TiAt w S d i x u
theorem QiAt.step {w w' : World} {S S' : Nat → Prop} (hS : ∀ b, S b → S' b) (hk : ∀ (a : Addr) u, S a.block → w.cell? a = some u → w'.cell? a = some u) {d d' : Nat} {i : Bool} {l : List Vt} {v : Value} (hd : d ≤ d') (h : QiAt w S d i v l) : QiAt w' S' d' i v l := by
  obtain ⟨ao, cap, hv, hc, hl⟩ := h
  refine ⟨ao, cap, hv, hc, fun j x hx => ?_⟩
  obtain ⟨g, k, u, ha, hg, hu, ht⟩ := hl j x hx
  exact ⟨g, k, u, ha, hS g hg, hk _ _ hg hu, ht.step hS hk hd⟩
end Go.Proofs.YtodbkihobgdpdaaGreatDoor
namespace Go.Proofs.YtodbkihobgdpdaaGreatDoor
open Go.RowKit
set_option linter.unusedSimpArgs false
set_option linter.unusedVariables false
/-- what the trees of many are -/
def TuS (d F : Nat) (i : Bool) : Prop := ∀ (v : Value) (l : List Vt) (w : World) (S : Nat → Prop), QiAt w S d i v l → l.length ≤ 2513169434900 → (∀ x ∈ l, ∃ e, NfT e x) → Calls Tryz.prog F #[v] w fun e w' => ∃ ao cap, e = .returned (.slice ao l.length cap) ∧ Hid (UrAt w' w.heap.size d (.slice ao l.length cap) l ∧ Only (fun _ => False) w w')
/-- what the tree of one is -/
def TuE (d F : Nat) (i : Bool) : Prop := ∀ (v : Value) (t : Vt) (w : World) (S : Nat → Prop), TiAt w S d i t v → (∃ e, NfT e t) → Calls Tryz.prog F #[v] w fun e w' => ∃ lv, e = .returned (.agg #[.int .i64 t.k, .int .i64 (t.n), .string (t.s), lv]) ∧ Hid (NuAt w' w.heap.size d t lv ∧ Only (fun _ => False) w w')
theorem uresults_v {fn : Func} {u : Tmp} (h : fn.results = #[.cell u 26]) (tmps : Array Value) (w : World) (B : Nat) {x y z r : Value} (h0 : w.cell? ⟨B, 0, none⟩ = some x) (h1 : w.cell? ⟨B, 1, none⟩ = some y) (h2 : w.cell? ⟨B, 2, none⟩ = some z) (h3 : w.cell? ⟨B, 3, none⟩ = some r) (ha : tmps.getD u undef = .pointer (some ⟨B, 0, none⟩)) :
    (results fn tmps).run Tryz.prog w = .ok (.agg #[x, y, z, r]) w := by
  have ha' : tmps[u]?.getD undef = .pointer (some ⟨B, 0, none⟩) := by simpa using ha
  simp [results, h, ha', asAddr, go_sem, loadVar, isAgg, Tryz.underlying26, h0, h1, h2, h3]
theorem uonly4 {w : World} {B : Nat} (x0 x1 x2 x3 : Value) : Only (fun b => b = B) w ((((w.setCell ⟨B, 0, none⟩ x0).setCell ⟨B, 1, none⟩ x1).setCell ⟨B, 2, none⟩ x2).setCell ⟨B, 3, none⟩ x3) :=
  ((((Only.refl (fun b => b = B) w).setCell ⟨B, 0, none⟩ _ (fun _ => rfl)).setCell ⟨B, 1, none⟩ _ (fun _ => rfl)).setCell ⟨B, 2, none⟩ _ (fun _ => rfl)).setCell ⟨B, 3, none⟩ _ (fun _ => rfl)
set_option maxRecDepth 100000 in
theorem uzero_Int (W : World) : (zeroValue 87).run Tryz.prog W = .ok (.agg #[.int .i64 0]) W := by rfl
set_option maxRecDepth 100000 in
theorem uzero_Str (W : World) : (zeroValue 89).run Tryz.prog W = .ok (.agg #[.string ⟨#[]⟩]) W := by rfl
set_option maxRecDepth 100000 in
theorem uzero_Bool (W : World) : (zeroValue 91).run Tryz.prog W = .ok (.agg #[.bool false]) W := by rfl
set_option maxRecDepth 100000 in
theorem uzero_List (W : World) : (zeroValue 95).run Tryz.prog W = .ok (.agg #[.slice none 0 0]) W := by rfl
set_option maxRecDepth 100000 in
theorem uzero_Quot (W : World) : (zeroValue 81).run Tryz.prog W = .ok (.agg #[.slice none 0 0]) W := by rfl
set_option maxRecDepth 100000 in
theorem uzero_Push (W : World) : (zeroValue 70).run Tryz.prog W = .ok (.agg #[.nilIface]) W := by rfl
set_option maxRecDepth 100000 in
theorem uzero_Call (W : World) : (zeroValue 40).run Tryz.prog W = .ok (.agg #[.string ⟨#[]⟩]) W := by rfl
set_option maxRecDepth 100000 in
theorem utree_int (n : Int) (w : World) : Calls Tryz.prog 39 #[.iface 87 (.agg #[.int .i64 n])] w fun e w' => e = .returned (.agg #[.int .i64 1, .int .i64 n, .string ⟨#[]⟩, .slice none 0 0]) ∧ Only (fun _ => False) w w' := by
  have hInt := uas_hit 87 67 _ Tryz.underlying87 (by intro m h; cases h)
  have O0 : Hid (Only (fun _ => False) w w) := Only.refl _ _
  go_enter Tryz.func39, Tryz.ntmps39
  go_wp2
  refine bodyPost_ret (uresults_v rfl _ _ w.heap.size (x := _) (y := _) (z := _) (r := _) ?_ ?_ ?_ ?_ rfl) rfl ⟨rfl, ?_⟩
  · simp [go_sem]
  · simp [go_sem]
  · simp [go_sem]
  · simp [go_sem]
  · first
      | exact ((O0.out.alloc _).alloc _)
      | exact (((((O0.out.alloc _).alloc _).setCell _ _ (fun h => absurd h (by simp))).setCell _ _ (fun h => absurd h (by simp))).setCell _ _ (fun h => absurd h (by simp))).setCell _ _ (fun h => absurd h (by simp))
set_option maxRecDepth 100000 in
theorem utree_str (x : ByteArray) (w : World) : Calls Tryz.prog 39 #[.iface 89 (.agg #[.string x])] w fun e w' => e = .returned (.agg #[.int .i64 2, .int .i64 0, .string x, .slice none 0 0]) ∧ Only (fun _ => False) w w' := by
  have mInt := uas_miss 89 87 67 _ Tryz.underlying87 (by intro m h; cases h) (by decide) _ uzero_Int
  have hStr := uas_hit 89 67 _ Tryz.underlying89 (by intro m h; cases h)
  have O0 : Hid (Only (fun _ => False) w w) := Only.refl _ _
  go_enter Tryz.func39, Tryz.ntmps39
  go_wp2
  refine bodyPost_ret (uresults_v rfl _ _ w.heap.size (x := _) (y := _) (z := _) (r := _) ?_ ?_ ?_ ?_ rfl) rfl ⟨rfl, ?_⟩
  · simp [go_sem]
  · simp [go_sem]
  · simp [go_sem]
  · simp [go_sem]
  · first
      | exact ((O0.out.alloc _).alloc _)
      | exact (((((O0.out.alloc _).alloc _).setCell _ _ (fun h => absurd h (by simp))).setCell _ _ (fun h => absurd h (by simp))).setCell _ _ (fun h => absurd h (by simp))).setCell _ _ (fun h => absurd h (by simp))
set_option maxRecDepth 100000 in
theorem utree_yes  (w : World) : Calls Tryz.prog 39 #[.iface 91 (.agg #[.bool true])] w fun e w' => e = .returned (.agg #[.int .i64 3, .int .i64 1, .string ⟨#[]⟩, .slice none 0 0]) ∧ Only (fun _ => False) w w' := by
  have mInt := uas_miss 91 87 67 _ Tryz.underlying87 (by intro m h; cases h) (by decide) _ uzero_Int
  have mStr := uas_miss 91 89 67 _ Tryz.underlying89 (by intro m h; cases h) (by decide) _ uzero_Str
  have hBool := uas_hit 91 67 _ Tryz.underlying91 (by intro m h; cases h)
  have O0 : Hid (Only (fun _ => False) w w) := Only.refl _ _
  go_enter Tryz.func39, Tryz.ntmps39
  go_wp2
  refine bodyPost_ret (uresults_v rfl _ _ w.heap.size (x := _) (y := _) (z := _) (r := _) ?_ ?_ ?_ ?_ rfl) rfl ⟨rfl, ?_⟩
  · simp [go_sem]
  · simp [go_sem]
  · simp [go_sem]
  · simp [go_sem]
  · first
      | exact ((O0.out.alloc _).alloc _)
      | exact (((((O0.out.alloc _).alloc _).setCell _ _ (fun h => absurd h (by simp))).setCell _ _ (fun h => absurd h (by simp))).setCell _ _ (fun h => absurd h (by simp))).setCell _ _ (fun h => absurd h (by simp))
set_option maxRecDepth 100000 in
theorem utree_no  (w : World) : Calls Tryz.prog 39 #[.iface 91 (.agg #[.bool false])] w fun e w' => e = .returned (.agg #[.int .i64 3, .int .i64 0, .string ⟨#[]⟩, .slice none 0 0]) ∧ Only (fun _ => False) w w' := by
  have mInt := uas_miss 91 87 67 _ Tryz.underlying87 (by intro m h; cases h) (by decide) _ uzero_Int
  have mStr := uas_miss 91 89 67 _ Tryz.underlying89 (by intro m h; cases h) (by decide) _ uzero_Str
  have hBool := uas_hit 91 67 _ Tryz.underlying91 (by intro m h; cases h)
  have O0 : Hid (Only (fun _ => False) w w) := Only.refl _ _
  go_enter Tryz.func39, Tryz.ntmps39
  go_wp2
  refine bodyPost_ret (uresults_v rfl _ _ w.heap.size (x := _) (y := _) (z := _) (r := _) ?_ ?_ ?_ ?_ rfl) rfl ⟨rfl, ?_⟩
  · simp [go_sem]
  · simp [go_sem]
  · simp [go_sem]
  · simp [go_sem]
  · first
      | exact ((O0.out.alloc _).alloc _)
      | exact (((((O0.out.alloc _).alloc _).setCell _ _ (fun h => absurd h (by simp))).setCell _ _ (fun h => absurd h (by simp))).setCell _ _ (fun h => absurd h (by simp))).setCell _ _ (fun h => absurd h (by simp))
set_option maxRecDepth 100000 in
theorem utree_call (x : ByteArray) (w : World) : Calls Tryz.prog 30 #[.iface 40 (.agg #[.string x])] w fun e w' => e = .returned (.agg #[.int .i64 7, .int .i64 0, .string x, .slice none 0 0]) ∧ Only (fun _ => False) w w' := by
  have mPush := uas_miss 40 70 37 _ Tryz.underlying70 (by intro m h; cases h) (by decide) _ uzero_Push
  have hCall := uas_hit 40 37 _ Tryz.underlying40 (by intro m h; cases h)
  have O0 : Hid (Only (fun _ => False) w w) := Only.refl _ _
  go_enter Tryz.func30, Tryz.ntmps30
  go_wp2
  refine bodyPost_ret (uresults_v rfl _ _ w.heap.size (x := _) (y := _) (z := _) (r := _) ?_ ?_ ?_ ?_ rfl) rfl ⟨rfl, ?_⟩
  · simp [go_sem]
  · simp [go_sem]
  · simp [go_sem]
  · simp [go_sem]
  · first
      | exact ((O0.out.alloc _).alloc _)
      | exact (((((O0.out.alloc _).alloc _).setCell _ _ (fun h => absurd h (by simp))).setCell _ _ (fun h => absurd h (by simp))).setCell _ _ (fun h => absurd h (by simp))).setCell _ _ (fun h => absurd h (by simp))
set_option maxRecDepth 100000 in
theorem utree_list (d : Nat) (l : List Vt) (ao : Option Addr) (cap : Nat) (w : World) (S : Nat → Prop) (HT : TuS d 44 false) (h : QiAt w S d false (.slice ao l.length cap) l) (hl : l.length ≤ 2513169434900) (hw : ∀ x ∈ l, ∃ e, NfT e x) : Calls Tryz.prog 39 #[.iface 95 (.agg #[.slice ao l.length cap])] w fun e w' => ∃ ao' cap', e = .returned (.agg #[.int .i64 4, .int .i64 0, .string ⟨#[]⟩, .slice ao' l.length cap']) ∧ Hid (UrAt w' w.heap.size d (.slice ao' l.length cap') l ∧ Only (fun _ => False) w w') := by
  have HC : Hid (∀ w1, Only (fun _ => False) w w1 → Calls Tryz.prog 44 #[.slice ao l.length cap] w1 fun e w' => ∃ ao cap, e = .returned (.slice ao l.length cap) ∧ Hid (UrAt w' w1.heap.size d (.slice ao l.length cap) l ∧ Only (fun _ => False) w1 w')) := fun w1 o1 => HT _ _ _ S (h.step (fun _ g => g) (fun a u _ hc => o1.cell hc (fun g => g)) (Nat.le_refl _)) hl hw
  have mInt := uas_miss 95 87 67 _ Tryz.underlying87 (by intro m h; cases h) (by decide) _ uzero_Int
  have mStr := uas_miss 95 89 67 _ Tryz.underlying89 (by intro m h; cases h) (by decide) _ uzero_Str
  have mBool := uas_miss 95 91 67 _ Tryz.underlying91 (by intro m h; cases h) (by decide) _ uzero_Bool
  have hList := uas_hit 95 67 _ Tryz.underlying95 (by intro m h; cases h)
  have O0 : Hid (Only (fun _ => False) w w) := Only.refl _ _
  clear HT h hl hw
  obtain ⟨L, hL⟩ : ∃ L, L = l.length := ⟨_, rfl⟩
  have HL : Hid (L = l.length) := hL
  rw [← hL] at HC
  rw [← hL]
  clear hL
  go_enter Tryz.func39, Tryz.ntmps39
  go_wp2_with fail
  refine (show Calls Tryz.prog 44 _ _ _ from HC.out _ ((O0.out.alloc _).alloc _)).mono ?_
  rintro e w1 ⟨ao', cap', rfl, g1⟩
  have R3 : w1.heap[w.heap.size]? = some (.cells #[.int .i64 0, .int .i64 0, .string ⟨#[]⟩, .slice none 0 0] 26) := (g1.out.2.block w.heap.size (by simp; omega) (fun h => h)).trans ((((Only.refl (fun _ => False) (w.alloc (.cells #[.int .i64 0, .int .i64 0, .string ⟨#[]⟩, .slice none 0 0] 26))).alloc _).block w.heap.size (by simp) (fun h => h)).trans (valloc_at _ _ _ rfl))
  have G1 : Hid (UrAt w1 (w.heap.size + 1) d (.slice ao' L cap') l ∧ Only (fun _ => False) w w1) := by
    obtain ⟨us, SS, ho, ht, hS⟩ := g1.out.1
    have e1 : L = l.length := HL.out
    refine ⟨⟨us, SS, ⟨ho.1, ?_⟩, ht, fun b hb => ⟨by have := (hS b hb).1; simp at this; omega, (hS b hb).2⟩⟩, ((O0.out.alloc _).alloc _).trans g1.out.2 (fun _ _ g => g)⟩
    rcases ho.2 with g | ⟨g, cc, cur, h1, h2, h3⟩
    · exact .inl g
    · exact .inr ⟨g, cc, cur, h1, by simp at h2; omega, h3⟩
  clear g1 HC O0
  obtain ⟨B, hBe⟩ : ∃ B, B = w.heap.size := ⟨_, rfl⟩
  have HE : Hid (B = w.heap.size) := hBe
  rw [← hBe] at R3 ⊢
  have c0 := blk_cells R3 0
  have c1 := blk_cells R3 1
  have c2 := blk_cells R3 2
  have c3 := blk_cells R3 3
  have z0 := blk_froz R3 0
  have z1 := blk_froz R3 1
  have z2 := blk_froz R3 2
  have z3 := blk_froz R3 3
  have HR3 : Hid (w1.heap[B]? = some (.cells #[.int .i64 0, .int .i64 0, .string ⟨#[]⟩, .slice none 0 0] 26)) := R3
  simp only [List.getElem?_toArray, List.getElem?_cons_zero, List.getElem?_cons_succ] at c0 c1 c2 c3
  clear R3 hBe
  go_wp2
  obtain ⟨p0, p1, p2, p3⟩ := set4 HR3.out rfl (.int .i64 4) (.int .i64 0) (.string ⟨#[]⟩) (.slice ao' L cap')
  have e1 : L = l.length := HL.out
  have hBe : B = w.heap.size := HE.out
  have OB := @uonly4 w1 B (.int .i64 4) (.int .i64 0) (.string ⟨#[]⟩) (.slice ao' L cap')
  refine bodyPost_ret (uresults_v rfl _ _ B p0 p1 p2 p3 rfl) rfl ⟨ao', cap', rfl, ?_, G1.out.2.trans OB (fun b h e => by omega)⟩
  obtain ⟨us, SS, ho, ht, hS⟩ := G1.out.1.only OB (fun b h e => by omega)
  refine ⟨us, SS, ⟨ho.1, ?_⟩, ht, fun b hb => ⟨by have := (hS b hb).1; omega, (hS b hb).2⟩⟩
  rcases ho.2 with g | ⟨g, cc, cur, h1, h2, h3⟩
  · exact .inl g
  · exact .inr ⟨g, cc, cur, h1, by omega, h3⟩
set_option maxRecDepth 100000 in
theorem utree_quot (d : Nat) (l : List Vt) (ao : Option Addr) (cap : Nat) (w : World) (S : Nat → Prop) (HT : TuS d 15 true) (h : QiAt w S d true (.slice ao l.length cap) l) (hl : l.length ≤ 2513169434900) (hw : ∀ x ∈ l, ∃ e, NfT e x) : Calls Tryz.prog 39 #[.iface 81 (.agg #[.slice ao l.length cap])] w fun e w' => ∃ ao' cap', e = .returned (.agg #[.int .i64 5, .int .i64 0, .string ⟨#[]⟩, .slice ao' l.length cap']) ∧ Hid (UrAt w' w.heap.size d (.slice ao' l.length cap') l ∧ Only (fun _ => False) w w') := by
  have HC : Hid (∀ w1, Only (fun _ => False) w w1 → Calls Tryz.prog 15 #[.slice ao l.length cap] w1 fun e w' => ∃ ao cap, e = .returned (.slice ao l.length cap) ∧ Hid (UrAt w' w1.heap.size d (.slice ao l.length cap) l ∧ Only (fun _ => False) w1 w')) := fun w1 o1 => HT _ _ _ S (h.step (fun _ g => g) (fun a u _ hc => o1.cell hc (fun g => g)) (Nat.le_refl _)) hl hw
  have mInt := uas_miss 81 87 67 _ Tryz.underlying87 (by intro m h; cases h) (by decide) _ uzero_Int
  have mStr := uas_miss 81 89 67 _ Tryz.underlying89 (by intro m h; cases h) (by decide) _ uzero_Str
  have mBool := uas_miss 81 91 67 _ Tryz.underlying91 (by intro m h; cases h) (by decide) _ uzero_Bool
  have mList := uas_miss 81 95 67 _ Tryz.underlying95 (by intro m h; cases h) (by decide) _ uzero_List
  have hQuot := uas_hit 81 67 _ Tryz.underlying81 (by intro m h; cases h)
  have O0 : Hid (Only (fun _ => False) w w) := Only.refl _ _
  clear HT h hl hw
  obtain ⟨L, hL⟩ : ∃ L, L = l.length := ⟨_, rfl⟩
  have HL : Hid (L = l.length) := hL
  rw [← hL] at HC
  rw [← hL]
  clear hL
  go_enter Tryz.func39, Tryz.ntmps39
  go_wp2_with fail
  refine (show Calls Tryz.prog 15 _ _ _ from HC.out _ ((O0.out.alloc _).alloc _)).mono ?_
  rintro e w1 ⟨ao', cap', rfl, g1⟩
  have R3 : w1.heap[w.heap.size]? = some (.cells #[.int .i64 0, .int .i64 0, .string ⟨#[]⟩, .slice none 0 0] 26) := (g1.out.2.block w.heap.size (by simp; omega) (fun h => h)).trans ((((Only.refl (fun _ => False) (w.alloc (.cells #[.int .i64 0, .int .i64 0, .string ⟨#[]⟩, .slice none 0 0] 26))).alloc _).block w.heap.size (by simp) (fun h => h)).trans (valloc_at _ _ _ rfl))
  have G1 : Hid (UrAt w1 (w.heap.size + 1) d (.slice ao' L cap') l ∧ Only (fun _ => False) w w1) := by
    obtain ⟨us, SS, ho, ht, hS⟩ := g1.out.1
    have e1 : L = l.length := HL.out
    refine ⟨⟨us, SS, ⟨ho.1, ?_⟩, ht, fun b hb => ⟨by have := (hS b hb).1; simp at this; omega, (hS b hb).2⟩⟩, ((O0.out.alloc _).alloc _).trans g1.out.2 (fun _ _ g => g)⟩
    rcases ho.2 with g | ⟨g, cc, cur, h1, h2, h3⟩
    · exact .inl g
    · exact .inr ⟨g, cc, cur, h1, by simp at h2; omega, h3⟩
  clear g1 HC O0
  obtain ⟨B, hBe⟩ : ∃ B, B = w.heap.size := ⟨_, rfl⟩
  have HE : Hid (B = w.heap.size) := hBe
  rw [← hBe] at R3 ⊢
  have c0 := blk_cells R3 0
  have c1 := blk_cells R3 1
  have c2 := blk_cells R3 2
  have c3 := blk_cells R3 3
  have z0 := blk_froz R3 0
  have z1 := blk_froz R3 1
  have z2 := blk_froz R3 2
  have z3 := blk_froz R3 3
  have HR3 : Hid (w1.heap[B]? = some (.cells #[.int .i64 0, .int .i64 0, .string ⟨#[]⟩, .slice none 0 0] 26)) := R3
  simp only [List.getElem?_toArray, List.getElem?_cons_zero, List.getElem?_cons_succ] at c0 c1 c2 c3
  clear R3 hBe
  go_wp2
  obtain ⟨p0, p1, p2, p3⟩ := set4 HR3.out rfl (.int .i64 5) (.int .i64 0) (.string ⟨#[]⟩) (.slice ao' L cap')
  have e1 : L = l.length := HL.out
  have hBe : B = w.heap.size := HE.out
  have OB := @uonly4 w1 B (.int .i64 5) (.int .i64 0) (.string ⟨#[]⟩) (.slice ao' L cap')
  refine bodyPost_ret (uresults_v rfl _ _ B p0 p1 p2 p3 rfl) rfl ⟨ao', cap', rfl, ?_, G1.out.2.trans OB (fun b h e => by omega)⟩
  obtain ⟨us, SS, ho, ht, hS⟩ := G1.out.1.only OB (fun b h e => by omega)
  refine ⟨us, SS, ⟨ho.1, ?_⟩, ht, fun b hb => ⟨by have := (hS b hb).1; omega, (hS b hb).2⟩⟩
  rcases ho.2 with g | ⟨g, cc, cur, h1, h2, h3⟩
  · exact .inl g
  · exact .inr ⟨g, cc, cur, h1, by omega, h3⟩
set_option maxRecDepth 100000 in
theorem uzero_Box (W : World) : (zeroValue 97).run Tryz.prog W = .ok (.agg #[.int .i64 0]) W := by rfl
set_option maxRecDepth 100000 in
theorem utree_box (n : Int) (h1 : -9223372036854775808 ≤ n) (h2 : n ≤ 9223372036854775807) (w : World) : Calls Tryz.prog 39 #[.iface 97 (.agg #[.int .i64 n])] w fun e w' => e = .returned (.agg #[.int .i64 6, .int .i64 n, .string ⟨#[]⟩, .slice none 0 0]) ∧ Only (fun _ => False) w w' := by
  have mInt := uas_miss 97 87 67 _ Tryz.underlying87 (by intro m h; cases h) (by decide) _ uzero_Int
  have mStr := uas_miss 97 89 67 _ Tryz.underlying89 (by intro m h; cases h) (by decide) _ uzero_Str
  have mBool := uas_miss 97 91 67 _ Tryz.underlying91 (by intro m h; cases h) (by decide) _ uzero_Bool
  have mList := uas_miss 97 95 67 _ Tryz.underlying95 (by intro m h; cases h) (by decide) _ uzero_List
  have mQuot := uas_miss 97 81 67 _ Tryz.underlying81 (by intro m h; cases h) (by decide) _ uzero_Quot
  have hBox := uas_hit 97 67 _ Tryz.underlying97 (by intro m h; cases h)
  have hw : IntKind.i64.wrap n = n := by rw [IntKind.wrap_i64]; omega
  clear h1 h2
  have O0 : Hid (Only (fun _ => False) w w) := Only.refl _ _
  go_enter Tryz.func39, Tryz.ntmps39
  go_wp2
  refine bodyPost_ret (uresults_v rfl _ _ w.heap.size (x := _) (y := _) (z := _) (r := _) ?_ ?_ ?_ ?_ rfl) rfl ⟨rfl, ?_⟩
  · simp [go_sem]
  · simp [go_sem]
  · simp [go_sem]
  · simp [go_sem]
  · first
      | exact O0.out.alloc _
      | exact ((O0.out.alloc _).alloc _)
      | exact ((((O0.out.alloc _).setCell _ _ (fun h => absurd h (by simp))).setCell _ _ (fun h => absurd h (by simp))).setCell _ _ (fun h => absurd h (by simp))).setCell _ _ (fun h => absurd h (by simp))
      | exact (((((O0.out.alloc _).alloc _).setCell _ _ (fun h => absurd h (by simp))).setCell _ _ (fun h => absurd h (by simp))).setCell _ _ (fun h => absurd h (by simp))).setCell _ _ (fun h => absurd h (by simp))
set_option maxRecDepth 100000 in
theorem utree_nil  (w : World) : Calls Tryz.prog 39 #[.nilIface] w fun e w' => e = .returned (.agg #[.int .i64 8, .int .i64 0, .string ⟨#[]⟩, .slice none 0 0]) ∧ Only (fun _ => False) w w' := by
  have mInt := uas_nil 87 67 _ Tryz.underlying87 (by intro m h; cases h) _ uzero_Int
  have mStr := uas_nil 89 67 _ Tryz.underlying89 (by intro m h; cases h) _ uzero_Str
  have mBool := uas_nil 91 67 _ Tryz.underlying91 (by intro m h; cases h) _ uzero_Bool
  have mList := uas_nil 95 67 _ Tryz.underlying95 (by intro m h; cases h) _ uzero_List
  have mQuot := uas_nil 81 67 _ Tryz.underlying81 (by intro m h; cases h) _ uzero_Quot
  have mBox := uas_nil 97 67 _ Tryz.underlying97 (by intro m h; cases h) _ uzero_Box
  have O0 : Hid (Only (fun _ => False) w w) := Only.refl _ _
  go_enter Tryz.func39, Tryz.ntmps39
  go_wp2
  refine bodyPost_ret (uresults_v rfl _ _ w.heap.size (x := _) (y := _) (z := _) (r := _) ?_ ?_ ?_ ?_ rfl) rfl ⟨rfl, ?_⟩
  · simp [go_sem]
  · simp [go_sem]
  · simp [go_sem]
  · simp [go_sem]
  · first
      | exact O0.out.alloc _
      | exact ((O0.out.alloc _).alloc _)
      | exact ((((O0.out.alloc _).setCell _ _ (fun h => absurd h (by simp))).setCell _ _ (fun h => absurd h (by simp))).setCell _ _ (fun h => absurd h (by simp))).setCell _ _ (fun h => absurd h (by simp))
      | exact (((((O0.out.alloc _).alloc _).setCell _ _ (fun h => absurd h (by simp))).setCell _ _ (fun h => absurd h (by simp))).setCell _ _ (fun h => absurd h (by simp))).setCell _ _ (fun h => absurd h (by simp))
set_option maxRecDepth 100000 in
theorem uitree_nil  (w : World) : Calls Tryz.prog 30 #[.nilIface] w fun e w' => e = .returned (.agg #[.int .i64 8, .int .i64 0, .string ⟨#[]⟩, .slice none 0 0]) ∧ Only (fun _ => False) w w' := by
  have mPush := uas_nil 70 37 _ Tryz.underlying70 (by intro m h; cases h) _ uzero_Push
  have mCall := uas_nil 40 37 _ Tryz.underlying40 (by intro m h; cases h) _ uzero_Call
  have O0 : Hid (Only (fun _ => False) w w) := Only.refl _ _
  go_enter Tryz.func30, Tryz.ntmps30
  go_wp2
  refine bodyPost_ret (uresults_v rfl _ _ w.heap.size (x := _) (y := _) (z := _) (r := _) ?_ ?_ ?_ ?_ rfl) rfl ⟨rfl, ?_⟩
  · simp [go_sem]
  · simp [go_sem]
  · simp [go_sem]
  · simp [go_sem]
  · first
      | exact O0.out.alloc _
      | exact ((O0.out.alloc _).alloc _)
      | exact ((((O0.out.alloc _).setCell _ _ (fun h => absurd h (by simp))).setCell _ _ (fun h => absurd h (by simp))).setCell _ _ (fun h => absurd h (by simp))).setCell _ _ (fun h => absurd h (by simp))
      | exact (((((O0.out.alloc _).alloc _).setCell _ _ (fun h => absurd h (by simp))).setCell _ _ (fun h => absurd h (by simp))).setCell _ _ (fun h => absurd h (by simp))).setCell _ _ (fun h => absurd h (by simp))
theorem utree_of (d : Nat) (H1 : TuS d 44 false) (H2 : TuS d 15 true) : TuE (d + 1) 39 false := by
  intro v t w S h hw
  obtain ⟨k, n, s, l⟩ := t
  obtain ⟨e, hw⟩ := hw
  cases e with
  | zero => exact hw.elim
  | succ e =>
  obtain ⟨hw1, hwb, hwn, hws, hw2⟩ := hw
  dsimp only at hw1 hwb hwn hws hw2
  rcases h with ⟨h1, h2, h3⟩ | ⟨h1, h2, h3⟩ | ⟨h1, h2, h3⟩ | ⟨h1, h2, h3⟩ | ⟨h1, h2, h3⟩ | ⟨h1, ao, cap, hv, hc, hl⟩
  · dsimp only at h1 h2 h3
    subst h1 h3
    have e2 : s = ⟨#[]⟩ := hws
    subst e2
    exact (utree_int n w).mono fun e w' g => ⟨_, g.1, nu_nil h2, g.2⟩
  · dsimp only at h1 h2 h3
    subst h1 h3
    have e2 : n = 0 := hwn
    subst e2
    exact (utree_str s w).mono fun e w' g => ⟨_, g.1, nu_nil h2, g.2⟩
  · dsimp only at h1 h2 h3
    subst h1 h3
    have e2 : s = ⟨#[]⟩ := hws
    have e3 : n = if n != 0 then 1 else 0 := hwn
    subst e2
    by_cases hn : n = 0
    · subst hn
      exact (utree_no w).mono fun e w' g => ⟨_, g.1, nu_nil h2, g.2⟩
    · have e1 : (n != 0) = true := by simp [hn]
      rw [e1] at e3
      rw [if_pos rfl] at e3
      subst e3
      exact (utree_yes w).mono fun e w' g => ⟨_, g.1, nu_nil h2, g.2⟩
  · dsimp only at h1 h2 h3
    subst h1 h3
    have e2 : s = ⟨#[]⟩ := hws
    subst e2
    exact (utree_box n hwb.1 hwb.2 w).mono fun e w' g => ⟨_, g.1, nu_nil h2, g.2⟩
  · dsimp only at h1 h2 h3
    subst h1 h3
    have e2 : s = ⟨#[]⟩ := hws
    have e3 : n = 0 := hwn
    subst e2 e3
    exact (utree_nil w).mono fun e w' g => ⟨_, g.1, nu_nil h2, g.2⟩
  · dsimp only at h1 hv hc hl
    rcases h1 with h1 | h1
    · subst h1
      rw [if_pos rfl] at hv
      subst hv
      have e2 : s = ⟨#[]⟩ := hws
      have e3 : n = 0 := hwn
      subst e2 e3
      exact (utree_list d l ao cap w S H1 ⟨ao, cap, rfl, hc, hl⟩ hw1 (fun x hx => ⟨e, hw2 x hx⟩)).mono fun e w' g => by
        obtain ⟨ao', cap', he, g⟩ := g
        exact ⟨_, he, g.out.1.tree rfl, g.out.2⟩
    · subst h1
      rw [if_neg (by omega)] at hv
      subst hv
      have e2 : s = ⟨#[]⟩ := hws
      have e3 : n = 0 := hwn
      subst e2 e3
      exact (utree_quot d l ao cap w S H2 ⟨ao, cap, rfl, hc, hl⟩ hw1 (fun x hx => ⟨e, hw2 x hx⟩)).mono fun e w' g => by
        obtain ⟨ao', cap', he, g⟩ := g
        exact ⟨_, he, g.out.1.tree rfl, g.out.2⟩
set_option maxRecDepth 100000 in
theorem uitree_push (u : Value) (hu : ∃ T y, u = .iface T y) (x0 x1 : Int) (x2 : ByteArray) (Q : Value → World → Prop) (w : World)
    (HC0 : ∀ w1, w.heap.size < w1.heap.size → Only (fun _ => False) w w1 → Calls Tryz.prog 39 #[u] w1 fun e w' => ∃ lv, e = .returned (.agg #[.int .i64 x0, .int .i64 x1, .string x2, lv]) ∧ (∃ ao n cap, lv = .slice ao n cap) ∧ Hid ((∀ w2, Only (fun b => b = w.heap.size) w' w2 → Q lv w2) ∧ Only (fun _ => False) w1 w')) :
    Calls Tryz.prog 30 #[.iface 70 (.agg #[u])] w fun e w' => ∃ lv, e = .returned (.agg #[.int .i64 x0, .int .i64 x1, .string x2, lv]) ∧ Hid (Q lv w' ∧ Only (fun _ => False) w w') := by
  have HC : Hid (∀ w1, w.heap.size < w1.heap.size → Only (fun _ => False) w w1 → Calls Tryz.prog 39 #[u] w1 fun e w' => ∃ lv, e = .returned (.agg #[.int .i64 x0, .int .i64 x1, .string x2, lv]) ∧ (∃ ao n cap, lv = .slice ao n cap) ∧ Hid ((∀ w2, Only (fun b => b = w.heap.size) w' w2 → Q lv w2) ∧ Only (fun _ => False) w1 w')) := HC0
  obtain ⟨T, y, rfl⟩ := hu
  have hPush := uas_hit 70 37 _ Tryz.underlying70 (by intro m h; cases h)
  have O0 : Hid (Only (fun _ => False) w w) := Only.refl _ _
  clear HC0
  go_enter Tryz.func30, Tryz.ntmps30
  go_wp2_with fail
  refine (show Calls Tryz.prog 39 _ _ _ from HC.out _ (by simp; omega) ((O0.out.alloc _).alloc _)).mono ?_
  rintro e w1 ⟨lv, rfl, ⟨ao, nn, cap, rfl⟩, g1⟩
  have R3 : w1.heap[w.heap.size]? = some (.cells #[.int .i64 0, .int .i64 0, .string ⟨#[]⟩, .slice none 0 0] 26) := (g1.out.2.block w.heap.size (by simp; omega) (fun h => h)).trans ((((Only.refl (fun _ => False) (w.alloc (.cells #[.int .i64 0, .int .i64 0, .string ⟨#[]⟩, .slice none 0 0] 26))).alloc _).block w.heap.size (by simp) (fun h => h)).trans (valloc_at _ _ _ rfl))
  have G1 : Hid ((∀ w2, Only (fun b => b = w.heap.size) w1 w2 → Q (.slice ao nn cap) w2) ∧ Only (fun _ => False) w w1) := ⟨g1.out.1, ((O0.out.alloc _).alloc _).trans g1.out.2 (fun _ _ g => g)⟩
  clear g1 HC O0
  obtain ⟨B, hBe⟩ : ∃ B, B = w.heap.size := ⟨_, rfl⟩
  have HE : Hid (B = w.heap.size) := hBe
  rw [← hBe] at R3 ⊢
  have c0 := blk_cells R3 0
  have c1 := blk_cells R3 1
  have c2 := blk_cells R3 2
  have c3 := blk_cells R3 3
  have z0 := blk_froz R3 0
  have z1 := blk_froz R3 1
  have z2 := blk_froz R3 2
  have z3 := blk_froz R3 3
  have HR3 : Hid (w1.heap[B]? = some (.cells #[.int .i64 0, .int .i64 0, .string ⟨#[]⟩, .slice none 0 0] 26)) := R3
  simp only [List.getElem?_toArray, List.getElem?_cons_zero, List.getElem?_cons_succ] at c0 c1 c2 c3
  clear R3 hBe
  go_wp2
  obtain ⟨p0, p1, p2, p3⟩ := set4 HR3.out rfl (.int .i64 x0) (.int .i64 x1) (.string x2) (.slice ao nn cap)
  have hBe : B = w.heap.size := HE.out
  have OB := @uonly4 w1 B (.int .i64 x0) (.int .i64 x1) (.string x2) (.slice ao nn cap)
  refine bodyPost_ret (uresults_v rfl _ _ B p0 p1 p2 p3 rfl) rfl ⟨_, rfl, G1.out.1 _ (by rw [← hBe]; exact OB), G1.out.2.trans OB (fun b h e => by omega)⟩
theorem uitree_of (d : Nat) (H : TuE d 39 false) : TuE (d + 1) 30 true := by
  intro v t w S h hw
  rcases h with ⟨h1, h2, h3⟩ | ⟨h1, h2, h3⟩ | ⟨h1, h8, u, h3, h4⟩
  · obtain ⟨k, n, s, l⟩ := t
    obtain ⟨e, hw⟩ := hw
    cases e with
    | zero => exact hw.elim
    | succ e =>
    obtain ⟨hw1, hwb, hwn, hws, hw2⟩ := hw
    dsimp only at h1 h2 h3 hwn
    subst h1 h3
    have e3 : n = 0 := hwn
    subst e3
    exact (utree_call s w).mono fun e w' g => ⟨_, g.1, nu_nil h2, g.2⟩
  · obtain ⟨k, n, s, l⟩ := t
    obtain ⟨e, hw⟩ := hw
    cases e with
    | zero => exact hw.elim
    | succ e =>
    obtain ⟨hw1, hwb, hwn, hws, hw2⟩ := hw
    dsimp only at h1 h2 h3 hwn hws
    subst h1 h3
    have e2 : s = ⟨#[]⟩ := hws
    have e3 : n = 0 := hwn
    subst e2 e3
    exact (uitree_nil w).mono fun e w' g => ⟨_, g.1, nu_nil h2, g.2⟩
  · subst h3
    refine (uitree_push u (h4.iface h8) t.k t.n t.s (fun lv w' => NuAt w' w.heap.size (d + 1) t lv) w fun w1 hlt o1 => ?_).mono fun e w' g => g
    have h5 : TiAt w1 S d false t u := h4.step (fun _ g => g) (fun a u _ hc => o1.cell hc (fun g => g)) (Nat.le_refl _)
    refine (H u t w1 S h5 hw).mono fun e w' g => ?_
    obtain ⟨lv, he, g⟩ := g
    obtain ⟨ao, cap, hf⟩ := g.out.1.form
    exact ⟨lv, he, ⟨ao, _, cap, hf⟩, fun w2 o2 => ((g.out.1.only o2 (fun b hb e => by omega)).lower (by omega)).deep (by omega), g.out.2⟩
end Go.Proofs.YtodbkihobgdpdaaGreatDoor
