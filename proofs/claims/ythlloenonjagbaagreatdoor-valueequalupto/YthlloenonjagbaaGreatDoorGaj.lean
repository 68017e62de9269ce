/- How large a value is, and whether it is sound: the plain functions, and the leaves. soundAlone: of each kind that holds no others. A measure goes through lists: every; value, item. -/
import Derived.Test.YthlloenonjagbaaGreatDoorGab
import Derived.Test.YthlloenonjagbaaGreatDoorGai
namespace Go.Proofs.YthlloenonjagbaaGreatDoor
open Go.RowKit Go.Lib
set_option linter.unusedSimpArgs false
set_option linter.unusedVariables false
/-- the tables that are read, as they begin -/
def Tb (w : World) : Prop := Nog w ∧ Lib.Utf8Tabs 0 1 w
/-- is a text one of characters? -/
def vlB (s : ByteArray) : Bool := Lib.validD s.data.toList
/-- is a value sound that holds no others? -/
def alB (t : Vt) : Bool :=
  if t.k = 1 then decide (-1152921504606846976 ≤ t.n) && decide (t.n ≤ 1152921504606846975) else if t.k = 2 then decide (t.s.size ≤ 4096) && vlB t.s
  else if t.k = 6 then decide (1 ≤ t.n) && decide (t.n ≤ 1048576) else decide (t.k = 3)
/-- how many values and items there are -/
def sz : Nat → Bool → Vt → Nat
  | 0, _, _ => 1
  | d + 1, true, t => if t.k = 7 ∨ t.k = 8 then 1 else sz d false t
  | d + 1, false, t => 1 + (t.l.map (sz d (decide (t.k = 5)))).sum
/-- how many lists and quotations stand within one another -/
def dp : Nat → Bool → Vt → Nat
  | 0, _, _ => 0
  | d + 1, true, t => if t.k = 7 ∨ t.k = 8 then 0 else dp d false t
  | d + 1, false, t => if t.k = 4 ∨ t.k = 5 then 1 + ((t.l.map (dp d (decide (t.k = 5)))).foldl max 0) else 0
/-- is each part what it may be? -/
def okV : Nat → Bool → Vt → Bool
  | 0, _, _ => false
  | d + 1, true, t => if t.k = 7 then clB t.s else if t.k = 8 then false else okV d false t
  | d + 1, false, t => if t.k = 4 ∨ t.k = 5 then t.l.all (okV d (decide (t.k = 5))) else alB t
def msB (d : Nat) (i : Bool) (t : Vt) (k o : Nat) : Bool := okV d i t && decide (k + sz d i t ≤ 1024) && decide (o + dp d i t ≤ 32)
/-- the same of parts, one behind the other -/
def evB (d : Nat) (i : Bool) : List Vt → Nat → Nat → Bool
  | [], _, _ => true
  | x :: r, k, o => msB d i x k o && evB d i r (k + sz d i x) o
theorem sz_pos : ∀ (d : Nat) (i : Bool) (t : Vt), 1 ≤ sz d i t
  | 0, _, _ => Nat.le_refl _
  | d + 1, true, t => by
    unfold sz
    split
    · exact Nat.le_refl _
    · exact sz_pos d false t
  | d + 1, false, t => by unfold sz; omega
theorem foldl_max (l : List Nat) : ∀ (a : Nat), l.foldl max a = max a (l.foldl max 0) := by
  induction l with
  | nil => intro a; simp
  | cons x l ih => intro a; simp only [List.foldl_cons]; rw [ih (max a x), ih (max 0 x)]; omega
theorem evB_eq (d : Nat) (i : Bool) : ∀ (l : List Vt) (k o : Nat), k ≤ 1024 → o ≤ 32 → evB d i l k o = (l.all (okV d i) && decide (k + (l.map (sz d i)).sum ≤ 1024) && decide (o + (l.map (dp d i)).foldl max 0 ≤ 32))
  | [], k, o, hk, ho => by simp [evB, hk, ho]
  | x :: r, k, o, hk, ho => by
    have hp := sz_pos d i x
    simp only [evB, msB, List.all_cons, List.map_cons, List.sum_cons, List.foldl_cons]
    rw [foldl_max _ (max 0 (dp d i x))]
    by_cases h1 : k + sz d i x ≤ 1024
    · rw [evB_eq d i r (k + sz d i x) o h1 ho]
      rw [Bool.eq_iff_iff]
      simp only [Bool.and_eq_true, decide_eq_true_eq]
      constructor
      · rintro ⟨⟨⟨a1, a2⟩, a3⟩, ⟨a4, a5⟩, a6⟩
        exact ⟨⟨⟨a1, a4⟩, by omega⟩, by omega⟩
      · rintro ⟨⟨⟨a1, a4⟩, a2⟩, a3⟩
        exact ⟨⟨⟨a1, h1⟩, by omega⟩, ⟨a4, by omega⟩, by omega⟩
    · have e1 : decide (k + sz d i x ≤ 1024) = false := decide_eq_false h1
      have e2 : decide (k + (sz d i x + (r.map (sz d i)).sum) ≤ 1024) = false := decide_eq_false (by omega)
      rw [e1, e2]
      simp
set_option maxRecDepth 100000 in
theorem vcount_all (M : Nat) (k d : Int) (w : World) (h : VmB w M k d) (h1 : 0 ≤ k) (h2 : k ≤ 2000) : Calls Tryz.prog 74 #[.pointer (some ⟨M, 0, none⟩)] w fun e w' => e = .returned (.bool (decide (k + 1 ≤ 1024))) ∧ Only (fun b => b = M) w w' ∧ VmB w' M (k + 1) d := by
  have c0 := wr_cell h 0
  have f0 := wr_froz h 0
  simp only [List.getElem?_toArray, List.getElem?_cons_zero] at c0
  have HM : Hid (VmB w M k d) := h
  clear h
  go_enter Tryz.func74, Tryz.ntmps74
  go_wp2
  go_ret
  exact ⟨rfl, (Only.refl (fun b => b = M) w).setCell _ _ (fun _ => rfl), (heap_setCell_same _ _ _ _ _ _ HM.out).trans rfl⟩
set_option maxRecDepth 100000 in
theorem venter_all (M : Nat) (k d o : Int) (w : World) (h : VmB w M k d) (h1 : 0 ≤ d) (h2 : d ≤ 1000) (h3 : 0 ≤ o) (h4 : o ≤ 1000) : Calls Tryz.prog 75 #[.pointer (some ⟨M, 0, none⟩), .int .i64 o] w fun e w' => e = .returned (.bool (decide (o ≤ 32))) ∧ Only (fun b => b = M) w w' ∧ ∃ d', VmB w' M k d' ∧ 0 ≤ d' ∧ d' ≤ 1000 := by
  have c1 := wr_cell h 1
  have f1 := wr_froz h 1
  simp only [List.getElem?_toArray, List.getElem?_cons_succ, List.getElem?_cons_zero] at c1
  have HM : Hid (VmB w M k d) := h
  clear h
  go_enter Tryz.func75, Tryz.ntmps75
  go_wp2
  all_goals
    go_ret
    refine ⟨rfl, (Only.refl (fun b => b = M) w).setCell _ _ (fun _ => rfl), _, (heap_setCell_same _ _ _ _ _ _ HM.out).trans rfl, ?_, ?_⟩ <;> omega
theorem valid_any (s : ByteArray) (hs : s.size ≤ 9223372036854775807) (w : World) (h : Tb w) : Calls Tryz.prog 92 #[.string s] w fun e w' => e = .returned (.bool (vlB s)) ∧ Only (fun _ => False) w w' := by
  have := Any.utf8_ValidString Tryz.laysValid s w hs h.2
  refine (show Calls Tryz.prog 92 _ _ _ from this).mono ?_
  rintro e w' ⟨he, hb⟩
  exact ⟨he, ⟨hb.os, hb.tape, hb.output, hb.size, fun k hk _ => hb.block k hk⟩⟩
end Go.Proofs.YthlloenonjagbaaGreatDoor
namespace Go.Proofs.YthlloenonjagbaaGreatDoor
open Go.RowKit Go.Lib
set_option linter.unusedSimpArgs false
set_option linter.unusedVariables false
theorem Tb.keep {w w' : World} {M : Nat} (h : Tb w) (o : Only (fun b => b = M) w w') (hg : 4 ≠ M) (h0 : 0 ≠ M) (h1 : 1 ≠ M) : Tb w' :=
  ⟨nog_keep h.1 o hg, fun c hc => o.cell (h.2.1 c hc) h0, fun i hi => ⟨o.cell (h.2.2 i hi).1 h1, o.cell (h.2.2 i hi).2 h1⟩⟩
theorem Tb.frame {w w' : World} (h : Tb w) (o : Only (fun _ => False) w w') : Tb w' :=
  ⟨h.1.frame o, fun c hc => o.cell (h.2.1 c hc) (fun g => g), fun i hi => ⟨o.cell (h.2.2 i hi).1 (fun g => g), o.cell (h.2.2 i hi).2 (fun g => g)⟩⟩
theorem Tb.lt {w : World} (h : Tb w) : 4 < w.heap.size ∧ 0 < w.heap.size ∧ 1 < w.heap.size :=
  ⟨nog_lt h.1, World.block_lt_of_cell? w _ (h.2.1 0 (by omega)), World.block_lt_of_cell? w _ (h.2.2 0 (by omega)).1⟩
theorem zI (W : World) : (zeroValue 59).run Tryz.prog W = .ok (.agg #[.int .i64 0]) W := by kernel_rfl
theorem zS (W : World) : (zeroValue 76).run Tryz.prog W = .ok (.agg #[.string ⟨#[]⟩]) W := by kernel_rfl
theorem zB (W : World) : (zeroValue 84).run Tryz.prog W = .ok (.agg #[.int .i64 0]) W := by kernel_rfl
theorem zL (W : World) : (zeroValue 80).run Tryz.prog W = .ok (.agg #[.slice none 0 0]) W := by kernel_rfl
theorem zQ (W : World) : (zeroValue 82).run Tryz.prog W = .ok (.agg #[.slice none 0 0]) W := by kernel_rfl
theorem zO (W : World) : (zeroValue 78).run Tryz.prog W = .ok (.agg #[.bool false]) W := by kernel_rfl
theorem zC (W : World) : (zeroValue 111).run Tryz.prog W = .ok (.agg #[.string ⟨#[]⟩]) W := by kernel_rfl
set_option maxRecDepth 100000 in
theorem alone1 (n : Int) (w : World) : Calls Tryz.prog 79 #[.iface 59 (.agg #[.int .i64 n])] w fun e w' => e = .returned (.bool (decide (-1152921504606846976 ≤ n) && decide (n ≤ 1152921504606846975))) ∧ Only (fun _ => False) w w' := by
  have hi := va_hit 59 27 _ Tryz.underlying59 (by intro m h; cases h)
  have O0 : Hid (Only (fun _ => False) w w) := Only.refl _ _
  by_cases h1 : (-1152921504606846976 : Int) ≤ n
  · rw [decide_eq_true h1]
    go_enter Tryz.func79, Tryz.ntmps79
    go_wp2
    all_goals
      go_ret
      refine ⟨by simp, ?_⟩
      repeat (first | exact O0.out | refine Only.alloc ?_ _)
  · rw [decide_eq_false h1]
    go_enter Tryz.func79, Tryz.ntmps79
    go_wp2
    all_goals
      go_ret
      refine ⟨by simp, ?_⟩
      repeat (first | exact O0.out | refine Only.alloc ?_ _)
set_option maxRecDepth 100000 in
theorem alone2 (s : ByteArray) (hs : s.size ≤ 1048576) (w : World) (hT : Tb w) : Calls Tryz.prog 79 #[.iface 76 (.agg #[.string s])] w fun e w' => e = .returned (.bool (decide (s.size ≤ 4096) && vlB s)) ∧ Only (fun _ => False) w w' := by
  have mi := va_miss 76 59 27 _ Tryz.underlying59 (by intro m h; cases h) (by decide) _ zI
  have hi := va_hit 76 27 _ Tryz.underlying76 (by intro m h; cases h)
  have O0 : Hid (Only (fun _ => False) w w) := Only.refl _ _
  have HV : Hid (∀ w1, Only (fun _ => False) w w1 → Calls Tryz.prog 92 #[.string s] w1 fun e w' => e = .returned (.bool (vlB s)) ∧ Only (fun _ => False) w1 w') := fun w1 o => valid_any s (by omega) w1 (hT.frame o)
  obtain ⟨b, hb⟩ : ∃ b, b = vlB s := ⟨_, rfl⟩
  rw [← hb] at HV ⊢
  clear hT hb
  by_cases h4 : s.size ≤ 4096
  · have i4 : (s.size : Int) ≤ 4096 := by omega
    rw [decide_eq_true h4]
    clear h4
    go_enter Tryz.func79, Tryz.ntmps79
    go_wp2_with fail
    refine (show Calls Tryz.prog 92 _ _ _ from HV.out _ (by repeat' first | exact O0.out | apply Only.alloc)).mono ?_
    rintro e w1 ⟨rfl, o1⟩
    have O1 : Hid (Only (fun _ => False) w w1) := Only.trans (show Only (fun _ => False) w _ by repeat' first | exact (Only.refl _ _) | apply Only.alloc) o1 (fun _ _ g => g)
    clear HV o1
    go_wp2
    go_ret
    exact ⟨by simp, O1.out⟩
  · have i4 : ¬ (s.size : Int) ≤ 4096 := by omega
    rw [decide_eq_false h4]
    clear h4 HV
    go_enter Tryz.func79, Tryz.ntmps79
    go_wp2
    go_ret
    refine ⟨by simp, ?_⟩
    repeat (first | exact O0.out | refine Only.alloc ?_ _)
set_option maxRecDepth 100000 in
theorem alone6 (n : Int) (w : World) : Calls Tryz.prog 79 #[.iface 84 (.agg #[.int .i64 n])] w fun e w' => e = .returned (.bool (decide (1 ≤ n) && decide (n ≤ 1048576))) ∧ Only (fun _ => False) w w' := by
  have mi := va_miss 84 59 27 _ Tryz.underlying59 (by intro m h; cases h) (by decide) _ zI
  have ms := va_miss 84 76 27 _ Tryz.underlying76 (by intro m h; cases h) (by decide) _ zS
  have hi := va_hit 84 27 _ Tryz.underlying84 (by intro m h; cases h)
  have O0 : Hid (Only (fun _ => False) w w) := Only.refl _ _
  by_cases h1 : (1 : Int) ≤ n
  · rw [decide_eq_true h1]
    go_enter Tryz.func79, Tryz.ntmps79
    go_wp2
    all_goals
      go_ret
      refine ⟨by simp, ?_⟩
      repeat (first | exact O0.out | refine Only.alloc ?_ _)
  · rw [decide_eq_false h1]
    go_enter Tryz.func79, Tryz.ntmps79
    go_wp2
    all_goals
      go_ret
      refine ⟨by simp, ?_⟩
      repeat (first | exact O0.out | refine Only.alloc ?_ _)
set_option maxRecDepth 100000 in
theorem alone3 (b : Bool) (w : World) : Calls Tryz.prog 79 #[.iface 78 (.agg #[.bool b])] w fun e w' => e = .returned (.bool true) ∧ Only (fun _ => False) w w' := by
  have mi := va_miss 78 59 27 _ Tryz.underlying59 (by intro m h; cases h) (by decide) _ zI
  have ms := va_miss 78 76 27 _ Tryz.underlying76 (by intro m h; cases h) (by decide) _ zS
  have mb := va_miss 78 84 27 _ Tryz.underlying84 (by intro m h; cases h) (by decide) _ zB
  have hi := va_hit 78 27 _ Tryz.underlying78 (by intro m h; cases h)
  have O0 : Hid (Only (fun _ => False) w w) := Only.refl _ _
  go_enter Tryz.func79, Tryz.ntmps79
  go_wp2
  all_goals
    go_ret
    refine ⟨rfl, ?_⟩
    repeat (first | exact O0.out | refine Only.alloc ?_ _)
/-- of any that is no list and no quotation -/
theorem alone_any {S : Nat → Prop} {d : Nat} {t : Vt} {v : Value} {w : World} (h : TiAt w S d false t v) (hk : ¬ (t.k = 4 ∨ t.k = 5)) (hs : t.s.size ≤ 1048576) : ∀ w1, Tb w1 → Calls Tryz.prog 79 #[v] w1 fun e w' => e = .returned (.bool (alB t)) ∧ Only (fun _ => False) w1 w' := by
  intro w1 hT
  obtain ⟨k, n, s, l⟩ := t
  cases d with
  | zero => exact h.elim
  | succ d =>
    rcases h with ⟨e, _, rfl⟩ | ⟨e, _, rfl⟩ | ⟨e, _, rfl⟩ | ⟨e, _, rfl⟩ | ⟨e, _, rfl⟩ | ⟨e, _⟩
    · simp only at e
      subst e
      exact alone1 n w1
    · simp only at e
      subst e
      exact alone2 s hs w1 hT
    · simp only at e
      subst e
      exact alone3 _ w1
    · simp only at e
      subst e
      exact alone6 n w1
    · simp only at e
      subst e
      exact alone_bad _ bad_nil w1
    · exact absurd e hk
end Go.Proofs.YthlloenonjagbaaGreatDoor
namespace Go.Proofs.YthlloenonjagbaaGreatDoor
open Go.RowKit Go.Lib
set_option linter.unusedSimpArgs false
set_option linter.unusedVariables false
/-- a measure's block is none of the tables' -/
def Mg (M : Nat) : Prop := 4 ≠ M ∧ 0 ≠ M ∧ 1 ≠ M
/-- what a measure answers of a value or an item -/
def MsC (d : Nat) (i : Bool) (F : Nat) : Prop := ∀ (t : Vt) (v : Value) (w : World) (S : Nat → Prop) (M k o : Nat) (dd : Int), TiAt w S d i t v → (∀ b, S b → b ≠ M) → (∃ e, SmT e t) → VmB w M k dd → k ≤ 1024 → 0 ≤ dd → dd ≤ 1000 → o ≤ 32 → Tb w → Mg M →
  Calls Tryz.prog F #[.pointer (some ⟨M, 0, none⟩), v, .int .i64 (o : Int)] w fun e w' => e = .returned (.bool (msB d i t k o)) ∧ Hid (Only (fun b => b = M) w w' ∧ (msB d i t k o = true → ∃ dd' : Int, VmB w' M ((k + sz d i t : Nat) : Int) dd' ∧ 0 ≤ dd' ∧ dd' ≤ 1000))
/-- and of the parts of a list or a quotation -/
def EvC (d : Nat) (i : Bool) (F Fm : Nat) : Prop := ∀ (l : List Vt) (ao : Option Addr) (cap : Nat) (w : World) (S : Nat → Prop) (M k o : Nat) (dd : Int), (∀ (j : Nat) (x : Vt), l[j]? = some x → ∃ g q u, ao = some ⟨g, q, none⟩ ∧ S g ∧ w.cell? ⟨g, q + j, none⟩ = some u ∧ TiAt w S d i x u) → (∀ b, S b → b ≠ M) → (∀ x ∈ l, ∃ e, SmT e x) → l.length ≤ 1048576 → VmB w M k dd → k ≤ 1024 → 0 ≤ dd → dd ≤ 1000 → o ≤ 32 → Tb w → Mg M →
  Calls Tryz.prog F #[.slice ao l.length cap, .func (.func Fm) #[.pointer (some ⟨M, 0, none⟩)] #[], .int .i64 (o : Int)] w fun e w' => e = .returned (.bool (evB d i l k o)) ∧ Hid (Only (fun b => b = M) w w' ∧ (evB d i l k o = true → ∃ dd' : Int, VmB w' M ((k + (l.map (sz d i)).sum : Nat) : Int) dd' ∧ 0 ≤ dd' ∧ dd' ≤ 1000))
set_option maxRecDepth 100000 in
set_option maxHeartbeats 4000000 in
theorem ev_values (d : Nat) (H : MsC d false 53) : EvC d false 76 53 := by
  intro l ao cap w S M k o dd hl hM hsm hlen hv hk hd1 hd2 ho hT hg
  have HE : Hid (∀ (j : Nat) (x : Vt), l[j]? = some x → ∃ g q u, ao = some ⟨g, q, none⟩ ∧ w.cell? ⟨g, q + j, none⟩ = some u ∧ g ≠ M ∧ ∀ (k1 : Nat) (dd1 : Int) w1, Only (fun b => b = M) w w1 → VmB w1 M k1 dd1 → k1 ≤ 1024 → 0 ≤ dd1 → dd1 ≤ 1000 → Calls Tryz.prog 53 #[.pointer (some ⟨M, 0, none⟩), u, .int .i64 (o : Int)] w1 fun e w' => e = .returned (.bool (msB d false x k1 o)) ∧ Hid (Only (fun b => b = M) w1 w' ∧ (msB d false x k1 o = true → ∃ dd' : Int, VmB w' M ((k1 + sz d false x : Nat) : Int) dd' ∧ 0 ≤ dd' ∧ dd' ≤ 1000))) := by
    intro j x hx
    obtain ⟨g, q, u, p1, p2, p3, p4⟩ := hl j x hx
    refine ⟨g, q, u, p1, p3, hM g p2, fun k1 dd1 w1 o1 hv1 hk1 h1 h2 => ?_⟩
    exact H x u w1 S M k1 o dd1 (p4.only o1 (fun b hb => hM b hb)) hM (hsm x (List.mem_of_getElem? hx)) hv1 hk1 h1 h2 ho (hT.keep o1 hg.1 hg.2.1 hg.2.2) hg
  obtain ⟨N, hN⟩ : ∃ N, N = l.length := ⟨_, rfl⟩
  have HN : Hid (N = l.length ∧ N ≤ 1048576) := ⟨hN, by omega⟩
  have HV : Hid (VmB w M k dd ∧ 0 ≤ dd ∧ dd ≤ 1000 ∧ k ≤ 1024) := ⟨hv, hd1, hd2, hk⟩
  obtain ⟨Z, hZ⟩ : ∃ Z, Z = evB d false l k o := ⟨_, rfl⟩
  have HZ : Hid (Z = evB d false l k o) := hZ
  rw [← hN, ← hZ]
  clear hl hM hsm hlen hv hk hd1 hd2 ho hT hg hN hZ H
  go_enter Tryz.func76, Tryz.ntmps76
  go_wp2
  go_loopw [11] (fun r wr => ∃ j : Nat, r = .int .i64 (j : Int) ∧ j ≤ N ∧ Hid (Z = evB d false (l.drop j) (k + ((l.take j).map (sz d false)).sum) o ∧ k + ((l.take j).map (sz d false)).sum ≤ 1024 ∧ Only (fun b => b = M) w wr ∧ ∃ dd' : Int, VmB wr M ((k + ((l.take j).map (sz d false)).sum : Nat) : Int) dd' ∧ 0 ≤ dd' ∧ dd' ≤ 1000)) (fun r _ => N - vuOf r)
  case atStart => exact ⟨0, rfl, Nat.zero_le _, by simpa using HZ.out, by simpa using HV.out.2.2.2, Only.refl _ _, dd, by simpa using HV.out.1, HV.out.2.1, HV.out.2.2.1⟩
  case round =>
    obtain ⟨j, rfl, hj, HI⟩ := hrel
    obtain ⟨w1, hw1⟩ : ∃ w1, w1 = wr := ⟨_, rfl⟩
    rw [← hw1] at HI ⊢
    clear hw1
    have hNl := HN.out.1
    by_cases hjN : j < N
    · obtain ⟨x, hx⟩ : ∃ x, l[j]? = some x := ⟨l[j]'(by omega), List.getElem?_eq_getElem (by omega)⟩
      obtain ⟨g, q, u, rfl, c0, hgM, hcall⟩ := HE.out j x hx
      obtain ⟨hz, hk1, o1, dd1, hv1, h1, h2⟩ := HI.out
      have c1 := o1.cell c0 hgM
      have HC : Hid _ := hcall _ _ w1 o1 hv1 hk1 h1 h2
      obtain ⟨k1, hk1e⟩ : ∃ k1, k1 = k + ((l.take j).map (sz d false)).sum := ⟨_, rfl⟩
      rw [← hk1e] at HC hz hk1
      have hdr : l.drop j = x :: l.drop (j + 1) := by
        have hlt : j < l.length := by omega
        rw [List.drop_eq_getElem_cons hlt]
        have := List.getElem?_eq_getElem hlt
        rw [hx] at this
        injection this with this
        rw [← this]
      have hst : k + ((l.take (j + 1)).map (sz d false)).sum = k1 + sz d false x := by
        rw [List.take_add_one, hx, hk1e]
        simp
        omega
      have HX : Hid (j < N ∧ Z = evB d false (x :: l.drop (j + 1)) k1 o ∧ k + ((l.take (j + 1)).map (sz d false)).sum = k1 + sz d false x ∧ Only (fun b => b = M) w w1) := ⟨hjN, by rw [← hdr]; exact hz, hst, o1⟩
      have i1 : (j : Int) < (N : Int) := by omega
      have i0 : (0 : Int) ≤ (j : Int) := by omega
      have i4 : j ≤ 1048576 := by have := HN.out.2; omega
      obtain ⟨b, hb⟩ : ∃ b, b = msB d false x k1 o := ⟨_, rfl⟩
      have HB : Hid (b = msB d false x k1 o) := hb
      rw [← hb] at HC
      clear hz hk1 o1 hv1 h1 h2 hk1e hdr hst hcall c0 hgM hx hNl hjN hj HI hb
      go_wp2_with fail
      refine (show Calls Tryz.prog 53 _ _ _ from HC.out).mono ?_
      rintro e w2 ⟨rfl, G2⟩
      clear HC c1
      cases b with
      | false =>
        have hZf : Z = false := by
          rw [HX.out.2.1]
          unfold evB
          rw [← HB.out]
          rfl
        have HF : Hid (Z = false ∧ Only (fun b => b = M) w w2) := ⟨hZf, HX.out.2.2.2.trans G2.out.1 (fun _ _ g => g)⟩
        clear G2 hZf
        go_wp2
        go_ret
        exact ⟨by rw [HF.out.1]; rfl, HF.out.2, fun h => by rw [HF.out.1] at h; cases h⟩
      | true =>
        have HF : Hid (Z = evB d false (l.drop (j + 1)) (k + ((l.take (j + 1)).map (sz d false)).sum) o ∧ k + ((l.take (j + 1)).map (sz d false)).sum ≤ 1024 ∧ Only (fun b => b = M) w w2 ∧ ∃ dd' : Int, VmB w2 M ((k + ((l.take (j + 1)).map (sz d false)).sum : Nat) : Int) dd' ∧ 0 ≤ dd' ∧ dd' ≤ 1000) := by
          rw [HX.out.2.2.1]
          have hm := HB.out.symm
          refine ⟨?_, ?_, HX.out.2.2.2.trans G2.out.1 (fun _ _ g => g), G2.out.2 rfl⟩
          · have := HX.out.2.1
            unfold evB at this
            rw [hm] at this
            simpa using this
          · unfold msB at hm
            simp only [Bool.and_eq_true, decide_eq_true_eq] at hm
            exact hm.1.2
        have HJ : Hid (j < N) := HX.out.1
        clear G2 HX HB
        go_wp2
        go_roundw
        case rel => exact ⟨j + 1, by go_num, by have := HJ.out; omega, HF⟩
        case measure => simp only [vuOf]; have := HJ.out; omega
    · obtain rfl : j = N := by omega
      have i1 : ¬ (j : Int) < (j : Int) := by omega
      have HF : Hid (Z = true ∧ Only (fun b => b = M) w w1 ∧ ∃ dd' : Int, VmB w1 M ((k + (l.map (sz d false)).sum : Nat) : Int) dd' ∧ 0 ≤ dd' ∧ dd' ≤ 1000) := by
        obtain ⟨hz, _, o1, hh⟩ := HI.out
        rw [hNl, List.take_length] at hh
        rw [hNl, List.drop_length] at hz
        exact ⟨hz, o1, hh⟩
      clear HI hNl hjN hj
      go_wp2
      go_ret
      exact ⟨by rw [HF.out.1]; rfl, HF.out.2.1, fun _ => HF.out.2.2⟩
set_option maxRecDepth 100000 in
set_option maxHeartbeats 4000000 in
theorem ev_items (d : Nat) (H : MsC d true 78) : EvC d true 77 78 := by
  intro l ao cap w S M k o dd hl hM hsm hlen hv hk hd1 hd2 ho hT hg
  have HE : Hid (∀ (j : Nat) (x : Vt), l[j]? = some x → ∃ g q u, ao = some ⟨g, q, none⟩ ∧ w.cell? ⟨g, q + j, none⟩ = some u ∧ g ≠ M ∧ ∀ (k1 : Nat) (dd1 : Int) w1, Only (fun b => b = M) w w1 → VmB w1 M k1 dd1 → k1 ≤ 1024 → 0 ≤ dd1 → dd1 ≤ 1000 → Calls Tryz.prog 78 #[.pointer (some ⟨M, 0, none⟩), u, .int .i64 (o : Int)] w1 fun e w' => e = .returned (.bool (msB d true x k1 o)) ∧ Hid (Only (fun b => b = M) w1 w' ∧ (msB d true x k1 o = true → ∃ dd' : Int, VmB w' M ((k1 + sz d true x : Nat) : Int) dd' ∧ 0 ≤ dd' ∧ dd' ≤ 1000))) := by
    intro j x hx
    obtain ⟨g, q, u, p1, p2, p3, p4⟩ := hl j x hx
    refine ⟨g, q, u, p1, p3, hM g p2, fun k1 dd1 w1 o1 hv1 hk1 h1 h2 => ?_⟩
    exact H x u w1 S M k1 o dd1 (p4.only o1 (fun b hb => hM b hb)) hM (hsm x (List.mem_of_getElem? hx)) hv1 hk1 h1 h2 ho (hT.keep o1 hg.1 hg.2.1 hg.2.2) hg
  obtain ⟨N, hN⟩ : ∃ N, N = l.length := ⟨_, rfl⟩
  have HN : Hid (N = l.length ∧ N ≤ 1048576) := ⟨hN, by omega⟩
  have HV : Hid (VmB w M k dd ∧ 0 ≤ dd ∧ dd ≤ 1000 ∧ k ≤ 1024) := ⟨hv, hd1, hd2, hk⟩
  obtain ⟨Z, hZ⟩ : ∃ Z, Z = evB d true l k o := ⟨_, rfl⟩
  have HZ : Hid (Z = evB d true l k o) := hZ
  rw [← hN, ← hZ]
  clear hl hM hsm hlen hv hk hd1 hd2 ho hT hg hN hZ H
  go_enter Tryz.func77, Tryz.ntmps77
  go_wp2
  go_loopw [11] (fun r wr => ∃ j : Nat, r = .int .i64 (j : Int) ∧ j ≤ N ∧ Hid (Z = evB d true (l.drop j) (k + ((l.take j).map (sz d true)).sum) o ∧ k + ((l.take j).map (sz d true)).sum ≤ 1024 ∧ Only (fun b => b = M) w wr ∧ ∃ dd' : Int, VmB wr M ((k + ((l.take j).map (sz d true)).sum : Nat) : Int) dd' ∧ 0 ≤ dd' ∧ dd' ≤ 1000)) (fun r _ => N - vuOf r)
  case atStart => exact ⟨0, rfl, Nat.zero_le _, by simpa using HZ.out, by simpa using HV.out.2.2.2, Only.refl _ _, dd, by simpa using HV.out.1, HV.out.2.1, HV.out.2.2.1⟩
  case round =>
    obtain ⟨j, rfl, hj, HI⟩ := hrel
    obtain ⟨w1, hw1⟩ : ∃ w1, w1 = wr := ⟨_, rfl⟩
    rw [← hw1] at HI ⊢
    clear hw1
    have hNl := HN.out.1
    by_cases hjN : j < N
    · obtain ⟨x, hx⟩ : ∃ x, l[j]? = some x := ⟨l[j]'(by omega), List.getElem?_eq_getElem (by omega)⟩
      obtain ⟨g, q, u, rfl, c0, hgM, hcall⟩ := HE.out j x hx
      obtain ⟨hz, hk1, o1, dd1, hv1, h1, h2⟩ := HI.out
      have c1 := o1.cell c0 hgM
      have HC : Hid _ := hcall _ _ w1 o1 hv1 hk1 h1 h2
      obtain ⟨k1, hk1e⟩ : ∃ k1, k1 = k + ((l.take j).map (sz d true)).sum := ⟨_, rfl⟩
      rw [← hk1e] at HC hz hk1
      have hdr : l.drop j = x :: l.drop (j + 1) := by
        have hlt : j < l.length := by omega
        rw [List.drop_eq_getElem_cons hlt]
        have := List.getElem?_eq_getElem hlt
        rw [hx] at this
        injection this with this
        rw [← this]
      have hst : k + ((l.take (j + 1)).map (sz d true)).sum = k1 + sz d true x := by
        rw [List.take_add_one, hx, hk1e]
        simp
        omega
      have HX : Hid (j < N ∧ Z = evB d true (x :: l.drop (j + 1)) k1 o ∧ k + ((l.take (j + 1)).map (sz d true)).sum = k1 + sz d true x ∧ Only (fun b => b = M) w w1) := ⟨hjN, by rw [← hdr]; exact hz, hst, o1⟩
      have i1 : (j : Int) < (N : Int) := by omega
      have i0 : (0 : Int) ≤ (j : Int) := by omega
      have i4 : j ≤ 1048576 := by have := HN.out.2; omega
      obtain ⟨b, hb⟩ : ∃ b, b = msB d true x k1 o := ⟨_, rfl⟩
      have HB : Hid (b = msB d true x k1 o) := hb
      rw [← hb] at HC
      clear hz hk1 o1 hv1 h1 h2 hk1e hdr hst hcall c0 hgM hx hNl hjN hj HI hb
      go_wp2_with fail
      refine (show Calls Tryz.prog 78 _ _ _ from HC.out).mono ?_
      rintro e w2 ⟨rfl, G2⟩
      clear HC c1
      cases b with
      | false =>
        have hZf : Z = false := by
          rw [HX.out.2.1]
          unfold evB
          rw [← HB.out]
          rfl
        have HF : Hid (Z = false ∧ Only (fun b => b = M) w w2) := ⟨hZf, HX.out.2.2.2.trans G2.out.1 (fun _ _ g => g)⟩
        clear G2 hZf
        go_wp2
        go_ret
        exact ⟨by rw [HF.out.1]; rfl, HF.out.2, fun h => by rw [HF.out.1] at h; cases h⟩
      | true =>
        have HF : Hid (Z = evB d true (l.drop (j + 1)) (k + ((l.take (j + 1)).map (sz d true)).sum) o ∧ k + ((l.take (j + 1)).map (sz d true)).sum ≤ 1024 ∧ Only (fun b => b = M) w w2 ∧ ∃ dd' : Int, VmB w2 M ((k + ((l.take (j + 1)).map (sz d true)).sum : Nat) : Int) dd' ∧ 0 ≤ dd' ∧ dd' ≤ 1000) := by
          rw [HX.out.2.2.1]
          have hm := HB.out.symm
          refine ⟨?_, ?_, HX.out.2.2.2.trans G2.out.1 (fun _ _ g => g), G2.out.2 rfl⟩
          · have := HX.out.2.1
            unfold evB at this
            rw [hm] at this
            simpa using this
          · unfold msB at hm
            simp only [Bool.and_eq_true, decide_eq_true_eq] at hm
            exact hm.1.2
        have HJ : Hid (j < N) := HX.out.1
        clear G2 HX HB
        go_wp2
        go_roundw
        case rel => exact ⟨j + 1, by go_num, by have := HJ.out; omega, HF⟩
        case measure => simp only [vuOf]; have := HJ.out; omega
    · obtain rfl : j = N := by omega
      have i1 : ¬ (j : Int) < (j : Int) := by omega
      have HF : Hid (Z = true ∧ Only (fun b => b = M) w w1 ∧ ∃ dd' : Int, VmB w1 M ((k + (l.map (sz d true)).sum : Nat) : Int) dd' ∧ 0 ≤ dd' ∧ dd' ≤ 1000) := by
        obtain ⟨hz, _, o1, hh⟩ := HI.out
        rw [hNl, List.take_length] at hh
        rw [hNl, List.drop_length] at hz
        exact ⟨hz, o1, hh⟩
      clear HI hNl hjN hj
      go_wp2
      go_ret
      exact ⟨by rw [HF.out.1]; rfl, HF.out.2.1, fun _ => HF.out.2.2⟩
end Go.Proofs.YthlloenonjagbaaGreatDoor
