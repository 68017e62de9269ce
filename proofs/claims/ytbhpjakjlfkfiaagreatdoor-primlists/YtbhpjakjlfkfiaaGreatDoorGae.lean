/- How large a value is, and whether it is sound: the plain functions, and the leaves. soundAlone: of each kind that holds no others. A measure goes through lists: every; value, item. Copies of rows: anew and copyEach. The numbers by which the library's contract on slices.Grow stands over this program. -/
import Derived.Test.YtbhpjakjlfkfiaaGreatDoorGaa
import Derived.Test.YtbhpjakjlfkfiaaGreatDoorGad
import Derived.Deep.AppendSrc
import Derived.Lib.SliceRun
import Derived.Laws.MakeOwn
import Derived.Laws.CopyRow
import Derived.Shelf.Spec.SlicesGrow
import Derived.Test.YtbhpjakjlfkfiaaGreatDoorProg
namespace Go.Proofs.YtbhpjakjlfkfiaaGreatDoor
open Go.RowKit Go.Lib
set_option linter.unusedSimpArgs false
set_option linter.unusedVariables false
/-- the tables that are read, as they begin -/
def Tb (w : World) : Prop := Nog w ∧ Lib.Utf8Tabs 3 4 w
/-- is a text one of characters? -/
def vlB (s : ByteArray) : Bool := Lib.validD s.data.toList
/-- is a value sound that holds no others? -/
def alB (t : Vt) : Bool :=
  if t.k = 1 then decide (-1152921504606846976 ≤ t.n) && decide (t.n ≤ 1152921504606846975) else if t.k = 2 then decide (t.s.size ≤ 4096) && vlB t.s
  else if t.k = 6 then decide (1 ≤ t.n) && decide (t.n ≤ 1048576) else decide (t.k = 3)
/-- how many values and items there are -/
def sz : Nat → Bool → Vt → Nat
  | 0, _, _ => 1
  | d + 1, true, t => if t.k = 7 ∨ t.k = 8 then 1 else sz d false t
  | d + 1, false, t => 1 + (t.l.map (sz d (decide (t.k = 5)))).sum
/-- how many lists and quotations stand within one another -/
def dp : Nat → Bool → Vt → Nat
  | 0, _, _ => 0
  | d + 1, true, t => if t.k = 7 ∨ t.k = 8 then 0 else dp d false t
  | d + 1, false, t => if t.k = 4 ∨ t.k = 5 then 1 + ((t.l.map (dp d (decide (t.k = 5)))).foldl max 0) else 0
/-- is each part what it may be? -/
def okV : Nat → Bool → Vt → Bool
  | 0, _, _ => false
  | d + 1, true, t => if t.k = 7 then clB t.s else if t.k = 8 then false else okV d false t
  | d + 1, false, t => if t.k = 4 ∨ t.k = 5 then t.l.all (okV d (decide (t.k = 5))) else alB t
def msB (d : Nat) (i : Bool) (t : Vt) (k o : Nat) : Bool := okV d i t && decide (k + sz d i t ≤ 1024) && decide (o + dp d i t ≤ 32)
/-- the same of parts, one behind the other -/
def evB (d : Nat) (i : Bool) : List Vt → Nat → Nat → Bool
  | [], _, _ => true
  | x :: r, k, o => msB d i x k o && evB d i r (k + sz d i x) o
theorem sz_pos : ∀ (d : Nat) (i : Bool) (t : Vt), 1 ≤ sz d i t
  | 0, _, _ => Nat.le_refl _
  | d + 1, true, t => by
    unfold sz
    split
    · exact Nat.le_refl _
    · exact sz_pos d false t
  | d + 1, false, t => by unfold sz; omega
theorem foldl_max (l : List Nat) : ∀ (a : Nat), l.foldl max a = max a (l.foldl max 0) := by
  induction l with
  | nil => intro a; simp
  | cons x l ih => intro a; simp only [List.foldl_cons]; rw [ih (max a x), ih (max 0 x)]; omega
theorem evB_eq (d : Nat) (i : Bool) : ∀ (l : List Vt) (k o : Nat), k ≤ 1024 → o ≤ 32 → evB d i l k o = (l.all (okV d i) && decide (k + (l.map (sz d i)).sum ≤ 1024) && decide (o + (l.map (dp d i)).foldl max 0 ≤ 32))
  | [], k, o, hk, ho => by simp [evB, hk, ho]
  | x :: r, k, o, hk, ho => by
    have hp := sz_pos d i x
    simp only [evB, msB, List.all_cons, List.map_cons, List.sum_cons, List.foldl_cons]
    rw [foldl_max _ (max 0 (dp d i x))]
    by_cases h1 : k + sz d i x ≤ 1024
    · rw [evB_eq d i r (k + sz d i x) o h1 ho]
      rw [Bool.eq_iff_iff]
      simp only [Bool.and_eq_true, decide_eq_true_eq]
      constructor
      · rintro ⟨⟨⟨a1, a2⟩, a3⟩, ⟨a4, a5⟩, a6⟩
        exact ⟨⟨⟨a1, a4⟩, by omega⟩, by omega⟩
      · rintro ⟨⟨⟨a1, a4⟩, a2⟩, a3⟩
        exact ⟨⟨⟨a1, h1⟩, by omega⟩, ⟨a4, by omega⟩, by omega⟩
    · have e1 : decide (k + sz d i x ≤ 1024) = false := decide_eq_false h1
      have e2 : decide (k + (sz d i x + (r.map (sz d i)).sum) ≤ 1024) = false := decide_eq_false (by omega)
      rw [e1, e2]
      simp
set_option maxRecDepth 100000 in
theorem vcount_all (M : Nat) (k d : Int) (w : World) (h : VmB w M k d) (h1 : 0 ≤ k) (h2 : k ≤ 2000) : Calls Tryz.prog 143 #[.pointer (some ⟨M, 0, none⟩)] w fun e w' => e = .returned (.bool (decide (k + 1 ≤ 1024))) ∧ Only (fun b => b = M) w w' ∧ VmB w' M (k + 1) d := by
  have c0 := wr_cell h 0
  have f0 := wr_froz h 0
  simp only [List.getElem?_toArray, List.getElem?_cons_zero] at c0
  have HM : Hid (VmB w M k d) := h
  clear h
  go_enter Tryz.func143, Tryz.ntmps143
  go_wp2
  go_ret
  exact ⟨rfl, (Only.refl (fun b => b = M) w).setCell _ _ (fun _ => rfl), (heap_setCell_same _ _ _ _ _ _ HM.out).trans rfl⟩
set_option maxRecDepth 100000 in
theorem venter_all (M : Nat) (k d o : Int) (w : World) (h : VmB w M k d) (h1 : 0 ≤ d) (h2 : d ≤ 1000) (h3 : 0 ≤ o) (h4 : o ≤ 1000) : Calls Tryz.prog 144 #[.pointer (some ⟨M, 0, none⟩), .int .i64 o] w fun e w' => e = .returned (.bool (decide (o ≤ 32))) ∧ Only (fun b => b = M) w w' ∧ ∃ d', VmB w' M k d' ∧ 0 ≤ d' ∧ d' ≤ 1000 := by
  have c1 := wr_cell h 1
  have f1 := wr_froz h 1
  simp only [List.getElem?_toArray, List.getElem?_cons_succ, List.getElem?_cons_zero] at c1
  have HM : Hid (VmB w M k d) := h
  clear h
  go_enter Tryz.func144, Tryz.ntmps144
  go_wp2
  all_goals
    go_ret
    refine ⟨rfl, (Only.refl (fun b => b = M) w).setCell _ _ (fun _ => rfl), _, (heap_setCell_same _ _ _ _ _ _ HM.out).trans rfl, ?_, ?_⟩ <;> omega
theorem valid_any (s : ByteArray) (hs : s.size ≤ 9223372036854775807) (w : World) (h : Tb w) : Calls Tryz.prog 159 #[.string s] w fun e w' => e = .returned (.bool (vlB s)) ∧ Only (fun _ => False) w w' := by
  have := Any.utf8_ValidString Tryz.laysValid s w hs h.2
  refine (show Calls Tryz.prog 159 _ _ _ from this).mono ?_
  rintro e w' ⟨he, hb⟩
  exact ⟨he, ⟨hb.os, hb.tape, hb.output, hb.size, fun k hk _ => hb.block k hk⟩⟩
end Go.Proofs.YtbhpjakjlfkfiaaGreatDoor
namespace Go.Proofs.YtbhpjakjlfkfiaaGreatDoor
open Go.RowKit Go.Lib
set_option linter.unusedSimpArgs false
set_option linter.unusedVariables false
theorem Tb.keep {w w' : World} {M : Nat} (h : Tb w) (o : Only (fun b => b = M) w w') (hg : 2 ≠ M) (h0 : 3 ≠ M) (h1 : 4 ≠ M) : Tb w' :=
  ⟨nog_keep h.1 o hg, fun c hc => o.cell (h.2.1 c hc) h0, fun i hi => ⟨o.cell (h.2.2 i hi).1 h1, o.cell (h.2.2 i hi).2 h1⟩⟩
theorem Tb.frame {w w' : World} (h : Tb w) (o : Only (fun _ => False) w w') : Tb w' :=
  ⟨h.1.frame o, fun c hc => o.cell (h.2.1 c hc) (fun g => g), fun i hi => ⟨o.cell (h.2.2 i hi).1 (fun g => g), o.cell (h.2.2 i hi).2 (fun g => g)⟩⟩
theorem Tb.lt {w : World} (h : Tb w) : 2 < w.heap.size ∧ 3 < w.heap.size ∧ 4 < w.heap.size :=
  ⟨nog_lt h.1, World.block_lt_of_cell? w _ (h.2.1 0 (by omega)), World.block_lt_of_cell? w _ (h.2.2 0 (by omega)).1⟩
theorem zI (W : World) : (zeroValue 55).run Tryz.prog W = .ok (.agg #[.int .i64 0]) W := by kernel_rfl
theorem zS (W : World) : (zeroValue 79).run Tryz.prog W = .ok (.agg #[.string ⟨#[]⟩]) W := by kernel_rfl
theorem zB (W : World) : (zeroValue 87).run Tryz.prog W = .ok (.agg #[.int .i64 0]) W := by kernel_rfl
theorem zL (W : World) : (zeroValue 81).run Tryz.prog W = .ok (.agg #[.slice none 0 0]) W := by kernel_rfl
theorem zQ (W : World) : (zeroValue 85).run Tryz.prog W = .ok (.agg #[.slice none 0 0]) W := by kernel_rfl
theorem zO (W : World) : (zeroValue 59).run Tryz.prog W = .ok (.agg #[.bool false]) W := by kernel_rfl
theorem zC (W : World) : (zeroValue 147).run Tryz.prog W = .ok (.agg #[.string ⟨#[]⟩]) W := by kernel_rfl
set_option maxRecDepth 100000 in
theorem alone1 (n : Int) (w : World) : Calls Tryz.prog 148 #[.iface 55 (.agg #[.int .i64 n])] w fun e w' => e = .returned (.bool (decide (-1152921504606846976 ≤ n) && decide (n ≤ 1152921504606846975))) ∧ Only (fun _ => False) w w' := by
  have hi := va_hit 55 51 _ Tryz.underlying55 (by intro m h; cases h)
  have O0 : Hid (Only (fun _ => False) w w) := Only.refl _ _
  by_cases h1 : (-1152921504606846976 : Int) ≤ n
  · rw [decide_eq_true h1]
    go_enter Tryz.func148, Tryz.ntmps148
    go_wp2
    all_goals
      go_ret
      refine ⟨by simp, ?_⟩
      repeat (first | exact O0.out | refine Only.alloc ?_ _)
  · rw [decide_eq_false h1]
    go_enter Tryz.func148, Tryz.ntmps148
    go_wp2
    all_goals
      go_ret
      refine ⟨by simp, ?_⟩
      repeat (first | exact O0.out | refine Only.alloc ?_ _)
set_option maxRecDepth 100000 in
theorem alone2 (s : ByteArray) (hs : s.size ≤ 140737488355328) (w : World) (hT : Tb w) : Calls Tryz.prog 148 #[.iface 79 (.agg #[.string s])] w fun e w' => e = .returned (.bool (decide (s.size ≤ 4096) && vlB s)) ∧ Only (fun _ => False) w w' := by
  have mi := va_miss 79 55 51 _ Tryz.underlying55 (by intro m h; cases h) (by decide) _ zI
  have hi := va_hit 79 51 _ Tryz.underlying79 (by intro m h; cases h)
  have O0 : Hid (Only (fun _ => False) w w) := Only.refl _ _
  have HV : Hid (∀ w1, Only (fun _ => False) w w1 → Calls Tryz.prog 159 #[.string s] w1 fun e w' => e = .returned (.bool (vlB s)) ∧ Only (fun _ => False) w1 w') := fun w1 o => valid_any s (by omega) w1 (hT.frame o)
  obtain ⟨b, hb⟩ : ∃ b, b = vlB s := ⟨_, rfl⟩
  rw [← hb] at HV ⊢
  clear hT hb
  by_cases h4 : s.size ≤ 4096
  · have i4 : (s.size : Int) ≤ 4096 := by omega
    rw [decide_eq_true h4]
    clear h4
    go_enter Tryz.func148, Tryz.ntmps148
    go_wp2_with fail
    refine (show Calls Tryz.prog 159 _ _ _ from HV.out _ (by repeat' first | exact O0.out | apply Only.alloc)).mono ?_
    rintro e w1 ⟨rfl, o1⟩
    have O1 : Hid (Only (fun _ => False) w w1) := Only.trans (show Only (fun _ => False) w _ by repeat' first | exact (Only.refl _ _) | apply Only.alloc) o1 (fun _ _ g => g)
    clear HV o1
    go_wp2
    go_ret
    exact ⟨by simp, O1.out⟩
  · have i4 : ¬ (s.size : Int) ≤ 4096 := by omega
    rw [decide_eq_false h4]
    clear h4 HV
    go_enter Tryz.func148, Tryz.ntmps148
    go_wp2
    go_ret
    refine ⟨by simp, ?_⟩
    repeat (first | exact O0.out | refine Only.alloc ?_ _)
set_option maxRecDepth 100000 in
theorem alone6 (n : Int) (w : World) : Calls Tryz.prog 148 #[.iface 87 (.agg #[.int .i64 n])] w fun e w' => e = .returned (.bool (decide (1 ≤ n) && decide (n ≤ 1048576))) ∧ Only (fun _ => False) w w' := by
  have mi := va_miss 87 55 51 _ Tryz.underlying55 (by intro m h; cases h) (by decide) _ zI
  have ms := va_miss 87 79 51 _ Tryz.underlying79 (by intro m h; cases h) (by decide) _ zS
  have hi := va_hit 87 51 _ Tryz.underlying87 (by intro m h; cases h)
  have O0 : Hid (Only (fun _ => False) w w) := Only.refl _ _
  by_cases h1 : (1 : Int) ≤ n
  · rw [decide_eq_true h1]
    go_enter Tryz.func148, Tryz.ntmps148
    go_wp2
    all_goals
      go_ret
      refine ⟨by simp, ?_⟩
      repeat (first | exact O0.out | refine Only.alloc ?_ _)
  · rw [decide_eq_false h1]
    go_enter Tryz.func148, Tryz.ntmps148
    go_wp2
    all_goals
      go_ret
      refine ⟨by simp, ?_⟩
      repeat (first | exact O0.out | refine Only.alloc ?_ _)
set_option maxRecDepth 100000 in
theorem alone3 (b : Bool) (w : World) : Calls Tryz.prog 148 #[.iface 59 (.agg #[.bool b])] w fun e w' => e = .returned (.bool true) ∧ Only (fun _ => False) w w' := by
  have mi := va_miss 59 55 51 _ Tryz.underlying55 (by intro m h; cases h) (by decide) _ zI
  have ms := va_miss 59 79 51 _ Tryz.underlying79 (by intro m h; cases h) (by decide) _ zS
  have mb := va_miss 59 87 51 _ Tryz.underlying87 (by intro m h; cases h) (by decide) _ zB
  have hi := va_hit 59 51 _ Tryz.underlying59 (by intro m h; cases h)
  have O0 : Hid (Only (fun _ => False) w w) := Only.refl _ _
  go_enter Tryz.func148, Tryz.ntmps148
  go_wp2
  all_goals
    go_ret
    refine ⟨rfl, ?_⟩
    repeat (first | exact O0.out | refine Only.alloc ?_ _)
/-- of any that is no list and no quotation -/
theorem alone_any {S : Nat → Prop} {d : Nat} {t : Vt} {v : Value} {w : World} (h : TiAt w S d false t v) (hk : ¬ (t.k = 4 ∨ t.k = 5)) (hs : t.s.size ≤ 140737488355328) : ∀ w1, Tb w1 → Calls Tryz.prog 148 #[v] w1 fun e w' => e = .returned (.bool (alB t)) ∧ Only (fun _ => False) w1 w' := by
  intro w1 hT
  obtain ⟨k, n, s, l⟩ := t
  cases d with
  | zero => exact h.elim
  | succ d =>
    rcases h with ⟨e, _, rfl⟩ | ⟨e, _, rfl⟩ | ⟨e, _, rfl⟩ | ⟨e, _, rfl⟩ | ⟨e, _, rfl⟩ | ⟨e, _⟩
    · simp only at e
      subst e
      exact alone1 n w1
    · simp only at e
      subst e
      exact alone2 s hs w1 hT
    · simp only at e
      subst e
      exact alone3 _ w1
    · simp only at e
      subst e
      exact alone6 n w1
    · simp only at e
      subst e
      exact alone_bad _ bad_nil w1
    · exact absurd e hk
end Go.Proofs.YtbhpjakjlfkfiaaGreatDoor
namespace Go.Proofs.YtbhpjakjlfkfiaaGreatDoor
open Go.RowKit Go.Lib
set_option linter.unusedSimpArgs false
set_option linter.unusedVariables false
/-- a measure's block is none of the tables' -/
def Mg (M : Nat) : Prop := 2 ≠ M ∧ 3 ≠ M ∧ 4 ≠ M
/-- what a measure answers of a value or an item -/
def MsC (d : Nat) (i : Bool) (F : Nat) : Prop := ∀ (t : Vt) (v : Value) (w : World) (S : Nat → Prop) (M k o : Nat) (dd : Int), TiAt w S d i t v → (∀ b, S b → b ≠ M) → (∃ e, SmT e t) → VmB w M k dd → k ≤ 1024 → 0 ≤ dd → dd ≤ 1000 → o ≤ 32 → Tb w → Mg M →
  Calls Tryz.prog F #[.pointer (some ⟨M, 0, none⟩), v, .int .i64 (o : Int)] w fun e w' => e = .returned (.bool (msB d i t k o)) ∧ Hid (Only (fun b => b = M) w w' ∧ (msB d i t k o = true → ∃ dd' : Int, VmB w' M ((k + sz d i t : Nat) : Int) dd' ∧ 0 ≤ dd' ∧ dd' ≤ 1000))
/-- and of the parts of a list or a quotation -/
def EvC (d : Nat) (i : Bool) (F Fm : Nat) : Prop := ∀ (l : List Vt) (ao : Option Addr) (cap : Nat) (w : World) (S : Nat → Prop) (M k o : Nat) (dd : Int), (∀ (j : Nat) (x : Vt), l[j]? = some x → ∃ g q u, ao = some ⟨g, q, none⟩ ∧ S g ∧ w.cell? ⟨g, q + j, none⟩ = some u ∧ TiAt w S d i x u) → (∀ b, S b → b ≠ M) → (∀ x ∈ l, ∃ e, SmT e x) → l.length ≤ 2513169434900 → VmB w M k dd → k ≤ 1024 → 0 ≤ dd → dd ≤ 1000 → o ≤ 32 → Tb w → Mg M →
  Calls Tryz.prog F #[.slice ao l.length cap, .func (.func Fm) #[.pointer (some ⟨M, 0, none⟩)] #[], .int .i64 (o : Int)] w fun e w' => e = .returned (.bool (evB d i l k o)) ∧ Hid (Only (fun b => b = M) w w' ∧ (evB d i l k o = true → ∃ dd' : Int, VmB w' M ((k + (l.map (sz d i)).sum : Nat) : Int) dd' ∧ 0 ≤ dd' ∧ dd' ≤ 1000))
set_option maxRecDepth 100000 in
set_option maxHeartbeats 4000000 in
theorem ev_values (d : Nat) (H : MsC d false 120) : EvC d false 145 120 := by
  intro l ao cap w S M k o dd hl hM hsm hlen hv hk hd1 hd2 ho hT hg
  have HE : Hid (∀ (j : Nat) (x : Vt), l[j]? = some x → ∃ g q u, ao = some ⟨g, q, none⟩ ∧ w.cell? ⟨g, q + j, none⟩ = some u ∧ g ≠ M ∧ ∀ (k1 : Nat) (dd1 : Int) w1, Only (fun b => b = M) w w1 → VmB w1 M k1 dd1 → k1 ≤ 1024 → 0 ≤ dd1 → dd1 ≤ 1000 → Calls Tryz.prog 120 #[.pointer (some ⟨M, 0, none⟩), u, .int .i64 (o : Int)] w1 fun e w' => e = .returned (.bool (msB d false x k1 o)) ∧ Hid (Only (fun b => b = M) w1 w' ∧ (msB d false x k1 o = true → ∃ dd' : Int, VmB w' M ((k1 + sz d false x : Nat) : Int) dd' ∧ 0 ≤ dd' ∧ dd' ≤ 1000))) := by
    intro j x hx
    obtain ⟨g, q, u, p1, p2, p3, p4⟩ := hl j x hx
    refine ⟨g, q, u, p1, p3, hM g p2, fun k1 dd1 w1 o1 hv1 hk1 h1 h2 => ?_⟩
    exact H x u w1 S M k1 o dd1 (p4.only o1 (fun b hb => hM b hb)) hM (hsm x (List.mem_of_getElem? hx)) hv1 hk1 h1 h2 ho (hT.keep o1 hg.1 hg.2.1 hg.2.2) hg
  obtain ⟨N, hN⟩ : ∃ N, N = l.length := ⟨_, rfl⟩
  have HN : Hid (N = l.length ∧ N ≤ 2513169434900) := ⟨hN, by omega⟩
  have HV : Hid (VmB w M k dd ∧ 0 ≤ dd ∧ dd ≤ 1000 ∧ k ≤ 1024) := ⟨hv, hd1, hd2, hk⟩
  obtain ⟨Z, hZ⟩ : ∃ Z, Z = evB d false l k o := ⟨_, rfl⟩
  have HZ : Hid (Z = evB d false l k o) := hZ
  rw [← hN, ← hZ]
  clear hl hM hsm hlen hv hk hd1 hd2 ho hT hg hN hZ H
  go_enter Tryz.func145, Tryz.ntmps145
  go_wp2
  go_loopw [11] (fun r wr => ∃ j : Nat, r = .int .i64 (j : Int) ∧ j ≤ N ∧ Hid (Z = evB d false (l.drop j) (k + ((l.take j).map (sz d false)).sum) o ∧ k + ((l.take j).map (sz d false)).sum ≤ 1024 ∧ Only (fun b => b = M) w wr ∧ ∃ dd' : Int, VmB wr M ((k + ((l.take j).map (sz d false)).sum : Nat) : Int) dd' ∧ 0 ≤ dd' ∧ dd' ≤ 1000)) (fun r _ => N - vuOf r)
  case atStart => exact ⟨0, rfl, Nat.zero_le _, by simpa using HZ.out, by simpa using HV.out.2.2.2, Only.refl _ _, dd, by simpa using HV.out.1, HV.out.2.1, HV.out.2.2.1⟩
  case round =>
    obtain ⟨j, rfl, hj, HI⟩ := hrel
    obtain ⟨w1, hw1⟩ : ∃ w1, w1 = wr := ⟨_, rfl⟩
    rw [← hw1] at HI ⊢
    clear hw1
    have hNl := HN.out.1
    by_cases hjN : j < N
    · obtain ⟨x, hx⟩ : ∃ x, l[j]? = some x := ⟨l[j]'(by omega), List.getElem?_eq_getElem (by omega)⟩
      obtain ⟨g, q, u, rfl, c0, hgM, hcall⟩ := HE.out j x hx
      obtain ⟨hz, hk1, o1, dd1, hv1, h1, h2⟩ := HI.out
      have c1 := o1.cell c0 hgM
      have HC : Hid _ := hcall _ _ w1 o1 hv1 hk1 h1 h2
      obtain ⟨k1, hk1e⟩ : ∃ k1, k1 = k + ((l.take j).map (sz d false)).sum := ⟨_, rfl⟩
      rw [← hk1e] at HC hz hk1
      have hdr : l.drop j = x :: l.drop (j + 1) := by
        have hlt : j < l.length := by omega
        rw [List.drop_eq_getElem_cons hlt]
        have := List.getElem?_eq_getElem hlt
        rw [hx] at this
        injection this with this
        rw [← this]
      have hst : k + ((l.take (j + 1)).map (sz d false)).sum = k1 + sz d false x := by
        rw [List.take_add_one, hx, hk1e]
        simp
        omega
      have HX : Hid (j < N ∧ Z = evB d false (x :: l.drop (j + 1)) k1 o ∧ k + ((l.take (j + 1)).map (sz d false)).sum = k1 + sz d false x ∧ Only (fun b => b = M) w w1) := ⟨hjN, by rw [← hdr]; exact hz, hst, o1⟩
      have i1 : (j : Int) < (N : Int) := by omega
      have i0 : (0 : Int) ≤ (j : Int) := by omega
      have i4 : j ≤ 2513169434900 := by have := HN.out.2; omega
      obtain ⟨b, hb⟩ : ∃ b, b = msB d false x k1 o := ⟨_, rfl⟩
      have HB : Hid (b = msB d false x k1 o) := hb
      rw [← hb] at HC
      clear hz hk1 o1 hv1 h1 h2 hk1e hdr hst hcall c0 hgM hx hNl hjN hj HI hb
      go_wp2_with fail
      refine (show Calls Tryz.prog 120 _ _ _ from HC.out).mono ?_
      rintro e w2 ⟨rfl, G2⟩
      clear HC c1
      cases b with
      | false =>
        have hZf : Z = false := by
          rw [HX.out.2.1]
          unfold evB
          rw [← HB.out]
          rfl
        have HF : Hid (Z = false ∧ Only (fun b => b = M) w w2) := ⟨hZf, HX.out.2.2.2.trans G2.out.1 (fun _ _ g => g)⟩
        clear G2 hZf
        go_wp2
        go_ret
        exact ⟨by rw [HF.out.1]; rfl, HF.out.2, fun h => by rw [HF.out.1] at h; cases h⟩
      | true =>
        have HF : Hid (Z = evB d false (l.drop (j + 1)) (k + ((l.take (j + 1)).map (sz d false)).sum) o ∧ k + ((l.take (j + 1)).map (sz d false)).sum ≤ 1024 ∧ Only (fun b => b = M) w w2 ∧ ∃ dd' : Int, VmB w2 M ((k + ((l.take (j + 1)).map (sz d false)).sum : Nat) : Int) dd' ∧ 0 ≤ dd' ∧ dd' ≤ 1000) := by
          rw [HX.out.2.2.1]
          have hm := HB.out.symm
          refine ⟨?_, ?_, HX.out.2.2.2.trans G2.out.1 (fun _ _ g => g), G2.out.2 rfl⟩
          · have := HX.out.2.1
            unfold evB at this
            rw [hm] at this
            simpa using this
          · unfold msB at hm
            simp only [Bool.and_eq_true, decide_eq_true_eq] at hm
            exact hm.1.2
        have HJ : Hid (j < N) := HX.out.1
        clear G2 HX HB
        go_wp2
        go_roundw
        case rel => exact ⟨j + 1, by go_num, by have := HJ.out; omega, HF⟩
        case measure => simp only [vuOf]; have := HJ.out; omega
    · obtain rfl : j = N := by omega
      have i1 : ¬ (j : Int) < (j : Int) := by omega
      have HF : Hid (Z = true ∧ Only (fun b => b = M) w w1 ∧ ∃ dd' : Int, VmB w1 M ((k + (l.map (sz d false)).sum : Nat) : Int) dd' ∧ 0 ≤ dd' ∧ dd' ≤ 1000) := by
        obtain ⟨hz, _, o1, hh⟩ := HI.out
        rw [hNl, List.take_length] at hh
        rw [hNl, List.drop_length] at hz
        exact ⟨hz, o1, hh⟩
      clear HI hNl hjN hj
      go_wp2
      go_ret
      exact ⟨by rw [HF.out.1]; rfl, HF.out.2.1, fun _ => HF.out.2.2⟩
set_option maxRecDepth 100000 in
set_option maxHeartbeats 4000000 in
theorem ev_items (d : Nat) (H : MsC d true 147) : EvC d true 146 147 := by
  intro l ao cap w S M k o dd hl hM hsm hlen hv hk hd1 hd2 ho hT hg
  have HE : Hid (∀ (j : Nat) (x : Vt), l[j]? = some x → ∃ g q u, ao = some ⟨g, q, none⟩ ∧ w.cell? ⟨g, q + j, none⟩ = some u ∧ g ≠ M ∧ ∀ (k1 : Nat) (dd1 : Int) w1, Only (fun b => b = M) w w1 → VmB w1 M k1 dd1 → k1 ≤ 1024 → 0 ≤ dd1 → dd1 ≤ 1000 → Calls Tryz.prog 147 #[.pointer (some ⟨M, 0, none⟩), u, .int .i64 (o : Int)] w1 fun e w' => e = .returned (.bool (msB d true x k1 o)) ∧ Hid (Only (fun b => b = M) w1 w' ∧ (msB d true x k1 o = true → ∃ dd' : Int, VmB w' M ((k1 + sz d true x : Nat) : Int) dd' ∧ 0 ≤ dd' ∧ dd' ≤ 1000))) := by
    intro j x hx
    obtain ⟨g, q, u, p1, p2, p3, p4⟩ := hl j x hx
    refine ⟨g, q, u, p1, p3, hM g p2, fun k1 dd1 w1 o1 hv1 hk1 h1 h2 => ?_⟩
    exact H x u w1 S M k1 o dd1 (p4.only o1 (fun b hb => hM b hb)) hM (hsm x (List.mem_of_getElem? hx)) hv1 hk1 h1 h2 ho (hT.keep o1 hg.1 hg.2.1 hg.2.2) hg
  obtain ⟨N, hN⟩ : ∃ N, N = l.length := ⟨_, rfl⟩
  have HN : Hid (N = l.length ∧ N ≤ 2513169434900) := ⟨hN, by omega⟩
  have HV : Hid (VmB w M k dd ∧ 0 ≤ dd ∧ dd ≤ 1000 ∧ k ≤ 1024) := ⟨hv, hd1, hd2, hk⟩
  obtain ⟨Z, hZ⟩ : ∃ Z, Z = evB d true l k o := ⟨_, rfl⟩
  have HZ : Hid (Z = evB d true l k o) := hZ
  rw [← hN, ← hZ]
  clear hl hM hsm hlen hv hk hd1 hd2 ho hT hg hN hZ H
  go_enter Tryz.func146, Tryz.ntmps146
  go_wp2
  go_loopw [11] (fun r wr => ∃ j : Nat, r = .int .i64 (j : Int) ∧ j ≤ N ∧ Hid (Z = evB d true (l.drop j) (k + ((l.take j).map (sz d true)).sum) o ∧ k + ((l.take j).map (sz d true)).sum ≤ 1024 ∧ Only (fun b => b = M) w wr ∧ ∃ dd' : Int, VmB wr M ((k + ((l.take j).map (sz d true)).sum : Nat) : Int) dd' ∧ 0 ≤ dd' ∧ dd' ≤ 1000)) (fun r _ => N - vuOf r)
  case atStart => exact ⟨0, rfl, Nat.zero_le _, by simpa using HZ.out, by simpa using HV.out.2.2.2, Only.refl _ _, dd, by simpa using HV.out.1, HV.out.2.1, HV.out.2.2.1⟩
  case round =>
    obtain ⟨j, rfl, hj, HI⟩ := hrel
    obtain ⟨w1, hw1⟩ : ∃ w1, w1 = wr := ⟨_, rfl⟩
    rw [← hw1] at HI ⊢
    clear hw1
    have hNl := HN.out.1
    by_cases hjN : j < N
    · obtain ⟨x, hx⟩ : ∃ x, l[j]? = some x := ⟨l[j]'(by omega), List.getElem?_eq_getElem (by omega)⟩
      obtain ⟨g, q, u, rfl, c0, hgM, hcall⟩ := HE.out j x hx
      obtain ⟨hz, hk1, o1, dd1, hv1, h1, h2⟩ := HI.out
      have c1 := o1.cell c0 hgM
      have HC : Hid _ := hcall _ _ w1 o1 hv1 hk1 h1 h2
      obtain ⟨k1, hk1e⟩ : ∃ k1, k1 = k + ((l.take j).map (sz d true)).sum := ⟨_, rfl⟩
      rw [← hk1e] at HC hz hk1
      have hdr : l.drop j = x :: l.drop (j + 1) := by
        have hlt : j < l.length := by omega
        rw [List.drop_eq_getElem_cons hlt]
        have := List.getElem?_eq_getElem hlt
        rw [hx] at this
        injection this with this
        rw [← this]
      have hst : k + ((l.take (j + 1)).map (sz d true)).sum = k1 + sz d true x := by
        rw [List.take_add_one, hx, hk1e]
        simp
        omega
      have HX : Hid (j < N ∧ Z = evB d true (x :: l.drop (j + 1)) k1 o ∧ k + ((l.take (j + 1)).map (sz d true)).sum = k1 + sz d true x ∧ Only (fun b => b = M) w w1) := ⟨hjN, by rw [← hdr]; exact hz, hst, o1⟩
      have i1 : (j : Int) < (N : Int) := by omega
      have i0 : (0 : Int) ≤ (j : Int) := by omega
      have i4 : j ≤ 2513169434900 := by have := HN.out.2; omega
      obtain ⟨b, hb⟩ : ∃ b, b = msB d true x k1 o := ⟨_, rfl⟩
      have HB : Hid (b = msB d true x k1 o) := hb
      rw [← hb] at HC
      clear hz hk1 o1 hv1 h1 h2 hk1e hdr hst hcall c0 hgM hx hNl hjN hj HI hb
      go_wp2_with fail
      refine (show Calls Tryz.prog 147 _ _ _ from HC.out).mono ?_
      rintro e w2 ⟨rfl, G2⟩
      clear HC c1
      cases b with
      | false =>
        have hZf : Z = false := by
          rw [HX.out.2.1]
          unfold evB
          rw [← HB.out]
          rfl
        have HF : Hid (Z = false ∧ Only (fun b => b = M) w w2) := ⟨hZf, HX.out.2.2.2.trans G2.out.1 (fun _ _ g => g)⟩
        clear G2 hZf
        go_wp2
        go_ret
        exact ⟨by rw [HF.out.1]; rfl, HF.out.2, fun h => by rw [HF.out.1] at h; cases h⟩
      | true =>
        have HF : Hid (Z = evB d true (l.drop (j + 1)) (k + ((l.take (j + 1)).map (sz d true)).sum) o ∧ k + ((l.take (j + 1)).map (sz d true)).sum ≤ 1024 ∧ Only (fun b => b = M) w w2 ∧ ∃ dd' : Int, VmB w2 M ((k + ((l.take (j + 1)).map (sz d true)).sum : Nat) : Int) dd' ∧ 0 ≤ dd' ∧ dd' ≤ 1000) := by
          rw [HX.out.2.2.1]
          have hm := HB.out.symm
          refine ⟨?_, ?_, HX.out.2.2.2.trans G2.out.1 (fun _ _ g => g), G2.out.2 rfl⟩
          · have := HX.out.2.1
            unfold evB at this
            rw [hm] at this
            simpa using this
          · unfold msB at hm
            simp only [Bool.and_eq_true, decide_eq_true_eq] at hm
            exact hm.1.2
        have HJ : Hid (j < N) := HX.out.1
        clear G2 HX HB
        go_wp2
        go_roundw
        case rel => exact ⟨j + 1, by go_num, by have := HJ.out; omega, HF⟩
        case measure => simp only [vuOf]; have := HJ.out; omega
    · obtain rfl : j = N := by omega
      have i1 : ¬ (j : Int) < (j : Int) := by omega
      have HF : Hid (Z = true ∧ Only (fun b => b = M) w w1 ∧ ∃ dd' : Int, VmB w1 M ((k + (l.map (sz d true)).sum : Nat) : Int) dd' ∧ 0 ≤ dd' ∧ dd' ≤ 1000) := by
        obtain ⟨hz, _, o1, hh⟩ := HI.out
        rw [hNl, List.take_length] at hh
        rw [hNl, List.drop_length] at hz
        exact ⟨hz, o1, hh⟩
      clear HI hNl hjN hj
      go_wp2
      go_ret
      exact ⟨by rw [HF.out.1]; rfl, HF.out.2.1, fun _ => HF.out.2.2⟩
end Go.Proofs.YtbhpjakjlfkfiaaGreatDoor
namespace Go.Proofs.YtbhpjakjlfkfiaaGreatDoor
open Go.RowKit Go.Lib
set_option linter.unusedSimpArgs false
set_option linter.unusedVariables false
theorem mk_row {sT eT : TypeId} (hT : Tryz.prog.underlying sT = some (.slice eT)) (hI : (Tryz.prog.info? eT).map (fun i => (i.zero, i.size, i.bytes)) = some (some .nilIface, 1, 16)) (n : Nat) (hn : n ≤ 2513169434900) : ∃ M : Array Value, M.size = n ∧ ∀ w : World, (Instr.makeSlice sT (.int .i64 0) (.int .i64 n)).run Tryz.prog w = .ok (.slice (some ⟨w.heap.size, 0, none⟩) 0 n) (w.alloc (.cells M eT)) := by
  obtain ⟨i0, hi0, hz0, hz1, hz2⟩ := vinfo_parts hI
  refine ⟨madeCells (Value.nilIface).cells n, size_madeCells _ _, fun w => ?_⟩
  have := run_make (P := Tryz.prog) w sT eT i0 _ hT hi0 hz0 .i64 .i64 0 (n : Int) (by omega) (by omega) (by rw [hz2]; omega) (by omega)
  rw [hz1, show ((n : Int)).toNat = n by omega, Nat.mul_one] at this
  exact this
theorem ap_row {sT eT : TypeId} (hT : Tryz.prog.underlying sT = some (.slice eT)) (hI : (Tryz.prog.info? eT).map (fun i => (i.zero, i.size, i.bytes)) = some (some .nilIface, 1, 16)) {W : World} {g n cap : Nat} {a : Addr} {us : List Value} {cur : Array Value} (hl : us.length = n) (hu : ∀ j u, us[j]? = some u → W.cell? (a.add j) = some u) (h1 : ∀ u ∈ us, u.oneCell' = true) (hg : W.heap[g]? = some (.cells cur eT)) (hc : cur.size = n) (ty : TypeId) :
    (Builtin.append_ #[sT, sT] ty #[.slice (some ⟨g, 0, none⟩) 0 n, .slice (some a) n cap]).run Tryz.prog W = .ok (.slice (some ⟨g, 0, none⟩) n n) (W.setRow g us.toArray) := by
  obtain ⟨i0, hi, hz0, hz1, hz2⟩ := vinfo_parts hI
  have hs : Src Tryz.prog i0.size sT (.slice (some a) n cap) n us W := Src.ofSlice W hT a n cap us (by rw [hz1, Nat.mul_one]; exact hl) hu h1
  have hst := run_storeCells_at Tryz.prog g 0 eT us 0 cur W hg (by omega) h1
  simp only [Nat.add_zero, Nat.zero_add, List.take_zero, List.nil_append] at hst
  rw [show cur.toList.drop us.length = [] from List.drop_eq_nil_of_le (by simp; omega), List.append_nil] at hst
  have hroom : 0 + n ≤ n := by omega
  rcases hs.kind with ⟨e', hk⟩ | hk <;> simp [Builtin.append_, run_underlying hT, run_underlying hk, sizeOf, typeInfo, hi, hs.len, hroom, hs.cells, Addr.add_lit, hst]
theorem setRow_only {w : World} {g : Nat} {cs : Array Value} : Only (fun b => b = g) w (w.setRow g cs) := by
  refine ⟨rfl, rfl, rfl, by simp [World.setRow], fun j _ hne => ?_⟩
  show (w.heap.modify g _)[j]? = w.heap[j]?
  rw [Array.getElem?_modify, if_neg (fun h => hne h.symm)]
theorem TiAt.one {w : World} {S : Nat → Prop} {d : Nat} {i : Bool} {t : Vt} {v : Value} (h : TiAt w S d i t v) : v.oneCell' = true := by
  cases d with
  | zero => exact h.elim
  | succ d =>
    cases i with
    | true => rcases h with ⟨_, _, rfl⟩ | ⟨_, _, rfl⟩ | ⟨_, _, u, rfl, _⟩ <;> rfl
    | false => rcases h with ⟨_, _, rfl⟩ | ⟨_, _, rfl⟩ | ⟨_, _, rfl⟩ | ⟨_, _, rfl⟩ | ⟨_, _, rfl⟩ | ⟨_, ao, cap, rfl, _⟩ <;> rfl
theorem TiAt.shape2 {w : World} {S : Nat → Prop} {d : Nat} {i : Bool} {t : Vt} {v : Value} (h : TiAt w S d i t v) : v = .nilIface ∨ ∃ T y, v = .iface T y := by
  cases d with
  | zero => exact h.elim
  | succ d =>
    cases i with
    | true => rcases h with ⟨_, _, rfl⟩ | ⟨_, _, rfl⟩ | ⟨_, _, u, rfl, _⟩ <;> first | exact .inl rfl | exact .inr ⟨_, _, rfl⟩
    | false => rcases h with ⟨_, _, rfl⟩ | ⟨_, _, rfl⟩ | ⟨_, _, rfl⟩ | ⟨_, _, rfl⟩ | ⟨_, _, rfl⟩ | ⟨_, ao, cap, rfl, _⟩ <;> first | exact .inl rfl | exact .inr ⟨_, _, rfl⟩
/-- a slice as anew makes it: the values us in a block of its own since w, or nothing -/
def AnP (eT : TypeId) (us : List Value) (w : World) (e : Ending) (w' : World) : Prop := (us = [] ∧ e = .returned (.slice none 0 0) ∧ w' = w) ∨ ∃ g, e = .returned (.slice (some ⟨g, 0, none⟩) us.length us.length) ∧ w.heap.size ≤ g ∧ w'.heap[g]? = some (.cells us.toArray eT) ∧ Only (fun _ => False) w w'
/-- what copies a part: its contract -/
def CpC (d : Nat) (i : Bool) (F : Nat) : Prop := ∀ (t : Vt) (v : Value) (w : World) (S : Nat → Prop), TiAt w S d i t v → (∃ e, SmT e t) → (∀ b, S b → b < w.heap.size) → Calls Tryz.prog F #[v] w fun e w' => ∃ v', e = .returned v' ∧ Hid (NiAt w' w.heap.size d i t v' ∧ Only (fun _ => False) w w')
/-- the parts l of a row at ao -/
def PsAt (w : World) (S : Nat → Prop) (d : Nat) (i : Bool) (l : List Vt) (ao : Option Addr) : Prop := ∀ (j : Nat) (x : Vt), l[j]? = some x → ∃ g q u, ao = some ⟨g, q, none⟩ ∧ S g ∧ w.cell? ⟨g, q + j, none⟩ = some u ∧ TiAt w S d i x u
/-- what copyEach answers -/
def CeC (d : Nat) (i : Bool) (F G : Nat) : Prop := ∀ (l : List Vt) (ao : Option Addr) (cap : Nat) (w : World) (S : Nat → Prop), PsAt w S d i l ao → (∀ b, S b → b < w.heap.size) → (∀ x ∈ l, ∃ e, SmT e x) → l.length ≤ 2513169434900 → (ao = none → l = []) →
  Calls Tryz.prog G #[.slice ao l.length cap, .func (.func F) #[] #[]] w fun e w' => ∃ ao' cap', e = .returned (.slice ao' l.length cap') ∧ Hid (l.length ≤ cap' ∧ (∃ S', PsAt w' S' d i l ao' ∧ ∀ b, S' b → w.heap.size ≤ b ∧ b < w'.heap.size) ∧ Only (fun _ => False) w w')
theorem ps_row0 {w : World} {S : Nat → Prop} {d : Nat} {i : Bool} {l : List Vt} {ao : Option Addr} (h : PsAt w S d i l ao) : ∀ m, m ≤ l.length → ∃ us : List Value, us.length = m ∧ ∀ (j : Nat) (u : Value), us[j]? = some u → ∃ x, l[j]? = some x ∧ (∀ a, ao = some a → w.cell? (a.add j) = some u) ∧ TiAt w S d i x u := by
  intro m
  induction m with
  | zero => intro _; exact ⟨[], rfl, fun j u hu => by simp at hu⟩
  | succ m ih =>
    intro hm
    obtain ⟨us, h1, h2⟩ := ih (by omega)
    obtain ⟨g, q, u, ha, hg, hc, ht⟩ := h m (l[m]'(by omega)) (List.getElem?_eq_getElem (by omega))
    refine ⟨us ++ [u], by simp [h1], fun j v hv => ?_⟩
    by_cases hj : j < us.length
    · rw [List.getElem?_append_left hj] at hv
      exact h2 j v hv
    · have hj2 := (List.getElem?_eq_some_iff.1 hv).1
      have hj3 : j = us.length := by simp at hj2; omega
      subst hj3
      simp at hv
      subst hv
      refine ⟨_, by rw [h1]; exact List.getElem?_eq_getElem (by omega), fun a e => ?_, ht⟩
      rw [ha] at e
      injection e with e
      rw [← e, Addr.add_mid, h1]
      exact hc
theorem ps_row {w : World} {S : Nat → Prop} {d : Nat} {i : Bool} {l : List Vt} {ao : Option Addr} (h : PsAt w S d i l ao) : ∃ us : List Value, us.length = l.length ∧ (∀ u ∈ us, u.oneCell' = true) ∧ (∀ a, ao = some a → ∀ j u, us[j]? = some u → w.cell? (a.add j) = some u) ∧ ∀ (j : Nat) (x : Vt), l[j]? = some x → ∃ u, us[j]? = some u ∧ TiAt w S d i x u := by
  obtain ⟨us, h1, h2⟩ := ps_row0 h l.length (Nat.le_refl _)
  refine ⟨us, h1, fun u hu => ?_, fun a e j u hu => ?_, fun j x hx => ?_⟩
  · obtain ⟨j, hj, e⟩ := List.mem_iff_getElem.1 hu
    obtain ⟨x, _, _, ht⟩ := h2 j u (by rw [← e]; exact List.getElem?_eq_getElem hj)
    exact ht.one
  · obtain ⟨x, _, hc, _⟩ := h2 j u hu
    exact hc a e
  · have hj := (List.getElem?_eq_some_iff.1 hx).1
    obtain ⟨y, hy, _, ht⟩ := h2 j (us[j]'(by omega)) (List.getElem?_eq_getElem (by omega))
    rw [hx] at hy
    injection hy with hy
    rw [hy]
    exact ⟨_, List.getElem?_eq_getElem (by omega), ht⟩
/-- a copy under way: j parts are copied, the others are still those that were handed in -/
def CeI (w wr : World) (S : Nat → Prop) (d : Nat) (i : Bool) (eT : TypeId) (l : List Vt) (G j : Nat) : Prop :=
  ∃ (vs : List Value) (S' : Nat → Prop), vs.length = l.length ∧ wr.heap[G]? = some (.cells vs.toArray eT) ∧ Only (fun _ => False) w wr ∧ w.heap.size ≤ G ∧
    (∀ b, S' b → w.heap.size ≤ b ∧ b < wr.heap.size ∧ b ≠ G) ∧ (∀ u ∈ vs, u.oneCell' = true) ∧ ∀ (k : Nat) (x : Vt), l[k]? = some x → ∃ u, vs[k]? = some u ∧ (k < j → TiAt wr S' d i x u) ∧ (j ≤ k → TiAt wr S d i x u)
theorem CeI.step {w wr w2 : World} {S : Nat → Prop} {d : Nat} {i : Bool} {eT : TypeId} {l : List Vt} {G j : Nat} {x : Vt} {v' : Value} (hS : ∀ b, S b → b < w.heap.size) (h : CeI w wr S d i eT l G j) (hx : l[j]? = some x) (hn : NiAt w2 wr.heap.size d i x v') (o : Only (fun _ => False) wr w2) : CeI w (w2.setCell ⟨G, j, none⟩ v') S d i eT l G (j + 1) := by
  obtain ⟨vs, S', h1, h2, h3, h4, h5, h6, h7⟩ := h
  obtain ⟨S2, t2, s2⟩ := hn
  have hGlt : G < wr.heap.size := (Array.getElem?_eq_some_iff.1 h2).1
  have hw2 : w2.heap[G]? = some (.cells vs.toArray eT) := (o.block G hGlt (fun g => g)).trans h2
  have hjl : j < l.length := (List.getElem?_eq_some_iff.1 hx).1
  have oo : Only (fun b => b = G) w2 (w2.setCell ⟨G, j, none⟩ v') := (Only.refl _ _).setCell ⟨G, j, none⟩ v' (fun _ => rfl)
  have hsz : (w2.setCell ⟨G, j, none⟩ v').heap.size = w2.heap.size := by simp
  refine ⟨vs.set j v', fun b => S' b ∨ S2 b, by simpa using h1, ?_, (h3.trans o (fun _ _ g => g)).trans oo (fun b hb e => by omega), h4, fun b hb => ?_, fun u hu => ?_, fun k y hy => ?_⟩
  · rw [heap_setCell_same w2 G j vs.toArray eT v' hw2]
    simp
  · rw [hsz]
    rcases hb with g | g
    · obtain ⟨a1, a2, a3⟩ := h5 b g
      exact ⟨a1, Nat.lt_of_lt_of_le a2 o.size, a3⟩
    · obtain ⟨a1, a2⟩ := s2 b g
      exact ⟨Nat.le_trans h3.size a1, a2, by omega⟩
  · rcases List.mem_or_eq_of_mem_set hu with g | g
    · exact h6 u g
    · rw [g]; exact t2.one
  · obtain ⟨u, p1, p2, p3⟩ := h7 k y hy
    have nS : ∀ b, S b → ¬ b = G := fun b g e => by have := hS b g; omega
    by_cases hk : k = j
    · subst hk
      rw [hx] at hy
      injection hy with hy
      subst hy
      refine ⟨v', by rw [List.getElem?_set_self (by omega)], fun _ => ?_, fun g => by omega⟩
      exact (t2.only oo (fun b g e => by have := (s2 b g).1; omega)).step (fun _ g => .inr g) (fun _ _ _ g => g) (Nat.le_refl _)
    · refine ⟨u, by rw [List.getElem?_set_ne (fun e => hk e.symm)]; exact p1, fun g => ?_, fun g => ?_⟩
      · have t1 := p2 (by omega)
        exact ((t1.only o (fun _ _ g => g)).only oo (fun b g => (h5 b g).2.2)).step (fun _ g => .inl g) (fun _ _ _ g => g) (Nat.le_refl _)
      · exact ((p3 (by omega)).only o (fun _ _ g => g)).only oo nS
set_option maxRecDepth 100000 in
theorem anew_v (us : List Value) (h1 : ∀ u ∈ us, u.oneCell' = true) (ao : Option Addr) (cap : Nat) (w : World) (hn : us.length ≤ 2513169434900) (hnil : ao = none → us = []) (hc : ∀ a, ao = some a → ∀ j u, us[j]? = some u → w.cell? (a.add j) = some u) : Calls Tryz.prog 121 #[.slice ao us.length cap] w fun e w' => AnP 51 us w e w' := by
  cases ao with
  | none =>
    have e0 := hnil rfl
    subst e0
    have heq : (binOp .eql 25 (.slice none 0 cap) (.slice none 0 0)).run Tryz.prog w = .ok (.bool true) w := Go.Lib.run_eql_slice_nil w _ _ none 0 cap 0 0 Tryz.underlying25
    have HP : Hid (∀ e, e = .returned (.slice none 0 0) → AnP 51 [] w e w) := fun e he => .inl ⟨rfl, he, rfl⟩
    clear h1 hn hnil hc
    go_enter Tryz.func121, Tryz.ntmps121
    go_wp2
    go_ret
    exact HP.out _ rfl
  | some a =>
    obtain ⟨M, hM, hmk0⟩ := mk_row Tryz.underlying25 vinfoV us.length hn
    have hmk := hmk0 w
    obtain ⟨W, hW⟩ : ∃ W, W = w.alloc (.cells M 51) := ⟨_, rfl⟩
    have o1 : Only (fun _ => False) w W := by rw [hW]; exact (Only.refl _ w).alloc _
    have hgW : W.heap[w.heap.size]? = some (.cells M 51) := by rw [hW]; exact heap_alloc_new w _
    have hap : ∀ ty, _ := ap_row Tryz.underlying25 vinfoV (W := W) (cap := cap) rfl (fun j u hu => o1.cell (hc a rfl j u hu) (fun g => g)) h1 hgW hM
    obtain ⟨N, hN⟩ : ∃ N, N = us.length := ⟨_, rfl⟩
    have HP : Hid (AnP 51 us w (.returned (.slice (some ⟨w.heap.size, 0, none⟩) N N)) (W.setRow w.heap.size us.toArray)) := by
      refine .inr ⟨w.heap.size, by rw [hN], Nat.le_refl _, setRow_heap W _ M _ _ _ hgW, o1.trans setRow_only (fun b hb e => by omega)⟩
    obtain ⟨U, hU⟩ : ∃ U, U = W.setRow w.heap.size us.toArray := ⟨_, rfl⟩
    rw [← hN, ← hU] at hap
    rw [← hU] at HP
    rw [← hN, ← hW] at hmk
    have HR : Hid _ := hap
    have heq : (binOp .eql 25 (.slice (some a) N cap) (.slice none 0 0)).run Tryz.prog w = .ok (.bool false) w := Go.Lib.run_eql_slice_nil w _ _ (some a) N cap 0 0 Tryz.underlying25
    have i1 : N ≤ 2513169434900 := by omega
    rw [← hN]
    clear h1 hn hnil hc hM hmk0 hW o1 hgW hap hN hU
    go_enter Tryz.func121, Tryz.ntmps121
    go_wp2_with (at_builtin; refine vwpList_append_run rfl _ _ 25 rfl _ _ _ rfl rfl HR.out ?_)
    go_ret
    exact HP.out
set_option maxRecDepth 100000 in
set_option maxHeartbeats 4000000 in
theorem ce_v (d : Nat) (H : CpC d false 68) : CeC d false 68 94 := by
  intro l ao cap w S hl hS hsm hlen hnil
  obtain ⟨us, u1, u2, u3, u4⟩ := ps_row hl
  have HA : Hid (Calls Tryz.prog 121 #[.slice ao us.length cap] w fun e w' => AnP 51 us w e w') := anew_v us u2 ao cap w (by omega) (fun e => List.length_eq_zero_iff.1 (by rw [u1, hnil e]; rfl)) u3
  obtain ⟨N, hN⟩ : ∃ N, N = l.length := ⟨_, rfl⟩
  have HN : Hid (N = l.length ∧ N ≤ 2513169434900 ∧ us.length = l.length) := ⟨hN, by omega, u1⟩
  rw [u1, ← hN] at HA
  rw [← hN]
  have HT : Hid ((∀ (j : Nat) (x : Vt), l[j]? = some x → ∃ u, us[j]? = some u ∧ TiAt w S d false x u) ∧ (∀ u ∈ us, u.oneCell' = true) ∧ (∀ b, S b → b < w.heap.size) ∧ ∀ x ∈ l, ∃ e, SmT e x) := ⟨u4, u2, hS, hsm⟩
  clear hl hS hsm hlen hnil u1 u2 u3 u4 hN
  go_enter Tryz.func94, Tryz.ntmps94
  go_wp2_with fail
  refine (show Calls Tryz.prog 121 _ _ _ from HA.out).mono ?_
  intro e w1 g1
  rcases g1 with ⟨e0, rfl, rfl⟩ | ⟨G, rfl, hG, hr1, o1⟩
  · have hz : N = 0 := by rw [HN.out.1, ← HN.out.2.2, e0]; rfl
    have HF : Hid (N = 0 ∧ l = []) := ⟨hz, List.length_eq_zero_iff.1 (by rw [← HN.out.1]; exact hz)⟩
    clear HA hz e0
    go_wp2
    go_loopw [12] (fun r wr => r = .int .i64 0 ∧ wr = w1) (fun r _ => 0)
    case atStart => exact ⟨rfl, rfl⟩
    case round =>
      obtain ⟨rfl, rfl⟩ := hrel
      obtain ⟨z1, z2⟩ := HF.out
      go_wp2
      go_ret
      exact ⟨none, 0, by rw [z1]; rfl, by rw [z1]; exact Nat.zero_le _, ⟨fun _ => False, fun j x hx => by rw [z2] at hx; simp at hx, fun b hb => hb.elim⟩, Only.refl _ _⟩
  · have HI0 : Hid (CeI w w1 S d false 51 l G 0) := by
      refine ⟨us, fun _ => False, HN.out.2.2, hr1, o1, hG, fun b hb => hb.elim, HT.out.2.1, fun k x hx => ?_⟩
      obtain ⟨u, p1, p2⟩ := HT.out.1 k x hx
      exact ⟨u, p1, fun g => by omega, fun _ => p2.only o1 (fun _ _ g => g)⟩
    obtain ⟨K, hK⟩ : ∃ K, K = us.length := ⟨_, rfl⟩
    rw [← hK]
    have HK : Hid (K = N) := by rw [hK]; exact HN.out.2.2.trans HN.out.1.symm
    obtain rfl : K = N := HK.out
    clear hr1 o1 hG HA hK HK
    go_wp2
    go_loopw [12] (fun r wr => ∃ j : Nat, r = .int .i64 (j : Int) ∧ j ≤ K ∧ Hid (CeI w wr S d false 51 l G j)) (fun r _ => K - vuOf r)
    case atStart => exact ⟨0, rfl, Nat.zero_le _, HI0.out⟩
    case round =>
      obtain ⟨j, rfl, hj, HI⟩ := hrel
      obtain ⟨w2, hw2⟩ : ∃ w2, w2 = wr := ⟨_, rfl⟩
      rw [← hw2] at HI ⊢
      clear hw2
      have hNl := HN.out.1
      by_cases hjN : j < K
      · obtain ⟨x, hx⟩ : ∃ x, l[j]? = some x := ⟨l[j]'(by omega), List.getElem?_eq_getElem (by omega)⟩
        obtain ⟨vs, S', q1, q2, q3, q4, q5, q6, q7⟩ := HI.out
        obtain ⟨u, p1, _, p3⟩ := q7 j x hx
        have hcell : w2.cell? ⟨G, j, none⟩ = some u := by
          rw [cell_of_row _ _ _ _ _ _ q2]
          simpa using p1
        have HC : Hid _ := H x u w2 S (p3 (Nat.le_refl _)) (HT.out.2.2.2 x (List.mem_of_getElem? hx)) (fun b g => Nat.lt_of_lt_of_le (HT.out.2.2.1 b g) q3.size)
        have HX : Hid (j < K ∧ l[j]? = some x) := ⟨hjN, hx⟩
        have i1 : (j : Int) < (K : Int) := by omega
        have i0 : (0 : Int) ≤ (j : Int) := by omega
        have i4 : j ≤ 2513169434900 := by have := HN.out.2.1; omega
        clear q1 q2 q3 q4 q5 q6 q7 p1 p3 hx hNl hjN hj
        go_wp2_with fail
        refine (show Calls Tryz.prog 68 _ _ _ from HC.out).mono ?_
        rintro e w3 ⟨v', rfl, G3⟩
        have HI2 : Hid (CeI w (w3.setCell ⟨G, j, none⟩ v') S d false 51 l G (j + 1)) := HI.out.step HT.out.2.2.1 HX.out.2 G3.out.1 G3.out.2
        have hone : v'.oneCell' = true := by obtain ⟨_, t, _⟩ := G3.out.1; exact t.one
        have hc3 : w3.cell? ⟨G, j, none⟩ = some u := G3.out.2.cell hcell (fun g => g)
        have hf3 : w3.frozen? ⟨G, j, none⟩ = false := by
          obtain ⟨vs, S', q1, q2, _⟩ := HI.out
          exact frozen_of_row _ _ _ _ _ ((G3.out.2.block G (Array.getElem?_eq_some_iff.1 q2).1 (fun g => g)).trans q2)
        have HJ : Hid (j < K) := HX.out.1
        have hform : v' = .nilIface ∨ ∃ T y, v' = .iface T y := by obtain ⟨_, t, _⟩ := G3.out.1; exact t.shape2
        clear HC HX HI G3 hcell hone
        rcases hform with rfl | ⟨T, y, rfl⟩
        all_goals
          go_wp2
          go_roundw
          case rel => exact ⟨j + 1, by go_num, by have := HJ.out; omega, HI2⟩
          case measure => simp only [vuOf]; have := HJ.out; omega
      · obtain rfl : j = K := by omega
        have i1 : ¬ (j : Int) < (j : Int) := by omega
        clear hNl hjN hj
        go_wp2
        go_ret
        refine ⟨some ⟨G, 0, none⟩, j, rfl, by rw [HN.out.1]; exact Nat.le_refl _, ?_, ?_⟩
        · obtain ⟨vs, S', q1, q2, q3, q4, q5, q6, q7⟩ := HI.out
          refine ⟨fun b => S' b ∨ b = G, fun k x hx => ?_, fun b hb => ?_⟩
          · obtain ⟨u, p1, p2, _⟩ := q7 k x hx
            have hk := (List.getElem?_eq_some_iff.1 hx).1
            refine ⟨G, 0, u, rfl, .inr rfl, ?_, (p2 (by rw [HN.out.1]; exact hk)).step (fun _ g => .inl g) (fun _ _ _ g => g) (Nat.le_refl _)⟩
            rw [Nat.zero_add, cell_of_row _ _ _ _ _ _ q2]
            simpa using p1
          · rcases hb with g | rfl
            · exact ⟨(q5 b g).1, (q5 b g).2.1⟩
            · exact ⟨q4, (Array.getElem?_eq_some_iff.1 q2).1⟩
        · obtain ⟨vs, S', q1, q2, q3, _⟩ := HI.out
          exact q3
set_option maxRecDepth 100000 in
theorem anew_i (us : List Value) (h1 : ∀ u ∈ us, u.oneCell' = true) (ao : Option Addr) (cap : Nat) (w : World) (hn : us.length ≤ 2513169434900) (hnil : ao = none → us = []) (hc : ∀ a, ao = some a → ∀ j u, us[j]? = some u → w.cell? (a.add j) = some u) : Calls Tryz.prog 122 #[.slice ao us.length cap] w fun e w' => AnP 112 us w e w' := by
  cases ao with
  | none =>
    have e0 := hnil rfl
    subst e0
    have heq : (binOp .eql 82 (.slice none 0 cap) (.slice none 0 0)).run Tryz.prog w = .ok (.bool true) w := Go.Lib.run_eql_slice_nil w _ _ none 0 cap 0 0 Tryz.underlying82
    have HP : Hid (∀ e, e = .returned (.slice none 0 0) → AnP 112 [] w e w) := fun e he => .inl ⟨rfl, he, rfl⟩
    clear h1 hn hnil hc
    go_enter Tryz.func122, Tryz.ntmps122
    go_wp2
    go_ret
    exact HP.out _ rfl
  | some a =>
    obtain ⟨M, hM, hmk0⟩ := mk_row Tryz.underlying82 vinfoI us.length hn
    have hmk := hmk0 w
    obtain ⟨W, hW⟩ : ∃ W, W = w.alloc (.cells M 112) := ⟨_, rfl⟩
    have o1 : Only (fun _ => False) w W := by rw [hW]; exact (Only.refl _ w).alloc _
    have hgW : W.heap[w.heap.size]? = some (.cells M 112) := by rw [hW]; exact heap_alloc_new w _
    have hap : ∀ ty, _ := ap_row Tryz.underlying82 vinfoI (W := W) (cap := cap) rfl (fun j u hu => o1.cell (hc a rfl j u hu) (fun g => g)) h1 hgW hM
    obtain ⟨N, hN⟩ : ∃ N, N = us.length := ⟨_, rfl⟩
    have HP : Hid (AnP 112 us w (.returned (.slice (some ⟨w.heap.size, 0, none⟩) N N)) (W.setRow w.heap.size us.toArray)) := by
      refine .inr ⟨w.heap.size, by rw [hN], Nat.le_refl _, setRow_heap W _ M _ _ _ hgW, o1.trans setRow_only (fun b hb e => by omega)⟩
    obtain ⟨U, hU⟩ : ∃ U, U = W.setRow w.heap.size us.toArray := ⟨_, rfl⟩
    rw [← hN, ← hU] at hap
    rw [← hU] at HP
    rw [← hN, ← hW] at hmk
    have HR : Hid _ := hap
    have heq : (binOp .eql 82 (.slice (some a) N cap) (.slice none 0 0)).run Tryz.prog w = .ok (.bool false) w := Go.Lib.run_eql_slice_nil w _ _ (some a) N cap 0 0 Tryz.underlying82
    have i1 : N ≤ 2513169434900 := by omega
    rw [← hN]
    clear h1 hn hnil hc hM hmk0 hW o1 hgW hap hN hU
    go_enter Tryz.func122, Tryz.ntmps122
    go_wp2_with (at_builtin; refine vwpList_append_run rfl _ _ 82 rfl _ _ _ rfl rfl HR.out ?_)
    go_ret
    exact HP.out
set_option maxRecDepth 100000 in
set_option maxHeartbeats 4000000 in
theorem ce_i (d : Nat) (H : CpC d true 96) : CeC d true 96 95 := by
  intro l ao cap w S hl hS hsm hlen hnil
  obtain ⟨us, u1, u2, u3, u4⟩ := ps_row hl
  have HA : Hid (Calls Tryz.prog 122 #[.slice ao us.length cap] w fun e w' => AnP 112 us w e w') := anew_i us u2 ao cap w (by omega) (fun e => List.length_eq_zero_iff.1 (by rw [u1, hnil e]; rfl)) u3
  obtain ⟨N, hN⟩ : ∃ N, N = l.length := ⟨_, rfl⟩
  have HN : Hid (N = l.length ∧ N ≤ 2513169434900 ∧ us.length = l.length) := ⟨hN, by omega, u1⟩
  rw [u1, ← hN] at HA
  rw [← hN]
  have HT : Hid ((∀ (j : Nat) (x : Vt), l[j]? = some x → ∃ u, us[j]? = some u ∧ TiAt w S d true x u) ∧ (∀ u ∈ us, u.oneCell' = true) ∧ (∀ b, S b → b < w.heap.size) ∧ ∀ x ∈ l, ∃ e, SmT e x) := ⟨u4, u2, hS, hsm⟩
  clear hl hS hsm hlen hnil u1 u2 u3 u4 hN
  go_enter Tryz.func95, Tryz.ntmps95
  go_wp2_with fail
  refine (show Calls Tryz.prog 122 _ _ _ from HA.out).mono ?_
  intro e w1 g1
  rcases g1 with ⟨e0, rfl, rfl⟩ | ⟨G, rfl, hG, hr1, o1⟩
  · have hz : N = 0 := by rw [HN.out.1, ← HN.out.2.2, e0]; rfl
    have HF : Hid (N = 0 ∧ l = []) := ⟨hz, List.length_eq_zero_iff.1 (by rw [← HN.out.1]; exact hz)⟩
    clear HA hz e0
    go_wp2
    go_loopw [12] (fun r wr => r = .int .i64 0 ∧ wr = w1) (fun r _ => 0)
    case atStart => exact ⟨rfl, rfl⟩
    case round =>
      obtain ⟨rfl, rfl⟩ := hrel
      obtain ⟨z1, z2⟩ := HF.out
      go_wp2
      go_ret
      exact ⟨none, 0, by rw [z1]; rfl, by rw [z1]; exact Nat.zero_le _, ⟨fun _ => False, fun j x hx => by rw [z2] at hx; simp at hx, fun b hb => hb.elim⟩, Only.refl _ _⟩
  · have HI0 : Hid (CeI w w1 S d true 112 l G 0) := by
      refine ⟨us, fun _ => False, HN.out.2.2, hr1, o1, hG, fun b hb => hb.elim, HT.out.2.1, fun k x hx => ?_⟩
      obtain ⟨u, p1, p2⟩ := HT.out.1 k x hx
      exact ⟨u, p1, fun g => by omega, fun _ => p2.only o1 (fun _ _ g => g)⟩
    obtain ⟨K, hK⟩ : ∃ K, K = us.length := ⟨_, rfl⟩
    rw [← hK]
    have HK : Hid (K = N) := by rw [hK]; exact HN.out.2.2.trans HN.out.1.symm
    obtain rfl : K = N := HK.out
    clear hr1 o1 hG HA hK HK
    go_wp2
    go_loopw [12] (fun r wr => ∃ j : Nat, r = .int .i64 (j : Int) ∧ j ≤ K ∧ Hid (CeI w wr S d true 112 l G j)) (fun r _ => K - vuOf r)
    case atStart => exact ⟨0, rfl, Nat.zero_le _, HI0.out⟩
    case round =>
      obtain ⟨j, rfl, hj, HI⟩ := hrel
      obtain ⟨w2, hw2⟩ : ∃ w2, w2 = wr := ⟨_, rfl⟩
      rw [← hw2] at HI ⊢
      clear hw2
      have hNl := HN.out.1
      by_cases hjN : j < K
      · obtain ⟨x, hx⟩ : ∃ x, l[j]? = some x := ⟨l[j]'(by omega), List.getElem?_eq_getElem (by omega)⟩
        obtain ⟨vs, S', q1, q2, q3, q4, q5, q6, q7⟩ := HI.out
        obtain ⟨u, p1, _, p3⟩ := q7 j x hx
        have hcell : w2.cell? ⟨G, j, none⟩ = some u := by
          rw [cell_of_row _ _ _ _ _ _ q2]
          simpa using p1
        have HC : Hid _ := H x u w2 S (p3 (Nat.le_refl _)) (HT.out.2.2.2 x (List.mem_of_getElem? hx)) (fun b g => Nat.lt_of_lt_of_le (HT.out.2.2.1 b g) q3.size)
        have HX : Hid (j < K ∧ l[j]? = some x) := ⟨hjN, hx⟩
        have i1 : (j : Int) < (K : Int) := by omega
        have i0 : (0 : Int) ≤ (j : Int) := by omega
        have i4 : j ≤ 2513169434900 := by have := HN.out.2.1; omega
        clear q1 q2 q3 q4 q5 q6 q7 p1 p3 hx hNl hjN hj
        go_wp2_with fail
        refine (show Calls Tryz.prog 96 _ _ _ from HC.out).mono ?_
        rintro e w3 ⟨v', rfl, G3⟩
        have HI2 : Hid (CeI w (w3.setCell ⟨G, j, none⟩ v') S d true 112 l G (j + 1)) := HI.out.step HT.out.2.2.1 HX.out.2 G3.out.1 G3.out.2
        have hone : v'.oneCell' = true := by obtain ⟨_, t, _⟩ := G3.out.1; exact t.one
        have hc3 : w3.cell? ⟨G, j, none⟩ = some u := G3.out.2.cell hcell (fun g => g)
        have hf3 : w3.frozen? ⟨G, j, none⟩ = false := by
          obtain ⟨vs, S', q1, q2, _⟩ := HI.out
          exact frozen_of_row _ _ _ _ _ ((G3.out.2.block G (Array.getElem?_eq_some_iff.1 q2).1 (fun g => g)).trans q2)
        have HJ : Hid (j < K) := HX.out.1
        have hform : v' = .nilIface ∨ ∃ T y, v' = .iface T y := by obtain ⟨_, t, _⟩ := G3.out.1; exact t.shape2
        clear HC HX HI G3 hcell hone
        rcases hform with rfl | ⟨T, y, rfl⟩
        all_goals
          go_wp2
          go_roundw
          case rel => exact ⟨j + 1, by go_num, by have := HJ.out; omega, HI2⟩
          case measure => simp only [vuOf]; have := HJ.out; omega
      · obtain rfl : j = K := by omega
        have i1 : ¬ (j : Int) < (j : Int) := by omega
        clear hNl hjN hj
        go_wp2
        go_ret
        refine ⟨some ⟨G, 0, none⟩, j, rfl, by rw [HN.out.1]; exact Nat.le_refl _, ?_, ?_⟩
        · obtain ⟨vs, S', q1, q2, q3, q4, q5, q6, q7⟩ := HI.out
          refine ⟨fun b => S' b ∨ b = G, fun k x hx => ?_, fun b hb => ?_⟩
          · obtain ⟨u, p1, p2, _⟩ := q7 k x hx
            have hk := (List.getElem?_eq_some_iff.1 hx).1
            refine ⟨G, 0, u, rfl, .inr rfl, ?_, (p2 (by rw [HN.out.1]; exact hk)).step (fun _ g => .inl g) (fun _ _ _ g => g) (Nat.le_refl _)⟩
            rw [Nat.zero_add, cell_of_row _ _ _ _ _ _ q2]
            simpa using p1
          · rcases hb with g | rfl
            · exact ⟨(q5 b g).1, (q5 b g).2.1⟩
            · exact ⟨q4, (Array.getElem?_eq_some_iff.1 q2).1⟩
        · obtain ⟨vs, S', q1, q2, q3, _⟩ := HI.out
          exact q3
end Go.Proofs.YtbhpjakjlfkfiaaGreatDoor
namespace Go.Proofs
open Go.Shelf
def Tryz.growV_ren : Go.Shelf.Ren := ⟨fun | 4 => 52 | n => n, fun | 22 => 25 | 25 => 51 | 3 => 3 | 4 => 4 | 9 => 9 | 20 => 20 | 0 => 0 | n => n, fun | n => n⟩
theorem Tryz.growV : Go.Proofs.Lays8.n4 Tryz.prog Tryz.growV_ren := {
  mixed := by kernel_rfl
  f4 := ⟨Tryz.f52.name, by decide, Tryz.func52.trans (congrArg some (by kernel_rfl))⟩
  t0 := Tryz.underlying0
  a0 := Tryz.isAgg0
  z0 := Tryz.sizeOf0
  v0 := Tryz.zeroValue0
  t3 := Tryz.underlying3
  a3 := Tryz.isAgg3
  z3 := Tryz.sizeOf3
  v3 := Tryz.zeroValue3
  t4 := Tryz.underlying4
  a4 := Tryz.isAgg4
  z4 := Tryz.sizeOf4
  v4 := Tryz.zeroValue4
  t9 := Tryz.underlying9
  a9 := Tryz.isAgg9
  z9 := Tryz.sizeOf9
  v9 := Tryz.zeroValue9
  t20 := Tryz.underlying20
  a20 := Tryz.isAgg20
  z20 := Tryz.sizeOf20
  v20 := Tryz.zeroValue20
  t22 := Tryz.underlying25
  a22 := Tryz.isAgg25
  z22 := Tryz.sizeOf25
  v22 := Tryz.zeroValue25 }
def Tryz.growI_ren : Go.Shelf.Ren := ⟨fun | 4 => 126 | n => n, fun | 22 => 82 | 25 => 112 | 3 => 3 | 4 => 4 | 9 => 9 | 20 => 20 | 0 => 0 | n => n, fun | n => n⟩
theorem Tryz.growI : Go.Proofs.Lays8.n4 Tryz.prog Tryz.growI_ren := {
  mixed := by kernel_rfl
  f4 := ⟨Tryz.f126.name, by decide, Tryz.func126.trans (congrArg some (by kernel_rfl))⟩
  t0 := Tryz.underlying0
  a0 := Tryz.isAgg0
  z0 := Tryz.sizeOf0
  v0 := Tryz.zeroValue0
  t3 := Tryz.underlying3
  a3 := Tryz.isAgg3
  z3 := Tryz.sizeOf3
  v3 := Tryz.zeroValue3
  t4 := Tryz.underlying4
  a4 := Tryz.isAgg4
  z4 := Tryz.sizeOf4
  v4 := Tryz.zeroValue4
  t9 := Tryz.underlying9
  a9 := Tryz.isAgg9
  z9 := Tryz.sizeOf9
  v9 := Tryz.zeroValue9
  t20 := Tryz.underlying20
  a20 := Tryz.isAgg20
  z20 := Tryz.sizeOf20
  v20 := Tryz.zeroValue20
  t22 := Tryz.underlying82
  a22 := Tryz.isAgg82
  z22 := Tryz.sizeOf82
  v22 := Tryz.zeroValue82 }
end Go.Proofs
