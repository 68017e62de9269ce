/- What parse measures of a value: the plain functions, and what holds no others. What parse measures: what holds no others; the parts of a list or a quotation. What parse measures of lists, quotations and items: of any value or item. parse's measure of items; soundItem and soundItems of any items. soundItems of any items. parse's writer, with blocks that it leaves alone. -/
import Derived.Test.YtmpfbjmaiddigaaGreatDoorGar
import Derived.Test.YtmpfbjmaiddigaaGreatDoorGau
import Derived.Test.YtmpfbjmaiddigaaGreatDoorGag
import Derived.Test.YtmpfbjmaiddigaaGreatDoorGaf
namespace Go.Proofs.YtmpfbjmaiddigaaGreatDoor
open Go.RowKit Go.Lib
set_option linter.unusedSimpArgs false
set_option linter.unusedVariables false
/-- what holds no others and has a text: no box -/
def alP (t : Vt) : Bool := alB t && decide (t.k ≠ 6)
/-- is each part what may be written? -/
def okP : Nat → Bool → Vt → Bool
  | 0, _, _ => false
  | d + 1, true, t => if t.k = 7 then clB t.s else if t.k = 8 then false else okP d false t
  | d + 1, false, t => if t.k = 4 ∨ t.k = 5 then t.l.all (okP d (decide (t.k = 5))) else alP t
def mpB (d : Nat) (i : Bool) (t : Vt) (k o : Nat) : Bool := okP d i t && decide (k + sz d i t ≤ 1024) && decide (o + dp d i t ≤ 32)
/-- the same of parts, one behind the other -/
def epB (d : Nat) (i : Bool) : List Vt → Nat → Nat → Bool
  | [], _, _ => true
  | x :: r, k, o => mpB d i x k o && epB d i r (k + sz d i x) o
theorem epB_eq (d : Nat) (i : Bool) : ∀ (l : List Vt) (k o : Nat), k ≤ 1024 → o ≤ 32 → epB d i l k o = (l.all (okP d i) && decide (k + (l.map (sz d i)).sum ≤ 1024) && decide (o + (l.map (dp d i)).foldl max 0 ≤ 32))
  | [], k, o, hk, ho => by simp [epB, hk, ho]
  | x :: r, k, o, hk, ho => by
    have hp := sz_pos d i x
    simp only [epB, mpB, List.all_cons, List.map_cons, List.sum_cons, List.foldl_cons]
    rw [foldl_max _ (max 0 (dp d i x))]
    by_cases h1 : k + sz d i x ≤ 1024
    · rw [epB_eq d i r (k + sz d i x) o h1 ho]
      rw [Bool.eq_iff_iff]
      simp only [Bool.and_eq_true, decide_eq_true_eq]
      constructor
      · rintro ⟨⟨⟨a1, a2⟩, a3⟩, ⟨a4, a5⟩, a6⟩
        exact ⟨⟨⟨a1, a4⟩, by omega⟩, by omega⟩
      · rintro ⟨⟨⟨a1, a4⟩, a2⟩, a3⟩
        exact ⟨⟨⟨a1, h1⟩, by omega⟩, ⟨a4, by omega⟩, by omega⟩
    · have e1 : decide (k + sz d i x ≤ 1024) = false := decide_eq_false h1
      have e2 : decide (k + (sz d i x + (r.map (sz d i)).sum) ≤ 1024) = false := decide_eq_false (by omega)
      rw [e1, e2]
      simp
set_option maxRecDepth 100000 in
theorem pmore_all (M : Nat) (k : Int) (w : World) (h : MlB w M k) (h1 : 0 ≤ k) (h2 : k ≤ 1024) : Calls Tryz.prog 70 #[.pointer (some ⟨M, 0, none⟩)] w fun e w' => e = .returned (.bool (decide (1 ≤ k))) ∧ Only (fun b => b = M) w w' ∧ MlB w' M (k - 1) := by
  have c0 := wr_cell h 0
  have f0 := wr_froz h 0
  simp only [List.getElem?_toArray, List.getElem?_cons_zero] at c0
  have HM : Hid (MlB w M k) := h
  clear h
  go_enter Tryz.func70, Tryz.ntmps70
  go_wp2
  go_ret
  exact ⟨rfl, (Only.refl (fun b => b = M) w).setCell _ _ (fun _ => rfl), (heap_setCell_same _ _ _ _ _ _ HM.out).trans rfl⟩
/-- what parse's measure answers of what holds no others: the post -/
def PzP (Z : Bool) (M : Nat) (k : Int) (w : World) (e : Ending) (w' : World) : Prop := e = .returned (.bool Z) ∧ Hid (Only (fun b => b = M) w w' ∧ (Z = true → MlB w' M k))
set_option maxRecDepth 100000 in
set_option maxHeartbeats 4000000 in
theorem pz_full (M : Nat) (v : Value) (o : Int) (w : World) (h : MlB w M 0) : Calls Tryz.prog 69 #[.pointer (some ⟨M, 0, none⟩), v, .int .i64 o] w (PzP false M 0 w) := by
  have HM : Hid _ := pmore_all M 0 w h (by omega) (by omega)
  clear h
  go_enter Tryz.func69, Tryz.ntmps69
  go_wp2_with fail
  refine (show Calls Tryz.prog 70 _ _ _ from HM.out).mono ?_
  rintro e w1 ⟨rfl, o1, _⟩
  have O1 : Hid (Only (fun b => b = M) w w1) := o1
  clear HM o1
  go_wp2
  go_ret
  exact ⟨rfl, O1.out, fun h => by cases h⟩
set_option maxRecDepth 100000 in
set_option maxHeartbeats 4000000 in
theorem pz_int (M : Nat) (n o : Int) (k : Int) (w : World) (h : MlB w M k) (h1 : 1 ≤ k) (h2 : k ≤ 1024) (hn : -9223372036854775808 ≤ n ∧ n ≤ 9223372036854775807) : Calls Tryz.prog 69 #[.pointer (some ⟨M, 0, none⟩), .iface 88 (.agg #[.int .i64 n]), .int .i64 o] w (PzP (decide (-1152921504606846976 ≤ n) && decide (n ≤ 1152921504606846975)) M (k - 1) w) := by
  have HM : Hid _ := pmore_any M k w h h1 h2
  have hInt := va_hit 88 79 _ Tryz.underlying88 (by intro m h; cases h)
  clear h h1 h2
  by_cases a1 : -1152921504606846976 ≤ n
  · by_cases a2 : n ≤ 1152921504606846975
    · rw [decide_eq_true a1, decide_eq_true a2]
      go_enter Tryz.func69, Tryz.ntmps69
      go_wp2_with fail
      refine (show Calls Tryz.prog 70 _ _ _ from HM.out).mono ?_
      rintro e w1 ⟨rfl, o1, m1⟩
      have O1 : Hid (Only (fun b => b = M) w w1 ∧ MlB w1 M (k - 1)) := ⟨o1, m1⟩
      clear HM o1 m1
      go_wp2
      all_goals
        go_ret
        exact ⟨by simp [*], O1.out.1.alloc _, fun _ => mlB_keep O1.out.2 ((Only.refl _ _).alloc _)⟩
    · rw [decide_eq_true a1, decide_eq_false a2]
      go_enter Tryz.func69, Tryz.ntmps69
      go_wp2_with fail
      refine (show Calls Tryz.prog 70 _ _ _ from HM.out).mono ?_
      rintro e w1 ⟨rfl, o1, m1⟩
      have O1 : Hid (Only (fun b => b = M) w w1) := o1
      clear HM o1 m1
      go_wp2
      all_goals
        go_ret
        exact ⟨by simp [*], O1.out.alloc _, fun h => by cases h⟩
  · rw [decide_eq_false a1, Bool.false_and]
    go_enter Tryz.func69, Tryz.ntmps69
    go_wp2_with fail
    refine (show Calls Tryz.prog 70 _ _ _ from HM.out).mono ?_
    rintro e w1 ⟨rfl, o1, m1⟩
    have O1 : Hid (Only (fun b => b = M) w w1) := o1
    clear HM o1 m1
    go_wp2
    all_goals
      go_ret
      exact ⟨by simp [*], O1.out.alloc _, fun h => by cases h⟩
set_option maxRecDepth 100000 in
set_option maxHeartbeats 4000000 in
theorem pz_bool (M : Nat) (b : Bool) (o : Int) (k : Int) (w : World) (h : MlB w M k) (h1 : 1 ≤ k) (h2 : k ≤ 1024) : Calls Tryz.prog 69 #[.pointer (some ⟨M, 0, none⟩), .iface 120 (.agg #[.bool b]), .int .i64 o] w (PzP true M (k - 1) w) := by
  have HM : Hid _ := pmore_any M k w h h1 h2
  have hInt := va_miss 120 88 79 _ Tryz.underlying88 (by intro m h; cases h) (by decide) _ zI
  have hStr := va_miss 120 118 79 _ Tryz.underlying118 (by intro m h; cases h) (by decide) _ zS
  have hBl := va_hit 120 79 _ Tryz.underlying120 (by intro m h; cases h)
  clear h h1 h2
  go_enter Tryz.func69, Tryz.ntmps69
  go_wp2_with fail
  refine (show Calls Tryz.prog 70 _ _ _ from HM.out).mono ?_
  rintro e w1 ⟨rfl, o1, m1⟩
  have O1 : Hid (Only (fun b => b = M) w w1 ∧ MlB w1 M (k - 1)) := ⟨o1, m1⟩
  clear HM o1 m1
  go_wp2
  all_goals
    go_ret
    refine ⟨by simp [*], ?_, fun _ => mlB_keep O1.out.2 ?_⟩
    · repeat' first | exact O1.out.1 | apply Only.alloc
    · repeat' first | exact Only.refl _ _ | apply Only.alloc
set_option maxRecDepth 100000 in
set_option maxHeartbeats 4000000 in
theorem pz_str (M : Nat) (s : ByteArray) (o : Int) (k : Int) (w : World) (h : MlB w M k) (h1 : 1 ≤ k) (h2 : k ≤ 1024) (hs : s.size ≤ 9223372036854775807) (hT : Tb w) (hg : Mg M) : Calls Tryz.prog 69 #[.pointer (some ⟨M, 0, none⟩), .iface 118 (.agg #[.string s]), .int .i64 o] w (PzP (decide (s.size ≤ 4096) && vlB s) M (k - 1) w) := by
  have HM : Hid _ := pmore_any M k w h h1 h2
  have HV : Hid (∀ w1, Only (fun b => b = M) w w1 → Calls Tryz.prog 84 #[.string s] w1 fun e w' => e = .returned (.bool (vlB s)) ∧ Only (fun _ => False) w1 w') := fun w1 o => valid_any s hs w1 (hT.keep o hg.1 hg.2.1 hg.2.2)
  have hInt := va_miss 118 88 79 _ Tryz.underlying88 (by intro m h; cases h) (by decide) _ zI
  have hStr := va_hit 118 79 _ Tryz.underlying118 (by intro m h; cases h)
  obtain ⟨b, hb⟩ : ∃ b, b = vlB s := ⟨_, rfl⟩
  rw [← hb] at HV ⊢
  clear h hT hg h1 h2 hb
  by_cases a1 : s.size ≤ 4096
  · have i1 : (s.size : Int) ≤ 4096 := by omega
    rw [decide_eq_true a1, Bool.true_and]
    go_enter Tryz.func69, Tryz.ntmps69
    go_wp2_with fail
    refine (show Calls Tryz.prog 70 _ _ _ from HM.out).mono ?_
    rintro e w1 ⟨rfl, o1, m1⟩
    have O1 : Hid (Only (fun b => b = M) w w1 ∧ MlB w1 M (k - 1)) := ⟨o1, m1⟩
    clear HM o1 m1
    go_wp2_with fail
    refine (show Calls Tryz.prog 84 _ _ _ from HV.out _ (by repeat' first | exact O1.out.1 | apply Only.alloc)).mono ?_
    rintro e w2 ⟨rfl, o2⟩
    have o3 : Only (fun _ => False) w1 w2 := Only.trans (show Only (fun _ => False) w1 _ by repeat' first | exact (Only.refl _ _) | apply Only.alloc) o2 (fun _ _ g => g)
    have HF : Hid (Only (fun b => b = M) w w2 ∧ MlB w2 M (k - 1)) := ⟨O1.out.1.trans (o3.mono (bs' := fun b => b = M) (fun _ _ g => g.elim)) (fun _ _ g => g), mlB_keep O1.out.2 o3⟩
    clear HV o2 o3 O1
    go_wp2
    go_ret
    exact ⟨rfl, HF.out.1, fun _ => HF.out.2⟩
  · have i1 : ¬ (s.size : Int) ≤ 4096 := by omega
    rw [decide_eq_false a1, Bool.false_and]
    go_enter Tryz.func69, Tryz.ntmps69
    go_wp2_with fail
    refine (show Calls Tryz.prog 70 _ _ _ from HM.out).mono ?_
    rintro e w1 ⟨rfl, o1, m1⟩
    have O1 : Hid (Only (fun b => b = M) w w1) := o1
    clear HM o1 m1 HV
    go_wp2
    all_goals
      go_ret
      refine ⟨by simp [*], ?_, fun h => by cases h⟩
      repeat' first | exact O1.out | apply Only.alloc
set_option maxRecDepth 100000 in
set_option maxHeartbeats 4000000 in
/-- what is of none of the five kinds -/
theorem pz_none (M : Nat) (v : Value) (o : Int) (k : Int) (w : World) (h : MlB w M k) (h1 : 1 ≤ k) (h2 : k ≤ 1024) (hk : v = .nilIface ∨ ∃ T x, v = .iface T x)
    (hInt : ∀ W : World, (Instr.typeAssert v 79 88 true).run Tryz.prog W = .ok (.tuple #[.agg #[.int .i64 0], .bool false]) W)
    (hStr : ∀ W : World, (Instr.typeAssert v 79 118 true).run Tryz.prog W = .ok (.tuple #[.agg #[.string ⟨#[]⟩], .bool false]) W)
    (hBl : ∀ W : World, (Instr.typeAssert v 79 120 true).run Tryz.prog W = .ok (.tuple #[.agg #[.bool false], .bool false]) W)
    (hLi : ∀ W : World, (Instr.typeAssert v 79 85 true).run Tryz.prog W = .ok (.tuple #[.agg #[.slice none 0 0], .bool false]) W)
    (hQu : ∀ W : World, (Instr.typeAssert v 79 90 true).run Tryz.prog W = .ok (.tuple #[.agg #[.slice none 0 0], .bool false]) W) :
    Calls Tryz.prog 69 #[.pointer (some ⟨M, 0, none⟩), v, .int .i64 o] w (PzP false M (k - 1) w) := by
  have HM : Hid _ := pmore_any M k w h h1 h2
  clear h h1 h2
  go_enter Tryz.func69, Tryz.ntmps69
  go_wp2_with fail
  refine (show Calls Tryz.prog 70 _ _ _ from HM.out).mono ?_
  rintro e w1 ⟨rfl, o1, m1⟩
  have O1 : Hid (Only (fun b => b = M) w w1) := o1
  clear HM o1 m1
  go_wp2
  all_goals
    go_ret
    refine ⟨by simp [*], ?_, fun h => by cases h⟩
    repeat' first | exact O1.out | apply Only.alloc
end Go.Proofs.YtmpfbjmaiddigaaGreatDoor
namespace Go.Proofs.YtmpfbjmaiddigaaGreatDoor
open Go.RowKit Go.Lib
set_option linter.unusedSimpArgs false
set_option linter.unusedVariables false
theorem PzP.no {M : Nat} {a b : Int} {w : World} {e : Ending} {w' : World} (h : PzP false M a w e w') : PzP false M b w e w' := ⟨h.1, h.2.out.1, fun g => by cases g⟩
theorem SmT.num {e : Nat} {t : Vt} (h : SmT e t) : -9223372036854775808 ≤ t.n ∧ t.n ≤ 9223372036854775807 := by
  cases e with
  | zero => exact h.elim
  | succ e => exact h.2.2.2.1
/-- what parse's measure answers of a value or an item -/
def MpC (d : Nat) (i : Bool) (F : Nat) : Prop := ∀ (t : Vt) (v : Value) (w : World) (S : Nat → Prop) (M k o : Nat), TiAt w S d i t v → (∀ b, S b → b ≠ M) → (∃ e, SmT e t) → MlB w M (1024 - (k : Int)) → k ≤ 1024 → o ≤ 32 → Tb w → Mg M →
  Calls Tryz.prog F #[.pointer (some ⟨M, 0, none⟩), v, .int .i64 (32 - (o : Int))] w (PzP (mpB d i t k o) M (1024 - ((k + sz d i t : Nat) : Int)) w)
set_option maxRecDepth 100000 in
theorem pzleaf (d : Nat) (t : Vt) (v : Value) (w : World) (S : Nat → Prop) (M k o : Nat) (h : TiAt w S (d + 1) false t v) (hk4 : ¬ (t.k = 4 ∨ t.k = 5)) (hsm : ∃ e, SmT e t) (hv : MlB w M (1024 - (k : Int))) (hk : k ≤ 1024) (ho : o ≤ 32) (hT : Tb w) (hg : Mg M) :
    Calls Tryz.prog 69 #[.pointer (some ⟨M, 0, none⟩), v, .int .i64 (32 - (o : Int))] w (PzP (mpB (d + 1) false t k o) M (1024 - ((k + sz (d + 1) false t : Nat) : Int)) w) := by
  obtain ⟨e0, he0⟩ := hsm
  have hnil := (leaf_lq h hk4).2
  have hlq := (leaf_lq h hk4).1
  have hsz : sz (d + 1) false t = 1 := by unfold sz; rw [hnil]; rfl
  have hdp : dp (d + 1) false t = 0 := by unfold dp; rw [if_neg hk4]
  have hok : okP (d + 1) false t = alP t := by unfold okP; rw [if_neg hk4]
  have hms : mpB (d + 1) false t k o = (alP t && decide (k + 1 ≤ 1024)) := by
    unfold mpB
    rw [hok, hsz, hdp, decide_eq_true (show o + 0 ≤ 32 by omega), Bool.and_true]
  rw [hms, hsz]
  by_cases h1 : k + 1 ≤ 1024
  · rw [decide_eq_true h1, Bool.and_true]
    have hk1 : (1 : Int) ≤ 1024 - (k : Int) := by omega
    have hk2 : (1024 : Int) - (k : Int) ≤ 1024 := by omega
    have hke : (1024 : Int) - ((k + 1 : Nat) : Int) = 1024 - (k : Int) - 1 := by omega
    rw [hke]
    rcases h with ⟨e, _, rfl⟩ | ⟨e, _, rfl⟩ | ⟨e, _, rfl⟩ | ⟨e, _, rfl⟩ | ⟨e, _, rfl⟩ | ⟨e, _⟩
    · have ha : alP t = (decide (-1152921504606846976 ≤ t.n) && decide (t.n ≤ 1152921504606846975)) := by simp [alP, alB, e]
      rw [ha]
      exact pz_int M t.n _ _ w hv hk1 hk2 he0.num
    · have ha : alP t = (decide (t.s.size ≤ 4096) && vlB t.s) := by simp [alP, alB, e]
      rw [ha]
      exact pz_str M t.s _ _ w hv hk1 hk2 (by have := he0.str; omega) hT hg
    · have ha : alP t = true := by simp [alP, alB, e]
      rw [ha]
      exact pz_bool M (t.n != 0) _ _ w hv hk1 hk2
    · have ha : alP t = false := by simp [alP, alB, e]
      rw [ha]
      exact pz_none M _ _ _ w hv hk1 hk2 (.inr ⟨_, _, rfl⟩) (va_miss 123 88 79 _ Tryz.underlying88 (by intro m h; cases h) (by decide) _ zI _) (va_miss 123 118 79 _ Tryz.underlying118 (by intro m h; cases h) (by decide) _ zS _) (va_miss 123 120 79 _ Tryz.underlying120 (by intro m h; cases h) (by decide) _ (fun _ => rfl) _) hlq.1 hlq.2
    · have ha : alP t = false := by simp [alP, alB, e]
      rw [ha]
      exact pz_none M _ _ _ w hv hk1 hk2 (.inl rfl) bad_nil.i bad_nil.s bad_nil.b hlq.1 hlq.2
    · exact absurd e hk4
  · obtain rfl : k = 1024 := by omega
    rw [decide_eq_false h1, Bool.and_false]
    exact (pz_full M v _ w hv).mono fun e w' g => g.no
set_option maxRecDepth 100000 in
set_option maxHeartbeats 4000000 in
theorem ep0_values (ao : Option Addr) (n cap M : Nat) (a : Int) (w : World) : Calls Tryz.prog 85 #[.func (.func 69) #[.pointer (some ⟨M, 0, none⟩)] #[], .slice ao n cap, .int .i64 0] w (PzP false M a w) := by
  have O0 : Hid (Only (fun b => b = M) w w) := Only.refl _ _
  go_enter Tryz.func85, Tryz.ntmps85
  go_wp2
  go_ret
  exact ⟨rfl, O0.out, fun g => by cases g⟩
set_option maxRecDepth 100000 in
set_option maxHeartbeats 4000000 in
theorem ep_values (d : Nat) (H : MpC d false 69) (l : List Vt) (ao : Option Addr) (cap : Nat) (w : World) (S : Nat → Prop) (M k o : Nat) (hl : ∀ (j : Nat) (x : Vt), l[j]? = some x → ∃ g q u, ao = some ⟨g, q, none⟩ ∧ S g ∧ w.cell? ⟨g, q + j, none⟩ = some u ∧ TiAt w S d false x u) (hM : ∀ b, S b → b ≠ M) (hsm : ∀ x ∈ l, ∃ e, SmT e x) (hlen : l.length ≤ 2513169434900) (hv : MlB w M (1024 - (k : Int))) (hk : k ≤ 1024) (ho : o + 1 ≤ 32) (hT : Tb w) (hg : Mg M) :
    Calls Tryz.prog 85 #[.func (.func 69) #[.pointer (some ⟨M, 0, none⟩)] #[], .slice ao l.length cap, .int .i64 (32 - (o : Int))] w (PzP (epB d false l k (o + 1)) M (1024 - ((k + (l.map (sz d false)).sum : Nat) : Int)) w) := by
  obtain ⟨Q, hQ⟩ : ∃ Q : Int, Q = 32 - (o : Int) := ⟨_, rfl⟩
  have hQ1 : Q - 1 = 32 - ((o + 1 : Nat) : Int) := by omega
  have hQ0 : 1 ≤ Q ∧ Q ≤ 32 := by omega
  have HE : Hid (∀ (j : Nat) (x : Vt), l[j]? = some x → ∃ g q u, ao = some ⟨g, q, none⟩ ∧ w.cell? ⟨g, q + j, none⟩ = some u ∧ g ≠ M ∧ ∀ (k1 : Nat) w1, Only (fun b => b = M) w w1 → MlB w1 M (1024 - (k1 : Int)) → k1 ≤ 1024 → Calls Tryz.prog 69 #[.pointer (some ⟨M, 0, none⟩), u, .int .i64 (Q - 1)] w1 (PzP (mpB d false x k1 (o + 1)) M (1024 - ((k1 + sz d false x : Nat) : Int)) w1)) := by
    intro j x hx
    obtain ⟨g, q, u, p1, p2, p3, p4⟩ := hl j x hx
    refine ⟨g, q, u, p1, p3, hM g p2, fun k1 w1 o1 hv1 hk1 => ?_⟩
    rw [hQ1]
    exact H x u w1 S M k1 (o + 1) (p4.only o1 (fun b hb => hM b hb)) hM (hsm x (List.mem_of_getElem? hx)) hv1 hk1 ho (hT.keep o1 hg.1 hg.2.1 hg.2.2) hg
  obtain ⟨N, hN⟩ : ∃ N, N = l.length := ⟨_, rfl⟩
  have HN : Hid (N = l.length ∧ N ≤ 2513169434900) := ⟨hN, by omega⟩
  have HV : Hid (MlB w M (1024 - (k : Int)) ∧ k ≤ 1024) := ⟨hv, hk⟩
  obtain ⟨Z, hZ⟩ : ∃ Z, Z = epB d false l k (o + 1) := ⟨_, rfl⟩
  have HZ : Hid (Z = epB d false l k (o + 1)) := hZ
  rw [← hN, ← hZ, ← hQ]
  obtain ⟨hQa, hQb⟩ := hQ0
  have e0 : (Q == 0) = false := by
    have : Q ≠ 0 := by omega
    simpa using this
  clear hl hM hsm hlen hv hk ho hT hg hN hZ H hQ hQ1
  go_enter Tryz.func85, Tryz.ntmps85
  go_wp2
  go_loopw [13] (fun r wr => ∃ j : Nat, r = .int .i64 (j : Int) ∧ j ≤ N ∧ Hid (Z = epB d false (l.drop j) (k + ((l.take j).map (sz d false)).sum) (o + 1) ∧ k + ((l.take j).map (sz d false)).sum ≤ 1024 ∧ Only (fun b => b = M) w wr ∧ MlB wr M (1024 - ((k + ((l.take j).map (sz d false)).sum : Nat) : Int)))) (fun r _ => N - vuOf r)
  case atStart => exact ⟨0, rfl, Nat.zero_le _, by simpa using HZ.out, by simpa using HV.out.2, Only.refl _ _, by simpa using HV.out.1⟩
  case round =>
    obtain ⟨j, rfl, hj, HI⟩ := hrel
    obtain ⟨w1, hw1⟩ : ∃ w1, w1 = wr := ⟨_, rfl⟩
    rw [← hw1] at HI ⊢
    clear hw1
    have hNl := HN.out.1
    by_cases hjN : j < N
    · obtain ⟨x, hx⟩ : ∃ x, l[j]? = some x := ⟨l[j]'(by omega), List.getElem?_eq_getElem (by omega)⟩
      obtain ⟨g, q, u, rfl, c0, hgM, hcall⟩ := HE.out j x hx
      obtain ⟨hz, hk1, o1, hv1⟩ := HI.out
      have c1 := o1.cell c0 hgM
      have HC : Hid _ := hcall _ w1 o1 hv1 hk1
      obtain ⟨k1, hk1e⟩ : ∃ k1, k1 = k + ((l.take j).map (sz d false)).sum := ⟨_, rfl⟩
      rw [← hk1e] at HC hz hk1
      have hdr : l.drop j = x :: l.drop (j + 1) := by
        have hlt : j < l.length := by omega
        rw [List.drop_eq_getElem_cons hlt]
        have := List.getElem?_eq_getElem hlt
        rw [hx] at this
        injection this with this
        rw [← this]
      have hst : k + ((l.take (j + 1)).map (sz d false)).sum = k1 + sz d false x := by
        rw [List.take_add_one, hx, hk1e]
        simp
        omega
      have HX : Hid (j < N ∧ Z = epB d false (x :: l.drop (j + 1)) k1 (o + 1) ∧ k + ((l.take (j + 1)).map (sz d false)).sum = k1 + sz d false x ∧ Only (fun b => b = M) w w1) := ⟨hjN, by rw [← hdr]; exact hz, hst, o1⟩
      have i1 : (j : Int) < (N : Int) := by omega
      have i0 : (0 : Int) ≤ (j : Int) := by omega
      have i4 : j ≤ 2513169434900 := by have := HN.out.2; omega
      obtain ⟨b, hb⟩ : ∃ b, b = mpB d false x k1 (o + 1) := ⟨_, rfl⟩
      have HB : Hid (b = mpB d false x k1 (o + 1)) := hb
      rw [← hb] at HC
      clear hz hk1 o1 hv1 hk1e hdr hst hcall c0 hgM hx hNl hjN hj HI hb
      go_wp2_with fail
      refine (show Calls Tryz.prog 69 _ _ _ from HC.out).mono ?_
      rintro e w2 ⟨rfl, G2⟩
      clear HC c1
      cases b with
      | false =>
        have hZf : Z = false := by
          rw [HX.out.2.1]
          unfold epB
          rw [← HB.out]
          rfl
        have HF : Hid (Z = false ∧ Only (fun b => b = M) w w2) := ⟨hZf, HX.out.2.2.2.trans G2.out.1 (fun _ _ g => g)⟩
        clear G2 hZf
        go_wp2
        go_ret
        exact ⟨by rw [HF.out.1]; rfl, HF.out.2, fun h => by rw [HF.out.1] at h; cases h⟩
      | true =>
        have HF : Hid (Z = epB d false (l.drop (j + 1)) (k + ((l.take (j + 1)).map (sz d false)).sum) (o + 1) ∧ k + ((l.take (j + 1)).map (sz d false)).sum ≤ 1024 ∧ Only (fun b => b = M) w w2 ∧ MlB w2 M (1024 - ((k + ((l.take (j + 1)).map (sz d false)).sum : Nat) : Int))) := by
          rw [HX.out.2.2.1]
          have hm := HB.out.symm
          refine ⟨?_, ?_, HX.out.2.2.2.trans G2.out.1 (fun _ _ g => g), G2.out.2 rfl⟩
          · have := HX.out.2.1
            unfold epB at this
            rw [hm] at this
            simpa using this
          · unfold mpB at hm
            simp only [Bool.and_eq_true, decide_eq_true_eq] at hm
            exact hm.1.2
        have HJ : Hid (j < N) := HX.out.1
        clear G2 HX HB
        go_wp2
        go_roundw
        case rel => exact ⟨j + 1, by go_num, by have := HJ.out; omega, HF⟩
        case measure => simp only [vuOf]; have := HJ.out; omega
    · obtain rfl : j = N := by omega
      have i1 : ¬ (j : Int) < (j : Int) := by omega
      have HF : Hid (Z = true ∧ Only (fun b => b = M) w w1 ∧ MlB w1 M (1024 - ((k + (l.map (sz d false)).sum : Nat) : Int))) := by
        obtain ⟨hz, _, o1, hh⟩ := HI.out
        rw [hNl, List.take_length] at hh
        rw [hNl, List.drop_length] at hz
        exact ⟨hz, o1, hh⟩
      clear HI hNl hjN hj
      go_wp2
      go_ret
      exact ⟨by rw [HF.out.1]; rfl, HF.out.2.1, fun _ => HF.out.2.2⟩
set_option maxRecDepth 100000 in
set_option maxHeartbeats 4000000 in
theorem ep0_items (ao : Option Addr) (n cap M : Nat) (a : Int) (w : World) : Calls Tryz.prog 86 #[.func (.func 49) #[.pointer (some ⟨M, 0, none⟩)] #[], .slice ao n cap, .int .i64 0] w (PzP false M a w) := by
  have O0 : Hid (Only (fun b => b = M) w w) := Only.refl _ _
  go_enter Tryz.func86, Tryz.ntmps86
  go_wp2
  go_ret
  exact ⟨rfl, O0.out, fun g => by cases g⟩
set_option maxRecDepth 100000 in
set_option maxHeartbeats 4000000 in
theorem ep_items (d : Nat) (H : MpC d true 49) (l : List Vt) (ao : Option Addr) (cap : Nat) (w : World) (S : Nat → Prop) (M k o : Nat) (hl : ∀ (j : Nat) (x : Vt), l[j]? = some x → ∃ g q u, ao = some ⟨g, q, none⟩ ∧ S g ∧ w.cell? ⟨g, q + j, none⟩ = some u ∧ TiAt w S d true x u) (hM : ∀ b, S b → b ≠ M) (hsm : ∀ x ∈ l, ∃ e, SmT e x) (hlen : l.length ≤ 2513169434900) (hv : MlB w M (1024 - (k : Int))) (hk : k ≤ 1024) (ho : o + 1 ≤ 32) (hT : Tb w) (hg : Mg M) :
    Calls Tryz.prog 86 #[.func (.func 49) #[.pointer (some ⟨M, 0, none⟩)] #[], .slice ao l.length cap, .int .i64 (32 - (o : Int))] w (PzP (epB d true l k (o + 1)) M (1024 - ((k + (l.map (sz d true)).sum : Nat) : Int)) w) := by
  obtain ⟨Q, hQ⟩ : ∃ Q : Int, Q = 32 - (o : Int) := ⟨_, rfl⟩
  have hQ1 : Q - 1 = 32 - ((o + 1 : Nat) : Int) := by omega
  have hQ0 : 1 ≤ Q ∧ Q ≤ 32 := by omega
  have HE : Hid (∀ (j : Nat) (x : Vt), l[j]? = some x → ∃ g q u, ao = some ⟨g, q, none⟩ ∧ w.cell? ⟨g, q + j, none⟩ = some u ∧ g ≠ M ∧ ∀ (k1 : Nat) w1, Only (fun b => b = M) w w1 → MlB w1 M (1024 - (k1 : Int)) → k1 ≤ 1024 → Calls Tryz.prog 49 #[.pointer (some ⟨M, 0, none⟩), u, .int .i64 (Q - 1)] w1 (PzP (mpB d true x k1 (o + 1)) M (1024 - ((k1 + sz d true x : Nat) : Int)) w1)) := by
    intro j x hx
    obtain ⟨g, q, u, p1, p2, p3, p4⟩ := hl j x hx
    refine ⟨g, q, u, p1, p3, hM g p2, fun k1 w1 o1 hv1 hk1 => ?_⟩
    rw [hQ1]
    exact H x u w1 S M k1 (o + 1) (p4.only o1 (fun b hb => hM b hb)) hM (hsm x (List.mem_of_getElem? hx)) hv1 hk1 ho (hT.keep o1 hg.1 hg.2.1 hg.2.2) hg
  obtain ⟨N, hN⟩ : ∃ N, N = l.length := ⟨_, rfl⟩
  have HN : Hid (N = l.length ∧ N ≤ 2513169434900) := ⟨hN, by omega⟩
  have HV : Hid (MlB w M (1024 - (k : Int)) ∧ k ≤ 1024) := ⟨hv, hk⟩
  obtain ⟨Z, hZ⟩ : ∃ Z, Z = epB d true l k (o + 1) := ⟨_, rfl⟩
  have HZ : Hid (Z = epB d true l k (o + 1)) := hZ
  rw [← hN, ← hZ, ← hQ]
  obtain ⟨hQa, hQb⟩ := hQ0
  have e0 : (Q == 0) = false := by
    have : Q ≠ 0 := by omega
    simpa using this
  clear hl hM hsm hlen hv hk ho hT hg hN hZ H hQ hQ1
  go_enter Tryz.func86, Tryz.ntmps86
  go_wp2
  go_loopw [13] (fun r wr => ∃ j : Nat, r = .int .i64 (j : Int) ∧ j ≤ N ∧ Hid (Z = epB d true (l.drop j) (k + ((l.take j).map (sz d true)).sum) (o + 1) ∧ k + ((l.take j).map (sz d true)).sum ≤ 1024 ∧ Only (fun b => b = M) w wr ∧ MlB wr M (1024 - ((k + ((l.take j).map (sz d true)).sum : Nat) : Int)))) (fun r _ => N - vuOf r)
  case atStart => exact ⟨0, rfl, Nat.zero_le _, by simpa using HZ.out, by simpa using HV.out.2, Only.refl _ _, by simpa using HV.out.1⟩
  case round =>
    obtain ⟨j, rfl, hj, HI⟩ := hrel
    obtain ⟨w1, hw1⟩ : ∃ w1, w1 = wr := ⟨_, rfl⟩
    rw [← hw1] at HI ⊢
    clear hw1
    have hNl := HN.out.1
    by_cases hjN : j < N
    · obtain ⟨x, hx⟩ : ∃ x, l[j]? = some x := ⟨l[j]'(by omega), List.getElem?_eq_getElem (by omega)⟩
      obtain ⟨g, q, u, rfl, c0, hgM, hcall⟩ := HE.out j x hx
      obtain ⟨hz, hk1, o1, hv1⟩ := HI.out
      have c1 := o1.cell c0 hgM
      have HC : Hid _ := hcall _ w1 o1 hv1 hk1
      obtain ⟨k1, hk1e⟩ : ∃ k1, k1 = k + ((l.take j).map (sz d true)).sum := ⟨_, rfl⟩
      rw [← hk1e] at HC hz hk1
      have hdr : l.drop j = x :: l.drop (j + 1) := by
        have hlt : j < l.length := by omega
        rw [List.drop_eq_getElem_cons hlt]
        have := List.getElem?_eq_getElem hlt
        rw [hx] at this
        injection this with this
        rw [← this]
      have hst : k + ((l.take (j + 1)).map (sz d true)).sum = k1 + sz d true x := by
        rw [List.take_add_one, hx, hk1e]
        simp
        omega
      have HX : Hid (j < N ∧ Z = epB d true (x :: l.drop (j + 1)) k1 (o + 1) ∧ k + ((l.take (j + 1)).map (sz d true)).sum = k1 + sz d true x ∧ Only (fun b => b = M) w w1) := ⟨hjN, by rw [← hdr]; exact hz, hst, o1⟩
      have i1 : (j : Int) < (N : Int) := by omega
      have i0 : (0 : Int) ≤ (j : Int) := by omega
      have i4 : j ≤ 2513169434900 := by have := HN.out.2; omega
      obtain ⟨b, hb⟩ : ∃ b, b = mpB d true x k1 (o + 1) := ⟨_, rfl⟩
      have HB : Hid (b = mpB d true x k1 (o + 1)) := hb
      rw [← hb] at HC
      clear hz hk1 o1 hv1 hk1e hdr hst hcall c0 hgM hx hNl hjN hj HI hb
      go_wp2_with fail
      refine (show Calls Tryz.prog 49 _ _ _ from HC.out).mono ?_
      rintro e w2 ⟨rfl, G2⟩
      clear HC c1
      cases b with
      | false =>
        have hZf : Z = false := by
          rw [HX.out.2.1]
          unfold epB
          rw [← HB.out]
          rfl
        have HF : Hid (Z = false ∧ Only (fun b => b = M) w w2) := ⟨hZf, HX.out.2.2.2.trans G2.out.1 (fun _ _ g => g)⟩
        clear G2 hZf
        go_wp2
        go_ret
        exact ⟨by rw [HF.out.1]; rfl, HF.out.2, fun h => by rw [HF.out.1] at h; cases h⟩
      | true =>
        have HF : Hid (Z = epB d true (l.drop (j + 1)) (k + ((l.take (j + 1)).map (sz d true)).sum) (o + 1) ∧ k + ((l.take (j + 1)).map (sz d true)).sum ≤ 1024 ∧ Only (fun b => b = M) w w2 ∧ MlB w2 M (1024 - ((k + ((l.take (j + 1)).map (sz d true)).sum : Nat) : Int))) := by
          rw [HX.out.2.2.1]
          have hm := HB.out.symm
          refine ⟨?_, ?_, HX.out.2.2.2.trans G2.out.1 (fun _ _ g => g), G2.out.2 rfl⟩
          · have := HX.out.2.1
            unfold epB at this
            rw [hm] at this
            simpa using this
          · unfold mpB at hm
            simp only [Bool.and_eq_true, decide_eq_true_eq] at hm
            exact hm.1.2
        have HJ : Hid (j < N) := HX.out.1
        clear G2 HX HB
        go_wp2
        go_roundw
        case rel => exact ⟨j + 1, by go_num, by have := HJ.out; omega, HF⟩
        case measure => simp only [vuOf]; have := HJ.out; omega
    · obtain rfl : j = N := by omega
      have i1 : ¬ (j : Int) < (j : Int) := by omega
      have HF : Hid (Z = true ∧ Only (fun b => b = M) w w1 ∧ MlB w1 M (1024 - ((k + (l.map (sz d true)).sum : Nat) : Int))) := by
        obtain ⟨hz, _, o1, hh⟩ := HI.out
        rw [hNl, List.take_length] at hh
        rw [hNl, List.drop_length] at hz
        exact ⟨hz, o1, hh⟩
      clear HI hNl hjN hj
      go_wp2
      go_ret
      exact ⟨by rw [HF.out.1]; rfl, HF.out.2.1, fun _ => HF.out.2.2⟩
end Go.Proofs.YtmpfbjmaiddigaaGreatDoor
namespace Go.Proofs.YtmpfbjmaiddigaaGreatDoor
open Go.RowKit Go.Lib
set_option linter.unusedSimpArgs false
set_option linter.unusedVariables false
/-- a list or a quotation: room for itself, one more within, and its parts -/
theorem mp_parts {d : Nat} {t : Vt} (hk : t.k = 4 ∨ t.k = 5) {k o : Nat} (h1 : k + 1 ≤ 1024) (ho : o ≤ 32) : mpB (d + 1) false t k o = (decide (o + 1 ≤ 32) && epB d (decide (t.k = 5)) t.l (k + 1) (o + 1)) := by
  have e1 : okP (d + 1) false t = t.l.all (okP d (decide (t.k = 5))) := by unfold okP; rw [if_pos hk]
  have e2 : sz (d + 1) false t = 1 + (t.l.map (sz d (decide (t.k = 5)))).sum := by unfold sz; rfl
  have e3 : dp (d + 1) false t = 1 + (t.l.map (dp d (decide (t.k = 5)))).foldl max 0 := by unfold dp; rw [if_pos hk]
  unfold mpB
  rw [e1, e2, e3]
  by_cases h2 : o + 1 ≤ 32
  · rw [decide_eq_true h2, Bool.true_and, epB_eq _ _ _ _ _ h1 h2, Nat.add_assoc k 1, Nat.add_assoc o 1]
  · have h3 : ¬ o + (1 + (t.l.map (dp d (decide (t.k = 5)))).foldl max 0) ≤ 32 := by omega
    rw [decide_eq_false h2, Bool.false_and, decide_eq_false h3, Bool.and_false]
theorem zBo (W : World) : (zeroValue 120).run Tryz.prog W = .ok (.agg #[.bool false]) W := by kernel_rfl
set_option maxRecDepth 100000 in
set_option maxHeartbeats 4000000 in
theorem pz_list (M : Nat) (L : Value) (Z : Bool) (o k a : Int) (w : World) (h : MlB w M k) (h1 : 1 ≤ k) (h2 : k ≤ 1024) (hL : ∃ ao n cap, L = .slice ao n cap) (HE0 : ∀ w1, Only (fun b => b = M) w w1 → MlB w1 M (k - 1) → Calls Tryz.prog 85 #[.func (.func 69) #[.pointer (some ⟨M, 0, none⟩)] #[], L, .int .i64 o] w1 (PzP Z M a w1)) :
    Calls Tryz.prog 69 #[.pointer (some ⟨M, 0, none⟩), .iface 85 (.agg #[L]), .int .i64 o] w (PzP Z M a w) := by
  have HM : Hid _ := pmore_any M k w h h1 h2
  have HE : Hid _ := HE0
  have hInt := va_miss 85 88 79 _ Tryz.underlying88 (by intro m h; cases h) (by decide) _ zI
  have hStr := va_miss 85 118 79 _ Tryz.underlying118 (by intro m h; cases h) (by decide) _ zS
  have hBl := va_miss 85 120 79 _ Tryz.underlying120 (by intro m h; cases h) (by decide) _ zBo
  have hLi := va_hit 85 79 _ Tryz.underlying85 (by intro m h; cases h)
  clear h h1 h2 HE0
  obtain ⟨ao, n, cap, rfl⟩ := hL
  go_enter Tryz.func69, Tryz.ntmps69
  go_wp2_with fail
  refine (show Calls Tryz.prog 70 _ _ _ from HM.out).mono ?_
  rintro e w1 ⟨rfl, o1, m1⟩
  have O1 : Hid (Only (fun b => b = M) w w1 ∧ MlB w1 M (k - 1)) := ⟨o1, m1⟩
  clear HM o1 m1
  go_wp2_with fail
  have oo : ∀ w2, Only (fun _ => False) w1 w2 → Only (fun b => b = M) w w2 ∧ MlB w2 M (k - 1) := fun w2 o2 => ⟨O1.out.1.trans (o2.mono (bs' := fun b => b = M) (fun _ _ g => g.elim)) (fun _ _ g => g), mlB_keep O1.out.2 o2⟩
  have OO : Hid (∀ w2, Only (fun _ => False) w1 w2 → Only (fun b => b = M) w w2 ∧ MlB w2 M (k - 1)) := oo
  clear oo
  refine (show Calls Tryz.prog 85 _ _ _ from HE.out _ (OO.out _ (by repeat' first | exact Only.refl _ _ | apply Only.alloc)).1 (OO.out _ (by repeat' first | exact Only.refl _ _ | apply Only.alloc)).2).mono ?_
  rintro e w2 ⟨rfl, G2⟩
  have HF : Hid (Only (fun b => b = M) w w2 ∧ (Z = true → MlB w2 M a)) := ⟨Only.trans (OO.out _ (by repeat' first | exact Only.refl _ _ | apply Only.alloc)).1 G2.out.1 (fun _ _ g => g), G2.out.2⟩
  clear HE G2 OO O1
  go_wp2
  go_ret
  exact ⟨rfl, HF.out⟩
set_option maxRecDepth 100000 in
set_option maxHeartbeats 4000000 in
theorem pz_quot (M : Nat) (L : Value) (Z : Bool) (o k a : Int) (w : World) (h : MlB w M k) (h1 : 1 ≤ k) (h2 : k ≤ 1024) (hL : ∃ ao n cap, L = .slice ao n cap) (HE0 : ∀ w1, Only (fun b => b = M) w w1 → MlB w1 M (k - 1) → Calls Tryz.prog 86 #[.func (.func 49) #[.pointer (some ⟨M, 0, none⟩)] #[], L, .int .i64 o] w1 (PzP Z M a w1)) :
    Calls Tryz.prog 69 #[.pointer (some ⟨M, 0, none⟩), .iface 90 (.agg #[L]), .int .i64 o] w (PzP Z M a w) := by
  have HM : Hid _ := pmore_any M k w h h1 h2
  have HE : Hid _ := HE0
  have hInt := va_miss 90 88 79 _ Tryz.underlying88 (by intro m h; cases h) (by decide) _ zI
  have hStr := va_miss 90 118 79 _ Tryz.underlying118 (by intro m h; cases h) (by decide) _ zS
  have hBl := va_miss 90 120 79 _ Tryz.underlying120 (by intro m h; cases h) (by decide) _ zBo
  have hLi := va_miss 90 85 79 _ Tryz.underlying85 (by intro m h; cases h) (by decide) _ zL
  have hQu := va_hit 90 79 _ Tryz.underlying90 (by intro m h; cases h)
  clear h h1 h2 HE0
  obtain ⟨ao, n, cap, rfl⟩ := hL
  go_enter Tryz.func69, Tryz.ntmps69
  go_wp2_with fail
  refine (show Calls Tryz.prog 70 _ _ _ from HM.out).mono ?_
  rintro e w1 ⟨rfl, o1, m1⟩
  have O1 : Hid (Only (fun b => b = M) w w1 ∧ MlB w1 M (k - 1)) := ⟨o1, m1⟩
  clear HM o1 m1
  go_wp2_with fail
  have oo : ∀ w2, Only (fun _ => False) w1 w2 → Only (fun b => b = M) w w2 ∧ MlB w2 M (k - 1) := fun w2 o2 => ⟨O1.out.1.trans (o2.mono (bs' := fun b => b = M) (fun _ _ g => g.elim)) (fun _ _ g => g), mlB_keep O1.out.2 o2⟩
  have OO : Hid (∀ w2, Only (fun _ => False) w1 w2 → Only (fun b => b = M) w w2 ∧ MlB w2 M (k - 1)) := oo
  clear oo
  refine (show Calls Tryz.prog 86 _ _ _ from HE.out _ (OO.out _ (by repeat' first | exact Only.refl _ _ | apply Only.alloc)).1 (OO.out _ (by repeat' first | exact Only.refl _ _ | apply Only.alloc)).2).mono ?_
  rintro e w2 ⟨rfl, G2⟩
  have HF : Hid (Only (fun b => b = M) w w2 ∧ (Z = true → MlB w2 M a)) := ⟨Only.trans (OO.out _ (by repeat' first | exact Only.refl _ _ | apply Only.alloc)).1 G2.out.1 (fun _ _ g => g), G2.out.2⟩
  clear HE G2 OO O1
  go_wp2
  go_ret
  exact ⟨rfl, HF.out⟩
set_option maxRecDepth 100000 in
theorem mp_val (d : Nat) (H1 : MpC d false 69) (H2 : MpC d true 49) : MpC (d + 1) false 69 := by
  intro t v w S M k o h hM hsm hv hk ho hT hg
  by_cases hk4 : t.k = 4 ∨ t.k = 5
  · obtain ⟨e0, he0⟩ := hsm
    by_cases h1 : k + 1 ≤ 1024
    · rw [mp_parts hk4 h1 ho]
      have hsz : sz (d + 1) false t = 1 + (t.l.map (sz d (decide (t.k = 5)))).sum := by unfold sz; rfl
      rw [hsz]
      have hk1 : (1 : Int) ≤ 1024 - (k : Int) := by omega
      have hk2 : (1024 : Int) - (k : Int) ≤ 1024 := by omega
      have hke : (1024 : Int) - (k : Int) - 1 = 1024 - ((k + 1 : Nat) : Int) := by omega
      rcases h with ⟨e, _⟩ | ⟨e, _⟩ | ⟨e, _⟩ | ⟨e, _⟩ | ⟨e, _⟩ | ⟨_, ao, cap, rfl, hcap, hl⟩
      · omega
      · omega
      · omega
      · omega
      · omega
      · rcases hk4 with e4 | e5
        · have hd : decide (t.k = 5) = false := decide_eq_false (by omega)
          rw [if_pos e4, hd]
          rw [hd] at hl
          refine pz_list M _ _ _ _ _ w hv hk1 hk2 ⟨_, _, _, rfl⟩ fun w1 o1 hv1 => ?_
          rw [hke] at hv1
          by_cases ho2 : o + 1 ≤ 32
          · rw [decide_eq_true ho2, Bool.true_and, show k + (1 + (t.l.map (sz d false)).sum) = (k + 1) + (t.l.map (sz d false)).sum by omega]
            exact ep_values d H1 t.l ao cap w1 S M (k + 1) o (fun j x hx => by
              obtain ⟨g, q, u, p1, p2, p3, p4⟩ := hl j x hx
              exact ⟨g, q, u, p1, p2, o1.cell p3 (hM g p2), p4.only o1 hM⟩) hM he0.parts he0.len hv1 h1 ho2 (hT.keep o1 hg.1 hg.2.1 hg.2.2) hg
          · obtain rfl : o = 32 := by omega
            rw [decide_eq_false ho2, Bool.false_and]
            exact ep0_values _ _ _ _ _ w1
        · have hd : decide (t.k = 5) = true := decide_eq_true e5
          rw [if_neg (show ¬ t.k = 4 by omega), hd]
          rw [hd] at hl
          refine pz_quot M _ _ _ _ _ w hv hk1 hk2 ⟨_, _, _, rfl⟩ fun w1 o1 hv1 => ?_
          rw [hke] at hv1
          by_cases ho2 : o + 1 ≤ 32
          · rw [decide_eq_true ho2, Bool.true_and, show k + (1 + (t.l.map (sz d true)).sum) = (k + 1) + (t.l.map (sz d true)).sum by omega]
            exact ep_items d H2 t.l ao cap w1 S M (k + 1) o (fun j x hx => by
              obtain ⟨g, q, u, p1, p2, p3, p4⟩ := hl j x hx
              exact ⟨g, q, u, p1, p2, o1.cell p3 (hM g p2), p4.only o1 hM⟩) hM he0.parts he0.len hv1 h1 ho2 (hT.keep o1 hg.1 hg.2.1 hg.2.2) hg
          · obtain rfl : o = 32 := by omega
            rw [decide_eq_false ho2, Bool.false_and]
            exact ep0_items _ _ _ _ _ w1
    · have hz := sz_pos (d + 1) false t
      obtain rfl : k = 1024 := by omega
      have e : mpB (d + 1) false t 1024 o = false := by
        unfold mpB
        rw [decide_eq_false (show ¬ 1024 + sz (d + 1) false t ≤ 1024 by omega), Bool.and_false, Bool.false_and]
      rw [e]
      exact (pz_full M v _ w hv).mono fun e w' g => g.no
  · exact pzleaf d t v w S M k o h hk4 hsm hv hk ho hT hg
set_option maxRecDepth 100000 in
set_option maxHeartbeats 4000000 in
theorem pi_push (M : Nat) (u : Value) (Z : Bool) (o a : Int) (w : World) (hu : u = .nilIface ∨ ∃ T y, u = .iface T y) (HV0 : Calls Tryz.prog 69 #[.pointer (some ⟨M, 0, none⟩), u, .int .i64 o] w (PzP Z M a w)) (HV1 : ∀ w1, Only (fun _ => False) w w1 → Calls Tryz.prog 69 #[.pointer (some ⟨M, 0, none⟩), u, .int .i64 o] w1 (PzP Z M a w1)) :
    Calls Tryz.prog 49 #[.pointer (some ⟨M, 0, none⟩), .iface 81 (.agg #[u]), .int .i64 o] w (PzP Z M a w) := by
  have HV : Hid _ := HV1
  have hPu := va_hit 81 36 _ Tryz.underlying81 (by intro m h; cases h)
  clear HV0 HV1
  rcases hu with rfl | ⟨T, y, rfl⟩
  all_goals
    go_enter Tryz.func49, Tryz.ntmps49
    go_wp2_with fail
    refine (show Calls Tryz.prog 69 _ _ _ from HV.out _ (by repeat' first | exact Only.refl _ _ | apply Only.alloc)).mono ?_
    rintro e w2 ⟨rfl, G2⟩
    have HF : Hid (Only (fun b => b = M) w w2 ∧ (Z = true → MlB w2 M a)) := ⟨Only.trans (show Only (fun b => b = M) w _ by repeat' first | exact Only.refl _ _ | apply Only.alloc) G2.out.1 (fun _ _ g => g), G2.out.2⟩
    clear HV G2
    go_wp2
    go_ret
    exact ⟨rfl, HF.out⟩
end Go.Proofs.YtmpfbjmaiddigaaGreatDoor
namespace Go.Proofs.YtmpfbjmaiddigaaGreatDoor
open Go.RowKit Go.Lib
set_option linter.unusedSimpArgs false
set_option linter.unusedVariables false
theorem zPu (W : World) : (zeroValue 81).run Tryz.prog W = .ok (.agg #[.nilIface]) W := by kernel_rfl
theorem zCa (W : World) : (zeroValue 48).run Tryz.prog W = .ok (.agg #[.string ⟨#[]⟩]) W := by kernel_rfl
set_option maxRecDepth 100000 in
set_option maxHeartbeats 4000000 in
theorem pi_nil (M : Nat) (o a : Int) (w : World) : Calls Tryz.prog 49 #[.pointer (some ⟨M, 0, none⟩), .nilIface, .int .i64 o] w (PzP false M a w) := by
  have mP : ∀ W : World, (Instr.typeAssert .nilIface 36 81 true).run Tryz.prog W = .ok (.tuple #[.agg #[.nilIface], .bool false]) W := fun W => by rfl
  have mC : ∀ W : World, (Instr.typeAssert .nilIface 36 48 true).run Tryz.prog W = .ok (.tuple #[.agg #[.string ⟨#[]⟩], .bool false]) W := fun W => by rfl
  have O : Hid (Only (fun b => b = M) w w) := Only.refl _ _
  go_enter Tryz.func49, Tryz.ntmps49
  go_wp2
  all_goals
    go_ret
    refine ⟨rfl, ?_, fun g => by cases g⟩
    repeat' first | exact O.out | apply Only.alloc
set_option maxRecDepth 100000 in
set_option maxHeartbeats 4000000 in
theorem pi_call (M : Nat) (s : ByteArray) (o : Int) (k : Int) (w : World) (h : MlB w M k) (h1 : 0 ≤ k) (h2 : k ≤ 1024) (hT : Tb w) (hg : Mg M) : Calls Tryz.prog 49 #[.pointer (some ⟨M, 0, none⟩), .iface 48 (.agg #[.string s]), .int .i64 o] w (PzP (decide (1 ≤ k) && clB s) M (k - 1) w) := by
  have HM : Hid (∀ w1, Only (fun _ => False) w w1 → _) := fun w1 (o1 : Only (fun _ => False) w w1) => pmore_all M k w1 (mlB_keep h o1) h1 h2
  have HC : Hid (∀ w1, Only (fun b => b = M) w w1 → Calls Tryz.prog 53 #[.string s] w1 fun e w' => e = .returned (.bool (clB s)) ∧ Only (fun _ => False) w1 w') := fun w1 o1 => pcallable_any s w1 (hT.keep o1 hg.1 hg.2.1 hg.2.2).1
  have mP := va_miss 48 81 36 _ Tryz.underlying81 (by intro m h; cases h) (by decide) _ zPu
  have mC := va_hit 48 36 _ Tryz.underlying48 (by intro m h; cases h)
  have O : Hid (Only (fun _ => False) w w) := Only.refl _ _
  have hMs : M < w.heap.size := (Array.getElem?_eq_some_iff.1 h).1
  obtain ⟨b, hb⟩ : ∃ b, b = clB s := ⟨_, rfl⟩
  rw [← hb] at HC ⊢
  clear h h2 hT hg hb
  by_cases a1 : 1 ≤ k
  · rw [decide_eq_true a1, Bool.true_and]
    simp only [decide_eq_true a1] at HM
    go_enter Tryz.func49, Tryz.ntmps49
    go_wp2_with fail
    refine (show Calls Tryz.prog 70 _ _ _ from HM.out _ (by repeat' first | exact O.out | apply Only.alloc)).mono ?_
    rintro e w1 ⟨rfl, o1, m1⟩
    have O1 : Hid (Only (fun b => b = M) w w1 ∧ MlB w1 M (k - 1)) := ⟨Only.trans (show Only (fun b => b = M) w _ by repeat' first | exact Only.refl _ _ | apply Only.alloc) o1 (fun _ _ g => g), m1⟩
    have c1 : w1.cell? ⟨w.heap.size, 0, none⟩ = some (.string s) := by
      have R := (o1.block w.heap.size (by simp) (fun g => by omega)).trans (va_at _ _ _ rfl)
      exact vblk_cells R 0
    clear HM o1 m1
    go_wp2_with fail
    refine (show Calls Tryz.prog 53 _ _ _ from HC.out _ O1.out.1).mono ?_
    rintro e w2 ⟨rfl, o2⟩
    have HF : Hid (Only (fun b => b = M) w w2 ∧ MlB w2 M (k - 1)) := ⟨O1.out.1.trans (o2.mono (bs' := fun b => b = M) (fun _ _ g => g.elim)) (fun _ _ g => g), mlB_keep O1.out.2 o2⟩
    clear HC o2 O1
    go_wp2
    go_ret
    exact ⟨rfl, HF.out.1, fun _ => HF.out.2⟩
  · rw [decide_eq_false a1, Bool.false_and]
    simp only [decide_eq_false a1] at HM
    go_enter Tryz.func49, Tryz.ntmps49
    go_wp2_with fail
    refine (show Calls Tryz.prog 70 _ _ _ from HM.out _ (by repeat' first | exact O.out | apply Only.alloc)).mono ?_
    rintro e w1 ⟨rfl, o1, m1⟩
    have O1 : Hid (Only (fun b => b = M) w w1) := Only.trans (show Only (fun b => b = M) w _ by repeat' first | exact Only.refl _ _ | apply Only.alloc) o1 (fun _ _ g => g)
    clear HM HC o1 m1
    go_wp2
    go_ret
    exact ⟨rfl, O1.out, fun g => by cases g⟩
theorem mp_item (d : Nat) (H : MpC d false 69) : MpC (d + 1) true 49 := by
  intro t v w S M k o h hM hsm hv hk ho hT hg
  rcases h with ⟨h1, h2, rfl⟩ | ⟨h1, h2, rfl⟩ | ⟨h1, h2, u, rfl, hu⟩
  · have e1 : mpB (d + 1) true t k o = (decide ((1 : Int) ≤ 1024 - (k : Int)) && clB t.s) := by
      unfold mpB okP sz dp
      rw [if_pos h1, if_pos (.inl h1), if_pos (.inl h1), decide_eq_true (show o + 0 ≤ 32 by omega), Bool.and_true, Bool.and_comm]
      congr 1
      rw [decide_eq_decide]
      omega
    have e2 : sz (d + 1) true t = 1 := by unfold sz; rw [if_pos (.inl h1)]
    rw [e1, e2, show (1024 : Int) - ((k + 1 : Nat) : Int) = 1024 - (k : Int) - 1 by omega]
    exact pi_call M t.s _ _ w hv (by omega) (by omega) hT hg
  · have e1 : mpB (d + 1) true t k o = false := by
      unfold mpB okP
      rw [if_neg (show ¬ t.k = 7 by omega), if_pos h1, Bool.false_and, Bool.false_and]
    rw [e1]
    exact pi_nil M _ _ w
  · have e1 : mpB (d + 1) true t k o = mpB d false t k o := by
      unfold mpB
      rw [show okP (d + 1) true t = okP d false t from by conv => lhs; unfold okP; rw [if_neg h1, if_neg h2], show sz (d + 1) true t = sz d false t from by conv => lhs; unfold sz; rw [if_neg (by omega)], show dp (d + 1) true t = dp d false t from by conv => lhs; unfold dp; rw [if_neg (by omega)]]
    have e2 : sz (d + 1) true t = sz d false t := by conv => lhs; unfold sz; rw [if_neg (by omega)]
    rw [e1, e2]
    exact pi_push M u _ _ _ w hu.shape2 (H t u w S M k o hu hM hsm hv hk ho hT hg) (fun w1 o1 => (H t u w1 S M k o (hu.only o1 (fun _ _ g => g)) hM hsm (mlB_keep hv o1) hk ho (hT.frame o1) hg).mono fun e w' g => g)
theorem mp_all : ∀ (D d : Nat), d < D → MpC d false 69 ∧ MpC d true 49
  | 0, d, h => by omega
  | D + 1, d, h => by
    cases d with
    | zero => exact ⟨fun t v w0 S M k o h => h.elim, fun t v w0 S M k o h => h.elim⟩
    | succ d =>
      have ih := mp_all D d (by omega)
      exact ⟨mp_val d ih.1 ih.2, mp_item d ih.1⟩
set_option maxRecDepth 100000 in
theorem psoundItem_any {d : Nat} {t : Vt} {v : Value} {w : World} {S : Nat → Prop} (h : TiAt w S d true t v) (hS : ∀ b, S b → b < w.heap.size) (hsm : ∃ e, SmT e t) (hT : Tb w) : Calls Tryz.prog 32 #[v] w fun e w' => e = .returned (.bool (mpB d true t 0 0)) ∧ Only (fun _ => False) w w' := by
  have o0 : Only (fun _ => False) w (w.alloc (.cells #[.int .i64 1024] 126)) := (Only.refl _ w).alloc _
  have HI : Hid _ := (mp_all (d + 1) d (by omega)).2 t v (w.alloc (.cells #[.int .i64 1024] 126)) S w.heap.size 0 0 (h.only o0 (fun _ _ g => g)) (fun b hb => by have := hS b hb; omega) hsm (va_at _ _ _ rfl) (by omega) (by omega) (hT.frame o0) (by have := hT.lt; exact ⟨by omega, by omega, by omega⟩)
  obtain ⟨Z, hZ⟩ : ∃ Z, Z = mpB d true t 0 0 := ⟨_, rfl⟩
  rw [← hZ] at HI ⊢
  have hsh : v = .nilIface ∨ ∃ T y, v = .iface T y := h.shape2
  clear h hS hsm hT o0 hZ
  simp only [Int.natCast_zero, Int.sub_zero] at HI
  rcases hsh with rfl | ⟨T, y, rfl⟩
  all_goals
    go_enter Tryz.func32, Tryz.ntmps32
    go_wp2_with fail
    refine (show Calls Tryz.prog 49 _ _ _ from HI.out).mono ?_
    rintro e w1 ⟨rfl, G1⟩
    have O1 : Hid (Only (fun _ => False) w w1) := ((Only.refl (fun _ => False) w).alloc _).trans G1.out.1 (fun k hk e => by omega)
    clear HI G1
    go_wp2
    go_ret
    exact ⟨rfl, O1.out⟩
end Go.Proofs.YtmpfbjmaiddigaaGreatDoor
namespace Go.Proofs.YtmpfbjmaiddigaaGreatDoor
open Go.RowKit Go.Lib
set_option linter.unusedSimpArgs false
set_option linter.unusedVariables false
/-- is each item sound by itself? -/
def siP (d : Nat) (l : List Vt) : Bool := l.all fun t => mpB d true t 0 0
set_option maxRecDepth 100000 in
set_option maxHeartbeats 4000000 in
theorem psoundItems_any {d : Nat} {l : List Vt} {v : Value} {w : World} {S : Nat → Prop} (h : QiAt w S d true v l) (hS : ∀ b, S b → b < w.heap.size) (hsm : ∀ x ∈ l, ∃ e, SmT e x) (hl : l.length ≤ 2513169434900) (hT : Tb w) : Calls Tryz.prog 17 #[v] w fun e w' => e = .returned (.bool (siP d l)) ∧ Only (fun _ => False) w w' := by
  obtain ⟨ao, cap, rfl, hc, hq⟩ := h
  have HE : Hid (∀ (j : Nat) (x : Vt), l[j]? = some x → ∃ g q u, ao = some ⟨g, q, none⟩ ∧ (u = .nilIface ∨ ∃ T y, u = .iface T y) ∧ (∀ w1, Only (fun _ => False) w w1 → w1.cell? ⟨g, q + j, none⟩ = some u) ∧ ∀ w1, Only (fun _ => False) w w1 → Calls Tryz.prog 32 #[u] w1 fun e w' => e = .returned (.bool (mpB d true x 0 0)) ∧ Only (fun _ => False) w1 w') := fun j x hx => by
    obtain ⟨g, q, u, p1, p2, p3, p4⟩ := hq j x hx
    exact ⟨g, q, u, p1, p4.shape2, fun w1 o => o.cell p3 (fun g => g), fun w1 o => psoundItem_any (p4.only o (fun _ _ g => g)) (fun b hb => Nat.lt_of_lt_of_le (hS b hb) o.size) (hsm x (List.mem_of_getElem? hx)) (hT.frame o)⟩
  obtain ⟨N, hN⟩ : ∃ N, N = l.length := ⟨_, rfl⟩
  have HN : Hid (N = l.length ∧ N ≤ 2513169434900) := ⟨hN, by omega⟩
  obtain ⟨Z, hZ⟩ : ∃ Z, Z = siP d l := ⟨_, rfl⟩
  have HZ : Hid (Z = siP d l) := hZ
  rw [← hN, ← hZ]
  clear hq hS hsm hl hT hN hZ hc
  go_enter Tryz.func17, Tryz.ntmps17
  go_wp2
  go_loopw [7] (fun r wr => ∃ j : Nat, r = .int .i64 (j : Int) ∧ j ≤ N ∧ Hid (Z = siP d (l.drop j) ∧ Only (fun _ => False) w wr)) (fun r _ => N - vuOf r)
  case atStart => exact ⟨0, rfl, Nat.zero_le _, by simpa using HZ.out, Only.refl _ _⟩
  case round =>
    obtain ⟨j, rfl, hj, HI⟩ := hrel
    obtain ⟨w1, hw1⟩ : ∃ w1, w1 = wr := ⟨_, rfl⟩
    rw [← hw1] at HI ⊢
    clear hw1
    have hNl := HN.out.1
    by_cases hjN : j < N
    · obtain ⟨x, hx⟩ : ∃ x, l[j]? = some x := ⟨l[j]'(by omega), List.getElem?_eq_getElem (by omega)⟩
      obtain ⟨g, q, u, rfl, hsh, hc, hcall⟩ := HE.out j x hx
      have c1 := hc w1 HI.out.2
      have HC : Hid _ := hcall w1 HI.out.2
      have hdr : l.drop j = x :: l.drop (j + 1) := by
        have hlt : j < l.length := by omega
        rw [List.drop_eq_getElem_cons hlt]
        have := List.getElem?_eq_getElem hlt
        rw [hx] at this
        injection this with this
        rw [← this]
      obtain ⟨b, hb⟩ : ∃ b, b = mpB d true x 0 0 := ⟨_, rfl⟩
      have HX : Hid (j < N ∧ Z = (b && siP d (l.drop (j + 1))) ∧ Only (fun _ => False) w w1) := ⟨hjN, by rw [HI.out.1, hdr, hb]; rfl, HI.out.2⟩
      rw [← hb] at HC
      have i1 : (j : Int) < (N : Int) := by omega
      have i0 : (0 : Int) ≤ (j : Int) := by omega
      have i4 : j ≤ 2513169434900 := by have := HN.out.2; omega
      clear hcall hc hdr hx hNl hjN hj HI hb HE
      rcases hsh with rfl | ⟨T, y, rfl⟩
      all_goals
        go_wp2_with fail
        refine (show Calls Tryz.prog 32 _ _ _ from HC.out).mono ?_
        rintro e w2 ⟨rfl, o2⟩
        have O2 : Hid (Only (fun _ => False) w w2) := HX.out.2.2.trans o2 (fun _ _ g => g)
        clear HC c1 o2
        cases b with
        | false =>
          have HF : Hid (Z = false) := by rw [HX.out.2.1]; rfl
          go_wp2
          go_ret
          exact ⟨by rw [HF.out]; rfl, O2.out⟩
        | true =>
          have HF : Hid (Z = siP d (l.drop (j + 1)) ∧ Only (fun _ => False) w w2) := ⟨by rw [HX.out.2.1]; rfl, O2.out⟩
          have HJ : Hid (j < N) := HX.out.1
          clear HX
          go_wp2
          go_roundw
          case rel => exact ⟨j + 1, by go_num, by have := HJ.out; omega, HF⟩
          case measure => simp only [vuOf]; have := HJ.out; omega
    · obtain rfl : j = N := by omega
      have i1 : ¬ (j : Int) < (j : Int) := by omega
      have HF : Hid (Z = true ∧ Only (fun _ => False) w w1) := by
        obtain ⟨hz, o1⟩ := HI.out
        rw [hNl, List.drop_length] at hz
        exact ⟨hz, o1⟩
      clear HI hNl hjN hj HE
      go_wp2
      go_ret
      exact ⟨by rw [HF.out.1]; rfl, HF.out.2⟩
end Go.Proofs.YtmpfbjmaiddigaaGreatDoor
namespace Go.Proofs.YtmpfbjmaiddigaaGreatDoor
open Go.RowKit Go.Lib
set_option linter.unusedSimpArgs false
set_option linter.unusedVariables false
/-- a writer whose block and whose bytes are none of the blocks X -/
def WrX (B b : Nat) (X : Nat → Prop) (bs : List Value) (bg : Bool) (w : World) : Prop := B ≤ b ∧ ¬ X b ∧ (∀ k, X k → ∃ c T z, w.heap[k]? = some (.cells c T z) ∧ T ≠ 5) ∧ ∃ p v, w.heap[b]? = some (.cells #[p, v, .bool bg] 62) ∧ (p = .pointer none ∨ p = .pointer (some ⟨b, 0, none⟩)) ∧ w.ownsRowF B 5 1 v bs.length bs ∧ v.ownBlock ≠ some b ∧ ∀ k, X k → v.ownBlock ≠ some k
theorem WrX.u {B b : Nat} {X : Nat → Prop} {bs : List Value} {bg : Bool} {w : World} (h : WrX B b X bs bg w) : WrU B b bs bg w := by
  obtain ⟨hB, hXb, hXs, p, v, hbk, hp, hown, hne, hXv⟩ := h
  exact ⟨hB, p, v, hbk, hp, hown, hne⟩
/-- any writer leaves alone what it does not hold: blocks made behind it -/
theorem WrX.more {B b c : Nat} {X : Nat → Prop} {bs : List Value} {bg : Bool} {w w1 : World} (h : WrX B b X bs bg w) (o : Only (fun _ => False) w w1) (hc : w.heap.size ≤ c) (hc1 : ∃ cs T z, w1.heap[c]? = some (.cells cs T z) ∧ T ≠ 5) : WrX B b (fun k => X k ∨ k = c) bs bg w1 := by
  obtain ⟨hB, hXb, hXs, p, v, hbk, hp, hown, hne, hXv⟩ := h
  have hb := (Array.getElem?_eq_some_iff.1 hbk).1
  refine ⟨hB, fun g => ?_, fun k hk => ?_, p, v, (o.block b hb (fun g => g)).trans hbk, hp, ownsF_keep hown o (fun _ _ g => g), hne, fun k hk e => ?_⟩
  · rcases g with g | g
    · exact hXb g
    · omega
  · rcases hk with hk | rfl
    · obtain ⟨cs, T, z, q1, q2⟩ := hXs k hk
      exact ⟨cs, T, z, (o.block k (Array.getElem?_eq_some_iff.1 q1).1 (fun g => g)).trans q1, q2⟩
    · exact hc1
  · rcases hk with hk | rfl
    · exact hXv k hk e
    · have := (hown.lt k e).2
      omega
theorem WrX.less {B b : Nat} {X Y : Nat → Prop} {bs : List Value} {bg : Bool} {w : World} (h : WrX B b X bs bg w) (hY : ∀ k, Y k → X k) : WrX B b Y bs bg w := by
  obtain ⟨hB, hXb, hXs, p, v, hbk, hp, hown, hne, hXv⟩ := h
  exact ⟨hB, fun g => hXb (hY b g), fun k hk => hXs k (hY k hk), p, v, hbk, hp, hown, hne, fun k hk => hXv k (hY k hk)⟩
set_option maxHeartbeats 4000000 in
set_option maxRecDepth 100000 in
theorem wwrite_x (B b : Nat) (X : Nat → Prop) (bs : List Value) (bg : Bool) (s : ByteArray) (w : World) (h : WrX B b X bs bg w) (hlen : bs.length + s.size ≤ 140737488355328) (hBw : B ≤ w.heap.size) :
    Calls Tryz.prog 56 #[.pointer (some ⟨b, 0, none⟩), .string s] w fun e w' => ∃ q, e = .returned (.tuple #[q, .nilIface]) ∧ WrX B b X (bs ++ strCells s) bg w' ∧ Only (fun k => B ≤ k ∧ ¬ X k) w w' := by
  obtain ⟨i0, hi, hz0, hz1, hz2⟩ := byte_info
  obtain ⟨hB, hXb, hXs, p, v, hbk, hp, hown, hne, hXv⟩ := h
  go_enter Tryz.func56, Tryz.ntmps56
  go_wp2_with fail
  refine (show Calls Tryz.prog 75 _ _ _ from wcheck_any B b p v bg _ hbk hp).mono ?_
  rintro e w1 ⟨rfl, h1, o1⟩
  have hown1 := ownsF_keep hown o1 (fun k hk e => hne (by rw [hk, e]))
  have c1 := wr_cell h1 1
  simp only [List.getElem?_toArray, List.getElem?_cons_zero, List.getElem?_cons_succ] at c1
  have hs1 := o1.size
  go_wp2_with (at_builtin; refine wpList_append_own_stringF _ rfl _ _ 58 9 rfl B 5 i0 Tryz.underlying58 Tryz.underlying9 hi hz0 hz1 hz2 _ _ _ rfl hown1 s rfl ?c3 ?c4 ?c5 ?_)
  case c3 => unfold maxLen; omega
  case c4 => omega
  case c5 => omega
  intro v' w2 hown' hgrow hat
  have hlt : b < w1.heap.size := (Array.getElem?_eq_some_iff.1 h1).1
  have hb2 : w2.heap[b]? = some (.cells #[.pointer (some ⟨b, 0, none⟩), v, .bool bg] 62) := by
    rw [hgrow.block b hlt (fun e => hne e.symm)]
    exact h1
  have d1 := wr_cell hb2 1
  simp only [List.getElem?_toArray, List.getElem?_cons_zero, List.getElem?_cons_succ] at d1
  have f1 := wr_froz hb2 1
  obtain ⟨ao, n', cap, rfl⟩ : ∃ ao n' cap, v' = .slice ao n' cap := by
    rcases hown'.2 with ⟨hv, _⟩ | ⟨g, cap, cur, fz, hv, _⟩
    · exact ⟨_, _, _, hv⟩
    · exact ⟨_, _, _, hv⟩
  have o2 : Only (fun k => v.ownBlock = some k) w1 w2 := (Only.refl _ w1).grown hgrow (fun k e _ => e)
  have hne' : (Value.slice ao n' cap).ownBlock ≠ some b := fun e => by
    rcases hown'.2 with ⟨hv, _⟩ | ⟨g, cap', cur, fz, hv, _, hg, _⟩
    · rw [hv] at e; simp [Value.ownBlock] at e
    · rw [hv] at e
      simp only [Value.ownBlock, Option.some.injEq] at e
      rw [e] at hg
      rw [hb2] at hg
      simp at hg
  have hX2 : ∀ k, X k → ∃ c T z, w2.heap[k]? = some (.cells c T z) ∧ T ≠ 5 := fun k hk => by
    obtain ⟨cs, T, z, q1, q2⟩ := hXs k hk
    have hk1 := (Array.getElem?_eq_some_iff.1 q1).1
    have r1 := (o1.block k hk1 (fun g => hXb (g ▸ hk))).trans q1
    exact ⟨cs, T, z, (o2.block k (Array.getElem?_eq_some_iff.1 r1).1 (hXv k hk)).trans r1, q2⟩
  go_wp2
  go_ret2
  have o3 : Only (fun k => k = b) w2 (w2.setCell ⟨b, 1, none⟩ (.slice ao n' cap)) := (Only.refl (fun k => k = b) w2).setCell _ _ (fun _ => rfl)
  refine ⟨_, rfl, ⟨hB, hXb, fun k hk => by
    obtain ⟨cs, T, z, q1, q2⟩ := hX2 k hk
    exact ⟨cs, T, z, (o3.block k (Array.getElem?_eq_some_iff.1 q1).1 (fun g => hXb (g ▸ hk))).trans q1, q2⟩, .pointer (some ⟨b, 0, none⟩), .slice ao n' cap, (heap_setCell_same _ _ _ _ _ _ hb2).trans rfl, .inr rfl, ?_, hne', fun k hk e => ?_⟩, ?_⟩
  · have h4 := ownsF_keep hown' o3 (fun k hk e => hne' (by rw [hk, e]))
    rw [show (bs ++ strCells s).length = bs.length + s.size by rw [List.length_append, strCells_length]]
    exact h4
  · obtain ⟨cs, T, z, q1, q2⟩ := hX2 k hk
    rcases hown'.2 with ⟨hv, _⟩ | ⟨g, cap', cur, fz, hv, _, hg, _⟩
    · rw [hv] at e; simp [Value.ownBlock] at e
    · rw [hv] at e
      simp only [Value.ownBlock, Option.some.injEq] at e
      rw [e, q1] at hg
      simp only [Option.some.injEq, Obj.cells.injEq] at hg
      exact q2 hg.2.1
  · exact ((o1.mono (bs' := fun k => B ≤ k ∧ ¬ X k) (fun k _ e => by subst e; exact ⟨hB, hXb⟩)).trans o2 (fun k hk e => ⟨(hown1.lt k e).1, fun hx => hXv k hx e⟩)).trans o3 (fun k hk e => by subst e; exact ⟨hB, hXb⟩)
end Go.Proofs.YtmpfbjmaiddigaaGreatDoor
