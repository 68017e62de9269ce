/- The reader of a source in memory, and where it gives up: fault, must. The next token: next. What the next token is: is, reserved, named. Going on: take. Going on with what counts: count, enter. A bracket is opened: enter. What a source's tokens are read as: trees. Trees in memory. -/
import Derived.Test.YtmmggnmgimgdfaaDoorGad
import Derived.Maps.AppendAt
namespace Go.Proofs.YtmmggnmgimgdfaaDoor
open Go.RowKit
set_option linter.unusedSimpArgs false
set_option linter.unusedVariables false
/-- the tokens q lie behind the slice v, in a block ahead of R -/
def TkR (w : World) (R : Nat) (v : Value) (q : List Tok) : Prop :=
  ∃ ao cap, v = .slice ao q.length cap ∧ q.length ≤ cap ∧ ∀ i t, q[i]? = some t → ∃ g k, ao = some ⟨g, k, none⟩ ∧ g < R ∧ w.cell? ⟨g, k + i * 4, none⟩ = some (.int .i64 t.k) ∧ w.cell? ⟨g, k + i * 4 + 1, none⟩ = some (.string t.t) ∧ w.cell? ⟨g, k + i * 4 + 2, none⟩ = some (.int .i64 t.n) ∧ w.cell? ⟨g, k + i * 4 + 3, none⟩ = some (.int .i64 t.a)
/-- a reader at block R: the tokens that are left, the source's length, the brackets that are open, the size so far -/
def RdAt (w : World) (R : Nat) (q : List Tok) (n o z : Int) : Prop :=
  ∃ v, w.heap[R]? = some (.cells #[v, .int .i64 n, .int .i64 o, .int .i64 z] 112) ∧ TkR w R v q
theorem alloc_cell (w : World) (a : Addr) (x : Obj) (u : Value) (g : w.cell? a = some u) : (w.alloc x).cell? a = some u := by
  rw [World.cell?_alloc_old, g]
  intro e
  have : w.heap[a.block]? = none := by rw [e]; simp
  simp [World.cell?, this] at g
theorem results_flt {fn : Func} {u : Tmp} (h : fn.results = #[.cell u 109]) (tmps : Array Value) (w : World) (B : Nat) {x y : Value} (h0 : w.cell? ⟨B, 0, none⟩ = some x) (h1 : w.cell? ⟨B, 1, none⟩ = some y) (ha : tmps.getD u undef = .pointer (some ⟨B, 0, none⟩)) :
    (results fn tmps).run Tryd.prog w = .ok (.agg #[x, y]) w := by
  have ha' : tmps[u]?.getD undef = .pointer (some ⟨B, 0, none⟩) := by simpa using ha
  simp [results, h, ha', asAddr, go_sem, loadVar, isAgg, Tryd.underlying109, h0, h1]
/-- where a reader gives up -/
def flt (q : List Tok) (n : Int) : Int := match q with | [] => n | t :: _ => t.a
set_option maxRecDepth 100000 in
theorem fault_any (R : Nat) (q : List Tok) (n o z e : Int) (w : World) (h : RdAt w R q n o z) :
    Calls Tryd.prog 81 #[.pointer (some ⟨R, 0, none⟩), .int .i64 e] w fun x w' => x = .returned (.agg #[.int .i64 (flt q n), .int .i64 e]) ∧ Only (fun _ => False) w w' := by
  obtain ⟨v, hR, ao, cap, rfl, hcap, hq⟩ := h
  clear hcap
  have hA : ∀ (a : Addr) (u : Value), w.cell? a = some u → ∀ x, (w.alloc x).cell? a = some u := fun a u g x => (alloc_cell w a x u g)
  have k0 := hA _ _ (show w.cell? ⟨R, 0, none⟩ = some (.slice ao q.length cap) by simp [World.cell?, hR])
  have k1 := hA _ _ (show w.cell? ⟨R, 1, none⟩ = some (.int .i64 n) by simp [World.cell?, hR])
  have O0 : Hid (Only (fun _ => False) w w) := Only.refl _ _
  cases q with
  | nil =>
    clear hR hq hA
    simp only [flt, List.length_nil] at k0 ⊢
    go_enter Tryd.func81, Tryd.ntmps81
    go_wp2
    refine bodyPost_ret (results_flt (u := 4) rfl _ _ w.heap.size (x := _) (y := _) ?_ ?_ rfl) rfl ⟨rfl, O0.out.alloc _⟩
    · simp [go_sem]
    · simp [go_sem]
  | cons t q =>
    obtain ⟨g, k, rfl, hgR, c0, c1, c2, c3⟩ := hq 0 t rfl
    clear hgR
    simp only [flt, Nat.zero_mul, Nat.add_zero] at c3 ⊢
    have k3 := hA _ _ c3
    clear hR hq hA c0 c1 c2 c3
    obtain ⟨L, hL⟩ : ∃ L, L = (t :: q).length := ⟨_, rfl⟩
    have hL1 : 0 < L := by subst hL; simp
    rw [← hL] at k0
    clear hL
    have i1 : ¬ (L : Int) = 0 := by omega
    have i2 : (0 : Int) < (L : Int) := by omega
    go_enter Tryd.func81, Tryd.ntmps81
    go_wp2
    refine bodyPost_ret (results_flt (u := 4) rfl _ _ w.heap.size (x := _) (y := _) ?_ ?_ rfl) rfl ⟨rfl, O0.out.alloc _⟩
    · simp [go_sem]
    · simp [go_sem]
/-- how a reader gives up -/
def gup (a e : Int) : Ending := .panicked [{ v := .iface 109 (.agg #[.int .i64 a, .int .i64 e]), recovered := false }]
set_option maxRecDepth 100000 in
theorem must_true (R : Nat) (w : World) :
    Calls Tryd.prog 67 #[.pointer (some ⟨R, 0, none⟩), .bool true] w fun x w' => x = .returned (.tuple #[]) ∧ w' = w := by
  go_enter Tryd.func67, Tryd.ntmps67
  go_wp2
  go_end0
  exact ⟨rfl, rfl⟩
set_option maxRecDepth 100000 in
theorem must_false (R : Nat) (q : List Tok) (n o z : Int) (w : World) (h : RdAt w R q n o z) :
    Calls Tryd.prog 67 #[.pointer (some ⟨R, 0, none⟩), .bool false] w fun x w' => x = gup (flt q n) 9 ∧ Only (fun _ => False) w w' := by
  have HF : Hid (Calls Tryd.prog 81 #[.pointer (some ⟨R, 0, none⟩), .int .i64 9] w fun x w' => x = .returned (.agg #[.int .i64 (flt q n), .int .i64 9]) ∧ Only (fun _ => False) w w') := fault_any R q n o z 9 w h
  go_enter Tryd.func67, Tryd.ntmps67
  go_wp2_with fail
  refine (show Calls Tryd.prog 81 _ _ _ from HF.out).mono ?_
  rintro e w1 ⟨rfl, o1⟩
  have O1 : Hid (Only (fun _ => False) w w1) := o1
  clear HF o1
  go_wp2
  exact ⟨rfl, rfl, O1.out⟩
end Go.Proofs.YtmmggnmgimgdfaaDoor
namespace Go.Proofs.YtmmggnmgimgdfaaDoor
open Go.RowKit
set_option linter.unusedSimpArgs false
set_option linter.unusedVariables false
theorem TkR.only {w w' : World} {R : Nat} {v : Value} {q : List Tok} (h : TkR w R v q) (o : Only (fun _ => False) w w') : TkR w' R v q := by
  obtain ⟨ao, cap, hv, hcap, hq⟩ := h
  refine ⟨ao, cap, hv, hcap, fun i t ht => ?_⟩
  obtain ⟨g, k, ha, hg, c0, c1, c2, c3⟩ := hq i t ht
  exact ⟨g, k, ha, hg, o.cell c0 (fun h => h), o.cell c1 (fun h => h), o.cell c2 (fun h => h), o.cell c3 (fun h => h)⟩
theorem RdAt.only {w w' : World} {R : Nat} {q : List Tok} {n m z : Int} (h : RdAt w R q n m z) (o : Only (fun _ => False) w w') : RdAt w' R q n m z := by
  obtain ⟨v, hR, hq⟩ := h
  exact ⟨v, (o.block R (Array.getElem?_eq_some_iff.1 hR).1 (fun h => h)).trans hR, hq.only o⟩
theorem results_tk {fn : Func} {u : Tmp} (h : fn.results = #[.cell u 140]) (tmps : Array Value) (w : World) (B : Nat) {x y z r : Value} (h0 : w.cell? ⟨B, 0, none⟩ = some x) (h1 : w.cell? ⟨B, 1, none⟩ = some y) (h2 : w.cell? ⟨B, 2, none⟩ = some z) (h3 : w.cell? ⟨B, 3, none⟩ = some r) (ha : tmps.getD u undef = .pointer (some ⟨B, 0, none⟩)) :
    (results fn tmps).run Tryd.prog w = .ok (.agg #[x, y, z, r]) w := by
  have ha' : tmps[u]?.getD undef = .pointer (some ⟨B, 0, none⟩) := by simpa using ha
  simp [results, h, ha', asAddr, go_sem, loadVar, isAgg, Tryd.underlying140, h0, h1, h2, h3]
set_option maxRecDepth 100000 in
theorem next_nil (R : Nat) (n o z : Int) (w : World) (h : RdAt w R [] n o z) :
    Calls Tryd.prog 65 #[.pointer (some ⟨R, 0, none⟩)] w fun x w' => x = gup n 9 ∧ Only (fun _ => False) w w' := by
  have HM : Hid (∀ w1, Only (fun _ => False) w w1 → Calls Tryd.prog 67 #[.pointer (some ⟨R, 0, none⟩), .bool false] w1 fun x w' => x = gup n 9 ∧ Only (fun _ => False) w1 w') := fun w1 o1 => must_false R [] n o z w1 (h.only o1)
  obtain ⟨v, hR, ao, cap, rfl, hcap, hq⟩ := h
  clear hcap
  have k0 : ∀ x, (w.alloc x).cell? ⟨R, 0, none⟩ = some (.slice ao 0 cap) := fun x => alloc_cell w _ x _ (by simp [World.cell?, hR])
  have O0 : Hid (Only (fun _ => False) w w) := Only.refl _ _
  clear hR hq
  go_enter Tryd.func65, Tryd.ntmps65
  go_wp2_with fail
  refine (show Calls Tryd.prog 67 _ _ _ from HM.out _ (O0.out.alloc _)).mono ?_
  rintro e w1 ⟨rfl, o1⟩
  have O1 : Hid (Only (fun _ => False) w w1) := (O0.out.alloc _).trans o1 (fun _ _ g => g)
  clear HM o1
  unfold gup
  go_wp2
  exact ⟨rfl, rfl, O1.out⟩
set_option maxRecDepth 100000 in
theorem next_cons (R : Nat) (t : Tok) (q : List Tok) (n o z : Int) (w : World) (h : RdAt w R (t :: q) n o z) :
    Calls Tryd.prog 65 #[.pointer (some ⟨R, 0, none⟩)] w fun x w' => x = .returned t.v ∧ Only (fun _ => False) w w' := by
  have HM : Hid (∀ w1, Calls Tryd.prog 67 #[.pointer (some ⟨R, 0, none⟩), .bool true] w1 fun x w' => x = .returned (.tuple #[]) ∧ w' = w1) := fun w1 => must_true R w1
  obtain ⟨v, hR, ao, cap, rfl, hcap, hq⟩ := h
  clear hcap
  have k0 : ∀ x, (w.alloc x).cell? ⟨R, 0, none⟩ = some (.slice ao (t :: q).length cap) := fun x => alloc_cell w _ x _ (by simp [World.cell?, hR])
  obtain ⟨g, k, rfl, hgR, c0, c1, c2, c3⟩ := hq 0 t rfl
  clear hgR
  simp only [Nat.zero_mul, Nat.add_zero] at c0 c1 c2 c3
  have d0 := fun x => alloc_cell w _ x _ c0
  have d1 := fun x => alloc_cell w _ x _ c1
  have d2 := fun x => alloc_cell w _ x _ c2
  have d3 := fun x => alloc_cell w _ x _ c3
  clear hR hq c0 c1 c2 c3
  obtain ⟨L, hL⟩ : ∃ L, L = (t :: q).length := ⟨_, rfl⟩
  have hL1 : 0 < L := by subst hL; simp
  rw [← hL] at k0
  clear hL
  have i3 : (0 : Int) < (L : Int) := by omega
  have O0 : Hid (Only (fun _ => False) w w) := Only.refl _ _
  obtain ⟨tk, tt, tn, ta⟩ := t
  simp only [Tok.v] at d0 d1 d2 d3 ⊢
  go_enter Tryd.func65, Tryd.ntmps65
  go_wp2_with fail
  refine (show Calls Tryd.prog 67 _ _ _ from HM.out _).mono ?_
  rintro e w1 ⟨rfl, rfl⟩
  clear HM
  go_wp2
  refine bodyPost_ret (results_tk rfl _ _ w.heap.size (x := _) (y := _) (z := _) (r := _) ?_ ?_ ?_ ?_ rfl) rfl ⟨rfl, O0.out.alloc _⟩
  · simp [go_sem]
  · simp [go_sem]
  · simp [go_sem]
  · simp [go_sem]
end Go.Proofs.YtmmggnmgimgdfaaDoor
namespace Go.Proofs.YtmmggnmgimgdfaaDoor
open Go.RowKit
set_option linter.unusedSimpArgs false
set_option linter.unusedVariables false
set_option maxRecDepth 100000 in
theorem is_nil (R : Nat) (n o z : Int) (s : ByteArray) (w : World) (h : RdAt w R [] n o z) :
    Calls Tryd.prog 50 #[.pointer (some ⟨R, 0, none⟩), .string s] w fun x w' => x = gup n 9 ∧ Only (fun _ => False) w w' := by
  have HM : Hid (∀ w1, Only (fun _ => False) w w1 → Calls Tryd.prog 65 #[.pointer (some ⟨R, 0, none⟩)] w1 fun x w' => x = gup n 9 ∧ Only (fun _ => False) w1 w') := fun w1 o1 => next_nil R n o z w1 (h.only o1)
  have O0 : Hid (Only (fun _ => False) w w) := Only.refl _ _
  clear h
  go_enter Tryd.func50, Tryd.ntmps50
  go_wp2_with fail
  refine (show Calls Tryd.prog 65 _ _ _ from HM.out _ O0.out).mono ?_
  rintro e w1 ⟨rfl, o1⟩
  have O1 : Hid (Only (fun _ => False) w w1) := O0.out.trans o1 (fun _ _ g => g)
  clear HM o1
  unfold gup
  go_wp2
  exact ⟨rfl, rfl, O1.out⟩
def isB (t : Tok) (s : ByteArray) : Bool := (t.k == 1) && (t.t.toList == s.toList)
set_option maxRecDepth 100000 in
theorem is_cons (R : Nat) (t : Tok) (q : List Tok) (n o z : Int) (s : ByteArray) (w : World) (h : RdAt w R (t :: q) n o z) :
    Calls Tryd.prog 50 #[.pointer (some ⟨R, 0, none⟩), .string s] w fun x w' => x = .returned (.bool (isB t s)) ∧ Only (fun _ => False) w w' := by
  have HM : Hid (∀ w1, Only (fun _ => False) w w1 → Calls Tryd.prog 65 #[.pointer (some ⟨R, 0, none⟩)] w1 fun x w' => x = .returned t.v ∧ Only (fun _ => False) w1 w') := fun w1 o1 => next_cons R t q n o z w1 (h.only o1)
  have O0 : Hid (Only (fun _ => False) w w) := Only.refl _ _
  clear h
  obtain ⟨tk, tt, tn, ta⟩ := t
  simp only [Tok.v, isB] at HM ⊢
  go_enter Tryd.func50, Tryd.ntmps50
  go_wp2_with fail
  refine (show Calls Tryd.prog 65 _ _ _ from HM.out _ O0.out).mono ?_
  rintro e w1 ⟨rfl, o1⟩
  have O1 : Hid (Only (fun _ => False) w w1) := O0.out.trans o1 (fun _ _ g => g)
  clear HM o1
  go_wp2
  · go_ret
    exact ⟨by simp [*], O1.out.alloc _⟩
  · go_ret
    exact ⟨by simp [*], O1.out.alloc _⟩
/-- the reserved words -/
def resB (s : ByteArray) : Bool := s.toList == [58] || s.toList == [59] || s.toList == [40] || s.toList == [45, 45] || s.toList == [41] || s.toList == [91] || s.toList == [93] || s.toList == [123] || s.toList == [125] || s.toList == [116] || s.toList == [102]
set_option maxRecDepth 100000 in
theorem reserved_any (s : ByteArray) (w : World) :
    Calls Tryd.prog 82 #[.string s] w fun x w' => x = .returned (.bool (resB s)) ∧ w' = w := by
  go_enter Tryd.func82, Tryd.ntmps82
  go_wp2
  all_goals
    go_ret
    refine ⟨?_, rfl⟩
    first
      | (exfalso; simp_all; done)
      | (unfold resB; simp only [*, Bool.or_true, Bool.or_false, Bool.true_or, Bool.false_or]; done)
      | (unfold resB; simp_all; done)
set_option maxRecDepth 100000 in
theorem named_nil (R : Nat) (n o z : Int) (w : World) (h : RdAt w R [] n o z) :
    Calls Tryd.prog 68 #[.pointer (some ⟨R, 0, none⟩)] w fun x w' => x = gup n 9 ∧ Only (fun _ => False) w w' := by
  have HM : Hid (Calls Tryd.prog 65 #[.pointer (some ⟨R, 0, none⟩)] w fun x w' => x = gup n 9 ∧ Only (fun _ => False) w w') := next_nil R n o z w h
  clear h
  go_enter Tryd.func68, Tryd.ntmps68
  go_wp2_with fail
  refine (show Calls Tryd.prog 65 _ _ _ from HM.out).mono ?_
  rintro e w1 ⟨rfl, o1⟩
  have O1 : Hid (Only (fun _ => False) w w1) := o1
  clear HM o1
  unfold gup
  go_wp2
  exact ⟨rfl, rfl, O1.out⟩
def nmB (t : Tok) : Bool := (t.k == 1) && !(resB t.t)
set_option maxRecDepth 100000 in
theorem named_cons (R : Nat) (t : Tok) (q : List Tok) (n o z : Int) (w : World) (h : RdAt w R (t :: q) n o z) :
    Calls Tryd.prog 68 #[.pointer (some ⟨R, 0, none⟩)] w fun x w' => x = .returned (.bool (nmB t)) ∧ Only (fun _ => False) w w' := by
  have HM : Hid (Calls Tryd.prog 65 #[.pointer (some ⟨R, 0, none⟩)] w fun x w' => x = .returned t.v ∧ Only (fun _ => False) w w') := next_cons R t q n o z w h
  have HR : Hid (∀ w1, Calls Tryd.prog 82 #[.string t.t] w1 fun x w' => x = .returned (.bool (resB t.t)) ∧ w' = w1) := fun w1 => reserved_any t.t w1
  clear h
  obtain ⟨tk, tt, tn, ta⟩ := t
  simp only [Tok.v, nmB] at HM HR ⊢
  obtain ⟨b, hb⟩ : ∃ b, b = resB tt := ⟨_, rfl⟩
  rw [← hb] at HR ⊢
  clear hb
  go_enter Tryd.func68, Tryd.ntmps68
  go_wp2_with fail
  refine (show Calls Tryd.prog 65 _ _ _ from HM.out).mono ?_
  rintro e w1 ⟨rfl, o1⟩
  have O1 : Hid (Only (fun _ => False) w w1) := o1
  clear HM o1
  go_wp2_with fail
  · refine (show Calls Tryd.prog 82 _ _ _ from HR.out _).mono ?_
    rintro e w2 ⟨rfl, rfl⟩
    clear HR
    go_wp2
    go_ret
    exact ⟨by simp [*], O1.out.alloc _⟩
  · go_ret
    exact ⟨by simp [*], O1.out.alloc _⟩
end Go.Proofs.YtmmggnmgimgdfaaDoor
namespace Go.Proofs.YtmmggnmgimgdfaaDoor
open Go.RowKit
set_option linter.unusedSimpArgs false
set_option linter.unusedVariables false
set_option maxRecDepth 100000 in
theorem take_nil (R : Nat) (n o z : Int) (w : World) (h : RdAt w R [] n o z) :
    Calls Tryd.prog 69 #[.pointer (some ⟨R, 0, none⟩)] w fun x w' => x = gup n 9 ∧ Only (fun _ => False) w w' := by
  have HM : Hid (∀ w1, Only (fun _ => False) w w1 → Calls Tryd.prog 65 #[.pointer (some ⟨R, 0, none⟩)] w1 fun x w' => x = gup n 9 ∧ Only (fun _ => False) w1 w') := fun w1 o1 => next_nil R n o z w1 (h.only o1)
  have O0 : Hid (Only (fun _ => False) w w) := Only.refl _ _
  clear h
  go_enter Tryd.func69, Tryd.ntmps69
  go_wp2_with fail
  refine (show Calls Tryd.prog 65 _ _ _ from HM.out _ (by first | exact O0.out | exact O0.out.alloc _)).mono ?_
  rintro e w1 ⟨rfl, o1⟩
  have O1 : Hid (Only (fun _ => False) w w1) := by first | exact O0.out.trans o1 (fun _ _ g => g) | exact (O0.out.alloc _).trans o1 (fun _ _ g => g)
  clear HM o1
  unfold gup
  go_wp2
  exact ⟨rfl, rfl, O1.out⟩
theorem TkR.onlyR {w w' : World} {R : Nat} {v : Value} {q : List Tok} {bs : Nat → Prop} (h : TkR w R v q) (hb : ∀ b, b < R → ¬ bs b) (oo : Only bs w w') : TkR w' R v q := by
  obtain ⟨ao, cap, hv, hcap, hq⟩ := h
  refine ⟨ao, cap, hv, hcap, fun i t ht => ?_⟩
  obtain ⟨g, k, ha, hg, c0, c1, c2, c3⟩ := hq i t ht
  exact ⟨g, k, ha, hg, oo.cell c0 (hb g hg), oo.cell c1 (hb g hg), oo.cell c2 (hb g hg), oo.cell c3 (hb g hg)⟩
theorem RdAt.other {w w' : World} {R : Nat} {q : List Tok} {n o z : Int} {bs : Nat → Prop} (h : RdAt w R q n o z) (hb : ∀ b, b ≤ R → ¬ bs b) (oo : Only bs w w') : RdAt w' R q n o z := by
  obtain ⟨v, hR, hT⟩ := h
  exact ⟨v, (oo.block R (Array.getElem?_eq_some_iff.1 hR).1 (hb R (Nat.le_refl _))).trans hR, hT.onlyR (fun b h => hb b (Nat.le_of_lt h)) oo⟩
theorem TkR.tail {w : World} {R g k cap : Nat} {ao : Option Addr} {t : Tok} {q : List Tok} (h : TkR w R (.slice (some ⟨g, k, none⟩) (q.length + 1) cap) (t :: q)) (ha : 0 < q.length → ao = some ⟨g, k + 4, none⟩) : TkR w R (.slice ao q.length (cap - 1)) q := by
  obtain ⟨ao', cap', hv, hcap, hq⟩ := h
  injection hv with e1 e2 e3
  subst e1
  subst e3
  refine ⟨ao, cap - 1, rfl, (by simp only [List.length_cons] at hcap; omega), fun i u hu => ?_⟩
  have hi : i < q.length := (List.getElem?_eq_some_iff.1 hu).1
  obtain ⟨g', k', e, hg, c0, c1, c2, c3⟩ := hq (i + 1) u (by simpa using hu)
  injection e with e
  injection e with e1 e2
  subst e1
  subst e2
  refine ⟨g, k + 4, ha (by omega), hg, ?_, ?_, ?_, ?_⟩
  · rw [show k + 4 + i * 4 = k + (i + 1) * 4 by omega]; exact c0
  · rw [show k + 4 + i * 4 = k + (i + 1) * 4 by omega]; exact c1
  · rw [show k + 4 + i * 4 = k + (i + 1) * 4 by omega]; exact c2
  · rw [show k + 4 + i * 4 = k + (i + 1) * 4 by omega]; exact c3
theorem slice_tail (g k L cap : Nat) (h : L + 1 ≤ cap) : ∃ ao : Option Addr, (0 < L → ao = some ⟨g, k + 4, none⟩) ∧ ∀ W : World, (Instr.slice 105 (.slice (some ⟨g, k, none⟩) (L + 1) cap) (some (.int .i64 1)) none none).run Tryd.prog W = .ok (.slice ao L (cap - 1)) W := by
  have i1 : (1 : Int) ≤ (L : Int) + 1 := by omega
  have i2 : (0 : Int) ≤ (L : Int) := by omega
  by_cases h1 : cap = 1
  · refine ⟨some ⟨g, k, none⟩, fun h => by omega, fun W => ?_⟩
    subst h1
    simp [go_sem, i1, i2]
  · refine ⟨some ⟨g, k + 4, none⟩, fun h => rfl, fun W => ?_⟩
    have h2 : ¬ cap - 1 = 0 := by omega
    simp [go_sem, i1, i2, h1, h2]
set_option maxRecDepth 100000 in
theorem take_cons (R : Nat) (t : Tok) (q : List Tok) (n o z : Int) (w : World) (h : RdAt w R (t :: q) n o z) :
    Calls Tryd.prog 69 #[.pointer (some ⟨R, 0, none⟩)] w fun x w' => x = .returned t.v ∧ Hid (RdAt w' R q n o z ∧ Only (fun b => b = R) w w') := by
  have HM : Hid (∀ w1, Only (fun _ => False) w w1 → Calls Tryd.prog 65 #[.pointer (some ⟨R, 0, none⟩)] w1 fun x w' => x = .returned t.v ∧ Only (fun _ => False) w1 w') := fun w1 o1 => next_cons R t q n o z w1 (h.only o1)
  have O0 : Hid (Only (fun _ => False) w w) := Only.refl _ _
  obtain ⟨v, hR, hT⟩ := h
  obtain ⟨ao0, cap, hv, hcap, hq⟩ := id hT
  obtain ⟨g, k, rfl, _⟩ := hq 0 _ rfl
  subst hv
  have HT : Hid (TkR w R (.slice (some ⟨g, k, none⟩) (q.length + 1) cap) (t :: q)) := hT
  have HR : Hid (w.heap[R]? = some (.cells #[.slice (some ⟨g, k, none⟩) (q.length + 1) cap, .int .i64 n, .int .i64 o, .int .i64 z] 112)) := hR
  obtain ⟨ao, hao, hsl⟩ := slice_tail g k q.length cap hcap
  have HA : Hid (0 < q.length → ao = some ⟨g, k + 4, none⟩) := hao
  clear hR hT hcap hq hao
  obtain ⟨L, hL⟩ : ∃ L, L = q.length := ⟨_, rfl⟩
  have HL : Hid (L = q.length) := hL
  rw [← hL] at hsl HR
  clear hL
  obtain ⟨tk, tt, tn, ta⟩ := t
  simp only [Tok.v] at HM ⊢
  go_enter Tryd.func69, Tryd.ntmps69
  go_wp2_with fail
  refine (show Calls Tryd.prog 65 _ _ _ from HM.out _ (O0.out.alloc _)).mono ?_
  rintro e w1 ⟨rfl, o1⟩
  have O1 : Hid (Only (fun _ => False) w w1) := (O0.out.alloc _).trans o1 (fun _ _ g => g)
  have lR : R < w.heap.size := (Array.getElem?_eq_some_iff.1 HR.out).1
  have lB : w.heap.size < w1.heap.size := Nat.lt_of_lt_of_le (by simp) o1.size
  have hB : w1.heap[w.heap.size]? = some (.cells #[.int .i64 0, .string ⟨#[]⟩, .int .i64 0, .int .i64 0] 140) := (o1.block w.heap.size (by simp) (fun h => h)).trans (alloc_at _ _ _ rfl)
  have R1 : w1.heap[R]? = some (.cells #[.slice (some ⟨g, k, none⟩) (L + 1) cap, .int .i64 n, .int .i64 o, .int .i64 z] 112) := (O1.out.block R lR (fun h => h)).trans HR.out
  obtain ⟨B, hBe⟩ : ∃ B, B = w.heap.size := ⟨_, rfl⟩
  rw [← hBe] at hB lB ⊢
  have hal : ∀ (x : Obj) (b : Nat), b < w1.heap.size → (w1.alloc x).heap[b]? = w1.heap[b]? := fun x b hb => ((Only.refl (fun _ => False) w1).alloc x).block b hb (fun h => h)
  have R2 : ∀ x, (w1.alloc x).heap[R]? = some (.cells #[.slice (some ⟨g, k, none⟩) (L + 1) cap, .int .i64 n, .int .i64 o, .int .i64 z] 112) := fun x => (hal x R (by omega)).trans R1
  have k0 : ∀ x, (w1.alloc x).cell? ⟨R, 0, none⟩ = some (.slice (some ⟨g, k, none⟩) (L + 1) cap) := fun x => by rw [blk_cells (R2 x)]; rfl
  have kf : ∀ x, (w1.alloc x).frozen? ⟨R, 0, none⟩ = false := fun x => blk_froz (R2 x) 0
  have B2 : ∀ x v, ((w1.alloc x).setCell ⟨R, 0, none⟩ v).heap[B]? = some (.cells #[.int .i64 0, .string ⟨#[]⟩, .int .i64 0, .int .i64 0] 140) := fun x v => by
    rw [heap_setCell_other _ _ _ _ (by simp only; omega), hal x B lB, hB]
  have bb : ∀ (C : Array Value) (v : Value) (i : Nat), ((w1.alloc (.cells C 140)).setCell ⟨R, 0, none⟩ v).cell? ⟨w1.heap.size, i, none⟩ = C[i]? := fun C v i => by
    rw [World.cell?_setCell_other]
    · simp [go_sem]
    · intro e
      injection e with e1
      omega
  have c0 := fun x v => blk_cells (B2 x v) 0
  have c1 := fun x v => blk_cells (B2 x v) 1
  have c2 := fun x v => blk_cells (B2 x v) 2
  have c3 := fun x v => blk_cells (B2 x v) 3
  have z0 := fun x v => blk_froz (B2 x v) 0
  have z1 := fun x v => blk_froz (B2 x v) 1
  have z2 := fun x v => blk_froz (B2 x v) 2
  have z3 := fun x v => blk_froz (B2 x v) 3
  simp only [List.getElem?_toArray, List.getElem?_cons_zero, List.getElem?_cons_succ] at c0 c1 c2 c3
  have HB2 : Hid (∀ x v, ((w1.alloc x).setCell ⟨R, 0, none⟩ v).heap[B]? = some (.cells #[.int .i64 0, .string ⟨#[]⟩, .int .i64 0, .int .i64 0] 140)) := B2
  have HR2 : Hid (∀ x, (w1.alloc x).heap[R]? = some (.cells #[.slice (some ⟨g, k, none⟩) (L + 1) cap, .int .i64 n, .int .i64 o, .int .i64 z] 112)) := R2
  have HE : Hid (B = w.heap.size ∧ R < w.heap.size) := ⟨hBe, lR⟩
  clear HM o1 hB O0 hBe R1 R2 B2 hal lR lB
  go_wp2
  obtain ⟨q0, q1, q2, q3⟩ := set4 (HB2.out (.cells #[.int .i64 tk, .string tt, .int .i64 tn, .int .i64 ta] 140) (.slice ao L (cap - 1))) rfl (.int .i64 tk) (.string tt) (.int .i64 tn) (.int .i64 ta)
  refine bodyPost_ret (results_tk rfl _ _ B q0 q1 q2 q3 rfl) rfl ⟨rfl, ?_⟩
  obtain ⟨hBe, lR⟩ := HE.out
  have nB : ∀ i, (⟨B, i, none⟩ : Addr).block < w.heap.size → (⟨B, i, none⟩ : Addr).block = R := fun i h => by simp only at h; omega
  have OO : Only (fun b => b = R) w (((((w1.alloc (.cells #[.int .i64 tk, .string tt, .int .i64 tn, .int .i64 ta] 140)).setCell ⟨R, 0, none⟩ (.slice ao L (cap - 1))).setCell ⟨B, 0, none⟩ (.int .i64 tk)).setCell ⟨B, 1, none⟩ (.string tt)).setCell ⟨B, 2, none⟩ (.int .i64 tn) |>.setCell ⟨B, 3, none⟩ (.int .i64 ta)) :=
    (((((((show Only (fun b => b = R) w w1 from O1.out.mono (fun _ _ h => h.elim)).alloc _).setCell ⟨R, 0, none⟩ _ (fun _ => rfl)).setCell _ _ (nB 0)).setCell _ _ (nB 1)).setCell _ _ (nB 2)).setCell _ _ (nB 3))
  have hRB : R ≠ B := by omega
  refine ⟨⟨.slice ao L (cap - 1), ?_, ?_⟩, OO⟩
  · rw [heap_setCell_other _ _ _ _ hRB, heap_setCell_other _ _ _ _ hRB, heap_setCell_other _ _ _ _ hRB, heap_setCell_other _ _ _ _ hRB, heap_setCell_same _ _ _ _ _ _ (HR2.out _)]
    rfl
  · have h1 := HT.out.onlyR (fun b h e => by omega) OO
    have h2 := h1.tail HA.out
    rw [← HL.out] at h2
    exact h2
end Go.Proofs.YtmmggnmgimgdfaaDoor
namespace Go.Proofs.YtmmggnmgimgdfaaDoor
open Go.RowKit
set_option linter.unusedSimpArgs false
set_option linter.unusedVariables false
theorem RdAt.size {w : World} {R : Nat} {q : List Tok} {n o z : Int} (h : RdAt w R q n o z) (y : Int) : RdAt (w.setCell ⟨R, 3, none⟩ (.int .i64 y)) R q n o y ∧ Only (fun b => b = R) w (w.setCell ⟨R, 3, none⟩ (.int .i64 y)) := by
  obtain ⟨v, hR, hT⟩ := h
  have OO : Only (fun b => b = R) w (w.setCell ⟨R, 3, none⟩ (.int .i64 y)) := (Only.refl (fun b => b = R) w).setCell ⟨R, 3, none⟩ _ (fun _ => rfl)
  exact ⟨⟨v, (heap_setCell_same _ _ _ _ _ _ hR).trans rfl, hT.onlyR (fun b h e => by omega) OO⟩, OO⟩
theorem RdAt.open_ {w : World} {R : Nat} {q : List Tok} {n o z : Int} (h : RdAt w R q n o z) (y : Int) : RdAt (w.setCell ⟨R, 2, none⟩ (.int .i64 y)) R q n y z ∧ Only (fun b => b = R) w (w.setCell ⟨R, 2, none⟩ (.int .i64 y)) := by
  obtain ⟨v, hR, hT⟩ := h
  have OO : Only (fun b => b = R) w (w.setCell ⟨R, 2, none⟩ (.int .i64 y)) := (Only.refl (fun b => b = R) w).setCell ⟨R, 2, none⟩ _ (fun _ => rfl)
  exact ⟨⟨v, (heap_setCell_same _ _ _ _ _ _ hR).trans rfl, hT.onlyR (fun b h e => by omega) OO⟩, OO⟩
/-- what take answers -/
def tkP (R : Nat) (q : List Tok) (n o z : Int) (w : World) (x : Ending) (w' : World) : Prop := match q with
  | [] => x = gup n 9 ∧ Only (fun b => b = R) w w'
  | t :: q' => x = .returned t.v ∧ Hid (RdAt w' R q' n o z ∧ Only (fun b => b = R) w w')
theorem take_any (R : Nat) (q : List Tok) (n o z : Int) (w : World) (h : RdAt w R q n o z) :
    Calls Tryd.prog 69 #[.pointer (some ⟨R, 0, none⟩)] w (tkP R q n o z w) := by
  cases q with
  | nil => exact (take_nil R n o z w h).mono fun e w' g => ⟨g.1, g.2.mono (fun _ _ h => h.elim)⟩
  | cons t q => exact (take_cons R t q n o z w h).mono fun e w' g => g
theorem tkP.later {R : Nat} {q : List Tok} {n o z : Int} {w0 w w' : World} {x : Ending} (h : tkP R q n o z w x w') (o0 : Only (fun b => b = R) w0 w) : tkP R q n o z w0 x w' := by
  cases q with
  | nil => exact ⟨h.1, o0.trans h.2 (fun _ _ g => g)⟩
  | cons t q => exact ⟨h.1, h.2.out.1, o0.trans h.2.out.2 (fun _ _ g => g)⟩
set_option maxRecDepth 100000 in
theorem count_any (R : Nat) (q : List Tok) (n o z : Int) (w : World) (hz : 0 ≤ z ∧ z ≤ 1000000) (h : RdAt w R q n o z) :
    Calls Tryd.prog 72 #[.pointer (some ⟨R, 0, none⟩)] w fun x w' => if z = 1024 then x = gup (flt q n) 11 ∧ Only (fun b => b = R) w w' else tkP R q n o (z + 1) w x w' := by
  obtain ⟨v, hR, hT⟩ := id h
  have HF : Hid (∀ w1, Only (fun _ => False) w w1 → Calls Tryd.prog 81 #[.pointer (some ⟨R, 0, none⟩), .int .i64 11] w1 fun x w' => x = .returned (.agg #[.int .i64 (flt q n), .int .i64 11]) ∧ Only (fun _ => False) w1 w') := fun w1 o1 => fault_any R q n o z 11 w1 (h.only o1)
  have O0 : Hid (Only (fun _ => False) w w) := Only.refl _ _
  have H0 : Hid (RdAt w R q n o z) := h
  have R1 : ∀ x, (w.alloc x).heap[R]? = some (.cells #[v, .int .i64 n, .int .i64 o, .int .i64 z] 112) := fun x => (((Only.refl (fun _ => False) w).alloc x).block R (Array.getElem?_eq_some_iff.1 hR).1 (fun h => h)).trans hR
  have k3 : ∀ x, (w.alloc x).cell? ⟨R, 3, none⟩ = some (.int .i64 z) := fun x => by rw [blk_cells (R1 x)]; rfl
  have f3 : ∀ x, (w.alloc x).frozen? ⟨R, 3, none⟩ = false := fun x => blk_froz (R1 x) 3
  clear hT h hR R1
  by_cases hm : z = 1024
  · subst hm
    simp only [if_true]
    clear f3
    go_enter Tryd.func72, Tryd.ntmps72
    go_wp2_with fail
    refine (show Calls Tryd.prog 81 _ _ _ from HF.out _ (O0.out.alloc _)).mono ?_
    rintro e w1 ⟨rfl, o1⟩
    have O1 : Hid (Only (fun _ => False) w w1) := (O0.out.alloc _).trans o1 (fun _ _ g => g)
    clear HF o1
    go_wp2
    exact ⟨rfl, rfl, O1.out.mono (fun _ _ h => h.elim)⟩
  · simp only [hm, if_false]
    have i1 : (z == 1024) = false := by simp [hm]
    clear HF
    go_enter Tryd.func72, Tryd.ntmps72
    go_wp2_with fail
    have lR : R < w.heap.size := by
      obtain ⟨_, h1, _⟩ := H0.out
      exact (Array.getElem?_eq_some_iff.1 h1).1
    obtain ⟨W0, hW0⟩ : ∃ W0, W0 = (w.alloc (.cells #[.int .i64 0, .string ⟨#[]⟩, .int .i64 0, .int .i64 0] 140)).setCell ⟨R, 3, none⟩ (.int .i64 (z + 1)) := ⟨_, rfl⟩
    have A0 : RdAt W0 R q n o (z + 1) ∧ Only (fun b => b = R) (w.alloc (.cells #[.int .i64 0, .string ⟨#[]⟩, .int .i64 0, .int .i64 0] 140)) W0 := by
      rw [hW0]
      exact (H0.out.only (O0.out.alloc _)).size (z + 1)
    have A1 : Only (fun b => b = R) w W0 := (show Only (fun b => b = R) w _ from (Only.refl (fun b => b = R) w).alloc _).trans A0.2 (fun _ _ g => g)
    have A2 : W0.heap[w.heap.size]? = some (.cells #[.int .i64 0, .string ⟨#[]⟩, .int .i64 0, .int .i64 0] 140) := (A0.2.block w.heap.size (by simp) (by omega)).trans (alloc_at _ _ _ rfl)
    rw [← hW0]
    refine (show Calls Tryd.prog 69 _ _ _ from take_any R q n o (z + 1) W0 A0.1).mono ?_
    intro e w1 g1
    have G1 : Hid (tkP R q n o (z + 1) W0 e w1) := g1
    obtain ⟨B, hBe⟩ : ∃ B, B = w.heap.size := ⟨_, rfl⟩
    have HE : Hid (B = w.heap.size ∧ R < w.heap.size ∧ Only (fun b => b = R) w W0) := ⟨hBe, lR, A1⟩
    rw [← hBe] at A2 ⊢
    have lB : B < W0.heap.size := (Array.getElem?_eq_some_iff.1 A2).1
    have nBR : ¬ B = R := by omega
    clear k3 f3 O0 H0 A0 A1 hW0 lR hBe
    cases q with
    | nil =>
      obtain ⟨he, o1⟩ := g1
      subst he
      have O1 : Hid (Only (fun b => b = R) W0 w1) := o1
      clear o1 G1 A2 lB nBR
      unfold gup
      go_wp2
      exact ⟨rfl, rfl, HE.out.2.2.trans O1.out (fun _ _ g => g)⟩
    | cons t q =>
      obtain ⟨he, g2⟩ := g1
      subst he
      have R3 := (g2.out.2.block B lB nBR).trans A2
      have G2 : Hid (RdAt w1 R q n o (z + 1) ∧ Only (fun b => b = R) W0 w1) := g2.out
      have c0 := blk_cells R3 0
      have c1 := blk_cells R3 1
      have c2 := blk_cells R3 2
      have c3 := blk_cells R3 3
      have z0 := blk_froz R3 0
      have z1 := blk_froz R3 1
      have z2 := blk_froz R3 2
      have z3 := blk_froz R3 3
      have HR3 : Hid (w1.heap[B]? = some (.cells #[.int .i64 0, .string ⟨#[]⟩, .int .i64 0, .int .i64 0] 140)) := R3
      simp only [List.getElem?_toArray, List.getElem?_cons_zero, List.getElem?_cons_succ] at c0 c1 c2 c3
      clear g2 G1 A2 lB R3
      obtain ⟨tk, tt, tn, ta⟩ := t
      simp only [Tok.v]
      go_wp2
      obtain ⟨q0, q1, q2, q3⟩ := set4 HR3.out rfl (.int .i64 tk) (.string tt) (.int .i64 tn) (.int .i64 ta)
      obtain ⟨hBe, lR, A1⟩ := HE.out
      have OB : Only (fun b => b = B) w1 ((((w1.setCell ⟨B, 0, none⟩ (.int .i64 tk)).setCell ⟨B, 1, none⟩ (.string tt)).setCell ⟨B, 2, none⟩ (.int .i64 tn)).setCell ⟨B, 3, none⟩ (.int .i64 ta)) :=
        ((((Only.refl (fun b => b = B) w1).setCell ⟨B, 0, none⟩ _ (fun _ => rfl)).setCell ⟨B, 1, none⟩ _ (fun _ => rfl)).setCell ⟨B, 2, none⟩ _ (fun _ => rfl)).setCell ⟨B, 3, none⟩ _ (fun _ => rfl)
      refine bodyPost_ret (results_tk rfl _ _ B q0 q1 q2 q3 rfl) rfl ⟨rfl, G2.out.1.other (fun b h e => by omega) OB, ?_⟩
      exact (A1.trans G2.out.2 (fun _ _ g => g)).trans OB (fun b h e => by omega)
end Go.Proofs.YtmmggnmgimgdfaaDoor
namespace Go.Proofs.YtmmggnmgimgdfaaDoor
open Go.RowKit
set_option linter.unusedSimpArgs false
set_option linter.unusedVariables false
/-- what enter answers, where there is room -/
def enQ (R : Nat) (q : List Tok) (n o z : Int) (w : World) (x : Ending) (w' : World) : Prop := match q with
  | [] => x = gup n 9 ∧ Only (fun b => b = R) w w'
  | t :: q' => x = .returned (.tuple #[]) ∧ Hid (RdAt w' R q' n (o + 1) (z + 1) ∧ Only (fun b => b = R) w w')
/-- what enter answers -/
def enP (R : Nat) (q : List Tok) (n o z : Int) (w : World) (x : Ending) (w' : World) : Prop :=
  if o = 32 ∨ z = 1024 then x = gup (flt q n) 11 ∧ Only (fun b => b = R) w w' else enQ R q n o z w x w'
set_option maxRecDepth 100000 in
theorem enter_any (R : Nat) (q : List Tok) (n o z : Int) (w : World) (ho : 0 ≤ o ∧ o ≤ 1000000) (hz : 0 ≤ z ∧ z ≤ 1000000) (h : RdAt w R q n o z) :
    Calls Tryd.prog 66 #[.pointer (some ⟨R, 0, none⟩)] w (enP R q n o z w) := by
  obtain ⟨v, hR, hT⟩ := id h
  have HF : Hid (Calls Tryd.prog 81 #[.pointer (some ⟨R, 0, none⟩), .int .i64 11] w fun x w' => x = .returned (.agg #[.int .i64 (flt q n), .int .i64 11]) ∧ Only (fun _ => False) w w') := fault_any R q n o z 11 w h
  have H0 : Hid (RdAt w R q n o z) := h
  have k2 : w.cell? ⟨R, 2, none⟩ = some (.int .i64 o) := by rw [blk_cells hR]; rfl
  have f2 : w.frozen? ⟨R, 2, none⟩ = false := blk_froz hR 2
  clear hT h hR
  by_cases hm : o = 32
  · subst hm
    unfold enP
    simp only [true_or, if_true]
    clear f2
    go_enter Tryd.func66, Tryd.ntmps66
    go_wp2_with fail
    refine (show Calls Tryd.prog 81 _ _ _ from HF.out).mono ?_
    rintro e w1 ⟨rfl, o1⟩
    have O1 : Hid (Only (fun _ => False) w w1) := o1
    clear HF o1
    go_wp2
    exact ⟨rfl, rfl, O1.out.mono (fun _ _ h => h.elim)⟩
  · have i1 : (o == 32) = false := by simp [hm]
    have HP : Hid (∀ e w', (if z = 1024 then e = gup (flt q n) 11 ∧ Only (fun b => b = R) w w' else enQ R q n o z w e w') → enP R q n o z w e w') := by
      intro e w' g
      unfold enP
      simp only [hm, false_or]
      exact g
    clear HF
    go_enter Tryd.func66, Tryd.ntmps66
    go_wp2_with fail
    obtain ⟨W0, hW0⟩ : ∃ W0, W0 = w.setCell ⟨R, 2, none⟩ (.int .i64 (o + 1)) := ⟨_, rfl⟩
    have A0 : RdAt W0 R q n (o + 1) z ∧ Only (fun b => b = R) w W0 := by
      rw [hW0]
      exact H0.out.open_ (o + 1)
    rw [← hW0]
    refine (show Calls Tryd.prog 72 _ _ _ from count_any R q n (o + 1) z W0 hz A0.1).mono ?_
    intro e w1 g1
    have A1 : Hid (Only (fun b => b = R) w W0) := A0.2
    clear A0 hW0 k2 f2 H0
    by_cases hz1 : z = 1024
    · simp only [hz1, if_true] at g1
      obtain ⟨he, o1⟩ := g1
      subst he
      have O1 : Hid (Only (fun b => b = R) w w1) := A1.out.trans o1 (fun _ _ g => g)
      clear o1
      have HP1 : Hid (∀ w', Only (fun b => b = R) w w' → enP R q n o z w (gup (flt q n) 11) w') := fun w' g => HP.out _ _ (by rw [if_pos hz1]; exact ⟨rfl, g⟩)
      clear HP hz1
      unfold gup at HP1 ⊢
      go_wp2
      exact ⟨rfl, HP1.out _ O1.out⟩
    · simp only [hz1, if_false] at g1
      cases q with
      | nil =>
        obtain ⟨he, o1⟩ := g1
        subst he
        have O1 : Hid (Only (fun b => b = R) w w1) := A1.out.trans o1 (fun _ _ g => g)
        clear o1
        have HP1 : Hid (∀ w', Only (fun b => b = R) w w' → enP R [] n o z w (gup n 9) w') := fun w' g => HP.out _ _ (by rw [if_neg hz1]; exact ⟨rfl, g⟩)
        clear HP
        unfold gup at HP1 ⊢
        go_wp2
        exact ⟨rfl, HP1.out _ O1.out⟩
      | cons t q =>
        obtain ⟨he, g2⟩ := g1
        subst he
        have HP1 : Hid (enP R (t :: q) n o z w (.returned (.tuple #[])) w1) := HP.out _ _ (by rw [if_neg hz1]; exact ⟨rfl, g2.out.1, A1.out.trans g2.out.2 (fun _ _ g => g)⟩)
        clear HP g2
        obtain ⟨tk, tt, tn, ta⟩ := t
        simp only [Tok.v]
        go_wp2
        go_end0
        exact HP1.out
end Go.Proofs.YtmmggnmgimgdfaaDoor
namespace Go.Proofs.YtmmggnmgimgdfaaDoor
open Go.RowKit
set_option linter.unusedSimpArgs false
set_option linter.unusedVariables false
/-- a value or an item as a tree: its kind by number, its number, its text, its parts -/
structure Tre where
  k : Nat
  n : Int
  s : ByteArray
  l : List Tre
/-- the words that close a list, a quotation, a definition -/
def shB (m : Nat) : ByteArray := if m = 0 then ⟨#[125]⟩ else if m = 1 then ⟨#[93]⟩ else ⟨#[59]⟩
/-- what stands ahead of the tokens q: 0 a literal, 1 an item, 2 literals up to the end of a list, 3 items up to the end of a quotation, 4 up to that of a definition -/
def prs (n : Int) : Nat → Nat → List Tok → Int → Int → Except (Int × Int) (List Tre × List Tok × Int)
  | 0, _, _, _, _ => .error (0, 0)
  | f + 1, 0, q, o, z =>
    match q with
    | [] => .error (n, 9)
    | t :: r =>
      if t.k = 2 then (if z = 1024 then .error (t.a, 11) else .ok ([⟨1, t.n, ⟨#[]⟩, []⟩], r, z + 1))
      else if t.k = 3 then (if z = 1024 then .error (t.a, 11) else .ok ([⟨2, 0, t.t, []⟩], r, z + 1))
      else if t.t.toList = [116] then (if z = 1024 then .error (t.a, 11) else .ok ([⟨3, 1, ⟨#[]⟩, []⟩], r, z + 1))
      else if t.t.toList = [102] then (if z = 1024 then .error (t.a, 11) else .ok ([⟨3, 0, ⟨#[]⟩, []⟩], r, z + 1))
      else if t.t.toList = [91] then
        (if o = 32 ∨ z = 1024 then .error (t.a, 11) else
          match prs n f 3 r (o + 1) (z + 1) with
          | .error e => .error e
          | .ok (l, r', z') => .ok ([⟨5, 0, ⟨#[]⟩, l⟩], r', z'))
      else if t.t.toList = [123] then
        (if o = 32 ∨ z = 1024 then .error (t.a, 11) else
          match prs n f 2 r (o + 1) (z + 1) with
          | .error e => .error e
          | .ok (l, r', z') => .ok ([⟨4, 0, ⟨#[]⟩, l⟩], r', z'))
      else .error (t.a, 9)
  | f + 1, 1, q, o, z =>
    match q with
    | [] => .error (n, 9)
    | t :: r =>
      if nmB t then (if z = 1024 then .error (t.a, 11) else .ok ([⟨7, 0, t.t, []⟩], r, z + 1))
      else prs n f 0 (t :: r) o z
  | f + 1, m + 2, q, o, z =>
    match q with
    | [] => .error (n, 9)
    | t :: r =>
      if isB t (shB m) then .ok ([], r, z)
      else
        match prs n f (min m 1) (t :: r) o z with
        | .error e => .error e
        | .ok (l1, r1, z1) =>
          match prs n f (m + 2) r1 o z1 with
          | .error e => .error e
          | .ok (l2, r2, z2) => .ok (l1 ++ l2, r2, z2)
theorem prs_ok (n : Int) : ∀ f m q o z l r z', prs n f m q o z = .ok (l, r, z') → z ≤ 1024 → r.length < q.length ∧ z ≤ z' ∧ z' ≤ 1024 ∧ (m < 2 → l.length = 1) ∧ l.length + r.length ≤ q.length := by
  intro f
  induction f with
  | zero => intro m q o z l r z' h; simp [prs] at h
  | succ f ih =>
    intro m q o z l r z' h hz
    match m with
    | 0 =>
      simp only [prs] at h
      cases q with
      | nil => simp at h
      | cons t q =>
        simp only at h
        repeat' split at h
        all_goals first
          | (simp at h; done)
          | (simp only [Except.ok.injEq, Prod.mk.injEq] at h; obtain ⟨rfl, rfl, rfl⟩ := h; simp only [List.length_cons, List.length_nil]; refine ⟨?_, ?_, ?_, ?_, ?_⟩ <;> first | omega | trivial | (intro _; omega))
          | skip
        all_goals
          rename_i hp
          simp only [Except.ok.injEq, Prod.mk.injEq] at h; obtain ⟨rfl, rfl, rfl⟩ := h
          obtain ⟨h1, h2, h3, _, _⟩ := ih _ _ _ _ _ _ _ hp (by omega)
          simp only [List.length_cons, List.length_nil]; refine ⟨?_, ?_, ?_, ?_, ?_⟩ <;> first | omega | trivial | (intro _; omega)
    | 1 =>
      simp only [prs] at h
      cases q with
      | nil => simp at h
      | cons t q =>
        simp only at h
        repeat' split at h
        · simp at h
        · simp only [Except.ok.injEq, Prod.mk.injEq] at h; obtain ⟨rfl, rfl, rfl⟩ := h; simp only [List.length_cons, List.length_nil]; refine ⟨?_, ?_, ?_, ?_, ?_⟩ <;> first | omega | trivial | (intro _; omega)
        · obtain ⟨h1, h2, h3, h4, h5⟩ := ih _ _ _ _ _ _ _ h hz
          exact ⟨h1, h2, h3, fun _ => h4 (by omega), h5⟩
    | m + 2 =>
      simp only [prs] at h
      cases q with
      | nil => simp at h
      | cons t q =>
        simp only at h
        repeat' split at h
        · simp only [Except.ok.injEq, Prod.mk.injEq] at h; obtain ⟨rfl, rfl, rfl⟩ := h; simp only [List.length_cons, List.length_nil]; refine ⟨?_, ?_, ?_, ?_, ?_⟩ <;> first | omega | trivial | (intro _; omega)
        · simp at h
        · simp at h
        · rename_i l1 r1 z1 hp _ l2 r2 z2 hp2
          simp only [Except.ok.injEq, Prod.mk.injEq] at h; obtain ⟨rfl, rfl, rfl⟩ := h
          obtain ⟨h1, h2, h3, h4, h5⟩ := ih _ _ _ _ _ _ _ hp hz
          obtain ⟨g1, g2, g3, g4, g5⟩ := ih _ _ _ _ _ _ _ hp2 h3
          have := h4 (by omega)
          simp only [List.length_append, List.length_cons] at *
          refine ⟨?_, ?_, ?_, ?_, ?_⟩ <;> first | omega | trivial | (intro _; omega)
end Go.Proofs.YtmmggnmgimgdfaaDoor
namespace Go.Proofs.YtmmggnmgimgdfaaDoor
open Go.RowKit
set_option linter.unusedSimpArgs false
set_option linter.unusedVariables false
/-- the value v is the tree t (i: as an item), within the blocks S; d: how deep it is at most -/
def TrAt (w : World) (S : Nat → Prop) : Nat → Bool → Tre → Value → Prop
  | 0, _, _, _ => False
  | d + 1, true, t, v => (t.k = 7 ∧ t.l = [] ∧ v = .iface 93 (.agg #[.string t.s])) ∨ (t.k ≠ 7 ∧ ∃ u, v = .iface 90 (.agg #[u]) ∧ TrAt w S d false t u)
  | d + 1, false, t, v => (t.k = 1 ∧ t.l = [] ∧ v = .iface 116 (.agg #[.int .i64 t.n])) ∨ (t.k = 2 ∧ t.l = [] ∧ v = .iface 118 (.agg #[.string t.s])) ∨ (t.k = 3 ∧ t.l = [] ∧ v = .iface 120 (.agg #[.bool (t.n != 0)])) ∨
    ((t.k = 4 ∨ t.k = 5) ∧ ∃ ao cap, v = .iface (if t.k = 4 then 123 else 126) (.agg #[.slice ao t.l.length cap]) ∧ t.l.length ≤ cap ∧ ∀ i x, t.l[i]? = some x → ∃ g k u, ao = some ⟨g, k, none⟩ ∧ S g ∧ w.cell? ⟨g, k + i, none⟩ = some u ∧ TrAt w S d (t.k == 5) x u)
theorem TrAt.step {w w' : World} {S S' : Nat → Prop} (hS : ∀ b, S b → S' b) (hk : ∀ (a : Addr) u, S a.block → w.cell? a = some u → w'.cell? a = some u) : ∀ {d d' : Nat} {i : Bool} {t : Tre} {v : Value}, d ≤ d' → TrAt w S d i t v → TrAt w' S' d' i t v := by
  intro d
  induction d with
  | zero => intro d' i t v _ h; exact h.elim
  | succ d ih =>
    intro d' i t v hd h
    obtain ⟨e, rfl⟩ : ∃ e, d' = e + 1 := ⟨d' - 1, by omega⟩
    cases i with
    | true =>
      rcases h with h | ⟨h, u, hv, hu⟩
      · exact .inl h
      · exact .inr ⟨h, u, hv, ih (by omega) hu⟩
    | false =>
      rcases h with h | h | h | ⟨h, ao, cap, hv, hc, hl⟩
      · exact .inl h
      · exact .inr (.inl h)
      · exact .inr (.inr (.inl h))
      · refine .inr (.inr (.inr ⟨h, ao, cap, hv, hc, fun i x hx => ?_⟩))
        obtain ⟨g, k, u, ha, hg, hu, ht⟩ := hl i x hx
        exact ⟨g, k, u, ha, hS g hg, hk _ _ hg hu, ih (by omega) ht⟩
theorem TrAt.only {w w' : World} {S bs : Nat → Prop} {d : Nat} {i : Bool} {t : Tre} {v : Value} (h : TrAt w S d i t v) (o : Only bs w w') (hb : ∀ b, S b → ¬ bs b) : TrAt w' S d i t v :=
  TrAt.step (fun _ g => g) (fun a u hs hc => o.cell hc (hb _ hs)) (Nat.le_refl _) h
/-- a block whose cells may be written -/
def Liv (w : World) (b : Nat) : Prop := b < w.heap.size ∧ ∃ c t, w.heap[b]? = some (.cells c t)
theorem Liv.only {w w' : World} {bs : Nat → Prop} {b : Nat} (h : Liv w b) (o : Only bs w w') (hb : ¬ bs b) : Liv w' b := by
  obtain ⟨h1, c, t, hc⟩ := h
  exact ⟨Nat.lt_of_lt_of_le h1 o.size, c, t, (o.block b h1 hb).trans hc⟩
theorem Liv.of {w : World} {b : Nat} {c : Array Value} {t : TypeId} (h : w.heap[b]? = some (.cells c t)) : Liv w b :=
  ⟨(Array.getElem?_eq_some_iff.1 h).1, c, t, h⟩
theorem Liv.froz {w : World} {b : Nat} (h : Liv w b) (j : Nat) : w.frozen? ⟨b, j, none⟩ = false := by
  obtain ⟨_, c, t, hc⟩ := h
  simp [World.frozen?, hc]
theorem Liv.row {w : World} {B n s : Nat} {T : TypeId} {v : Value} {us : List Value} (ho : w.ownsRow B T s v n us) {b : Nat} (h : v.ownBlock = some b) : Liv w b := by
  rcases ho.2 with ⟨rfl, h2⟩ | ⟨g, cap, cur, hv, hB, hg, hn, hcm, hcs, htk⟩
  · cases h
  · rw [hv] at h
    injection h with h
    rw [← h]
    exact Liv.of hg
/-- a row of trees that was made since block B, in a block of its own beside those of its trees -/
def RwAt (w : World) (B : Nat) (T : TypeId) (d : Nat) (i : Bool) (v : Value) (l : List Tre) : Prop :=
  ∃ us S, w.ownsRow B T 1 v l.length us ∧ (∀ (j : Nat) (x : Tre), l[j]? = some x → ∃ u, us[j]? = some u ∧ TrAt w S d i x u) ∧ ∀ b, S b → B ≤ b ∧ Liv w b ∧ v.ownBlock ≠ some b
theorem rw_nil (w : World) (B : Nat) (T : TypeId) (d : Nat) (i : Bool) : RwAt w B T d i (.slice none 0 0) [] :=
  ⟨[], fun _ => False, ⟨rfl, .inl ⟨rfl, rfl⟩⟩, fun j x h => by simp at h, fun b h => h.elim⟩
theorem RwAt.form {w : World} {B : Nat} {T : TypeId} {d : Nat} {i : Bool} {v : Value} {l : List Tre} (h : RwAt w B T d i v l) : ∃ ao cap, v = .slice ao l.length cap := by
  obtain ⟨us, S, ho, _⟩ := h
  rcases ho.2 with ⟨h1, h2⟩ | ⟨g, cap, cur, h1, _⟩
  · exact ⟨_, _, by rw [h1, h2]⟩
  · exact ⟨_, _, h1⟩
theorem RwAt.only {w w' : World} {B : Nat} {T : TypeId} {d : Nat} {i : Bool} {v : Value} {l : List Tre} {bs : Nat → Prop} (h : RwAt w B T d i v l) (o : Only bs w w') (hb : ∀ b, B ≤ b → ¬ bs b) : RwAt w' B T d i v l := by
  obtain ⟨us, S, ho, ht, hS⟩ := h
  refine ⟨us, S, o.owns ho (fun k hk => hb k (ho.lt k hk).1), fun j x hx => ?_, fun b hbS => ?_⟩
  · obtain ⟨u, hu, h2⟩ := ht j x hx
    exact ⟨u, hu, h2.only o (fun b hbS => hb b (hS b hbS).1)⟩
  · obtain ⟨h1, h2, h3⟩ := hS b hbS
    exact ⟨h1, h2.only o (hb b h1), h3⟩
theorem RwAt.deep {w : World} {B : Nat} {T : TypeId} {d d' : Nat} {i : Bool} {v : Value} {l : List Tre} (h : RwAt w B T d i v l) (hd : d ≤ d') : RwAt w B T d' i v l := by
  obtain ⟨us, S, ho, ht, hS⟩ := h
  refine ⟨us, S, ho, fun j x hx => ?_, hS⟩
  obtain ⟨u, hu, h2⟩ := ht j x hx
  exact ⟨u, hu, h2.step (fun _ g => g) (fun _ _ _ g => g) hd⟩
/-- what a value is that was made since block B -/
def NwAt (w : World) (B : Nat) (d : Nat) (i : Bool) (t : Tre) (v : Value) : Prop := ∃ S, TrAt w S d i t v ∧ ∀ b, S b → B ≤ b ∧ Liv w b
theorem NwAt.only {w w' : World} {B : Nat} {d : Nat} {i : Bool} {v : Value} {t : Tre} {bs : Nat → Prop} (h : NwAt w B d i t v) (o : Only bs w w') (hb : ∀ b, B ≤ b → ¬ bs b) : NwAt w' B d i t v := by
  obtain ⟨S, ht, hS⟩ := h
  exact ⟨S, ht.only o (fun b hbS => hb b (hS b hbS).1), fun b hbS => ⟨(hS b hbS).1, (hS b hbS).2.only o (hb b (hS b hbS).1)⟩⟩
theorem NwAt.lower {w : World} {B C : Nat} {d : Nat} {i : Bool} {v : Value} {t : Tre} (h : NwAt w B d i t v) (hC : C ≤ B) : NwAt w C d i t v := by
  obtain ⟨S, ht, hS⟩ := h
  exact ⟨S, ht, fun b hbS => ⟨Nat.le_trans hC (hS b hbS).1, (hS b hbS).2⟩⟩
theorem NwAt.deep {w : World} {B : Nat} {d d' : Nat} {i : Bool} {v : Value} {t : Tre} (h : NwAt w B d i t v) (hd : d ≤ d') : NwAt w B d' i t v := by
  obtain ⟨S, ht, hS⟩ := h
  exact ⟨S, ht.step (fun _ g => g) (fun _ _ _ g => g) hd, hS⟩
/-- a tree is put behind a row: what the append leaves -/
theorem RwAt.snoc {w w' : World} {B C : Nat} {T : TypeId} {d : Nat} {i : Bool} {v v' : Value} {l : List Tre} {t : Tre} {u : Value} {us : List Value} {S : Nat → Prop} (hg : w.grownBy w' v.ownBlock) (ho : w.ownsRow B T 1 v l.length us) (ht : ∀ (j : Nat) (x : Tre), l[j]? = some x → ∃ u, us[j]? = some u ∧ TrAt w S d i x u) (hS : ∀ b, S b → B ≤ b ∧ Liv w b ∧ v.ownBlock ≠ some b)
    (hn : NwAt w C d i t u) (hC : B ≤ C) (hv : ∀ k, v.ownBlock = some k → k < C) (ho' : w'.ownsRow B T 1 v' (l.length + 1) (us ++ [u])) (hat : v'.ownBlock = v.ownBlock ∨ v'.ownBlock = some w.heap.size) : RwAt w' B T d i v' (l ++ [t]) := by
  obtain ⟨S1, t1, s1⟩ := hn
  have oo : Only (fun k => v.ownBlock = some k) w w' := (Only.refl _ w).grown hg (fun k e _ => e)
  have a1 : ∀ b, S b → ¬ v.ownBlock = some b := fun b h => (hS b h).2.2
  have a2 : ∀ b, S1 b → ¬ v.ownBlock = some b := fun b h e => by have := hv b e; have := (s1 b h).1; omega
  have hl : us.length = l.length := by have := ho.1; omega
  refine ⟨us ++ [u], fun b => S b ∨ S1 b, by simpa using ho', fun j x hx => ?_, fun b hb => ?_⟩
  · by_cases hj : j < l.length
    · rw [List.getElem?_append_left hj] at hx
      obtain ⟨u', h1, h2⟩ := ht j x hx
      refine ⟨u', by rw [List.getElem?_append_left (by omega)]; exact h1, h2.step (fun _ g => .inl g) (fun a y hs hc => oo.cell hc (a1 _ hs)) (Nat.le_refl _)⟩
    · have hj2 : j < (l ++ [t]).length := (List.getElem?_eq_some_iff.1 hx).1
      have hj3 : j = l.length := by simp at hj2; omega
      subst hj3
      simp at hx
      subst hx
      exact ⟨u, by rw [← hl]; simp, t1.step (fun _ g => .inr g) (fun a y hs hc => oo.cell hc (a2 _ hs)) (Nat.le_refl _)⟩
  · have h1 : B ≤ b ∧ Liv w b ∧ v.ownBlock ≠ some b := by
      rcases hb with h | h
      · exact hS b h
      · exact ⟨Nat.le_trans hC (s1 b h).1, (s1 b h).2, a2 b h⟩
    refine ⟨h1.1, h1.2.1.only oo h1.2.2, ?_⟩
    rcases hat with e | e <;> rw [e]
    · exact h1.2.2
    · intro e2
      injection e2 with e2
      have := h1.2.1.1
      omega
theorem addr_ad (g k : Nat) : (⟨g, 0, none⟩ : Addr).add k = ⟨g, k, none⟩ := by
  show (if k = 0 then _ else _) = _
  split
  · rename_i h; rw [h]
  · simp
/-- a row as a list or a quotation -/
theorem RwAt.tree {w : World} {B : Nat} {T : TypeId} {d : Nat} {v : Value} {l : List Tre} {k : Nat} (hk : k = 4 ∨ k = 5) (h : RwAt w B T d (k == 5) v l) : NwAt w B (d + 1) false ⟨k, 0, ⟨#[]⟩, l⟩ (.iface (if k = 4 then 123 else 126) (.agg #[v])) := by
  obtain ⟨us, S, ho, ht, hS⟩ := h
  refine ⟨fun b => S b ∨ v.ownBlock = some b, .inr (.inr (.inr ⟨hk, ?_⟩)), fun b hb => ?_⟩
  · rcases ho.2 with ⟨rfl, h2⟩ | ⟨g, cap, cur, hv, hB, hg, hn, hcm, hcs, htk⟩
    · have hl : l = [] := List.eq_nil_of_length_eq_zero h2
      subst hl
      exact ⟨none, 0, rfl, Nat.zero_le _, fun i x hx => by simp at hx⟩
    · refine ⟨some ⟨g, 0, none⟩, cap, by rw [hv], hn, fun i x hx => ?_⟩
      obtain ⟨u, h1, h2⟩ := ht i x hx
      have hc := ho.cells (g := g) (by rw [hv]; rfl) i u h1
      rw [addr_ad] at hc
      exact ⟨g, 0, u, rfl, .inr (by rw [hv]; rfl), by simpa using hc, h2.step (fun _ g => .inl g) (fun _ _ _ g => g) (Nat.le_refl _)⟩
  · rcases hb with h | h
    · exact ⟨(hS b h).1, (hS b h).2.1⟩
    · exact ⟨(ho.lt b h).1, Liv.row ho h⟩
end Go.Proofs.YtmmggnmgimgdfaaDoor
