/- The document's reader of a source in memory: fail, at, is, name. The document's reader: count, enter, more, word. Going on with what counts: count, enter. A bracket is opened: enter. What a source's tokens are read as: trees. Trees in memory. A literal. A literal: brackets, and what is none. -/
import Derived.Test.YtapehdolnljnoaaGreatDoorGac
import Derived.Test.YtapehdolnljnoaaGreatDoorGae
import Derived.Deep.QuietTactic
import Derived.BigQuiet
import Derived.Maps.AppendAt
namespace Go.Proofs.YtapehdolnljnoaaGreatDoor
open Go.RowKit
set_option linter.unusedSimpArgs false
set_option linter.unusedVariables false
/-- the document's reader at block R: its tokens lie behind v -/
def RrB (w : World) (R : Nat) (v : Value) (nx n o s fa e : Int) : Prop := w.heap[R]? = some (.cells #[v, .int .i64 nx, .int .i64 n, .int .i64 o, .int .i64 s, .int .i64 fa, .int .i64 e] 70)
structure RrAt (w : World) (R : Nat) (v : Value) (tl : List Tok) (nx n o s fa e : Int) : Prop where
  blk : RrB w R v nx n o s fa e
  tks : TkR w R v tl
theorem RrAt.only {w w' : World} {R : Nat} {v : Value} {tl : List Tok} {nx n o s fa e : Int} (h : RrAt w R v tl nx n o s fa e) (oo : Only (fun _ => False) w w') : RrAt w' R v tl nx n o s fa e :=
  ⟨(oo.block R (Array.getElem?_eq_some_iff.1 h.blk).1 (fun g => g)).trans h.blk, h.tks.only oo⟩
theorem RrAt.upd {w w' : World} {R : Nat} {v : Value} {tl : List Tok} {nx n o s fa e nx' n' o' s' fa' e' : Int} (h : RrAt w R v tl nx n o s fa e) (oo : Only (fun b => b = R) w w') (g : RrB w' R v nx' n' o' s' fa' e') : RrAt w' R v tl nx' n' o' s' fa' e' :=
  ⟨g, h.tks.onlyR (fun b hb e => by omega) oo⟩
theorem RrAt.lt {w : World} {R : Nat} {v : Value} {tl : List Tok} {nx n o s fa e : Int} (h : RrAt w R v tl nx n o s fa e) : R < w.heap.size := (Array.getElem?_eq_some_iff.1 h.blk).1
/-- the cells of the reader -/
theorem RrB.cells {w : World} {R : Nat} {v : Value} {nx n o s fa e : Int} (h : RrB w R v nx n o s fa e) : w.cell? ⟨R, 0, none⟩ = some v ∧ w.cell? ⟨R, 1, none⟩ = some (.int .i64 nx) ∧ w.cell? ⟨R, 2, none⟩ = some (.int .i64 n) ∧ w.cell? ⟨R, 3, none⟩ = some (.int .i64 o) ∧ w.cell? ⟨R, 4, none⟩ = some (.int .i64 s) ∧ w.cell? ⟨R, 5, none⟩ = some (.int .i64 fa) ∧ w.cell? ⟨R, 6, none⟩ = some (.int .i64 e) :=
  ⟨blk_cells h 0, blk_cells h 1, blk_cells h 2, blk_cells h 3, blk_cells h 4, blk_cells h 5, blk_cells h 6⟩
theorem RrB.froz {w : World} {R : Nat} {v : Value} {nx n o s fa e : Int} (h : RrB w R v nx n o s fa e) (j : Nat) : w.frozen? ⟨R, j, none⟩ = false := blk_froz h j
theorem RrB.set1 {w : World} {R : Nat} {v : Value} {nx n o s fa e : Int} (h : RrB w R v nx n o s fa e) (y : Int) : RrB (w.setCell ⟨R, 1, none⟩ (.int .i64 y)) R v y n o s fa e := (heap_setCell_same _ _ _ _ _ _ h).trans rfl
theorem RrB.set3 {w : World} {R : Nat} {v : Value} {nx n o s fa e : Int} (h : RrB w R v nx n o s fa e) (y : Int) : RrB (w.setCell ⟨R, 3, none⟩ (.int .i64 y)) R v nx n y s fa e := (heap_setCell_same _ _ _ _ _ _ h).trans rfl
theorem RrB.set4 {w : World} {R : Nat} {v : Value} {nx n o s fa e : Int} (h : RrB w R v nx n o s fa e) (y : Int) : RrB (w.setCell ⟨R, 4, none⟩ (.int .i64 y)) R v nx n o y fa e := (heap_setCell_same _ _ _ _ _ _ h).trans rfl
theorem RrB.set5 {w : World} {R : Nat} {v : Value} {nx n o s fa e : Int} (h : RrB w R v nx n o s fa e) (y : Int) : RrB (w.setCell ⟨R, 5, none⟩ (.int .i64 y)) R v nx n o s y e := (heap_setCell_same _ _ _ _ _ _ h).trans rfl
theorem RrB.set6 {w : World} {R : Nat} {v : Value} {nx n o s fa e : Int} (h : RrB w R v nx n o s fa e) (y : Int) : RrB (w.setCell ⟨R, 6, none⟩ (.int .i64 y)) R v nx n o s fa y := (heap_setCell_same _ _ _ _ _ _ h).trans rfl
theorem onlyR_set {w w1 : World} {R j : Nat} {u : Value} (h : Only (fun b => b = R) w w1) : Only (fun b => b = R) w (w1.setCell ⟨R, j, none⟩ u) := h.setCell _ _ (fun _ => rfl)
set_option maxRecDepth 100000 in
theorem rfail_no (R : Nat) (v : Value) (tl : List Tok) (nx n o s fa e a k : Int) (w : World) (he : e ≠ 0) (h : RrAt w R v tl nx n o s fa e) :
    Calls Tryz.prog 29 #[.pointer (some ⟨R, 0, none⟩), .int .i64 a, .int .i64 k] w fun x w' => x = .returned (.tuple #[]) ∧ w' = w := by
  obtain ⟨_, _, _, _, _, _, k6⟩ := h.blk.cells
  clear h
  have he2 : (e == 0) = false := by simp [he]
  go_enter Tryz.func29, Tryz.ntmps29
  go_wp2
  go_end0
  exact ⟨rfl, rfl⟩
set_option maxRecDepth 100000 in
theorem rfail_ok (R : Nat) (v : Value) (tl : List Tok) (nx n o s fa a k : Int) (w : World) (h : RrAt w R v tl nx n o s fa 0) :
    Calls Tryz.prog 29 #[.pointer (some ⟨R, 0, none⟩), .int .i64 a, .int .i64 k] w fun x w' => x = .returned (.tuple #[]) ∧ Hid (RrAt w' R v tl nx n o s a k ∧ Only (fun b => b = R) w w') := by
  obtain ⟨_, _, _, _, _, k5, k6⟩ := h.blk.cells
  have z5 := h.blk.froz 5
  have z6 := h.blk.froz 6
  have H0 : Hid (RrAt w R v tl nx n o s fa 0) := h
  clear h
  go_enter Tryz.func29, Tryz.ntmps29
  go_wp2
  go_end0
  have OO : Only (fun b => b = R) w ((w.setCell ⟨R, 6, none⟩ (.int .i64 k)).setCell ⟨R, 5, none⟩ (.int .i64 a)) := onlyR_set (onlyR_set (Only.refl _ w))
  exact ⟨rfl, H0.out.upd OO ((H0.out.blk.set6 k).set5 a), OO⟩
/-- where the next token begins -/
def atR (tl : List Tok) (nx : Nat) (n : Int) : Int := match tl[nx]? with | some t => t.a | none => n
set_option maxRecDepth 100000 in
theorem rat_any (R : Nat) (v : Value) (tl : List Tok) (nx : Nat) (n o s fa e : Int) (w : World) (h : RrAt w R v tl (nx : Int) n o s fa e) :
    Calls Tryz.prog 30 #[.pointer (some ⟨R, 0, none⟩)] w fun x w' => x = .returned (.int .i64 (atR tl nx n)) ∧ Only (fun _ => False) w w' := by
  obtain ⟨k0, k1, k2, _, _, _, _⟩ := h.blk.cells
  obtain ⟨ao, cap, rfl, hcap, hq⟩ := h.tks
  clear h
  obtain ⟨L, hL⟩ : ∃ L, L = tl.length := ⟨_, rfl⟩
  rw [← hL] at k0
  unfold atR
  by_cases hn : nx < tl.length
  · obtain ⟨g, k, rfl, _, c0, c1, c2, c3⟩ := hq nx _ (List.getElem?_eq_getElem hn)
    rw [List.getElem?_eq_getElem hn]
    dsimp only
    obtain ⟨y, hy⟩ : ∃ y, y = (tl[nx]'hn).a := ⟨_, rfl⟩
    rw [← hy] at c3 ⊢
    have i1 : (nx : Int) < (L : Int) := by omega
    have i0 : (0 : Int) ≤ (nx : Int) := by omega
    clear c0 c1 c2 hq hcap hy hn hL
    go_enter Tryz.func30, Tryz.ntmps30
    go_wp2
    go_quiet (fail)
    go_wp2
    go_quiet (fail)
    go_wp2
    go_ret
    exact ⟨rfl, ((Only.refl _ w).drewN _).drewN _⟩
  · rw [List.getElem?_eq_none (by omega)]
    have i1 : ¬ (nx : Int) < (L : Int) := by omega
    have i2 : (L : Int) ≤ (nx : Int) := by omega
    clear hq hcap hL hn
    go_enter Tryz.func30, Tryz.ntmps30
    go_wp2
    go_quiet (fail)
    go_wp2
    go_ret
    exact ⟨rfl, (Only.refl _ w).drewN _⟩
/-- is the next token this word? is it a name? -/
def isR (tl : List Tok) (nx : Nat) (sh : ByteArray) : Bool := match tl[nx]? with | some t => isB t sh | none => false
def nmR (tl : List Tok) (nx : Nat) : Bool := match tl[nx]? with | some t => nmB t | none => false
set_option maxRecDepth 100000 in
theorem ris_no (R : Nat) (v : Value) (tl : List Tok) (nx n o s fa e : Int) (sh : ByteArray) (w : World) (he : e ≠ 0) (h : RrAt w R v tl nx n o s fa e) :
    Calls Tryz.prog 26 #[.pointer (some ⟨R, 0, none⟩), .string sh] w fun x w' => x = .returned (.bool false) ∧ Only (fun _ => False) w w' := by
  obtain ⟨_, _, _, _, _, _, k6⟩ := h.blk.cells
  clear h
  have he2 : (e == 0) = false := by simp [he]
  go_enter Tryz.func26, Tryz.ntmps26
  go_wp2
  go_quiet (fail)
  go_wp2
  go_ret
  exact ⟨rfl, (Only.refl _ w).drewN _⟩
set_option maxRecDepth 100000 in
theorem rname_no (R : Nat) (v : Value) (tl : List Tok) (nx n o s fa e : Int) (w : World) (he : e ≠ 0) (h : RrAt w R v tl nx n o s fa e) :
    Calls Tryz.prog 66 #[.pointer (some ⟨R, 0, none⟩)] w fun x w' => x = .returned (.bool false) ∧ Only (fun _ => False) w w' := by
  obtain ⟨_, _, _, _, _, _, k6⟩ := h.blk.cells
  clear h
  have he2 : (e == 0) = false := by simp [he]
  go_enter Tryz.func66, Tryz.ntmps66
  go_wp2
  go_quiet (fail)
  go_wp2
  go_ret
  exact ⟨rfl, (Only.refl _ w).drewN _⟩
set_option maxRecDepth 100000 in
set_option maxHeartbeats 4000000 in
theorem ris_any (R : Nat) (v : Value) (tl : List Tok) (nx : Nat) (n o s fa : Int) (sh : ByteArray) (w : World) (h : RrAt w R v tl (nx : Int) n o s fa 0) :
    Calls Tryz.prog 26 #[.pointer (some ⟨R, 0, none⟩), .string sh] w fun x w' => x = .returned (.bool (isR tl nx sh)) ∧ Only (fun _ => False) w w' := by
  obtain ⟨k0, k1, _, _, _, _, k6⟩ := h.blk.cells
  obtain ⟨ao, cap, rfl, hcap, hq⟩ := h.tks
  clear h
  obtain ⟨L, hL⟩ : ∃ L, L = tl.length := ⟨_, rfl⟩
  rw [← hL] at k0
  unfold isR
  by_cases hn : nx < tl.length
  · obtain ⟨g, k, rfl, _, c0, c1, c2, c3⟩ := hq nx _ (List.getElem?_eq_getElem hn)
    rw [List.getElem?_eq_getElem hn]
    dsimp only
    obtain ⟨⟨tk, tt, tn, ta⟩, hy⟩ : ∃ y, y = tl[nx]'hn := ⟨_, rfl⟩
    rw [← hy] at c0 c1 c2 c3 ⊢
    have i1 : (nx : Int) < (L : Int) := by omega
    have i0 : (0 : Int) ≤ (nx : Int) := by omega
    have i3 : decide ((nx : Int) < (L : Int)) = true := by simp; omega
    dsimp only at c0 c1
    simp only [isB]
    clear c2 c3 hq hcap hy hn hL
    by_cases h1 : tk = 1
    · subst h1
      cases hb : tt.toList == sh.toList with
      | false =>
        go_enter Tryz.func26, Tryz.ntmps26
        go_wp2
        go_quiet (fail)
        go_wp2
        go_ret
        exact ⟨rfl, (Only.refl _ w).drewN _⟩
      | true =>
        go_enter Tryz.func26, Tryz.ntmps26
        go_wp2
        go_quiet (fail)
        go_wp2
        go_ret
        exact ⟨rfl, (Only.refl _ w).drewN _⟩
    · have h2 : (tk == 1) = false := by simp [h1]
      rw [h2]
      clear h1
      go_enter Tryz.func26, Tryz.ntmps26
      go_wp2
      go_quiet (fail)
      go_wp2
      go_ret
      exact ⟨rfl, (Only.refl _ w).drewN _⟩
  · rw [List.getElem?_eq_none (by omega)]
    have i3 : decide (nx < L) = false := by simp; omega
    clear hq hcap hL hn
    go_enter Tryz.func26, Tryz.ntmps26
    go_wp2
    go_quiet (fail)
    go_wp2
    go_ret
    exact ⟨rfl, (Only.refl _ w).drewN _⟩
set_option maxRecDepth 100000 in
set_option maxHeartbeats 4000000 in
theorem rname_any (R : Nat) (v : Value) (tl : List Tok) (nx : Nat) (n o s fa : Int) (w : World) (h : RrAt w R v tl (nx : Int) n o s fa 0) :
    Calls Tryz.prog 66 #[.pointer (some ⟨R, 0, none⟩)] w fun x w' => x = .returned (.bool (nmR tl nx)) ∧ Only (fun _ => False) w w' := by
  obtain ⟨k0, k1, _, _, _, _, k6⟩ := h.blk.cells
  obtain ⟨ao, cap, rfl, hcap, hq⟩ := h.tks
  clear h
  obtain ⟨L, hL⟩ : ∃ L, L = tl.length := ⟨_, rfl⟩
  rw [← hL] at k0
  unfold nmR
  by_cases hn : nx < tl.length
  · obtain ⟨g, k, rfl, _, c0, c1, c2, c3⟩ := hq nx _ (List.getElem?_eq_getElem hn)
    rw [List.getElem?_eq_getElem hn]
    dsimp only
    obtain ⟨⟨tk, tt, tn, ta⟩, hy⟩ : ∃ y, y = tl[nx]'hn := ⟨_, rfl⟩
    rw [← hy] at c0 c1 c2 c3 ⊢
    have i1 : (nx : Int) < (L : Int) := by omega
    have i0 : (0 : Int) ≤ (nx : Int) := by omega
    have i3 : decide ((nx : Int) < (L : Int)) = true := by simp; omega
    dsimp only at c0 c1
    simp only [nmB]
    have HR : Hid (∀ w1, Calls Tryz.prog 98 #[.string tt] w1 fun x w' => x = .returned (.bool (resB tt)) ∧ w' = w1) := rreserved_any tt
    clear c2 c3 hq hcap hy hn hL
    by_cases h1 : tk = 1
    · subst h1
      obtain ⟨rb, hrb⟩ : ∃ rb, rb = resB tt := ⟨_, rfl⟩
      rw [← hrb] at HR ⊢
      clear hrb
      cases rb
      · go_enter Tryz.func66, Tryz.ntmps66
        go_wp2
        go_quiet (first | (go_at_call 98; refine Calls.quiet_of_same (HR.out _)))
        go_wp2
        go_ret
        exact ⟨rfl, (Only.refl _ w).drewN _⟩
      · go_enter Tryz.func66, Tryz.ntmps66
        go_wp2
        go_quiet (first | (go_at_call 98; refine Calls.quiet_of_same (HR.out _)))
        go_wp2
        go_ret
        exact ⟨rfl, (Only.refl _ w).drewN _⟩
    · have h2 : (tk == 1) = false := by simp [h1]
      rw [h2]
      clear h1
      go_enter Tryz.func66, Tryz.ntmps66
      go_wp2
      go_quiet (fail)
      go_wp2
      go_ret
      exact ⟨rfl, (Only.refl _ w).drewN _⟩
  · rw [List.getElem?_eq_none (by omega)]
    have i3 : decide (nx < L) = false := by simp; omega
    clear hq hcap hL hn
    go_enter Tryz.func66, Tryz.ntmps66
    go_wp2
    go_quiet (fail)
    go_wp2
    go_ret
    exact ⟨rfl, (Only.refl _ w).drewN _⟩
end Go.Proofs.YtapehdolnljnoaaGreatDoor
namespace Go.Proofs.YtapehdolnljnoaaGreatDoor
open Go.RowKit
set_option linter.unusedSimpArgs false
set_option linter.unusedVariables false
/-- the reader as it is left: behind an error, or not -/
def RrW (R : Nat) (v : Value) (tl : List Tok) (nx n o s fa e : Int) (w w' : World) : Prop := RrAt w' R v tl nx n o s fa e ∧ Only (fun b => b = R) w w'
theorem RrW.later {R : Nat} {v : Value} {tl : List Tok} {nx n o s fa e : Int} {w0 w w' : World} (h : RrW R v tl nx n o s fa e w w') (oo : Only (fun b => b = R) w0 w) : RrW R v tl nx n o s fa e w0 w' := ⟨h.1, oo.trans h.2 (fun _ _ g => g)⟩
set_option maxRecDepth 100000 in
set_option maxHeartbeats 2000000 in
/-- outside of brackets nothing is counted -/
theorem rcount_out (R : Nat) (v : Value) (tl : List Tok) (nx : Nat) (n s fa e : Int) (w : World) (hx : nx ≤ 1000000) (h : RrAt w R v tl (nx : Int) n 0 s fa e) :
    Calls Tryz.prog 67 #[.pointer (some ⟨R, 0, none⟩)] w fun x w' => x = .returned (.tuple #[]) ∧ Hid (RrW R v tl ((nx + 1 : Nat) : Int) n 0 s fa e w w') := by
  obtain ⟨_, k1, _, k3, _, _, _⟩ := h.blk.cells
  have z1 := h.blk.froz 1
  have H0 : Hid (RrAt w R v tl (nx : Int) n 0 s fa e) := h
  clear h
  go_enter Tryz.func67, Tryz.ntmps67
  go_wp2
  go_end0
  have OO : Only (fun b => b = R) w (w.setCell ⟨R, 1, none⟩ (.int .i64 ((nx : Int) + 1))) := onlyR_set (Only.refl _ w)
  refine ⟨rfl, ?_, OO⟩
  try rw [show ((nx + 1 : Nat) : Int) = (nx : Int) + 1 by omega]
  exact H0.out.upd OO (H0.out.blk.set1 _)
set_option maxRecDepth 100000 in
set_option maxHeartbeats 2000000 in
theorem rcount_in (R : Nat) (v : Value) (tl : List Tok) (nx : Nat) (n o s fa e : Int) (w : World) (ho : 0 < o) (hs : 0 ≤ s) (hs1 : s < 1024) (hx : nx ≤ 1000000) (h : RrAt w R v tl (nx : Int) n o s fa e) :
    Calls Tryz.prog 67 #[.pointer (some ⟨R, 0, none⟩)] w fun x w' => x = .returned (.tuple #[]) ∧ Hid (RrW R v tl ((nx + 1 : Nat) : Int) n o (s + 1) fa e w w') := by
  obtain ⟨_, k1, _, k3, k4, _, _⟩ := h.blk.cells
  have z1 := h.blk.froz 1
  have z4 := h.blk.froz 4
  have H0 : Hid (RrAt w R v tl (nx : Int) n o s fa e) := h
  have i1 : ¬ (1024 < s + 1) := by omega
  have i2 : s + 1 ≤ 1024 := by omega
  clear h
  go_enter Tryz.func67, Tryz.ntmps67
  go_wp2
  go_end0
  have OO : Only (fun b => b = R) w ((w.setCell ⟨R, 4, none⟩ (.int .i64 (s + 1))).setCell ⟨R, 1, none⟩ (.int .i64 ((nx : Int) + 1))) := onlyR_set (onlyR_set (Only.refl _ w))
  refine ⟨rfl, ?_, OO⟩
  try rw [show ((nx + 1 : Nat) : Int) = (nx : Int) + 1 by omega]
  exact H0.out.upd OO ((H0.out.blk.set4 _).set1 _)
set_option maxRecDepth 100000 in
set_option maxHeartbeats 2000000 in
/-- one too many: a fault, if there was none -/
theorem rcount_over (R : Nat) (v : Value) (tl : List Tok) (nx : Nat) (n o s fa e : Int) (w : World) (ho : 0 < o) (hs : 1024 ≤ s) (hs1 : s ≤ 100000) (hx : nx ≤ 1000000) (h : RrAt w R v tl (nx : Int) n o s fa e) :
    Calls Tryz.prog 67 #[.pointer (some ⟨R, 0, none⟩)] w fun x w' => x = .returned (.tuple #[]) ∧ Hid (RrW R v tl ((nx + 1 : Nat) : Int) n o (s + 1) (if e = 0 then atR tl nx n else fa) (if e = 0 then 11 else e) w w') := by
  obtain ⟨_, k1, _, k3, k4, _, _⟩ := h.blk.cells
  have z1 := h.blk.froz 1
  have z4 := h.blk.froz 4
  have i1 : 1024 < s + 1 := by omega
  obtain ⟨W0, hW0⟩ : ∃ W0, W0 = w.setCell ⟨R, 4, none⟩ (.int .i64 (s + 1)) := ⟨_, rfl⟩
  have O0 : Only (fun b => b = R) w W0 := by rw [hW0]; exact onlyR_set (Only.refl _ w)
  have A0 : RrAt W0 R v tl (nx : Int) n o (s + 1) fa e := h.upd O0 (by rw [hW0]; exact h.blk.set4 _)
  have HT : Hid (Calls Tryz.prog 30 #[.pointer (some ⟨R, 0, none⟩)] W0 fun x w' => x = .returned (.int .i64 (atR tl nx n)) ∧ Only (fun _ => False) W0 w') := rat_any R v tl nx n o (s + 1) fa e W0 A0
  have HF : Hid (∀ W2, Only (fun _ => False) W0 W2 → Calls Tryz.prog 29 #[.pointer (some ⟨R, 0, none⟩), .int .i64 (atR tl nx n), .int .i64 11] W2 fun x w' => x = .returned (.tuple #[]) ∧ Hid (RrW R v tl (nx : Int) n o (s + 1) (if e = 0 then atR tl nx n else fa) (if e = 0 then 11 else e) w w')) := fun W2 o2 => by
    have A2 := A0.only o2
    have O2 := O0.trans (o2.mono (bs' := fun b => b = R) (fun _ _ h => h.elim)) (fun _ _ g => g)
    by_cases he : e = 0
    · subst he
      exact (rfail_ok R v tl nx n o (s + 1) fa (atR tl nx n) 11 W2 A2).mono fun x w' g => ⟨g.1, g.2.out.1, O2.trans g.2.out.2 (fun _ _ g => g)⟩
    · rw [if_neg he, if_neg he]
      exact (rfail_no R v tl nx n o (s + 1) fa e (atR tl nx n) 11 W2 he A2).mono fun x w' g => ⟨g.1, by rw [g.2]; exact ⟨A2, O2⟩⟩
  obtain ⟨A, hA⟩ : ∃ A, A = atR tl nx n := ⟨_, rfl⟩
  obtain ⟨F, hF⟩ : ∃ A, A = (if e = 0 then atR tl nx n else fa) := ⟨_, rfl⟩
  obtain ⟨E, hE⟩ : ∃ A, A = (if e = 0 then (11 : Int) else e) := ⟨_, rfl⟩
  rw [← hF, ← hE] at HF ⊢
  rw [← hA] at HT HF
  clear A0 O0 hA hF hE h
  go_enter Tryz.func67, Tryz.ntmps67
  go_wp2_with fail
  rw [← hW0]
  refine (show Calls Tryz.prog 30 _ _ _ from HT.out).mono ?_
  rintro x w1 ⟨rfl, o1⟩
  have HF2 : Hid _ := HF.out w1 o1
  clear HT k1 k3 k4 z1 z4 HF o1
  go_wp2_with fail
  refine (show Calls Tryz.prog 29 _ _ _ from HF2.out).mono ?_
  rintro x w2 ⟨rfl, g2⟩
  obtain ⟨_, k1, _, _, _, _, _⟩ := g2.out.1.blk.cells
  have z1 := g2.out.1.blk.froz 1
  clear HF2 hW0
  go_wp2
  go_end0
  have OO : Only (fun b => b = R) w2 (w2.setCell ⟨R, 1, none⟩ (.int .i64 ((nx : Int) + 1))) := onlyR_set (Only.refl _ w2)
  refine ⟨rfl, ?_, g2.out.2.trans OO (fun _ _ g => g)⟩
  try rw [show ((nx + 1 : Nat) : Int) = (nx : Int) + 1 by omega]
  exact g2.out.1.upd OO (g2.out.1.blk.set1 _)
/-- how far what is open is counted -/
def zIn (o z : Int) : Int := if o = 0 then 0 else z
set_option maxRecDepth 100000 in
set_option maxHeartbeats 2000000 in
theorem renter_ok (R : Nat) (v : Value) (tl : List Tok) (nx : Nat) (n o s fa : Int) (w : World) (ho : 0 ≤ o) (ho1 : o < 32) (hs : 0 ≤ s) (hs1 : zIn o s < 1024) (hx : nx ≤ 1000000) (h : RrAt w R v tl (nx : Int) n o s fa 0) :
    Calls Tryz.prog 61 #[.pointer (some ⟨R, 0, none⟩)] w fun x w' => x = .returned (.tuple #[]) ∧ Hid (RrW R v tl ((nx + 1 : Nat) : Int) n (o + 1) (zIn o s + 1) fa 0 w w') := by
  obtain ⟨_, _, _, k3, k4, _, _⟩ := h.blk.cells
  have z3 := h.blk.froz 3
  have z4 := h.blk.froz 4
  have i1 : ¬ (32 < o + 1) := by omega
  have i3 : o + 1 ≤ 32 := by omega
  obtain ⟨W1, hW1⟩ : ∃ W1, W1 = w.setCell ⟨R, 3, none⟩ (.int .i64 (o + 1)) := ⟨_, rfl⟩
  have O1 : Only (fun b => b = R) w W1 := by rw [hW1]; exact onlyR_set (Only.refl _ w)
  have A1 : RrAt W1 R v tl (nx : Int) n (o + 1) s fa 0 := h.upd O1 (by rw [hW1]; exact h.blk.set3 _)
  by_cases h0 : o = 0
  · subst h0
    simp only [zIn, if_true] at hs1 ⊢
    obtain ⟨W2, hW2⟩ : ∃ W2, W2 = W1.setCell ⟨R, 4, none⟩ (.int .i64 0) := ⟨_, rfl⟩
    have O2 : Only (fun b => b = R) w W2 := by rw [hW2]; exact onlyR_set O1
    have A2 : RrAt W2 R v tl (nx : Int) n (0 + 1) 0 fa 0 := A1.upd (by rw [hW2]; exact onlyR_set (Only.refl _ W1)) (by rw [hW2]; exact A1.blk.set4 _)
    have HC : Hid (Calls Tryz.prog 67 #[.pointer (some ⟨R, 0, none⟩)] W2 fun x w' => x = .returned (.tuple #[]) ∧ Hid (RrW R v tl ((nx + 1 : Nat) : Int) n (0 + 1) (0 + 1) fa 0 w w')) := (rcount_in R v tl nx n (0 + 1) 0 fa 0 W2 (by omega) (by omega) (by omega) hx A2).mono fun x w' g => ⟨g.1, RrW.later g.2.out O2⟩
    rw [hW1] at hW2
    clear h A1 O1 A2 O2 hW1
    go_enter Tryz.func61, Tryz.ntmps61
    go_wp2_with fail
    rw [show (w.setCell ⟨R, 3, none⟩ (.int .i64 1)).setCell ⟨R, 4, none⟩ (.int .i64 0) = W2 from hW2.symm]
    refine (show Calls Tryz.prog 67 _ _ _ from HC.out).mono ?_
    rintro x w2 ⟨rfl, g2⟩
    clear HC
    go_wp2
    go_end0
    exact ⟨rfl, g2⟩
  · have e0 : zIn o s = s := if_neg h0
    rw [e0] at hs1 ⊢
    have HC : Hid (Calls Tryz.prog 67 #[.pointer (some ⟨R, 0, none⟩)] W1 fun x w' => x = .returned (.tuple #[]) ∧ Hid (RrW R v tl ((nx + 1 : Nat) : Int) n (o + 1) (s + 1) fa 0 w w')) := (rcount_in R v tl nx n (o + 1) s fa 0 W1 (by omega) hs hs1 hx A1).mono fun x w' g => ⟨g.1, RrW.later g.2.out O1⟩
    have i4 : (o + 1 == 1) = false := by simp; omega
    clear h A1 O1
    go_enter Tryz.func61, Tryz.ntmps61
    go_wp2_with fail
    rw [← hW1]
    refine (show Calls Tryz.prog 67 _ _ _ from HC.out).mono ?_
    rintro x w2 ⟨rfl, g2⟩
    clear HC
    go_wp2
    go_end0
    exact ⟨rfl, g2⟩
/-- a reader with a fault -/
def RrF (R : Nat) (v : Value) (tl : List Tok) (n a e : Int) (w w' : World) : Prop := ∃ (nx : Nat) (o s : Int), RrAt w' R v tl (nx : Int) n o s a e ∧ Only (fun b => b = R) w w'
theorem RrF.later {R : Nat} {v : Value} {tl : List Tok} {n a e : Int} {w0 w w' : World} (h : RrF R v tl n a e w w') (oo : Only (fun b => b = R) w0 w) : RrF R v tl n a e w0 w' := by
  obtain ⟨nx, o, s, h1, h2⟩ := h
  exact ⟨nx, o, s, h1, oo.trans h2 (fun _ _ g => g)⟩
set_option maxRecDepth 100000 in
set_option maxHeartbeats 2000000 in
theorem renter_deep (R : Nat) (v : Value) (tl : List Tok) (nx : Nat) (n s fa : Int) (w : World) (hs : 0 ≤ s) (hs1 : s ≤ 10000) (hx : nx ≤ 1000000) (h : RrAt w R v tl (nx : Int) n 32 s fa 0) :
    Calls Tryz.prog 61 #[.pointer (some ⟨R, 0, none⟩)] w fun x w' => x = .returned (.tuple #[]) ∧ Hid (RrF R v tl n (atR tl nx n) 11 w w') := by
  obtain ⟨_, _, _, k3, k4, _, _⟩ := h.blk.cells
  have z3 := h.blk.froz 3
  obtain ⟨W1, hW1⟩ : ∃ W1, W1 = w.setCell ⟨R, 3, none⟩ (.int .i64 33) := ⟨_, rfl⟩
  have O1 : Only (fun b => b = R) w W1 := by rw [hW1]; exact onlyR_set (Only.refl _ w)
  have A1 : RrAt W1 R v tl (nx : Int) n 33 s fa 0 := h.upd O1 (by rw [hW1]; exact h.blk.set3 _)
  have HT : Hid (Calls Tryz.prog 30 #[.pointer (some ⟨R, 0, none⟩)] W1 fun x w' => x = .returned (.int .i64 (atR tl nx n)) ∧ Only (fun _ => False) W1 w') := rat_any R v tl nx n 33 s fa 0 W1 A1
  have HF : Hid (∀ W2, Only (fun _ => False) W1 W2 → Calls Tryz.prog 29 #[.pointer (some ⟨R, 0, none⟩), .int .i64 (atR tl nx n), .int .i64 11] W2 fun x w' => x = .returned (.tuple #[]) ∧ Hid (RrW R v tl (nx : Int) n 33 s (atR tl nx n) 11 w w')) := fun W2 o2 => (rfail_ok R v tl nx n 33 s fa (atR tl nx n) 11 W2 (A1.only o2)).mono fun x w' g => ⟨g.1, g.2.out.1, (O1.trans (o2.mono (bs' := fun b => b = R) (fun _ _ h => h.elim)) (fun _ _ g => g)).trans g.2.out.2 (fun _ _ g => g)⟩
  have HC : Hid (∀ w2, RrW R v tl (nx : Int) n 33 s (atR tl nx n) 11 w w2 → Calls Tryz.prog 67 #[.pointer (some ⟨R, 0, none⟩)] w2 fun x w' => x = .returned (.tuple #[]) ∧ Hid (RrF R v tl n (atR tl nx n) 11 w w')) := fun w2 g2 => by
    by_cases h1 : s < 1024
    · exact (rcount_in R v tl nx n 33 s _ 11 w2 (by omega) hs h1 hx g2.1).mono fun x w' g => ⟨g.1, nx + 1, 33, s + 1, g.2.out.1, g2.2.trans g.2.out.2 (fun _ _ g => g)⟩
    · exact (rcount_over R v tl nx n 33 s _ 11 w2 (by omega) (by omega) (by omega) hx g2.1).mono fun x w' g => ⟨g.1, nx + 1, 33, s + 1, by have := g.2.out.1; simpa using this, g2.2.trans g.2.out.2 (fun _ _ g => g)⟩
  obtain ⟨A, hA⟩ : ∃ A, A = atR tl nx n := ⟨_, rfl⟩
  rw [← hA] at HT HF HC ⊢
  clear h A1 O1 hA
  go_enter Tryz.func61, Tryz.ntmps61
  go_wp2_with fail
  rw [← hW1]
  refine (show Calls Tryz.prog 30 _ _ _ from HT.out).mono ?_
  rintro x w1 ⟨rfl, o1⟩
  have HF2 : Hid _ := HF.out w1 o1
  clear HT k3 k4 z3 HF o1
  go_wp2_with fail
  refine (show Calls Tryz.prog 29 _ _ _ from HF2.out).mono ?_
  rintro x w2 ⟨rfl, g2⟩
  obtain ⟨_, _, _, k3, _, _, _⟩ := g2.out.1.blk.cells
  have HC2 : Hid _ := HC.out w2 g2.out
  clear HF2 HC hW1 g2
  go_wp2_with fail
  refine (show Calls Tryz.prog 67 _ _ _ from HC2.out).mono ?_
  rintro x w3 ⟨rfl, g3⟩
  clear HC2
  go_wp2
  go_end0
  exact ⟨rfl, g3⟩
set_option maxRecDepth 100000 in
set_option maxHeartbeats 2000000 in
theorem renter_full (R : Nat) (v : Value) (tl : List Tok) (nx : Nat) (n o fa : Int) (w : World) (ho : 0 < o) (ho1 : o < 32) (hx : nx ≤ 1000000) (h : RrAt w R v tl (nx : Int) n o 1024 fa 0) :
    Calls Tryz.prog 61 #[.pointer (some ⟨R, 0, none⟩)] w fun x w' => x = .returned (.tuple #[]) ∧ Hid (RrF R v tl n (atR tl nx n) 11 w w') := by
  obtain ⟨_, _, _, k3, k4, _, _⟩ := h.blk.cells
  have z3 := h.blk.froz 3
  have i1 : ¬ (32 < o + 1) := by omega
  have i3 : o + 1 ≤ 32 := by omega
  have i4 : (o + 1 == 1) = false := by simp; omega
  obtain ⟨W1, hW1⟩ : ∃ W1, W1 = w.setCell ⟨R, 3, none⟩ (.int .i64 (o + 1)) := ⟨_, rfl⟩
  have O1 : Only (fun b => b = R) w W1 := by rw [hW1]; exact onlyR_set (Only.refl _ w)
  have A1 : RrAt W1 R v tl (nx : Int) n (o + 1) 1024 fa 0 := h.upd O1 (by rw [hW1]; exact h.blk.set3 _)
  have HC : Hid (Calls Tryz.prog 67 #[.pointer (some ⟨R, 0, none⟩)] W1 fun x w' => x = .returned (.tuple #[]) ∧ Hid (RrF R v tl n (atR tl nx n) 11 w w')) := (rcount_over R v tl nx n (o + 1) 1024 fa 0 W1 (by omega) (by omega) (by omega) hx A1).mono fun x w' g => ⟨g.1, nx + 1, o + 1, 1024 + 1, by have := g.2.out.1; simpa using this, O1.trans g.2.out.2 (fun _ _ g => g)⟩
  clear h A1 O1
  go_enter Tryz.func61, Tryz.ntmps61
  go_wp2_with fail
  rw [← hW1]
  refine (show Calls Tryz.prog 67 _ _ _ from HC.out).mono ?_
  rintro x w2 ⟨rfl, g2⟩
  clear HC
  go_wp2
  go_end0
  exact ⟨rfl, g2⟩
set_option maxRecDepth 100000 in
theorem rmore_no (R : Nat) (v : Value) (tl : List Tok) (nx n o s fa e : Int) (sh : ByteArray) (w : World) (he : e ≠ 0) (h : RrAt w R v tl nx n o s fa e) :
    Calls Tryz.prog 97 #[.pointer (some ⟨R, 0, none⟩), .string sh] w fun x w' => x = .returned (.bool false) ∧ w' = w := by
  obtain ⟨_, _, _, _, _, _, k6⟩ := h.blk.cells
  clear h
  have he2 : (e == 0) = false := by simp [he]
  go_enter Tryz.func97, Tryz.ntmps97
  go_wp2
  go_ret
  exact ⟨rfl, rfl⟩
set_option maxRecDepth 100000 in
theorem rmore_go (R : Nat) (v : Value) (tl : List Tok) (nx : Nat) (n o s fa : Int) (sh : ByteArray) (w : World) (hb : isR tl nx sh = false) (h : RrAt w R v tl (nx : Int) n o s fa 0) :
    Calls Tryz.prog 97 #[.pointer (some ⟨R, 0, none⟩), .string sh] w fun x w' => x = .returned (.bool true) ∧ Only (fun _ => False) w w' := by
  obtain ⟨_, _, _, _, _, _, k6⟩ := h.blk.cells
  have HS : Hid (Calls Tryz.prog 26 #[.pointer (some ⟨R, 0, none⟩), .string sh] w fun x w' => x = .returned (.bool false) ∧ Only (fun _ => False) w w') := by
    have := ris_any R v tl nx n o s fa sh w h
    rwa [hb] at this
  clear h hb
  go_enter Tryz.func97, Tryz.ntmps97
  go_wp2_with fail
  refine (show Calls Tryz.prog 26 _ _ _ from HS.out).mono ?_
  rintro x w1 ⟨rfl, o1⟩
  have O1 : Hid (Only (fun _ => False) w w1) := o1
  clear HS o1
  go_wp2
  go_ret
  exact ⟨rfl, O1.out⟩
set_option maxRecDepth 100000 in
theorem rmore_shut (R : Nat) (v : Value) (tl : List Tok) (nx : Nat) (n o s fa : Int) (sh : ByteArray) (w : World) (ho : 0 ≤ o) (ho1 : o ≤ 1000) (hx : nx ≤ 1000000) (hb : isR tl nx sh = true) (h : RrAt w R v tl (nx : Int) n o s fa 0) :
    Calls Tryz.prog 97 #[.pointer (some ⟨R, 0, none⟩), .string sh] w fun x w' => x = .returned (.bool false) ∧ Hid (RrW R v tl ((nx + 1 : Nat) : Int) n (o - 1) s fa 0 w w') := by
  obtain ⟨_, k1, _, k3, _, _, k6⟩ := h.blk.cells
  have z1 := h.blk.froz 1
  have z3 := h.blk.froz 3
  have HS : Hid (Calls Tryz.prog 26 #[.pointer (some ⟨R, 0, none⟩), .string sh] w fun x w' => x = .returned (.bool true) ∧ Only (fun _ => False) w w') := by
    have := ris_any R v tl nx n o s fa sh w h
    rwa [hb] at this
  have H0 : Hid (RrAt w R v tl (nx : Int) n o s fa 0) := h
  clear h hb
  go_enter Tryz.func97, Tryz.ntmps97
  go_wp2_with fail
  refine (show Calls Tryz.prog 26 _ _ _ from HS.out).mono ?_
  rintro x w1 ⟨rfl, o1⟩
  have H1 : Hid (RrAt w1 R v tl (nx : Int) n o s fa 0) := H0.out.only o1
  have O1 : Hid (Only (fun b => b = R) w w1) := o1.mono (bs' := fun b => b = R) (fun _ _ h => h.elim)
  clear HS o1 k1 k3 k6 z1 z3 H0
  obtain ⟨_, k1, _, k3, _, _, _⟩ := H1.out.blk.cells
  have z1 := H1.out.blk.froz 1
  have z3 := H1.out.blk.froz 3
  go_wp2
  go_ret
  have OO : Only (fun b => b = R) w1 ((w1.setCell ⟨R, 1, none⟩ (.int .i64 ((nx : Int) + 1))).setCell ⟨R, 3, none⟩ (.int .i64 (o - 1))) := onlyR_set (onlyR_set (Only.refl _ w1))
  refine ⟨rfl, ?_, O1.out.trans OO (fun _ _ g => g)⟩
  try rw [show ((nx + 1 : Nat) : Int) = (nx : Int) + 1 by omega]
  exact H1.out.upd OO ((H1.out.blk.set1 _).set3 _)
end Go.Proofs.YtapehdolnljnoaaGreatDoor
namespace Go.Proofs.YtapehdolnljnoaaGreatDoor
open Go.RowKit
set_option linter.unusedSimpArgs false
set_option linter.unusedVariables false
theorem RdAt.size {w : World} {R : Nat} {q : List Tok} {n o z : Int} (h : RdAt w R q n o z) (y : Int) : RdAt (w.setCell ⟨R, 3, none⟩ (.int .i64 y)) R q n o y ∧ Only (fun b => b = R) w (w.setCell ⟨R, 3, none⟩ (.int .i64 y)) := by
  obtain ⟨v, hR, hT⟩ := h
  have OO : Only (fun b => b = R) w (w.setCell ⟨R, 3, none⟩ (.int .i64 y)) := (Only.refl (fun b => b = R) w).setCell ⟨R, 3, none⟩ _ (fun _ => rfl)
  exact ⟨⟨v, (heap_setCell_same _ _ _ _ _ _ hR).trans rfl, hT.onlyR (fun b h e => by omega) OO⟩, OO⟩
theorem RdAt.open_ {w : World} {R : Nat} {q : List Tok} {n o z : Int} (h : RdAt w R q n o z) (y : Int) : RdAt (w.setCell ⟨R, 2, none⟩ (.int .i64 y)) R q n y z ∧ Only (fun b => b = R) w (w.setCell ⟨R, 2, none⟩ (.int .i64 y)) := by
  obtain ⟨v, hR, hT⟩ := h
  have OO : Only (fun b => b = R) w (w.setCell ⟨R, 2, none⟩ (.int .i64 y)) := (Only.refl (fun b => b = R) w).setCell ⟨R, 2, none⟩ _ (fun _ => rfl)
  exact ⟨⟨v, (heap_setCell_same _ _ _ _ _ _ hR).trans rfl, hT.onlyR (fun b h e => by omega) OO⟩, OO⟩
/-- what take answers -/
def tkP (R : Nat) (q : List Tok) (n o z : Int) (w : World) (x : Ending) (w' : World) : Prop := match q with
  | [] => x = gup n 9 ∧ Only (fun b => b = R) w w'
  | t :: q' => x = .returned t.v ∧ Hid (RdAt w' R q' n o z ∧ Only (fun b => b = R) w w')
theorem take_any (R : Nat) (q : List Tok) (n o z : Int) (w : World) (h : RdAt w R q n o z) :
    Calls Tryz.prog 93 #[.pointer (some ⟨R, 0, none⟩)] w (tkP R q n o z w) := by
  cases q with
  | nil => exact (take_nil R n o z w h).mono fun e w' g => ⟨g.1, g.2.mono (fun _ _ h => h.elim)⟩
  | cons t q => exact (take_cons R t q n o z w h).mono fun e w' g => g
theorem tkP.later {R : Nat} {q : List Tok} {n o z : Int} {w0 w w' : World} {x : Ending} (h : tkP R q n o z w x w') (o0 : Only (fun b => b = R) w0 w) : tkP R q n o z w0 x w' := by
  cases q with
  | nil => exact ⟨h.1, o0.trans h.2 (fun _ _ g => g)⟩
  | cons t q => exact ⟨h.1, h.2.out.1, o0.trans h.2.out.2 (fun _ _ g => g)⟩
set_option maxRecDepth 100000 in
theorem count_any (R : Nat) (q : List Tok) (n o z : Int) (w : World) (hz : 0 ≤ z ∧ z ≤ 1000000) (h : RdAt w R q n o z) :
    Calls Tryz.prog 70 #[.pointer (some ⟨R, 0, none⟩)] w fun x w' => if z = 1024 then x = gup (flt q n) 11 ∧ Only (fun b => b = R) w w' else tkP R q n o (z + 1) w x w' := by
  obtain ⟨v, hR, hT⟩ := id h
  have HF : Hid (∀ w1, Only (fun _ => False) w w1 → Calls Tryz.prog 100 #[.pointer (some ⟨R, 0, none⟩), .int .i64 11] w1 fun x w' => x = .returned (.agg #[.int .i64 (flt q n), .int .i64 11]) ∧ Only (fun _ => False) w1 w') := fun w1 o1 => fault_any R q n o z 11 w1 (h.only o1)
  have O0 : Hid (Only (fun _ => False) w w) := Only.refl _ _
  have H0 : Hid (RdAt w R q n o z) := h
  have R1 : ∀ x, (w.alloc x).heap[R]? = some (.cells #[v, .int .i64 n, .int .i64 o, .int .i64 z] 124) := fun x => (((Only.refl (fun _ => False) w).alloc x).block R (Array.getElem?_eq_some_iff.1 hR).1 (fun h => h)).trans hR
  have k3 : ∀ x, (w.alloc x).cell? ⟨R, 3, none⟩ = some (.int .i64 z) := fun x => by rw [blk_cells (R1 x)]; rfl
  have f3 : ∀ x, (w.alloc x).frozen? ⟨R, 3, none⟩ = false := fun x => blk_froz (R1 x) 3
  clear hT h hR R1
  by_cases hm : z = 1024
  · subst hm
    simp only [if_true]
    clear f3
    go_enter Tryz.func70, Tryz.ntmps70
    go_wp2_with fail
    refine (show Calls Tryz.prog 100 _ _ _ from HF.out _ (O0.out.alloc _)).mono ?_
    rintro e w1 ⟨rfl, o1⟩
    have O1 : Hid (Only (fun _ => False) w w1) := (O0.out.alloc _).trans o1 (fun _ _ g => g)
    clear HF o1
    go_wp2
    exact ⟨rfl, rfl, O1.out.mono (fun _ _ h => h.elim)⟩
  · simp only [hm, if_false]
    have i1 : (z == 1024) = false := by simp [hm]
    clear HF
    go_enter Tryz.func70, Tryz.ntmps70
    go_wp2_with fail
    have lR : R < w.heap.size := by
      obtain ⟨_, h1, _⟩ := H0.out
      exact (Array.getElem?_eq_some_iff.1 h1).1
    obtain ⟨W0, hW0⟩ : ∃ W0, W0 = (w.alloc (.cells #[.int .i64 0, .string ⟨#[]⟩, .int .i64 0, .int .i64 0] 133)).setCell ⟨R, 3, none⟩ (.int .i64 (z + 1)) := ⟨_, rfl⟩
    have A0 : RdAt W0 R q n o (z + 1) ∧ Only (fun b => b = R) (w.alloc (.cells #[.int .i64 0, .string ⟨#[]⟩, .int .i64 0, .int .i64 0] 133)) W0 := by
      rw [hW0]
      exact (H0.out.only (O0.out.alloc _)).size (z + 1)
    have A1 : Only (fun b => b = R) w W0 := (show Only (fun b => b = R) w _ from (Only.refl (fun b => b = R) w).alloc _).trans A0.2 (fun _ _ g => g)
    have A2 : W0.heap[w.heap.size]? = some (.cells #[.int .i64 0, .string ⟨#[]⟩, .int .i64 0, .int .i64 0] 133) := (A0.2.block w.heap.size (by simp) (by omega)).trans (alloc_at _ _ _ rfl)
    rw [← hW0]
    refine (show Calls Tryz.prog 93 _ _ _ from take_any R q n o (z + 1) W0 A0.1).mono ?_
    intro e w1 g1
    have G1 : Hid (tkP R q n o (z + 1) W0 e w1) := g1
    obtain ⟨B, hBe⟩ : ∃ B, B = w.heap.size := ⟨_, rfl⟩
    have HE : Hid (B = w.heap.size ∧ R < w.heap.size ∧ Only (fun b => b = R) w W0) := ⟨hBe, lR, A1⟩
    rw [← hBe] at A2 ⊢
    have lB : B < W0.heap.size := (Array.getElem?_eq_some_iff.1 A2).1
    have nBR : ¬ B = R := by omega
    clear k3 f3 O0 H0 A0 A1 hW0 lR hBe
    cases q with
    | nil =>
      obtain ⟨he, o1⟩ := g1
      subst he
      have O1 : Hid (Only (fun b => b = R) W0 w1) := o1
      clear o1 G1 A2 lB nBR
      unfold gup
      go_wp2
      exact ⟨rfl, rfl, HE.out.2.2.trans O1.out (fun _ _ g => g)⟩
    | cons t q =>
      obtain ⟨he, g2⟩ := g1
      subst he
      have R3 := (g2.out.2.block B lB nBR).trans A2
      have G2 : Hid (RdAt w1 R q n o (z + 1) ∧ Only (fun b => b = R) W0 w1) := g2.out
      have c0 := blk_cells R3 0
      have c1 := blk_cells R3 1
      have c2 := blk_cells R3 2
      have c3 := blk_cells R3 3
      have z0 := blk_froz R3 0
      have z1 := blk_froz R3 1
      have z2 := blk_froz R3 2
      have z3 := blk_froz R3 3
      have HR3 : Hid (w1.heap[B]? = some (.cells #[.int .i64 0, .string ⟨#[]⟩, .int .i64 0, .int .i64 0] 133)) := R3
      simp only [List.getElem?_toArray, List.getElem?_cons_zero, List.getElem?_cons_succ] at c0 c1 c2 c3
      clear g2 G1 A2 lB R3
      obtain ⟨tk, tt, tn, ta⟩ := t
      simp only [Tok.v]
      go_wp2
      obtain ⟨q0, q1, q2, q3⟩ := set4 HR3.out rfl (.int .i64 tk) (.string tt) (.int .i64 tn) (.int .i64 ta)
      obtain ⟨hBe, lR, A1⟩ := HE.out
      have OB : Only (fun b => b = B) w1 ((((w1.setCell ⟨B, 0, none⟩ (.int .i64 tk)).setCell ⟨B, 1, none⟩ (.string tt)).setCell ⟨B, 2, none⟩ (.int .i64 tn)).setCell ⟨B, 3, none⟩ (.int .i64 ta)) :=
        ((((Only.refl (fun b => b = B) w1).setCell ⟨B, 0, none⟩ _ (fun _ => rfl)).setCell ⟨B, 1, none⟩ _ (fun _ => rfl)).setCell ⟨B, 2, none⟩ _ (fun _ => rfl)).setCell ⟨B, 3, none⟩ _ (fun _ => rfl)
      refine bodyPost_ret (results_tk rfl _ _ B q0 q1 q2 q3 rfl) rfl ⟨rfl, G2.out.1.other (fun b h e => by omega) OB, ?_⟩
      exact (A1.trans G2.out.2 (fun _ _ g => g)).trans OB (fun b h e => by omega)
end Go.Proofs.YtapehdolnljnoaaGreatDoor
namespace Go.Proofs.YtapehdolnljnoaaGreatDoor
open Go.RowKit
set_option linter.unusedSimpArgs false
set_option linter.unusedVariables false
/-- what enter answers, where there is room -/
def enQ (R : Nat) (q : List Tok) (n o z : Int) (w : World) (x : Ending) (w' : World) : Prop := match q with
  | [] => x = gup n 9 ∧ Only (fun b => b = R) w w'
  | t :: q' => x = .returned (.tuple #[]) ∧ Hid (RdAt w' R q' n (o + 1) (z + 1) ∧ Only (fun b => b = R) w w')
/-- what enter answers -/
def enP (R : Nat) (q : List Tok) (n o z : Int) (w : World) (x : Ending) (w' : World) : Prop :=
  if o = 32 ∨ z = 1024 then x = gup (flt q n) 11 ∧ Only (fun b => b = R) w w' else enQ R q n o z w x w'
set_option maxRecDepth 100000 in
theorem enter_any (R : Nat) (q : List Tok) (n o z : Int) (w : World) (ho : 0 ≤ o ∧ o ≤ 1000000) (hz : 0 ≤ z ∧ z ≤ 1000000) (h : RdAt w R q n o z) :
    Calls Tryz.prog 91 #[.pointer (some ⟨R, 0, none⟩)] w (enP R q n o z w) := by
  obtain ⟨v, hR, hT⟩ := id h
  have HF : Hid (Calls Tryz.prog 100 #[.pointer (some ⟨R, 0, none⟩), .int .i64 11] w fun x w' => x = .returned (.agg #[.int .i64 (flt q n), .int .i64 11]) ∧ Only (fun _ => False) w w') := fault_any R q n o z 11 w h
  have H0 : Hid (RdAt w R q n o z) := h
  have k2 : w.cell? ⟨R, 2, none⟩ = some (.int .i64 o) := by rw [blk_cells hR]; rfl
  have f2 : w.frozen? ⟨R, 2, none⟩ = false := blk_froz hR 2
  clear hT h hR
  by_cases hm : o = 32
  · subst hm
    unfold enP
    simp only [true_or, if_true]
    clear f2
    go_enter Tryz.func91, Tryz.ntmps91
    go_wp2_with fail
    refine (show Calls Tryz.prog 100 _ _ _ from HF.out).mono ?_
    rintro e w1 ⟨rfl, o1⟩
    have O1 : Hid (Only (fun _ => False) w w1) := o1
    clear HF o1
    go_wp2
    exact ⟨rfl, rfl, O1.out.mono (fun _ _ h => h.elim)⟩
  · have i1 : (o == 32) = false := by simp [hm]
    have HP : Hid (∀ e w', (if z = 1024 then e = gup (flt q n) 11 ∧ Only (fun b => b = R) w w' else enQ R q n o z w e w') → enP R q n o z w e w') := by
      intro e w' g
      unfold enP
      simp only [hm, false_or]
      exact g
    clear HF
    go_enter Tryz.func91, Tryz.ntmps91
    go_wp2_with fail
    obtain ⟨W0, hW0⟩ : ∃ W0, W0 = w.setCell ⟨R, 2, none⟩ (.int .i64 (o + 1)) := ⟨_, rfl⟩
    have A0 : RdAt W0 R q n (o + 1) z ∧ Only (fun b => b = R) w W0 := by
      rw [hW0]
      exact H0.out.open_ (o + 1)
    rw [← hW0]
    refine (show Calls Tryz.prog 70 _ _ _ from count_any R q n (o + 1) z W0 hz A0.1).mono ?_
    intro e w1 g1
    have A1 : Hid (Only (fun b => b = R) w W0) := A0.2
    clear A0 hW0 k2 f2 H0
    by_cases hz1 : z = 1024
    · simp only [hz1, if_true] at g1
      obtain ⟨he, o1⟩ := g1
      subst he
      have O1 : Hid (Only (fun b => b = R) w w1) := A1.out.trans o1 (fun _ _ g => g)
      clear o1
      have HP1 : Hid (∀ w', Only (fun b => b = R) w w' → enP R q n o z w (gup (flt q n) 11) w') := fun w' g => HP.out _ _ (by rw [if_pos hz1]; exact ⟨rfl, g⟩)
      clear HP hz1
      unfold gup at HP1 ⊢
      go_wp2
      exact ⟨rfl, HP1.out _ O1.out⟩
    · simp only [hz1, if_false] at g1
      cases q with
      | nil =>
        obtain ⟨he, o1⟩ := g1
        subst he
        have O1 : Hid (Only (fun b => b = R) w w1) := A1.out.trans o1 (fun _ _ g => g)
        clear o1
        have HP1 : Hid (∀ w', Only (fun b => b = R) w w' → enP R [] n o z w (gup n 9) w') := fun w' g => HP.out _ _ (by rw [if_neg hz1]; exact ⟨rfl, g⟩)
        clear HP
        unfold gup at HP1 ⊢
        go_wp2
        exact ⟨rfl, HP1.out _ O1.out⟩
      | cons t q =>
        obtain ⟨he, g2⟩ := g1
        subst he
        have HP1 : Hid (enP R (t :: q) n o z w (.returned (.tuple #[])) w1) := HP.out _ _ (by rw [if_neg hz1]; exact ⟨rfl, g2.out.1, A1.out.trans g2.out.2 (fun _ _ g => g)⟩)
        clear HP g2
        obtain ⟨tk, tt, tn, ta⟩ := t
        simp only [Tok.v]
        go_wp2
        go_end0
        exact HP1.out
end Go.Proofs.YtapehdolnljnoaaGreatDoor
namespace Go.Proofs.YtapehdolnljnoaaGreatDoor
open Go.RowKit
set_option linter.unusedSimpArgs false
set_option linter.unusedVariables false
/-- a value or an item as a tree: its kind by number, its number, its text, its parts -/
structure Tre where
  k : Nat
  n : Int
  s : ByteArray
  l : List Tre
/-- the words that close a list, a quotation, a definition -/
def shB (m : Nat) : ByteArray := if m = 0 then ⟨#[125]⟩ else if m = 1 then ⟨#[93]⟩ else ⟨#[59]⟩
/-- what stands ahead of the tokens q: 0 a literal, 1 an item, 2 literals up to the end of a list, 3 items up to the end of a quotation, 4 up to that of a definition -/
def prs (n : Int) : Nat → Nat → List Tok → Int → Int → Except (Int × Int) (List Tre × List Tok × Int)
  | 0, _, _, _, _ => .error (0, 0)
  | f + 1, 0, q, o, z =>
    match q with
    | [] => .error (n, 9)
    | t :: r =>
      if t.k = 2 then (if z = 1024 then .error (t.a, 11) else .ok ([⟨1, t.n, ⟨#[]⟩, []⟩], r, z + 1))
      else if t.k = 3 then (if z = 1024 then .error (t.a, 11) else .ok ([⟨2, 0, t.t, []⟩], r, z + 1))
      else if t.t.toList = [116] then (if z = 1024 then .error (t.a, 11) else .ok ([⟨3, 1, ⟨#[]⟩, []⟩], r, z + 1))
      else if t.t.toList = [102] then (if z = 1024 then .error (t.a, 11) else .ok ([⟨3, 0, ⟨#[]⟩, []⟩], r, z + 1))
      else if t.t.toList = [91] then
        (if o = 32 ∨ z = 1024 then .error (t.a, 11) else
          match prs n f 3 r (o + 1) (z + 1) with
          | .error e => .error e
          | .ok (l, r', z') => .ok ([⟨5, 0, ⟨#[]⟩, l⟩], r', z'))
      else if t.t.toList = [123] then
        (if o = 32 ∨ z = 1024 then .error (t.a, 11) else
          match prs n f 2 r (o + 1) (z + 1) with
          | .error e => .error e
          | .ok (l, r', z') => .ok ([⟨4, 0, ⟨#[]⟩, l⟩], r', z'))
      else .error (t.a, 9)
  | f + 1, 1, q, o, z =>
    match q with
    | [] => .error (n, 9)
    | t :: r =>
      if nmB t then (if z = 1024 then .error (t.a, 11) else .ok ([⟨7, 0, t.t, []⟩], r, z + 1))
      else prs n f 0 (t :: r) o z
  | f + 1, m + 2, q, o, z =>
    match q with
    | [] => .error (n, 9)
    | t :: r =>
      if isB t (shB m) then .ok ([], r, z)
      else
        match prs n f (min m 1) (t :: r) o z with
        | .error e => .error e
        | .ok (l1, r1, z1) =>
          match prs n f (m + 2) r1 o z1 with
          | .error e => .error e
          | .ok (l2, r2, z2) => .ok (l1 ++ l2, r2, z2)
theorem prs_ok (n : Int) : ∀ f m q o z l r z', prs n f m q o z = .ok (l, r, z') → z ≤ 1024 → r.length < q.length ∧ z ≤ z' ∧ z' ≤ 1024 ∧ (m < 2 → l.length = 1) ∧ l.length + r.length ≤ q.length := by
  intro f
  induction f with
  | zero => intro m q o z l r z' h; simp [prs] at h
  | succ f ih =>
    intro m q o z l r z' h hz
    match m with
    | 0 =>
      simp only [prs] at h
      cases q with
      | nil => simp at h
      | cons t q =>
        simp only at h
        repeat' split at h
        all_goals first
          | (simp at h; done)
          | (simp only [Except.ok.injEq, Prod.mk.injEq] at h; obtain ⟨rfl, rfl, rfl⟩ := h; simp only [List.length_cons, List.length_nil]; refine ⟨?_, ?_, ?_, ?_, ?_⟩ <;> first | omega | trivial | (intro _; omega))
          | skip
        all_goals
          rename_i hp
          simp only [Except.ok.injEq, Prod.mk.injEq] at h; obtain ⟨rfl, rfl, rfl⟩ := h
          obtain ⟨h1, h2, h3, _, _⟩ := ih _ _ _ _ _ _ _ hp (by omega)
          simp only [List.length_cons, List.length_nil]; refine ⟨?_, ?_, ?_, ?_, ?_⟩ <;> first | omega | trivial | (intro _; omega)
    | 1 =>
      simp only [prs] at h
      cases q with
      | nil => simp at h
      | cons t q =>
        simp only at h
        repeat' split at h
        · simp at h
        · simp only [Except.ok.injEq, Prod.mk.injEq] at h; obtain ⟨rfl, rfl, rfl⟩ := h; simp only [List.length_cons, List.length_nil]; refine ⟨?_, ?_, ?_, ?_, ?_⟩ <;> first | omega | trivial | (intro _; omega)
        · obtain ⟨h1, h2, h3, h4, h5⟩ := ih _ _ _ _ _ _ _ h hz
          exact ⟨h1, h2, h3, fun _ => h4 (by omega), h5⟩
    | m + 2 =>
      simp only [prs] at h
      cases q with
      | nil => simp at h
      | cons t q =>
        simp only at h
        repeat' split at h
        · simp only [Except.ok.injEq, Prod.mk.injEq] at h; obtain ⟨rfl, rfl, rfl⟩ := h; simp only [List.length_cons, List.length_nil]; refine ⟨?_, ?_, ?_, ?_, ?_⟩ <;> first | omega | trivial | (intro _; omega)
        · simp at h
        · simp at h
        · rename_i l1 r1 z1 hp _ l2 r2 z2 hp2
          simp only [Except.ok.injEq, Prod.mk.injEq] at h; obtain ⟨rfl, rfl, rfl⟩ := h
          obtain ⟨h1, h2, h3, h4, h5⟩ := ih _ _ _ _ _ _ _ hp hz
          obtain ⟨g1, g2, g3, g4, g5⟩ := ih _ _ _ _ _ _ _ hp2 h3
          have := h4 (by omega)
          simp only [List.length_append, List.length_cons] at *
          refine ⟨?_, ?_, ?_, ?_, ?_⟩ <;> first | omega | trivial | (intro _; omega)
end Go.Proofs.YtapehdolnljnoaaGreatDoor
namespace Go.Proofs.YtapehdolnljnoaaGreatDoor
open Go.RowKit
set_option linter.unusedSimpArgs false
set_option linter.unusedVariables false
/-- the value v is the tree t (i: as an item), within the blocks S; d: how deep it is at most -/
def TrAt (w : World) (S : Nat → Prop) : Nat → Bool → Tre → Value → Prop
  | 0, _, _, _ => False
  | d + 1, true, t, v => (t.k = 7 ∧ t.l = [] ∧ v = .iface 59 (.agg #[.string t.s])) ∨ (t.k ≠ 7 ∧ ∃ u, v = .iface 109 (.agg #[u]) ∧ TrAt w S d false t u)
  | d + 1, false, t, v => (t.k = 1 ∧ t.l = [] ∧ v = .iface 116 (.agg #[.int .i64 t.n])) ∨ (t.k = 2 ∧ t.l = [] ∧ v = .iface 167 (.agg #[.string t.s])) ∨ (t.k = 3 ∧ t.l = [] ∧ v = .iface 169 (.agg #[.bool (t.n != 0)])) ∨
    ((t.k = 4 ∨ t.k = 5) ∧ ∃ ao cap, v = .iface (if t.k = 4 then 113 else 118) (.agg #[.slice ao t.l.length cap]) ∧ t.l.length ≤ cap ∧ ∀ i x, t.l[i]? = some x → ∃ g k u, ao = some ⟨g, k, none⟩ ∧ S g ∧ w.cell? ⟨g, k + i, none⟩ = some u ∧ TrAt w S d (t.k == 5) x u)
theorem TrAt.step {w w' : World} {S S' : Nat → Prop} (hS : ∀ b, S b → S' b) (hk : ∀ (a : Addr) u, S a.block → w.cell? a = some u → w'.cell? a = some u) : ∀ {d d' : Nat} {i : Bool} {t : Tre} {v : Value}, d ≤ d' → TrAt w S d i t v → TrAt w' S' d' i t v := by
  intro d
  induction d with
  | zero => intro d' i t v _ h; exact h.elim
  | succ d ih =>
    intro d' i t v hd h
    obtain ⟨e, rfl⟩ : ∃ e, d' = e + 1 := ⟨d' - 1, by omega⟩
    cases i with
    | true =>
      rcases h with h | ⟨h, u, hv, hu⟩
      · exact .inl h
      · exact .inr ⟨h, u, hv, ih (by omega) hu⟩
    | false =>
      rcases h with h | h | h | ⟨h, ao, cap, hv, hc, hl⟩
      · exact .inl h
      · exact .inr (.inl h)
      · exact .inr (.inr (.inl h))
      · refine .inr (.inr (.inr ⟨h, ao, cap, hv, hc, fun i x hx => ?_⟩))
        obtain ⟨g, k, u, ha, hg, hu, ht⟩ := hl i x hx
        exact ⟨g, k, u, ha, hS g hg, hk _ _ hg hu, ih (by omega) ht⟩
theorem TrAt.only {w w' : World} {S bs : Nat → Prop} {d : Nat} {i : Bool} {t : Tre} {v : Value} (h : TrAt w S d i t v) (o : Only bs w w') (hb : ∀ b, S b → ¬ bs b) : TrAt w' S d i t v :=
  TrAt.step (fun _ g => g) (fun a u hs hc => o.cell hc (hb _ hs)) (Nat.le_refl _) h
/-- a row of trees that was made since block B, in a block of its own beside those of its trees -/
def RwAt (w : World) (B : Nat) (T : TypeId) (d : Nat) (i : Bool) (v : Value) (l : List Tre) : Prop :=
  ∃ us S, w.ownsRow B T 1 v l.length us ∧ (∀ (j : Nat) (x : Tre), l[j]? = some x → ∃ u, us[j]? = some u ∧ TrAt w S d i x u) ∧ ∀ b, S b → B ≤ b ∧ b < w.heap.size ∧ v.ownBlock ≠ some b
theorem rw_nil (w : World) (B : Nat) (T : TypeId) (d : Nat) (i : Bool) : RwAt w B T d i (.slice none 0 0) [] :=
  ⟨[], fun _ => False, ⟨rfl, .inl ⟨rfl, rfl⟩⟩, fun j x h => by simp at h, fun b h => h.elim⟩
theorem RwAt.form {w : World} {B : Nat} {T : TypeId} {d : Nat} {i : Bool} {v : Value} {l : List Tre} (h : RwAt w B T d i v l) : ∃ ao cap, v = .slice ao l.length cap := by
  obtain ⟨us, S, ho, _⟩ := h
  rcases ho.2 with ⟨h1, h2⟩ | ⟨g, cap, cur, h1, _⟩
  · exact ⟨_, _, by rw [h1, h2]⟩
  · exact ⟨_, _, h1⟩
theorem RwAt.only {w w' : World} {B : Nat} {T : TypeId} {d : Nat} {i : Bool} {v : Value} {l : List Tre} {bs : Nat → Prop} (h : RwAt w B T d i v l) (o : Only bs w w') (hb : ∀ b, B ≤ b → ¬ bs b) : RwAt w' B T d i v l := by
  obtain ⟨us, S, ho, ht, hS⟩ := h
  refine ⟨us, S, o.owns ho (fun k hk => hb k (ho.lt k hk).1), fun j x hx => ?_, fun b hbS => ?_⟩
  · obtain ⟨u, hu, h2⟩ := ht j x hx
    exact ⟨u, hu, h2.only o (fun b hbS => hb b (hS b hbS).1)⟩
  · obtain ⟨h1, h2, h3⟩ := hS b hbS
    exact ⟨h1, Nat.lt_of_lt_of_le h2 o.size, h3⟩
theorem RwAt.deep {w : World} {B : Nat} {T : TypeId} {d d' : Nat} {i : Bool} {v : Value} {l : List Tre} (h : RwAt w B T d i v l) (hd : d ≤ d') : RwAt w B T d' i v l := by
  obtain ⟨us, S, ho, ht, hS⟩ := h
  refine ⟨us, S, ho, fun j x hx => ?_, hS⟩
  obtain ⟨u, hu, h2⟩ := ht j x hx
  exact ⟨u, hu, h2.step (fun _ g => g) (fun _ _ _ g => g) hd⟩
/-- what a value is that was made since block B -/
def NwAt (w : World) (B : Nat) (d : Nat) (i : Bool) (t : Tre) (v : Value) : Prop := ∃ S, TrAt w S d i t v ∧ ∀ b, S b → B ≤ b ∧ b < w.heap.size
theorem NwAt.only {w w' : World} {B : Nat} {d : Nat} {i : Bool} {v : Value} {t : Tre} {bs : Nat → Prop} (h : NwAt w B d i t v) (o : Only bs w w') (hb : ∀ b, B ≤ b → ¬ bs b) : NwAt w' B d i t v := by
  obtain ⟨S, ht, hS⟩ := h
  exact ⟨S, ht.only o (fun b hbS => hb b (hS b hbS).1), fun b hbS => ⟨(hS b hbS).1, Nat.lt_of_lt_of_le (hS b hbS).2 o.size⟩⟩
theorem NwAt.lower {w : World} {B C : Nat} {d : Nat} {i : Bool} {v : Value} {t : Tre} (h : NwAt w B d i t v) (hC : C ≤ B) : NwAt w C d i t v := by
  obtain ⟨S, ht, hS⟩ := h
  exact ⟨S, ht, fun b hbS => ⟨Nat.le_trans hC (hS b hbS).1, (hS b hbS).2⟩⟩
theorem NwAt.deep {w : World} {B : Nat} {d d' : Nat} {i : Bool} {v : Value} {t : Tre} (h : NwAt w B d i t v) (hd : d ≤ d') : NwAt w B d' i t v := by
  obtain ⟨S, ht, hS⟩ := h
  exact ⟨S, ht.step (fun _ g => g) (fun _ _ _ g => g) hd, hS⟩
/-- a tree is put behind a row: what the append leaves -/
theorem RwAt.snoc {w w' : World} {B C : Nat} {T : TypeId} {d : Nat} {i : Bool} {v v' : Value} {l : List Tre} {t : Tre} {u : Value} {us : List Value} {S : Nat → Prop} (hg : w.grownBy w' v.ownBlock) (ho : w.ownsRow B T 1 v l.length us) (ht : ∀ (j : Nat) (x : Tre), l[j]? = some x → ∃ u, us[j]? = some u ∧ TrAt w S d i x u) (hS : ∀ b, S b → B ≤ b ∧ b < w.heap.size ∧ v.ownBlock ≠ some b)
    (hn : NwAt w C d i t u) (hC : B ≤ C) (hv : ∀ k, v.ownBlock = some k → k < C) (ho' : w'.ownsRow B T 1 v' (l.length + 1) (us ++ [u])) (hat : v'.ownBlock = v.ownBlock ∨ v'.ownBlock = some w.heap.size) : RwAt w' B T d i v' (l ++ [t]) := by
  obtain ⟨S1, t1, s1⟩ := hn
  have oo : Only (fun k => v.ownBlock = some k) w w' := (Only.refl _ w).grown hg (fun k e _ => e)
  have a1 : ∀ b, S b → ¬ v.ownBlock = some b := fun b h => (hS b h).2.2
  have a2 : ∀ b, S1 b → ¬ v.ownBlock = some b := fun b h e => by have := hv b e; have := (s1 b h).1; omega
  have hl : us.length = l.length := by have := ho.1; omega
  refine ⟨us ++ [u], fun b => S b ∨ S1 b, by simpa using ho', fun j x hx => ?_, fun b hb => ?_⟩
  · by_cases hj : j < l.length
    · rw [List.getElem?_append_left hj] at hx
      obtain ⟨u', h1, h2⟩ := ht j x hx
      refine ⟨u', by rw [List.getElem?_append_left (by omega)]; exact h1, h2.step (fun _ g => .inl g) (fun a y hs hc => oo.cell hc (a1 _ hs)) (Nat.le_refl _)⟩
    · have hj2 : j < (l ++ [t]).length := (List.getElem?_eq_some_iff.1 hx).1
      have hj3 : j = l.length := by simp at hj2; omega
      subst hj3
      simp at hx
      subst hx
      exact ⟨u, by rw [← hl]; simp, t1.step (fun _ g => .inr g) (fun a y hs hc => oo.cell hc (a2 _ hs)) (Nat.le_refl _)⟩
  · have h1 : B ≤ b ∧ b < w.heap.size ∧ v.ownBlock ≠ some b := by
      rcases hb with h | h
      · exact hS b h
      · exact ⟨Nat.le_trans hC (s1 b h).1, (s1 b h).2, a2 b h⟩
    refine ⟨h1.1, Nat.lt_of_lt_of_le h1.2.1 oo.size, ?_⟩
    rcases hat with e | e <;> rw [e]
    · exact h1.2.2
    · intro e2
      injection e2 with e2
      have := h1.2.1
      omega
theorem addr_ad (g k : Nat) : (⟨g, 0, none⟩ : Addr).add k = ⟨g, k, none⟩ := by
  show (if k = 0 then _ else _) = _
  split
  · rename_i h; rw [h]
  · simp
/-- a row as a list or a quotation -/
theorem RwAt.tree {w : World} {B : Nat} {T : TypeId} {d : Nat} {v : Value} {l : List Tre} {k : Nat} (hk : k = 4 ∨ k = 5) (h : RwAt w B T d (k == 5) v l) : NwAt w B (d + 1) false ⟨k, 0, ⟨#[]⟩, l⟩ (.iface (if k = 4 then 113 else 118) (.agg #[v])) := by
  obtain ⟨us, S, ho, ht, hS⟩ := h
  refine ⟨fun b => S b ∨ v.ownBlock = some b, .inr (.inr (.inr ⟨hk, ?_⟩)), fun b hb => ?_⟩
  · rcases ho.2 with ⟨rfl, h2⟩ | ⟨g, cap, cur, hv, hB, hg, hn, hcm, hcs, htk⟩
    · have hl : l = [] := List.eq_nil_of_length_eq_zero h2
      subst hl
      exact ⟨none, 0, rfl, Nat.zero_le _, fun i x hx => by simp at hx⟩
    · refine ⟨some ⟨g, 0, none⟩, cap, by rw [hv], hn, fun i x hx => ?_⟩
      obtain ⟨u, h1, h2⟩ := ht i x hx
      have hc := ho.cells (g := g) (by rw [hv]; rfl) i u h1
      rw [addr_ad] at hc
      exact ⟨g, 0, u, rfl, .inr (by rw [hv]; rfl), by simpa using hc, h2.step (fun _ g => .inl g) (fun _ _ _ g => g) (Nat.le_refl _)⟩
  · rcases hb with h | h
    · exact ⟨(hS b h).1, (hS b h).2.1⟩
    · exact ho.lt b h
end Go.Proofs.YtapehdolnljnoaaGreatDoor
namespace Go.Proofs.YtapehdolnljnoaaGreatDoor
open Go.RowKit
set_option linter.unusedSimpArgs false
set_option linter.unusedVariables false
/-- what reading one part answers -/
def ptP (R d : Nat) (i : Bool) (n o : Int) (w : World) (r : Except (Int × Int) (List Tre × List Tok × Int)) (x : Ending) (w' : World) : Prop :=
  match r with
  | .error (a, e) => x = gup a e ∧ Only (fun b => b = R) w w'
  | .ok (l, q, z) => ∃ t v, l = [t] ∧ x = .returned v ∧ Hid (NwAt w' w.heap.size d i t v ∧ RdAt w' R q n o z ∧ Only (fun b => b = R) w w')
/-- what reading parts up to a word answers -/
def upP (R d : Nat) (T : TypeId) (i : Bool) (n o : Int) (w : World) (r : Except (Int × Int) (List Tre × List Tok × Int)) (x : Ending) (w' : World) : Prop :=
  match r with
  | .error (a, e) => x = gup a e ∧ Only (fun b => b = R) w w'
  | .ok (l, q, z) => ∃ ao cap, x = .returned (.slice ao l.length cap) ∧ Hid (RwAt w' w.heap.size T d i (.slice ao l.length cap) l ∧ RdAt w' R q n (o - 1) z ∧ Only (fun b => b = R) w w')
def UpC (R : Nat) (n : Int) (f m F : Nat) (T : TypeId) (i : Bool) (G : Nat) : Prop := ∀ (q : List Tok) (o z : Int) (w : World), 3 * q.length + 3 ≤ f → q.length ≤ 4096 → 1 ≤ o → o ≤ 32 → 0 ≤ z → z ≤ 1024 → RdAt w R q n o z → Calls Tryz.prog F #[.pointer (some ⟨R, 0, none⟩), .string (shB (m - 2)), .func (.func G) #[] #[]] w (upP R f T i n o w (prs n f m q o z))
def PtC (R : Nat) (n : Int) (f m F : Nat) (i : Bool) : Prop := ∀ (q : List Tok) (o z : Int) (w : World), 3 * q.length + 1 + m ≤ f → q.length ≤ 4096 → 0 ≤ o → o ≤ 32 → 0 ≤ z → z ≤ 1024 → RdAt w R q n o z → Calls Tryz.prog F #[.pointer (some ⟨R, 0, none⟩)] w (ptP R f i n o w (prs n f m q o z))
theorem count_full (R : Nat) (t : Tok) (q : List Tok) (n o : Int) (w : World) (h : RdAt w R (t :: q) n o 1024) :
    Calls Tryz.prog 70 #[.pointer (some ⟨R, 0, none⟩)] w fun x w' => x = gup t.a 11 ∧ Only (fun b => b = R) w w' :=
  (count_any R (t :: q) n o 1024 w (by omega) h).mono fun e w' g => by simpa [flt] using g
theorem count_cons (R : Nat) (t : Tok) (q : List Tok) (n o z : Int) (w : World) (hz : 0 ≤ z) (h1 : z ≤ 1024) (h2 : ¬ z = 1024) (h : RdAt w R (t :: q) n o z) :
    Calls Tryz.prog 70 #[.pointer (some ⟨R, 0, none⟩)] w fun x w' => x = .returned t.v ∧ Hid (RdAt w' R q n o (z + 1) ∧ Only (fun b => b = R) w w') :=
  (count_any R (t :: q) n o z w (by omega) h).mono fun e w' g => by rw [if_neg h2] at g; exact g
theorem tok_f0 (a b c d : Value) (w : World) : (Instr.field 133 (.agg #[a, b, c, d]) 0).run Tryz.prog w = .ok a w := by simp [Instr.field, part, sizeOf, typeInfo, go_sem, Tryz.underlying133, isAgg, asAgg]
theorem tok_f1 (a b c d : Value) (w : World) : (Instr.field 133 (.agg #[a, b, c, d]) 1).run Tryz.prog w = .ok b w := by simp [Instr.field, part, sizeOf, typeInfo, go_sem, Tryz.underlying133, isAgg, asAgg]
theorem tok_f2 (a b c d : Value) (w : World) : (Instr.field 133 (.agg #[a, b, c, d]) 2).run Tryz.prog w = .ok c w := by simp [Instr.field, part, sizeOf, typeInfo, go_sem, Tryz.underlying133, isAgg, asAgg]
theorem str_of {t : ByteArray} {c : UInt8} (h : t.toList = [c]) : t = ⟨#[c]⟩ := by
  have h1 : t.data.toList = [c] := by rw [← h]; exact (ByteArray.toList_eq t).symm
  have h2 : t.data = #[c] := by
    apply Array.toList_inj.1
    simpa using h1
  cases t
  simp_all
set_option maxRecDepth 100000 in
theorem lit_num_full (R : Nat) (r : List Tok) (n o : Int) (tt : ByteArray) (tn ta : Int) (w : World)  (h : RdAt w R (⟨2, tt, tn, ta⟩ :: r) n o 1024) :
    Calls Tryz.prog 71 #[.pointer (some ⟨R, 0, none⟩)] w fun x w' => x = gup ta 11 ∧ Only (fun b => b = R) w w' := by
  obtain ⟨z, hz⟩ : ∃ z : Int, z = 1024 := ⟨_, rfl⟩
  rw [← hz] at h
  have HZ : Hid (z = 1024) := hz
  have H0 : Hid (RdAt w R (⟨2, tt, tn, ta⟩ :: r) n o z) := h
  have O0 : Hid (Only (fun b => b = R) w w) := Only.refl _ _
  clear h hz
  have f0 := tok_f0
  have f1 := tok_f1
  have f2 := tok_f2
  go_enter Tryz.func71, Tryz.ntmps71
  go_wp2_with fail
  refine (show Calls Tryz.prog 90 _ _ _ from next_cons R _ r n o z _ H0.out).mono ?_
  rintro e w1 ⟨rfl, o1⟩
  have O1 : Hid (Only (fun b => b = R) w w1) := O0.out.trans (o1.mono (bs' := fun b => b = R) (fun _ _ h => h.elim)) (fun _ _ g => g)
  have H1 : Hid (RdAt w1 R (⟨2, tt, tn, ta⟩ :: r) n o z) := H0.out.only o1
  clear o1 H0 O0
  simp only [Tok.v]
  go_wp2_with fail
  refine (show Calls Tryz.prog 70 _ _ _ from count_full R ⟨2, tt, tn, ta⟩ r n o _ (by have := H1.out; rw [show z = 1024 from HZ.out] at this; exact this)).mono ?_
  rintro e w2 ⟨rfl, o2⟩
  have O2 : Hid (Only (fun b => b = R) w w2) := O1.out.trans o2 (fun _ _ g => g)
  clear o2 H1 O1
  unfold gup
  go_wp2
  exact ⟨rfl, rfl, O2.out⟩
set_option maxRecDepth 100000 in
theorem lit_num_ok (R : Nat) (r : List Tok) (n o z : Int) (tt : ByteArray) (tn ta : Int) (w : World)  (hz : 0 ≤ z) (hz1 : z ≤ 1024) (hz2 : ¬ z = 1024) (h : RdAt w R (⟨2, tt, tn, ta⟩ :: r) n o z) :
    Calls Tryz.prog 71 #[.pointer (some ⟨R, 0, none⟩)] w fun x w' => x = .returned (.iface 116 (.agg #[.int .i64 tn])) ∧ Hid (RdAt w' R r n o (z + 1) ∧ Only (fun b => b = R) w w') := by
  have HC : Hid (∀ w1, RdAt w1 R (⟨2, tt, tn, ta⟩ :: r) n o z → Calls Tryz.prog 70 #[.pointer (some ⟨R, 0, none⟩)] w1 fun x w' => x = .returned (Tok.v ⟨2, tt, tn, ta⟩) ∧ Hid (RdAt w' R r n o (z + 1) ∧ Only (fun b => b = R) w1 w')) := fun w1 h1 => count_cons R _ r n o z w1 hz hz1 hz2 h1
  have H0 : Hid (RdAt w R (⟨2, tt, tn, ta⟩ :: r) n o z) := h
  have O0 : Hid (Only (fun b => b = R) w w) := Only.refl _ _
  clear h hz hz1 hz2
  have f0 := tok_f0
  have f1 := tok_f1
  have f2 := tok_f2
  go_enter Tryz.func71, Tryz.ntmps71
  go_wp2_with fail
  refine (show Calls Tryz.prog 90 _ _ _ from next_cons R _ r n o z _ H0.out).mono ?_
  rintro e w1 ⟨rfl, o1⟩
  have O1 : Hid (Only (fun b => b = R) w w1) := O0.out.trans (o1.mono (bs' := fun b => b = R) (fun _ _ h => h.elim)) (fun _ _ g => g)
  have H1 : Hid (RdAt w1 R (⟨2, tt, tn, ta⟩ :: r) n o z) := H0.out.only o1
  clear o1 H0 O0
  simp only [Tok.v]
  go_wp2_with fail
  refine (show Calls Tryz.prog 70 _ _ _ from HC.out _ H1.out).mono ?_
  rintro e w2 ⟨rfl, g2⟩
  have G2 : Hid (RdAt w2 R r n o (z + 1) ∧ Only (fun b => b = R) w w2) := ⟨g2.out.1, O1.out.trans g2.out.2 (fun _ _ g => g)⟩
  clear g2 H1 O1 HC
  simp only [Tok.v]
  go_wp2
  go_ret
  exact ⟨rfl, G2⟩
set_option maxRecDepth 100000 in
theorem lit_str_full (R : Nat) (r : List Tok) (n o : Int) (tt : ByteArray) (tn ta : Int) (w : World)  (h : RdAt w R (⟨3, tt, tn, ta⟩ :: r) n o 1024) :
    Calls Tryz.prog 71 #[.pointer (some ⟨R, 0, none⟩)] w fun x w' => x = gup ta 11 ∧ Only (fun b => b = R) w w' := by
  obtain ⟨z, hz⟩ : ∃ z : Int, z = 1024 := ⟨_, rfl⟩
  rw [← hz] at h
  have HZ : Hid (z = 1024) := hz
  have H0 : Hid (RdAt w R (⟨3, tt, tn, ta⟩ :: r) n o z) := h
  have O0 : Hid (Only (fun b => b = R) w w) := Only.refl _ _
  clear h hz
  have f0 := tok_f0
  have f1 := tok_f1
  have f2 := tok_f2
  go_enter Tryz.func71, Tryz.ntmps71
  go_wp2_with fail
  refine (show Calls Tryz.prog 90 _ _ _ from next_cons R _ r n o z _ H0.out).mono ?_
  rintro e w1 ⟨rfl, o1⟩
  have O1 : Hid (Only (fun b => b = R) w w1) := O0.out.trans (o1.mono (bs' := fun b => b = R) (fun _ _ h => h.elim)) (fun _ _ g => g)
  have H1 : Hid (RdAt w1 R (⟨3, tt, tn, ta⟩ :: r) n o z) := H0.out.only o1
  clear o1 H0 O0
  simp only [Tok.v]
  go_wp2_with fail
  refine (show Calls Tryz.prog 70 _ _ _ from count_full R ⟨3, tt, tn, ta⟩ r n o _ (by have := H1.out; rw [show z = 1024 from HZ.out] at this; exact this)).mono ?_
  rintro e w2 ⟨rfl, o2⟩
  have O2 : Hid (Only (fun b => b = R) w w2) := O1.out.trans o2 (fun _ _ g => g)
  clear o2 H1 O1
  unfold gup
  go_wp2
  exact ⟨rfl, rfl, O2.out⟩
set_option maxRecDepth 100000 in
theorem lit_str_ok (R : Nat) (r : List Tok) (n o z : Int) (tt : ByteArray) (tn ta : Int) (w : World)  (hz : 0 ≤ z) (hz1 : z ≤ 1024) (hz2 : ¬ z = 1024) (h : RdAt w R (⟨3, tt, tn, ta⟩ :: r) n o z) :
    Calls Tryz.prog 71 #[.pointer (some ⟨R, 0, none⟩)] w fun x w' => x = .returned (.iface 167 (.agg #[.string tt])) ∧ Hid (RdAt w' R r n o (z + 1) ∧ Only (fun b => b = R) w w') := by
  have HC : Hid (∀ w1, RdAt w1 R (⟨3, tt, tn, ta⟩ :: r) n o z → Calls Tryz.prog 70 #[.pointer (some ⟨R, 0, none⟩)] w1 fun x w' => x = .returned (Tok.v ⟨3, tt, tn, ta⟩) ∧ Hid (RdAt w' R r n o (z + 1) ∧ Only (fun b => b = R) w1 w')) := fun w1 h1 => count_cons R _ r n o z w1 hz hz1 hz2 h1
  have H0 : Hid (RdAt w R (⟨3, tt, tn, ta⟩ :: r) n o z) := h
  have O0 : Hid (Only (fun b => b = R) w w) := Only.refl _ _
  clear h hz hz1 hz2
  have f0 := tok_f0
  have f1 := tok_f1
  have f2 := tok_f2
  go_enter Tryz.func71, Tryz.ntmps71
  go_wp2_with fail
  refine (show Calls Tryz.prog 90 _ _ _ from next_cons R _ r n o z _ H0.out).mono ?_
  rintro e w1 ⟨rfl, o1⟩
  have O1 : Hid (Only (fun b => b = R) w w1) := O0.out.trans (o1.mono (bs' := fun b => b = R) (fun _ _ h => h.elim)) (fun _ _ g => g)
  have H1 : Hid (RdAt w1 R (⟨3, tt, tn, ta⟩ :: r) n o z) := H0.out.only o1
  clear o1 H0 O0
  simp only [Tok.v]
  go_wp2_with fail
  refine (show Calls Tryz.prog 70 _ _ _ from HC.out _ H1.out).mono ?_
  rintro e w2 ⟨rfl, g2⟩
  have G2 : Hid (RdAt w2 R r n o (z + 1) ∧ Only (fun b => b = R) w w2) := ⟨g2.out.1, O1.out.trans g2.out.2 (fun _ _ g => g)⟩
  clear g2 H1 O1 HC
  simp only [Tok.v]
  go_wp2
  go_ret
  exact ⟨rfl, G2⟩
set_option maxRecDepth 100000 in
theorem lit_yes_full (R : Nat) (r : List Tok) (n o : Int) (tk tn ta : Int) (w : World) (i2 : (tk == 2) = false) (i3 : (tk == 3) = false) (h : RdAt w R (⟨tk, ⟨#[116]⟩, tn, ta⟩ :: r) n o 1024) :
    Calls Tryz.prog 71 #[.pointer (some ⟨R, 0, none⟩)] w fun x w' => x = gup ta 11 ∧ Only (fun b => b = R) w w' := by
  obtain ⟨z, hz⟩ : ∃ z : Int, z = 1024 := ⟨_, rfl⟩
  rw [← hz] at h
  have HZ : Hid (z = 1024) := hz
  have H0 : Hid (RdAt w R (⟨tk, ⟨#[116]⟩, tn, ta⟩ :: r) n o z) := h
  have O0 : Hid (Only (fun b => b = R) w w) := Only.refl _ _
  clear h hz
  have f0 := tok_f0
  have f1 := tok_f1
  have f2 := tok_f2
  go_enter Tryz.func71, Tryz.ntmps71
  go_wp2_with fail
  refine (show Calls Tryz.prog 90 _ _ _ from next_cons R _ r n o z _ H0.out).mono ?_
  rintro e w1 ⟨rfl, o1⟩
  have O1 : Hid (Only (fun b => b = R) w w1) := O0.out.trans (o1.mono (bs' := fun b => b = R) (fun _ _ h => h.elim)) (fun _ _ g => g)
  have H1 : Hid (RdAt w1 R (⟨tk, ⟨#[116]⟩, tn, ta⟩ :: r) n o z) := H0.out.only o1
  clear o1 H0 O0
  simp only [Tok.v]
  go_wp2_with fail
  refine (show Calls Tryz.prog 90 _ _ _ from next_cons R _ r n o z _ H1.out).mono ?_
  rintro e w2 ⟨rfl, o2⟩
  have O2 : Hid (Only (fun b => b = R) w w2) := O1.out.trans (o2.mono (bs' := fun b => b = R) (fun _ _ h => h.elim)) (fun _ _ g => g)
  have H2 : Hid (RdAt w2 R (⟨tk, ⟨#[116]⟩, tn, ta⟩ :: r) n o z) := H1.out.only o2
  clear o2 H1 O1
  simp only [Tok.v]
  go_wp2_with fail
  refine (show Calls Tryz.prog 70 _ _ _ from count_full R ⟨tk, ⟨#[116]⟩, tn, ta⟩ r n o _ (by have := H2.out; rw [show z = 1024 from HZ.out] at this; exact this)).mono ?_
  rintro e w3 ⟨rfl, o3⟩
  have O3 : Hid (Only (fun b => b = R) w w3) := O2.out.trans o3 (fun _ _ g => g)
  clear o3 H2 O2
  unfold gup
  go_wp2
  exact ⟨rfl, rfl, O3.out⟩
set_option maxRecDepth 100000 in
theorem lit_yes_ok (R : Nat) (r : List Tok) (n o z : Int) (tk tn ta : Int) (w : World) (i2 : (tk == 2) = false) (i3 : (tk == 3) = false) (hz : 0 ≤ z) (hz1 : z ≤ 1024) (hz2 : ¬ z = 1024) (h : RdAt w R (⟨tk, ⟨#[116]⟩, tn, ta⟩ :: r) n o z) :
    Calls Tryz.prog 71 #[.pointer (some ⟨R, 0, none⟩)] w fun x w' => x = .returned (.iface 169 (.agg #[.bool true])) ∧ Hid (RdAt w' R r n o (z + 1) ∧ Only (fun b => b = R) w w') := by
  have HC : Hid (∀ w1, RdAt w1 R (⟨tk, ⟨#[116]⟩, tn, ta⟩ :: r) n o z → Calls Tryz.prog 70 #[.pointer (some ⟨R, 0, none⟩)] w1 fun x w' => x = .returned (Tok.v ⟨tk, ⟨#[116]⟩, tn, ta⟩) ∧ Hid (RdAt w' R r n o (z + 1) ∧ Only (fun b => b = R) w1 w')) := fun w1 h1 => count_cons R _ r n o z w1 hz hz1 hz2 h1
  have H0 : Hid (RdAt w R (⟨tk, ⟨#[116]⟩, tn, ta⟩ :: r) n o z) := h
  have O0 : Hid (Only (fun b => b = R) w w) := Only.refl _ _
  clear h hz hz1 hz2
  have f0 := tok_f0
  have f1 := tok_f1
  have f2 := tok_f2
  go_enter Tryz.func71, Tryz.ntmps71
  go_wp2_with fail
  refine (show Calls Tryz.prog 90 _ _ _ from next_cons R _ r n o z _ H0.out).mono ?_
  rintro e w1 ⟨rfl, o1⟩
  have O1 : Hid (Only (fun b => b = R) w w1) := O0.out.trans (o1.mono (bs' := fun b => b = R) (fun _ _ h => h.elim)) (fun _ _ g => g)
  have H1 : Hid (RdAt w1 R (⟨tk, ⟨#[116]⟩, tn, ta⟩ :: r) n o z) := H0.out.only o1
  clear o1 H0 O0
  simp only [Tok.v]
  go_wp2_with fail
  refine (show Calls Tryz.prog 90 _ _ _ from next_cons R _ r n o z _ H1.out).mono ?_
  rintro e w2 ⟨rfl, o2⟩
  have O2 : Hid (Only (fun b => b = R) w w2) := O1.out.trans (o2.mono (bs' := fun b => b = R) (fun _ _ h => h.elim)) (fun _ _ g => g)
  have H2 : Hid (RdAt w2 R (⟨tk, ⟨#[116]⟩, tn, ta⟩ :: r) n o z) := H1.out.only o2
  clear o2 H1 O1
  simp only [Tok.v]
  go_wp2_with fail
  refine (show Calls Tryz.prog 70 _ _ _ from HC.out _ H2.out).mono ?_
  rintro e w3 ⟨rfl, g3⟩
  have G3 : Hid (RdAt w3 R r n o (z + 1) ∧ Only (fun b => b = R) w w3) := ⟨g3.out.1, O2.out.trans g3.out.2 (fun _ _ g => g)⟩
  clear g3 H2 O2 HC
  simp only [Tok.v]
  go_wp2
  go_ret
  exact ⟨rfl, G3⟩
set_option maxRecDepth 100000 in
theorem lit_no_full (R : Nat) (r : List Tok) (n o : Int) (tk tn ta : Int) (w : World) (i2 : (tk == 2) = false) (i3 : (tk == 3) = false) (h : RdAt w R (⟨tk, ⟨#[102]⟩, tn, ta⟩ :: r) n o 1024) :
    Calls Tryz.prog 71 #[.pointer (some ⟨R, 0, none⟩)] w fun x w' => x = gup ta 11 ∧ Only (fun b => b = R) w w' := by
  obtain ⟨z, hz⟩ : ∃ z : Int, z = 1024 := ⟨_, rfl⟩
  rw [← hz] at h
  have HZ : Hid (z = 1024) := hz
  have H0 : Hid (RdAt w R (⟨tk, ⟨#[102]⟩, tn, ta⟩ :: r) n o z) := h
  have O0 : Hid (Only (fun b => b = R) w w) := Only.refl _ _
  clear h hz
  have f0 := tok_f0
  have f1 := tok_f1
  have f2 := tok_f2
  go_enter Tryz.func71, Tryz.ntmps71
  go_wp2_with fail
  refine (show Calls Tryz.prog 90 _ _ _ from next_cons R _ r n o z _ H0.out).mono ?_
  rintro e w1 ⟨rfl, o1⟩
  have O1 : Hid (Only (fun b => b = R) w w1) := O0.out.trans (o1.mono (bs' := fun b => b = R) (fun _ _ h => h.elim)) (fun _ _ g => g)
  have H1 : Hid (RdAt w1 R (⟨tk, ⟨#[102]⟩, tn, ta⟩ :: r) n o z) := H0.out.only o1
  clear o1 H0 O0
  simp only [Tok.v]
  go_wp2_with fail
  refine (show Calls Tryz.prog 90 _ _ _ from next_cons R _ r n o z _ H1.out).mono ?_
  rintro e w2 ⟨rfl, o2⟩
  have O2 : Hid (Only (fun b => b = R) w w2) := O1.out.trans (o2.mono (bs' := fun b => b = R) (fun _ _ h => h.elim)) (fun _ _ g => g)
  have H2 : Hid (RdAt w2 R (⟨tk, ⟨#[102]⟩, tn, ta⟩ :: r) n o z) := H1.out.only o2
  clear o2 H1 O1
  simp only [Tok.v]
  go_wp2_with fail
  refine (show Calls Tryz.prog 70 _ _ _ from count_full R ⟨tk, ⟨#[102]⟩, tn, ta⟩ r n o _ (by have := H2.out; rw [show z = 1024 from HZ.out] at this; exact this)).mono ?_
  rintro e w3 ⟨rfl, o3⟩
  have O3 : Hid (Only (fun b => b = R) w w3) := O2.out.trans o3 (fun _ _ g => g)
  clear o3 H2 O2
  unfold gup
  go_wp2
  exact ⟨rfl, rfl, O3.out⟩
set_option maxRecDepth 100000 in
theorem lit_no_ok (R : Nat) (r : List Tok) (n o z : Int) (tk tn ta : Int) (w : World) (i2 : (tk == 2) = false) (i3 : (tk == 3) = false) (hz : 0 ≤ z) (hz1 : z ≤ 1024) (hz2 : ¬ z = 1024) (h : RdAt w R (⟨tk, ⟨#[102]⟩, tn, ta⟩ :: r) n o z) :
    Calls Tryz.prog 71 #[.pointer (some ⟨R, 0, none⟩)] w fun x w' => x = .returned (.iface 169 (.agg #[.bool false])) ∧ Hid (RdAt w' R r n o (z + 1) ∧ Only (fun b => b = R) w w') := by
  have HC : Hid (∀ w1, RdAt w1 R (⟨tk, ⟨#[102]⟩, tn, ta⟩ :: r) n o z → Calls Tryz.prog 70 #[.pointer (some ⟨R, 0, none⟩)] w1 fun x w' => x = .returned (Tok.v ⟨tk, ⟨#[102]⟩, tn, ta⟩) ∧ Hid (RdAt w' R r n o (z + 1) ∧ Only (fun b => b = R) w1 w')) := fun w1 h1 => count_cons R _ r n o z w1 hz hz1 hz2 h1
  have H0 : Hid (RdAt w R (⟨tk, ⟨#[102]⟩, tn, ta⟩ :: r) n o z) := h
  have O0 : Hid (Only (fun b => b = R) w w) := Only.refl _ _
  clear h hz hz1 hz2
  have f0 := tok_f0
  have f1 := tok_f1
  have f2 := tok_f2
  go_enter Tryz.func71, Tryz.ntmps71
  go_wp2_with fail
  refine (show Calls Tryz.prog 90 _ _ _ from next_cons R _ r n o z _ H0.out).mono ?_
  rintro e w1 ⟨rfl, o1⟩
  have O1 : Hid (Only (fun b => b = R) w w1) := O0.out.trans (o1.mono (bs' := fun b => b = R) (fun _ _ h => h.elim)) (fun _ _ g => g)
  have H1 : Hid (RdAt w1 R (⟨tk, ⟨#[102]⟩, tn, ta⟩ :: r) n o z) := H0.out.only o1
  clear o1 H0 O0
  simp only [Tok.v]
  go_wp2_with fail
  refine (show Calls Tryz.prog 90 _ _ _ from next_cons R _ r n o z _ H1.out).mono ?_
  rintro e w2 ⟨rfl, o2⟩
  have O2 : Hid (Only (fun b => b = R) w w2) := O1.out.trans (o2.mono (bs' := fun b => b = R) (fun _ _ h => h.elim)) (fun _ _ g => g)
  have H2 : Hid (RdAt w2 R (⟨tk, ⟨#[102]⟩, tn, ta⟩ :: r) n o z) := H1.out.only o2
  clear o2 H1 O1
  simp only [Tok.v]
  go_wp2_with fail
  refine (show Calls Tryz.prog 70 _ _ _ from HC.out _ H2.out).mono ?_
  rintro e w3 ⟨rfl, g3⟩
  have G3 : Hid (RdAt w3 R r n o (z + 1) ∧ Only (fun b => b = R) w w3) := ⟨g3.out.1, O2.out.trans g3.out.2 (fun _ _ g => g)⟩
  clear g3 H2 O2 HC
  simp only [Tok.v]
  go_wp2
  go_ret
  exact ⟨rfl, G3⟩
end Go.Proofs.YtapehdolnljnoaaGreatDoor
namespace Go.Proofs.YtapehdolnljnoaaGreatDoor
open Go.RowKit
set_option linter.unusedSimpArgs false
set_option linter.unusedVariables false
set_option maxRecDepth 100000 in
theorem lit_none (R : Nat) (r : List Tok) (n o z : Int) (tk tn ta : Int) (tt : ByteArray) (w : World) (i2 : (tk == 2) = false) (i3 : (tk == 3) = false) (j1 : (tt.toList == [116]) = false) (j2 : (tt.toList == [102]) = false) (j3 : (tt.toList == [91]) = false) (j4 : (tt.toList == [123]) = false) (h : RdAt w R (⟨tk, tt, tn, ta⟩ :: r) n o z) :
    Calls Tryz.prog 71 #[.pointer (some ⟨R, 0, none⟩)] w fun x w' => x = gup ta 9 ∧ Only (fun b => b = R) w w' := by
  have HF : Hid (∀ w1, RdAt w1 R (⟨tk, tt, tn, ta⟩ :: r) n o z → Calls Tryz.prog 100 #[.pointer (some ⟨R, 0, none⟩), .int .i64 9] w1 fun x w' => x = .returned (.agg #[.int .i64 ta, .int .i64 9]) ∧ Only (fun _ => False) w1 w') := fun w1 h1 => fault_any R (⟨tk, tt, tn, ta⟩ :: r) n o z 9 w1 h1
  have H0 : Hid (RdAt w R (⟨tk, tt, tn, ta⟩ :: r) n o z) := h
  have O0 : Hid (Only (fun b => b = R) w w) := Only.refl _ _
  clear h
  have f0 := tok_f0
  have f1 := tok_f1
  go_enter Tryz.func71, Tryz.ntmps71
  go_wp2_with fail
  refine (show Calls Tryz.prog 90 _ _ _ from next_cons R _ r n o z _ H0.out).mono ?_
  rintro e w1 ⟨rfl, o1⟩
  have O1 : Hid (Only (fun b => b = R) w w1) := O0.out.trans (o1.mono (bs' := fun b => b = R) (fun _ _ h => h.elim)) (fun _ _ g => g)
  have H1 : Hid (RdAt w1 R (⟨tk, tt, tn, ta⟩ :: r) n o z) := H0.out.only o1
  clear o1 H0 O0
  simp only [Tok.v]
  go_wp2_with fail
  refine (show Calls Tryz.prog 90 _ _ _ from next_cons R _ r n o z _ H1.out).mono ?_
  rintro e w2 ⟨rfl, o2⟩
  have O2 : Hid (Only (fun b => b = R) w w2) := O1.out.trans (o2.mono (bs' := fun b => b = R) (fun _ _ h => h.elim)) (fun _ _ g => g)
  have H2 : Hid (RdAt w2 R (⟨tk, tt, tn, ta⟩ :: r) n o z) := H1.out.only o2
  clear o2 H1 O1
  simp only [Tok.v]
  go_wp2_with fail
  refine (show Calls Tryz.prog 100 _ _ _ from HF.out _ H2.out).mono ?_
  rintro e w3 ⟨rfl, o3⟩
  have O3 : Hid (Only (fun b => b = R) w w3) := O2.out.trans (o3.mono (bs' := fun b => b = R) (fun _ _ h => h.elim)) (fun _ _ g => g)
  clear o3 H2 O2 HF
  go_wp2
  exact ⟨rfl, rfl, O3.out⟩
theorem RwAt.lower {w : World} {B C : Nat} {T : TypeId} {d : Nat} {i : Bool} {v : Value} {l : List Tre} (h : RwAt w B T d i v l) (hC : C ≤ B) : RwAt w C T d i v l := by
  obtain ⟨us, S, ho, ht, hS⟩ := h
  refine ⟨us, S, ⟨ho.1, ?_⟩, ht, fun b hb => ⟨Nat.le_trans hC (hS b hb).1, (hS b hb).2⟩⟩
  rcases ho.2 with g | ⟨g, cap, cur, h1, h2, h3⟩
  · exact .inl g
  · exact .inr ⟨g, cap, cur, h1, by omega, h3⟩
/-- what a bracket is read as -/
def brP (R d : Nat) (T Y : TypeId) (i : Bool) (n o : Int) (w : World) (r : Except (Int × Int) (List Tre × List Tok × Int)) (x : Ending) (w' : World) : Prop :=
  match r with
  | .error (a, e) => x = gup a e ∧ Only (fun b => b = R) w w'
  | .ok (l, q, z) => ∃ ao cap, x = .returned (.iface Y (.agg #[.slice ao l.length cap])) ∧ Hid (RwAt w' w.heap.size T d i (.slice ao l.length cap) l ∧ RdAt w' R q n o z ∧ Only (fun b => b = R) w w')
set_option maxRecDepth 100000 in
theorem lit_quot_full (R : Nat) (r : List Tok) (n o z : Int) (tk tn ta : Int) (w : World) (i2 : (tk == 2) = false) (i3 : (tk == 3) = false) (ho : 0 ≤ o) (ho1 : o ≤ 32) (hz : 0 ≤ z) (hz1 : z ≤ 1024) (hf : o = 32 ∨ z = 1024) (h : RdAt w R (⟨tk, ⟨#[91]⟩, tn, ta⟩ :: r) n o z) :
    Calls Tryz.prog 71 #[.pointer (some ⟨R, 0, none⟩)] w fun x w' => x = gup ta 11 ∧ Only (fun b => b = R) w w' := by
  have HE : Hid (∀ w1, RdAt w1 R (⟨tk, ⟨#[91]⟩, tn, ta⟩ :: r) n o z → Calls Tryz.prog 91 #[.pointer (some ⟨R, 0, none⟩)] w1 fun x w' => x = gup ta 11 ∧ Only (fun b => b = R) w1 w') := fun w1 h1 => (enter_any R _ n o z w1 (by omega) (by omega) h1).mono fun e w' g => by unfold enP at g; rw [if_pos hf] at g; exact g
  have H0 : Hid (RdAt w R (⟨tk, ⟨#[91]⟩, tn, ta⟩ :: r) n o z) := h
  have O0 : Hid (Only (fun b => b = R) w w) := Only.refl _ _
  clear h hf ho ho1 hz hz1
  have f0 := tok_f0
  have f1 := tok_f1
  go_enter Tryz.func71, Tryz.ntmps71
  go_wp2_with fail
  refine (show Calls Tryz.prog 90 _ _ _ from next_cons R _ r n o z _ H0.out).mono ?_
  rintro e w1 ⟨rfl, o1⟩
  have O1 : Hid (Only (fun b => b = R) w w1) := O0.out.trans (o1.mono (bs' := fun b => b = R) (fun _ _ h => h.elim)) (fun _ _ g => g)
  have H1 : Hid (RdAt w1 R (⟨tk, ⟨#[91]⟩, tn, ta⟩ :: r) n o z) := H0.out.only o1
  clear o1 H0 O0
  simp only [Tok.v]
  go_wp2_with fail
  refine (show Calls Tryz.prog 90 _ _ _ from next_cons R _ r n o z _ H1.out).mono ?_
  rintro e w2 ⟨rfl, o2⟩
  have O2 : Hid (Only (fun b => b = R) w w2) := O1.out.trans (o2.mono (bs' := fun b => b = R) (fun _ _ h => h.elim)) (fun _ _ g => g)
  have H2 : Hid (RdAt w2 R (⟨tk, ⟨#[91]⟩, tn, ta⟩ :: r) n o z) := H1.out.only o2
  clear o2 H1 O1
  simp only [Tok.v]
  go_wp2_with fail
  refine (show Calls Tryz.prog 91 _ _ _ from HE.out _ H2.out).mono ?_
  rintro e w3 ⟨rfl, o3⟩
  have O3 : Hid (Only (fun b => b = R) w w3) := O2.out.trans o3 (fun _ _ g => g)
  clear o3 H2 O2 HE
  unfold gup
  go_wp2
  exact ⟨rfl, rfl, O3.out⟩
set_option maxRecDepth 100000 in
theorem lit_quot_ok (R f : Nat) (r : List Tok) (n o z : Int) (tk tn ta : Int) (w : World) (i2 : (tk == 2) = false) (i3 : (tk == 3) = false) (ho : 0 ≤ o) (ho1 : o ≤ 32) (hz : 0 ≤ z) (hz1 : z ≤ 1024) (hf : ¬ (o = 32 ∨ z = 1024)) (hl : 3 * r.length + 3 ≤ f) (hl2 : r.length ≤ 4096)
    (HU : UpC R n f 3 95 54 true 32) (h : RdAt w R (⟨tk, ⟨#[91]⟩, tn, ta⟩ :: r) n o z) :
    Calls Tryz.prog 71 #[.pointer (some ⟨R, 0, none⟩)] w (brP R f 54 118 true n o w (prs n f 3 r (o + 1) (z + 1))) := by
  have HE : Hid (∀ w1, RdAt w1 R (⟨tk, ⟨#[91]⟩, tn, ta⟩ :: r) n o z → Calls Tryz.prog 91 #[.pointer (some ⟨R, 0, none⟩)] w1 fun x w' => x = .returned (.tuple #[]) ∧ Hid (RdAt w' R r n (o + 1) (z + 1) ∧ Only (fun b => b = R) w1 w')) := fun w1 h1 => (enter_any R _ n o z w1 (by omega) (by omega) h1).mono fun e w' g => by unfold enP at g; rw [if_neg hf] at g; exact g
  have HUU : Hid (∀ w1, RdAt w1 R r n (o + 1) (z + 1) → Calls Tryz.prog 95 #[.pointer (some ⟨R, 0, none⟩), .string ⟨#[93]⟩, .func (.func 32) #[] #[]] w1 (upP R f 54 true n (o + 1) w1 (prs n f 3 r (o + 1) (z + 1)))) := fun w1 h1 => HU r (o + 1) (z + 1) w1 hl hl2 (by omega) (by omega) (by omega) (by omega) h1
  have H0 : Hid (RdAt w R (⟨tk, ⟨#[91]⟩, tn, ta⟩ :: r) n o z) := h
  have O0 : Hid (Only (fun b => b = R) w w) := Only.refl _ _
  clear h hf ho ho1 hz hz1 HU hl hl2
  obtain ⟨X, hX⟩ : ∃ X, X = prs n f 3 r (o + 1) (z + 1) := ⟨_, rfl⟩
  rw [← hX] at HUU ⊢
  clear hX
  have f0 := tok_f0
  have f1 := tok_f1
  go_enter Tryz.func71, Tryz.ntmps71
  go_wp2_with fail
  refine (show Calls Tryz.prog 90 _ _ _ from next_cons R _ r n o z _ H0.out).mono ?_
  rintro e w1 ⟨rfl, o1⟩
  have O1 : Hid (Only (fun b => b = R) w w1) := O0.out.trans (o1.mono (bs' := fun b => b = R) (fun _ _ h => h.elim)) (fun _ _ g => g)
  have H1 : Hid (RdAt w1 R (⟨tk, ⟨#[91]⟩, tn, ta⟩ :: r) n o z) := H0.out.only o1
  clear o1 H0 O0
  simp only [Tok.v]
  go_wp2_with fail
  refine (show Calls Tryz.prog 90 _ _ _ from next_cons R _ r n o z _ H1.out).mono ?_
  rintro e w2 ⟨rfl, o2⟩
  have O2 : Hid (Only (fun b => b = R) w w2) := O1.out.trans (o2.mono (bs' := fun b => b = R) (fun _ _ h => h.elim)) (fun _ _ g => g)
  have H2 : Hid (RdAt w2 R (⟨tk, ⟨#[91]⟩, tn, ta⟩ :: r) n o z) := H1.out.only o2
  clear o2 H1 O1
  simp only [Tok.v]
  go_wp2_with fail
  refine (show Calls Tryz.prog 91 _ _ _ from HE.out _ H2.out).mono ?_
  rintro e w3 ⟨rfl, g3⟩
  have H3 : Hid (RdAt w3 R r n (o + 1) (z + 1)) := g3.out.1
  have O3 : Hid (Only (fun b => b = R) w w3) := O2.out.trans g3.out.2 (fun _ _ g => g)
  clear g3 H2 O2 HE
  go_wp2_with fail
  refine (show Calls Tryz.prog 95 _ _ _ from HUU.out _ H3.out).mono ?_
  intro e w4 g4
  clear H3 HUU
  cases X with
  | error p =>
    obtain ⟨a, er⟩ := p
    obtain ⟨he, o4⟩ := g4
    subst he
    have O4 : Hid (Only (fun b => b = R) w w4) := O3.out.trans o4 (fun _ _ g => g)
    clear o4 O3
    unfold gup
    go_wp2
    exact ⟨rfl, show _ ∧ _ from ⟨rfl, O4.out⟩⟩
  | ok p =>
    obtain ⟨l, q, z'⟩ := p
    obtain ⟨ao, cap, he, g5⟩ := g4
    subst he
    have G5 : Hid (RwAt w4 w3.heap.size 54 f true (.slice ao l.length cap) l ∧ RdAt w4 R q n o z' ∧ Only (fun b => b = R) w w4) := ⟨g5.out.1, by have := g5.out.2.1; rwa [Int.add_sub_cancel] at this, O3.out.trans g5.out.2.2 (fun _ _ g => g)⟩
    have hs3 := O3.out.size
    clear g5 O3
    obtain ⟨L, hL⟩ : ∃ L, L = l.length := ⟨_, rfl⟩
    have HL : Hid (L = l.length) := hL
    rw [← hL] at G5
    rw [← hL]
    clear hL
    go_wp2
    go_ret
    have e1 : L = l.length := HL.out
    refine show ∃ ao' cap', _ ∧ Hid _ from ⟨ao, cap, by rw [e1]; rfl, ?_⟩
    rw [← e1]
    exact ⟨G5.out.1.lower hs3, G5.out.2.1, G5.out.2.2⟩
set_option maxRecDepth 100000 in
theorem lit_list_full (R : Nat) (r : List Tok) (n o z : Int) (tk tn ta : Int) (w : World) (i2 : (tk == 2) = false) (i3 : (tk == 3) = false) (ho : 0 ≤ o) (ho1 : o ≤ 32) (hz : 0 ≤ z) (hz1 : z ≤ 1024) (hf : o = 32 ∨ z = 1024) (h : RdAt w R (⟨tk, ⟨#[123]⟩, tn, ta⟩ :: r) n o z) :
    Calls Tryz.prog 71 #[.pointer (some ⟨R, 0, none⟩)] w fun x w' => x = gup ta 11 ∧ Only (fun b => b = R) w w' := by
  have HE : Hid (∀ w1, RdAt w1 R (⟨tk, ⟨#[123]⟩, tn, ta⟩ :: r) n o z → Calls Tryz.prog 91 #[.pointer (some ⟨R, 0, none⟩)] w1 fun x w' => x = gup ta 11 ∧ Only (fun b => b = R) w1 w') := fun w1 h1 => (enter_any R _ n o z w1 (by omega) (by omega) h1).mono fun e w' g => by unfold enP at g; rw [if_pos hf] at g; exact g
  have H0 : Hid (RdAt w R (⟨tk, ⟨#[123]⟩, tn, ta⟩ :: r) n o z) := h
  have O0 : Hid (Only (fun b => b = R) w w) := Only.refl _ _
  clear h hf ho ho1 hz hz1
  have f0 := tok_f0
  have f1 := tok_f1
  go_enter Tryz.func71, Tryz.ntmps71
  go_wp2_with fail
  refine (show Calls Tryz.prog 90 _ _ _ from next_cons R _ r n o z _ H0.out).mono ?_
  rintro e w1 ⟨rfl, o1⟩
  have O1 : Hid (Only (fun b => b = R) w w1) := O0.out.trans (o1.mono (bs' := fun b => b = R) (fun _ _ h => h.elim)) (fun _ _ g => g)
  have H1 : Hid (RdAt w1 R (⟨tk, ⟨#[123]⟩, tn, ta⟩ :: r) n o z) := H0.out.only o1
  clear o1 H0 O0
  simp only [Tok.v]
  go_wp2_with fail
  refine (show Calls Tryz.prog 90 _ _ _ from next_cons R _ r n o z _ H1.out).mono ?_
  rintro e w2 ⟨rfl, o2⟩
  have O2 : Hid (Only (fun b => b = R) w w2) := O1.out.trans (o2.mono (bs' := fun b => b = R) (fun _ _ h => h.elim)) (fun _ _ g => g)
  have H2 : Hid (RdAt w2 R (⟨tk, ⟨#[123]⟩, tn, ta⟩ :: r) n o z) := H1.out.only o2
  clear o2 H1 O1
  simp only [Tok.v]
  go_wp2_with fail
  refine (show Calls Tryz.prog 91 _ _ _ from HE.out _ H2.out).mono ?_
  rintro e w3 ⟨rfl, o3⟩
  have O3 : Hid (Only (fun b => b = R) w w3) := O2.out.trans o3 (fun _ _ g => g)
  clear o3 H2 O2 HE
  unfold gup
  go_wp2
  exact ⟨rfl, rfl, O3.out⟩
set_option maxRecDepth 100000 in
theorem lit_list_ok (R f : Nat) (r : List Tok) (n o z : Int) (tk tn ta : Int) (w : World) (i2 : (tk == 2) = false) (i3 : (tk == 3) = false) (ho : 0 ≤ o) (ho1 : o ≤ 32) (hz : 0 ≤ z) (hz1 : z ≤ 1024) (hf : ¬ (o = 32 ∨ z = 1024)) (hl : 3 * r.length + 3 ≤ f) (hl2 : r.length ≤ 4096)
    (HU : UpC R n f 2 101 107 false 71) (h : RdAt w R (⟨tk, ⟨#[123]⟩, tn, ta⟩ :: r) n o z) :
    Calls Tryz.prog 71 #[.pointer (some ⟨R, 0, none⟩)] w (brP R f 107 113 false n o w (prs n f 2 r (o + 1) (z + 1))) := by
  have HE : Hid (∀ w1, RdAt w1 R (⟨tk, ⟨#[123]⟩, tn, ta⟩ :: r) n o z → Calls Tryz.prog 91 #[.pointer (some ⟨R, 0, none⟩)] w1 fun x w' => x = .returned (.tuple #[]) ∧ Hid (RdAt w' R r n (o + 1) (z + 1) ∧ Only (fun b => b = R) w1 w')) := fun w1 h1 => (enter_any R _ n o z w1 (by omega) (by omega) h1).mono fun e w' g => by unfold enP at g; rw [if_neg hf] at g; exact g
  have HUU : Hid (∀ w1, RdAt w1 R r n (o + 1) (z + 1) → Calls Tryz.prog 101 #[.pointer (some ⟨R, 0, none⟩), .string ⟨#[125]⟩, .func (.func 71) #[] #[]] w1 (upP R f 107 false n (o + 1) w1 (prs n f 2 r (o + 1) (z + 1)))) := fun w1 h1 => HU r (o + 1) (z + 1) w1 hl hl2 (by omega) (by omega) (by omega) (by omega) h1
  have H0 : Hid (RdAt w R (⟨tk, ⟨#[123]⟩, tn, ta⟩ :: r) n o z) := h
  have O0 : Hid (Only (fun b => b = R) w w) := Only.refl _ _
  clear h hf ho ho1 hz hz1 HU hl hl2
  obtain ⟨X, hX⟩ : ∃ X, X = prs n f 2 r (o + 1) (z + 1) := ⟨_, rfl⟩
  rw [← hX] at HUU ⊢
  clear hX
  have f0 := tok_f0
  have f1 := tok_f1
  go_enter Tryz.func71, Tryz.ntmps71
  go_wp2_with fail
  refine (show Calls Tryz.prog 90 _ _ _ from next_cons R _ r n o z _ H0.out).mono ?_
  rintro e w1 ⟨rfl, o1⟩
  have O1 : Hid (Only (fun b => b = R) w w1) := O0.out.trans (o1.mono (bs' := fun b => b = R) (fun _ _ h => h.elim)) (fun _ _ g => g)
  have H1 : Hid (RdAt w1 R (⟨tk, ⟨#[123]⟩, tn, ta⟩ :: r) n o z) := H0.out.only o1
  clear o1 H0 O0
  simp only [Tok.v]
  go_wp2_with fail
  refine (show Calls Tryz.prog 90 _ _ _ from next_cons R _ r n o z _ H1.out).mono ?_
  rintro e w2 ⟨rfl, o2⟩
  have O2 : Hid (Only (fun b => b = R) w w2) := O1.out.trans (o2.mono (bs' := fun b => b = R) (fun _ _ h => h.elim)) (fun _ _ g => g)
  have H2 : Hid (RdAt w2 R (⟨tk, ⟨#[123]⟩, tn, ta⟩ :: r) n o z) := H1.out.only o2
  clear o2 H1 O1
  simp only [Tok.v]
  go_wp2_with fail
  refine (show Calls Tryz.prog 91 _ _ _ from HE.out _ H2.out).mono ?_
  rintro e w3 ⟨rfl, g3⟩
  have H3 : Hid (RdAt w3 R r n (o + 1) (z + 1)) := g3.out.1
  have O3 : Hid (Only (fun b => b = R) w w3) := O2.out.trans g3.out.2 (fun _ _ g => g)
  clear g3 H2 O2 HE
  go_wp2_with fail
  refine (show Calls Tryz.prog 101 _ _ _ from HUU.out _ H3.out).mono ?_
  intro e w4 g4
  clear H3 HUU
  cases X with
  | error p =>
    obtain ⟨a, er⟩ := p
    obtain ⟨he, o4⟩ := g4
    subst he
    have O4 : Hid (Only (fun b => b = R) w w4) := O3.out.trans o4 (fun _ _ g => g)
    clear o4 O3
    unfold gup
    go_wp2
    exact ⟨rfl, show _ ∧ _ from ⟨rfl, O4.out⟩⟩
  | ok p =>
    obtain ⟨l, q, z'⟩ := p
    obtain ⟨ao, cap, he, g5⟩ := g4
    subst he
    have G5 : Hid (RwAt w4 w3.heap.size 107 f false (.slice ao l.length cap) l ∧ RdAt w4 R q n o z' ∧ Only (fun b => b = R) w w4) := ⟨g5.out.1, by have := g5.out.2.1; rwa [Int.add_sub_cancel] at this, O3.out.trans g5.out.2.2 (fun _ _ g => g)⟩
    have hs3 := O3.out.size
    clear g5 O3
    obtain ⟨L, hL⟩ : ∃ L, L = l.length := ⟨_, rfl⟩
    have HL : Hid (L = l.length) := hL
    rw [← hL] at G5
    rw [← hL]
    clear hL
    go_wp2
    go_ret
    have e1 : L = l.length := HL.out
    refine show ∃ ao' cap', _ ∧ Hid _ from ⟨ao, cap, by rw [e1]; rfl, ?_⟩
    rw [← e1]
    exact ⟨G5.out.1.lower hs3, G5.out.2.1, G5.out.2.2⟩
end Go.Proofs.YtapehdolnljnoaaGreatDoor
