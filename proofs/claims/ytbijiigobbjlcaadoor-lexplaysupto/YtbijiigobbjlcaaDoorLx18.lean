/- readWord. -/
import Derived.Test.YtbijiigobbjlcaaDoorLx17
namespace Go.Proofs.YtbijiigobbjlcaaDoor
open Go.RowKit
set_option linter.unusedSimpArgs false
set_option linter.unusedVariables false
theorem below_only {w w' : World} (h : Below w.heap.size w w') : Only (fun _ => False) w w' := ⟨h.os, h.tape, h.output, h.size, fun k hk _ => h.block k hk⟩
theorem blk_cells {w : World} {B : Nat} {c : Array Value} {t : TypeId} (h : w.heap[B]? = some (.cells c t)) (j : Nat) : w.cell? ⟨B, j, none⟩ = c[j]? := by
  simp [World.cell?, h]
theorem blk_froz {w : World} {B : Nat} {c : Array Value} {t : TypeId} (h : w.heap[B]? = some (.cells c t)) (j : Nat) : w.frozen? ⟨B, j, none⟩ = false := by
  simp [World.frozen?, h]
/-- A token: kind, text, number, place. -/
structure Tok where
  k : Int
  t : ByteArray
  n : Int
  a : Int
def Tok.v (x : Tok) : Value := .agg #[.int .i64 x.k, .string x.t, .int .i64 x.n, .int .i64 x.a]
/-- What reading a token answers: the token, the place behind it or of its fault, the error. -/
def rdV (x : Tok × Nat × Int) : Value := .tuple #[x.1.v, .int .i64 (x.2.1 : Int), .int .i64 x.2.2]
def wrdR (s : ByteArray) (a : Nat) : Tok × Nat × Int :=
  let z := fnd (fun c => blk c) s a
  let b := s.extract a z
  if (numR b).2 = 0 then (⟨2, ⟨#[]⟩, (numR b).1, a⟩, z, 0)
  else if (numR b).2 = 11 then (⟨0, ⟨#[]⟩, 0, 0⟩, a, 11)
  else if nmdB b = false then (⟨0, ⟨#[]⟩, 0, 0⟩, a, 10)
  else (⟨1, b, 0, a⟩, z, 0)
theorem results_tok {fn : Func} {t u v : Tmp} (h : fn.results = #[.cell u 36, .tmp t, .tmp v]) (tmps : Array Value) (w : World) (B : Nat) {x y z r : Value} (h0 : w.cell? ⟨B, 0, none⟩ = some x) (h1 : w.cell? ⟨B, 1, none⟩ = some y) (h2 : w.cell? ⟨B, 2, none⟩ = some z) (h3 : w.cell? ⟨B, 3, none⟩ = some r) (ha : tmps.getD u undef = .pointer (some ⟨B, 0, none⟩)) :
    (results fn tmps).run Tryd.prog w = .ok (.tuple #[.agg #[x, y, z, r], tmps.getD t undef, tmps.getD v undef]) w := by
  have ha' : tmps[u]?.getD undef = .pointer (some ⟨B, 0, none⟩) := by simpa using ha
  simp [results, h, ha', asAddr, go_sem, loadVar, isAgg, Tryd.underlying36, h0, h1, h2, h3]
/-- Four cells set. -/
theorem set4 {w : World} {B : Nat} {c : Array Value} {t : TypeId} (h : w.heap[B]? = some (.cells c t)) (hc : c.size = 4) (x y z r : Value) :
    ((((w.setCell ⟨B, 0, none⟩ x).setCell ⟨B, 1, none⟩ y).setCell ⟨B, 2, none⟩ z).setCell ⟨B, 3, none⟩ r).cell? ⟨B, 0, none⟩ = some x ∧ ((((w.setCell ⟨B, 0, none⟩ x).setCell ⟨B, 1, none⟩ y).setCell ⟨B, 2, none⟩ z).setCell ⟨B, 3, none⟩ r).cell? ⟨B, 1, none⟩ = some y ∧ ((((w.setCell ⟨B, 0, none⟩ x).setCell ⟨B, 1, none⟩ y).setCell ⟨B, 2, none⟩ z).setCell ⟨B, 3, none⟩ r).cell? ⟨B, 2, none⟩ = some z ∧ ((((w.setCell ⟨B, 0, none⟩ x).setCell ⟨B, 1, none⟩ y).setCell ⟨B, 2, none⟩ z).setCell ⟨B, 3, none⟩ r).cell? ⟨B, 3, none⟩ = some r := by
  have c0 : (w.cell? ⟨B, 0, none⟩).isSome = true := by rw [blk_cells h]; simp [hc]
  have c1 : (w.cell? ⟨B, 1, none⟩).isSome = true := by rw [blk_cells h]; simp [hc]
  have c2 : (w.cell? ⟨B, 2, none⟩).isSome = true := by rw [blk_cells h]; simp [hc]
  have c3 : (w.cell? ⟨B, 3, none⟩).isSome = true := by rw [blk_cells h]; simp [hc]
  have ne : ∀ (W : World) (i j : Nat) (v : Value), i ≠ j → (W.setCell ⟨B, i, none⟩ v).cell? ⟨B, j, none⟩ = W.cell? ⟨B, j, none⟩ := fun W i j v g => by apply World.cell?_setCell_other; intro e; exact g (by injection e)
  refine ⟨?_, ?_, ?_, ?_⟩
  · rw [ne _ 3 0 _ (by omega), ne _ 2 0 _ (by omega), ne _ 1 0 _ (by omega)]
    exact World.cell?_setCell_same' _ _ _ c0
  · rw [ne _ 3 1 _ (by omega), ne _ 2 1 _ (by omega)]
    exact World.cell?_setCell_same' _ _ _ (by rw [ne _ 0 1 _ (by omega)]; exact c1)
  · rw [ne _ 3 2 _ (by omega)]
    exact World.cell?_setCell_same' _ _ _ (by rw [ne _ 1 2 _ (by omega), ne _ 0 2 _ (by omega)]; exact c2)
  · exact World.cell?_setCell_same' _ _ _ (by rw [ne _ 2 3 _ (by omega), ne _ 1 3 _ (by omega), ne _ 0 3 _ (by omega)]; exact c3)
set_option maxRecDepth 100000 in
set_option maxHeartbeats 1000000 in
theorem readWord_any (s : ByteArray) (a : Nat) (ha : a ≤ s.size) (hs : s.size ≤ 1000000) (w : World) (h : Nog w) :
    Calls Tryd.prog 41 #[.string s, .int .i64 (a : Int)] w fun e w' => e = .returned (rdV (wrdR s a)) ∧ Only (fun _ => False) w w' := by
  have HW : Hid (∀ w1, Calls Tryd.prog 50 #[.string s, .int .i64 (a : Int)] w1 fun e w' => e = .returned (.int .i64 (fnd (fun c => blk c) s a : Nat)) ∧ Only (fun _ => False) w1 w') := fun w1 => wordEnd_any s a ha hs w1
  have hz := fnd_le (fun c => blk c) s ha
  unfold wrdR
  obtain ⟨z, hzz⟩ : ∃ z, z = fnd (fun c => blk c) s a := ⟨_, rfl⟩
  rw [← hzz] at HW hz ⊢
  clear hzz
  obtain ⟨b, hb⟩ : ∃ b, b = s.extract a z := ⟨_, rfl⟩
  have hsl : ∀ W : World, (Instr.slice 9 (.string s) (some (.int .i64 (a : Int))) (some (.int .i64 (z : Int))) none).run Tryd.prog W = .ok (.string b) W := fun W => by
    rw [run_slice_string W 9 s _ _ _ _ Tryd.underlying9 (by omega) (by omega) (by omega), hb]
    rfl
  have hbz : b.size ≤ 1000000 := by rw [hb, ByteArray.size_extract]; omega
  simp only [← hb]
  clear hb
  have HC : Hid (∀ w1, Calls Tryd.prog 53 #[.string b] w1 fun e w' => e = .returned (.string b) ∧ Only (fun _ => False) w1 w') := fun w1 => (clone_any b w1 (by omega)).mono fun e w' g => ⟨g.1, below_only g.2⟩
  have HM : Hid (∀ w1, Only (fun _ => False) w w1 → Calls Tryd.prog 12 #[.string b] w1 fun e w' => e = .returned (.tuple #[.int .i64 (numR b).1, .int .i64 (numR b).2]) ∧ Only (fun _ => False) w1 w') := fun w1 o => number_any b w1 (h.frame o)
  have HN : Hid (∀ w1, Calls Tryd.prog 33 #[.string b] w1 fun e w' => e = .returned (.bool (nmdB b)) ∧ Only (fun _ => False) w1 w') := fun w1 => named_any b w1
  obtain ⟨n, hn⟩ : ∃ x, x = (numR b).1 := ⟨_, rfl⟩
  obtain ⟨k, hk⟩ : ∃ x, x = (numR b).2 := ⟨_, rfl⟩
  obtain ⟨y, hy⟩ : ∃ x, x = nmdB b := ⟨_, rfl⟩
  rw [← hn, ← hk] at HM
  rw [← hy] at HN
  rw [← hn, ← hk, ← hy]
  clear hn hk hy h
  have O0 : Hid (Only (fun _ => False) w w) := Only.refl _ _
  go_enter Tryd.func41, Tryd.ntmps41
  go_wp2_with fail
  refine (show Calls Tryd.prog 50 _ _ _ from HW.out _).mono ?_
  rintro e w1 ⟨rfl, o1⟩
  obtain ⟨B, hB⟩ : ∃ B, B = w.heap.size := ⟨_, rfl⟩
  have O1 : Hid (Only (fun _ => False) w w1) := (O0.out.alloc _).trans o1 (fun _ _ g => g)
  have R1 : Hid (w1.heap[B]? = some (.cells #[.int .i64 0, .string ⟨#[]⟩, .int .i64 0, .int .i64 0] 36)) := by
    have := o1.block w.heap.size (by show w.heap.size < (w.heap.push _).size; rw [Array.size_push]; omega) (fun g => g)
    rw [hB]
    exact this.trans (Array.getElem?_push_size ..)
  have HB : Hid (B = w.heap.size) := hB
  rw [← hB]
  clear HW O0 o1 hB
  go_wp2_with fail
  refine (show Calls Tryd.prog 53 _ _ _ from HC.out _).mono ?_
  rintro e w2 ⟨rfl, o2⟩
  have O2 : Hid (Only (fun _ => False) w w2) := O1.out.trans o2 (fun _ _ g => g)
  have lt1 : B < w1.heap.size := (Array.getElem?_eq_some_iff.1 R1.out).1
  have R2 : Hid (w2.heap[B]? = some (.cells #[.int .i64 0, .string ⟨#[]⟩, .int .i64 0, .int .i64 0] 36)) := (o2.block B lt1 (fun g => g)).trans R1.out
  clear HC O1 R1 o2
  go_wp2_with fail
  refine (show Calls Tryd.prog 12 _ _ _ from HM.out _ O2.out).mono ?_
  rintro e w3 ⟨rfl, o3⟩
  have O3 : Hid (Only (fun _ => False) w w3) := O2.out.trans o3 (fun _ _ g => g)
  have lt2 : B < w2.heap.size := (Array.getElem?_eq_some_iff.1 R2.out).1
  have R3 := (o3.block B lt2 (fun g => g)).trans R2.out
  have c0 := blk_cells R3 0
  have c1 := blk_cells R3 1
  have c2 := blk_cells R3 2
  have c3 := blk_cells R3 3
  have z0 := blk_froz R3 0
  have z1 := blk_froz R3 1
  have z2 := blk_froz R3 2
  have z3 := blk_froz R3 3
  simp only [List.getElem?_toArray, List.getElem?_cons_zero, List.getElem?_cons_succ] at c0 c1 c2 c3
  clear HM O2 R2 o3 lt1 lt2
  by_cases hk : k = 0
  · subst hk
    go_wp2
    obtain ⟨q0, q1, q2, q3⟩ := set4 R3 rfl (.int .i64 2) (.string ⟨#[]⟩) (.int .i64 n) (.int .i64 (a : Int))
    refine bodyPost_ret (results_tok rfl _ _ B q0 q1 q2 q3 rfl) rfl ?_
    exact ⟨rfl, (((O3.out.setCell _ _ (fun g => by have : B = w.heap.size := HB.out; simp only at g; omega)).setCell _ _ (fun g => by have : B = w.heap.size := HB.out; simp only at g; omega)).setCell _ _ (fun g => by have : B = w.heap.size := HB.out; simp only at g; omega)).setCell _ _ (fun g => by have : B = w.heap.size := HB.out; simp only at g; omega)⟩
  · by_cases hl : k = 11
    · subst hl
      go_wp2
      obtain ⟨q0, q1, q2, q3⟩ := set4 R3 rfl (.int .i64 0) (.string ⟨#[]⟩) (.int .i64 0) (.int .i64 0)
      refine bodyPost_ret (results_tok rfl _ _ B q0 q1 q2 q3 rfl) rfl ?_
      exact ⟨rfl, (((O3.out.setCell _ _ (fun g => by have : B = w.heap.size := HB.out; simp only at g; omega)).setCell _ _ (fun g => by have : B = w.heap.size := HB.out; simp only at g; omega)).setCell _ _ (fun g => by have : B = w.heap.size := HB.out; simp only at g; omega)).setCell _ _ (fun g => by have : B = w.heap.size := HB.out; simp only at g; omega)⟩
    · clear c0 c1 c2 c3 z0 z1 z2 z3
      go_wp2_with fail
      refine (show Calls Tryd.prog 33 _ _ _ from HN.out _).mono ?_
      rintro e w4 ⟨rfl, o4⟩
      have O4 : Hid (Only (fun _ => False) w w4) := O3.out.trans o4 (fun _ _ g => g)
      have lt3 : B < w3.heap.size := (Array.getElem?_eq_some_iff.1 R3).1
      have R4 := (o4.block B lt3 (fun g => g)).trans R3
      have c0 := blk_cells R4 0
      have c1 := blk_cells R4 1
      have c2 := blk_cells R4 2
      have c3 := blk_cells R4 3
      have z0 := blk_froz R4 0
      have z1 := blk_froz R4 1
      have z2 := blk_froz R4 2
      have z3 := blk_froz R4 3
      simp only [List.getElem?_toArray, List.getElem?_cons_zero, List.getElem?_cons_succ] at c0 c1 c2 c3
      clear HN O3 R3 o4 lt3
      cases y with
      | false =>
        go_wp2
        obtain ⟨q0, q1, q2, q3⟩ := set4 R4 rfl (.int .i64 0) (.string ⟨#[]⟩) (.int .i64 0) (.int .i64 0)
        refine bodyPost_ret (results_tok rfl _ _ B q0 q1 q2 q3 rfl) rfl ?_
        exact ⟨rfl, (((O4.out.setCell _ _ (fun g => by have : B = w.heap.size := HB.out; simp only at g; omega)).setCell _ _ (fun g => by have : B = w.heap.size := HB.out; simp only at g; omega)).setCell _ _ (fun g => by have : B = w.heap.size := HB.out; simp only at g; omega)).setCell _ _ (fun g => by have : B = w.heap.size := HB.out; simp only at g; omega)⟩
      | true =>
        go_wp2
        obtain ⟨q0, q1, q2, q3⟩ := set4 R4 rfl (.int .i64 1) (.string b) (.int .i64 0) (.int .i64 (a : Int))
        refine bodyPost_ret (results_tok rfl _ _ B q0 q1 q2 q3 rfl) rfl ?_
        exact ⟨rfl, (((O4.out.setCell _ _ (fun g => by have : B = w.heap.size := HB.out; simp only at g; omega)).setCell _ _ (fun g => by have : B = w.heap.size := HB.out; simp only at g; omega)).setCell _ _ (fun g => by have : B = w.heap.size := HB.out; simp only at g; omega)).setCell _ _ (fun g => by have : B = w.heap.size := HB.out; simp only at g; omega)⟩
end Go.Proofs.YtbijiigobbjlcaaDoor
