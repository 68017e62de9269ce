/- strings.Clone. readWord. What the writers of a strings.Builder leave: copyCheck, AppendRune, WriteRune, WriteString. readString: a string's token, character by character. read, and the tokens of a text. -/
import Derived.Test.YtfecmpebnianpaaGreatDoorGab
import Derived.Test.YtfecmpebnianpaaGreatDoorGac
import Derived.Lib.MapLaws
namespace Go.Proofs.YtfecmpebnianpaaGreatDoor
open Go.RowKit
set_option linter.unusedSimpArgs false
set_option linter.unusedVariables false
set_option maxRecDepth 100000 in
theorem clone_any (s : ByteArray) (w : World) (hs : s.size ≤ 281474976710656) : Calls Tryz.prog 44 #[.string s] w fun e w' => e = .returned (.string s) ∧ Below w.heap.size w w' := by
  have H : Hid (Calls Tryz.prog 62 #[.string s] w fun e w' => e = .returned (.string s) ∧ Below w.heap.size w w') := Tryz.stringslite_Clone s w hs
  go_enter Tryz.func44, Tryz.ntmps44
  go_wp2_with fail
  refine (show Calls Tryz.prog 62 _ _ _ from H.out).mono ?_
  rintro e w1 ⟨rfl, b⟩
  have HB : Hid (Below w.heap.size w w1) := b
  clear H b
  go_wp2
  go_ret
  exact ⟨rfl, HB.out⟩
end Go.Proofs.YtfecmpebnianpaaGreatDoor
namespace Go.Proofs.YtfecmpebnianpaaGreatDoor
open Go.RowKit
set_option linter.unusedSimpArgs false
set_option linter.unusedVariables false
theorem below_only {w w' : World} (h : Below w.heap.size w w') : Only (fun _ => False) w w' := ⟨h.os, h.tape, h.output, h.size, fun k hk _ => h.block k hk⟩
theorem blk_cells {w : World} {B : Nat} {c : Array Value} {t : TypeId} (h : w.heap[B]? = some (.cells c t)) (j : Nat) : w.cell? ⟨B, j, none⟩ = c[j]? := by
  simp [World.cell?, h]
theorem blk_froz {w : World} {B : Nat} {c : Array Value} {t : TypeId} (h : w.heap[B]? = some (.cells c t)) (j : Nat) : w.frozen? ⟨B, j, none⟩ = false := by
  simp [World.frozen?, h]
/-- A token: kind, text, number, place. -/
structure Tok where
  k : Int
  t : ByteArray
  n : Int
  a : Int
def Tok.v (x : Tok) : Value := .agg #[.int .i64 x.k, .string x.t, .int .i64 x.n, .int .i64 x.a]
/-- What reading a token answers: the token, the place behind it or of its fault, the error. -/
def rdV (x : Tok × Nat × Int) : Value := .tuple #[x.1.v, .int .i64 (x.2.1 : Int), .int .i64 x.2.2]
def wrdR (s : ByteArray) (a : Nat) : Tok × Nat × Int :=
  let z := fnd (fun c => blk c) s a
  let b := s.extract a z
  if (numR b).2 = 0 then (⟨2, ⟨#[]⟩, (numR b).1, a⟩, z, 0)
  else if (numR b).2 = 11 then (⟨0, ⟨#[]⟩, 0, 0⟩, a, 11)
  else if nmdB b = false then (⟨0, ⟨#[]⟩, 0, 0⟩, a, 10)
  else (⟨1, b, 0, a⟩, z, 0)
theorem results_tok {fn : Func} {t u v : Tmp} (h : fn.results = #[.cell u 152, .tmp t, .tmp v]) (tmps : Array Value) (w : World) (B : Nat) {x y z r : Value} (h0 : w.cell? ⟨B, 0, none⟩ = some x) (h1 : w.cell? ⟨B, 1, none⟩ = some y) (h2 : w.cell? ⟨B, 2, none⟩ = some z) (h3 : w.cell? ⟨B, 3, none⟩ = some r) (ha : tmps.getD u undef = .pointer (some ⟨B, 0, none⟩)) :
    (results fn tmps).run Tryz.prog w = .ok (.tuple #[.agg #[x, y, z, r], tmps.getD t undef, tmps.getD v undef]) w := by
  have ha' : tmps[u]?.getD undef = .pointer (some ⟨B, 0, none⟩) := by simpa using ha
  simp [results, h, ha', asAddr, go_sem, loadVar, isAgg, Tryz.underlying152, h0, h1, h2, h3]
/-- Four cells set. -/
theorem set4 {w : World} {B : Nat} {c : Array Value} {t : TypeId} (h : w.heap[B]? = some (.cells c t)) (hc : c.size = 4) (x y z r : Value) :
    ((((w.setCell ⟨B, 0, none⟩ x).setCell ⟨B, 1, none⟩ y).setCell ⟨B, 2, none⟩ z).setCell ⟨B, 3, none⟩ r).cell? ⟨B, 0, none⟩ = some x ∧ ((((w.setCell ⟨B, 0, none⟩ x).setCell ⟨B, 1, none⟩ y).setCell ⟨B, 2, none⟩ z).setCell ⟨B, 3, none⟩ r).cell? ⟨B, 1, none⟩ = some y ∧ ((((w.setCell ⟨B, 0, none⟩ x).setCell ⟨B, 1, none⟩ y).setCell ⟨B, 2, none⟩ z).setCell ⟨B, 3, none⟩ r).cell? ⟨B, 2, none⟩ = some z ∧ ((((w.setCell ⟨B, 0, none⟩ x).setCell ⟨B, 1, none⟩ y).setCell ⟨B, 2, none⟩ z).setCell ⟨B, 3, none⟩ r).cell? ⟨B, 3, none⟩ = some r := by
  have c0 : (w.cell? ⟨B, 0, none⟩).isSome = true := by rw [blk_cells h]; simp [hc]
  have c1 : (w.cell? ⟨B, 1, none⟩).isSome = true := by rw [blk_cells h]; simp [hc]
  have c2 : (w.cell? ⟨B, 2, none⟩).isSome = true := by rw [blk_cells h]; simp [hc]
  have c3 : (w.cell? ⟨B, 3, none⟩).isSome = true := by rw [blk_cells h]; simp [hc]
  have ne : ∀ (W : World) (i j : Nat) (v : Value), i ≠ j → (W.setCell ⟨B, i, none⟩ v).cell? ⟨B, j, none⟩ = W.cell? ⟨B, j, none⟩ := fun W i j v g => by apply World.cell?_setCell_other; intro e; exact g (by injection e)
  refine ⟨?_, ?_, ?_, ?_⟩
  · rw [ne _ 3 0 _ (by omega), ne _ 2 0 _ (by omega), ne _ 1 0 _ (by omega)]
    exact World.cell?_setCell_same' _ _ _ c0
  · rw [ne _ 3 1 _ (by omega), ne _ 2 1 _ (by omega)]
    exact World.cell?_setCell_same' _ _ _ (by rw [ne _ 0 1 _ (by omega)]; exact c1)
  · rw [ne _ 3 2 _ (by omega)]
    exact World.cell?_setCell_same' _ _ _ (by rw [ne _ 1 2 _ (by omega), ne _ 0 2 _ (by omega)]; exact c2)
  · exact World.cell?_setCell_same' _ _ _ (by rw [ne _ 2 3 _ (by omega), ne _ 1 3 _ (by omega), ne _ 0 3 _ (by omega)]; exact c3)
set_option maxRecDepth 100000 in
set_option maxHeartbeats 1000000 in
theorem readWord_any (s : ByteArray) (a : Nat) (ha : a ≤ s.size) (hs : s.size ≤ 1000000) (w : World) (h : Nog w) :
    Calls Tryz.prog 148 #[.string s, .int .i64 (a : Int)] w fun e w' => e = .returned (rdV (wrdR s a)) ∧ Only (fun _ => False) w w' := by
  have HW : Hid (∀ w1, Calls Tryz.prog 157 #[.string s, .int .i64 (a : Int)] w1 fun e w' => e = .returned (.int .i64 (fnd (fun c => blk c) s a : Nat)) ∧ Only (fun _ => False) w1 w') := fun w1 => wordEnd_any s a ha hs w1
  have hz := fnd_le (fun c => blk c) s ha
  unfold wrdR
  obtain ⟨z, hzz⟩ : ∃ z, z = fnd (fun c => blk c) s a := ⟨_, rfl⟩
  rw [← hzz] at HW hz ⊢
  clear hzz
  obtain ⟨b, hb⟩ : ∃ b, b = s.extract a z := ⟨_, rfl⟩
  have hsl : ∀ W : World, (Instr.slice 9 (.string s) (some (.int .i64 (a : Int))) (some (.int .i64 (z : Int))) none).run Tryz.prog W = .ok (.string b) W := fun W => by
    rw [run_slice_string W 9 s _ _ _ _ Tryz.underlying9 (by omega) (by omega) (by omega), hb]
    rfl
  have hbz : b.size ≤ 1000000 := by rw [hb, ByteArray.size_extract]; omega
  simp only [← hb]
  clear hb
  have HC : Hid (∀ w1, Calls Tryz.prog 44 #[.string b] w1 fun e w' => e = .returned (.string b) ∧ Only (fun _ => False) w1 w') := fun w1 => (clone_any b w1 (by omega)).mono fun e w' g => ⟨g.1, below_only g.2⟩
  have HM : Hid (∀ w1, Only (fun _ => False) w w1 → Calls Tryz.prog 63 #[.string b] w1 fun e w' => e = .returned (.tuple #[.int .i64 (numR b).1, .int .i64 (numR b).2]) ∧ Only (fun _ => False) w1 w') := fun w1 o => number_any b w1 (h.frame o)
  have HN : Hid (∀ w1, Calls Tryz.prog 64 #[.string b] w1 fun e w' => e = .returned (.bool (nmdB b)) ∧ Only (fun _ => False) w1 w') := fun w1 => named_any b w1
  obtain ⟨n, hn⟩ : ∃ x, x = (numR b).1 := ⟨_, rfl⟩
  obtain ⟨k, hk⟩ : ∃ x, x = (numR b).2 := ⟨_, rfl⟩
  obtain ⟨y, hy⟩ : ∃ x, x = nmdB b := ⟨_, rfl⟩
  rw [← hn, ← hk] at HM
  rw [← hy] at HN
  rw [← hn, ← hk, ← hy]
  clear hn hk hy h
  have O0 : Hid (Only (fun _ => False) w w) := Only.refl _ _
  go_enter Tryz.func148, Tryz.ntmps148
  go_wp2_with fail
  refine (show Calls Tryz.prog 157 _ _ _ from HW.out _).mono ?_
  rintro e w1 ⟨rfl, o1⟩
  obtain ⟨B, hB⟩ : ∃ B, B = w.heap.size := ⟨_, rfl⟩
  have O1 : Hid (Only (fun _ => False) w w1) := (O0.out.alloc _).trans o1 (fun _ _ g => g)
  have R1 : Hid (w1.heap[B]? = some (.cells #[.int .i64 0, .string ⟨#[]⟩, .int .i64 0, .int .i64 0] 152)) := by
    have := o1.block w.heap.size (by show w.heap.size < (w.heap.push _).size; rw [Array.size_push]; omega) (fun g => g)
    rw [hB]
    exact this.trans (Array.getElem?_push_size ..)
  have HB : Hid (B = w.heap.size) := hB
  rw [← hB]
  clear HW O0 o1 hB
  go_wp2_with fail
  refine (show Calls Tryz.prog 44 _ _ _ from HC.out _).mono ?_
  rintro e w2 ⟨rfl, o2⟩
  have O2 : Hid (Only (fun _ => False) w w2) := O1.out.trans o2 (fun _ _ g => g)
  have lt1 : B < w1.heap.size := (Array.getElem?_eq_some_iff.1 R1.out).1
  have R2 : Hid (w2.heap[B]? = some (.cells #[.int .i64 0, .string ⟨#[]⟩, .int .i64 0, .int .i64 0] 152)) := (o2.block B lt1 (fun g => g)).trans R1.out
  clear HC O1 R1 o2
  go_wp2_with fail
  refine (show Calls Tryz.prog 63 _ _ _ from HM.out _ O2.out).mono ?_
  rintro e w3 ⟨rfl, o3⟩
  have O3 : Hid (Only (fun _ => False) w w3) := O2.out.trans o3 (fun _ _ g => g)
  have lt2 : B < w2.heap.size := (Array.getElem?_eq_some_iff.1 R2.out).1
  have R3 := (o3.block B lt2 (fun g => g)).trans R2.out
  have c0 := blk_cells R3 0
  have c1 := blk_cells R3 1
  have c2 := blk_cells R3 2
  have c3 := blk_cells R3 3
  have z0 := blk_froz R3 0
  have z1 := blk_froz R3 1
  have z2 := blk_froz R3 2
  have z3 := blk_froz R3 3
  simp only [List.getElem?_toArray, List.getElem?_cons_zero, List.getElem?_cons_succ] at c0 c1 c2 c3
  clear HM O2 R2 o3 lt1 lt2
  by_cases hk : k = 0
  · subst hk
    go_wp2
    obtain ⟨q0, q1, q2, q3⟩ := set4 R3 rfl (.int .i64 2) (.string ⟨#[]⟩) (.int .i64 n) (.int .i64 (a : Int))
    refine bodyPost_ret (results_tok rfl _ _ B q0 q1 q2 q3 rfl) rfl ?_
    exact ⟨rfl, (((O3.out.setCell _ _ (fun g => by have : B = w.heap.size := HB.out; simp only at g; omega)).setCell _ _ (fun g => by have : B = w.heap.size := HB.out; simp only at g; omega)).setCell _ _ (fun g => by have : B = w.heap.size := HB.out; simp only at g; omega)).setCell _ _ (fun g => by have : B = w.heap.size := HB.out; simp only at g; omega)⟩
  · by_cases hl : k = 11
    · subst hl
      go_wp2
      obtain ⟨q0, q1, q2, q3⟩ := set4 R3 rfl (.int .i64 0) (.string ⟨#[]⟩) (.int .i64 0) (.int .i64 0)
      refine bodyPost_ret (results_tok rfl _ _ B q0 q1 q2 q3 rfl) rfl ?_
      exact ⟨rfl, (((O3.out.setCell _ _ (fun g => by have : B = w.heap.size := HB.out; simp only at g; omega)).setCell _ _ (fun g => by have : B = w.heap.size := HB.out; simp only at g; omega)).setCell _ _ (fun g => by have : B = w.heap.size := HB.out; simp only at g; omega)).setCell _ _ (fun g => by have : B = w.heap.size := HB.out; simp only at g; omega)⟩
    · clear c0 c1 c2 c3 z0 z1 z2 z3
      go_wp2_with fail
      refine (show Calls Tryz.prog 64 _ _ _ from HN.out _).mono ?_
      rintro e w4 ⟨rfl, o4⟩
      have O4 : Hid (Only (fun _ => False) w w4) := O3.out.trans o4 (fun _ _ g => g)
      have lt3 : B < w3.heap.size := (Array.getElem?_eq_some_iff.1 R3).1
      have R4 := (o4.block B lt3 (fun g => g)).trans R3
      have c0 := blk_cells R4 0
      have c1 := blk_cells R4 1
      have c2 := blk_cells R4 2
      have c3 := blk_cells R4 3
      have z0 := blk_froz R4 0
      have z1 := blk_froz R4 1
      have z2 := blk_froz R4 2
      have z3 := blk_froz R4 3
      simp only [List.getElem?_toArray, List.getElem?_cons_zero, List.getElem?_cons_succ] at c0 c1 c2 c3
      clear HN O3 R3 o4 lt3
      cases y with
      | false =>
        go_wp2
        obtain ⟨q0, q1, q2, q3⟩ := set4 R4 rfl (.int .i64 0) (.string ⟨#[]⟩) (.int .i64 0) (.int .i64 0)
        refine bodyPost_ret (results_tok rfl _ _ B q0 q1 q2 q3 rfl) rfl ?_
        exact ⟨rfl, (((O4.out.setCell _ _ (fun g => by have : B = w.heap.size := HB.out; simp only at g; omega)).setCell _ _ (fun g => by have : B = w.heap.size := HB.out; simp only at g; omega)).setCell _ _ (fun g => by have : B = w.heap.size := HB.out; simp only at g; omega)).setCell _ _ (fun g => by have : B = w.heap.size := HB.out; simp only at g; omega)⟩
      | true =>
        go_wp2
        obtain ⟨q0, q1, q2, q3⟩ := set4 R4 rfl (.int .i64 1) (.string b) (.int .i64 0) (.int .i64 (a : Int))
        refine bodyPost_ret (results_tok rfl _ _ B q0 q1 q2 q3 rfl) rfl ?_
        exact ⟨rfl, (((O4.out.setCell _ _ (fun g => by have : B = w.heap.size := HB.out; simp only at g; omega)).setCell _ _ (fun g => by have : B = w.heap.size := HB.out; simp only at g; omega)).setCell _ _ (fun g => by have : B = w.heap.size := HB.out; simp only at g; omega)).setCell _ _ (fun g => by have : B = w.heap.size := HB.out; simp only at g; omega)⟩
end Go.Proofs.YtfecmpebnianpaaGreatDoor
namespace Go.Proofs.YtfecmpebnianpaaGreatDoor
open Go.RowKit Go.Lib
set_option linter.unusedSimpArgs false
set_option linter.unusedVariables false
set_option maxRecDepth 100000 in
theorem byte_info : ∃ i, Tryz.prog.info? 5 = some i ∧ i.zero = some (.int .u8 0) ∧ i.size = 1 ∧ i.bytes = 1 := ⟨_, rfl, rfl, rfl, rfl⟩
set_option maxHeartbeats 2000000 in
set_option maxRecDepth 100000 in
theorem check_used (b : Nat) (w : World) (h0 : w.cell? ⟨b, 0, none⟩ = some (.pointer (some ⟨b, 0, none⟩))) :
    Calls Tryz.prog 38 #[.pointer (some ⟨b, 0, none⟩)] w fun e w' => e = .returned (.tuple #[]) ∧ w' = w := by
  obtain ⟨j, hj⟩ : ∃ j, Tryz.prog.info? 77 = some j := ⟨_, rfl⟩
  go_enter Tryz.func38, Tryz.ntmps38
  go_wp2
  rw [run_neq_ptr_same w _ Tryz.underlying74 hj]
  go_wp2
  go_end0
  exact ⟨rfl, rfl⟩
set_option maxHeartbeats 2000000 in
set_option maxRecDepth 100000 in
theorem check_fresh (b : Nat) (w : World) (h0 : w.cell? ⟨b, 0, none⟩ = some (.pointer none)) (hsh : w.shape? b = some (77, 2)) (hfz : w.frozen? ⟨b, 0, none⟩ = false) :
    Calls Tryz.prog 38 #[.pointer (some ⟨b, 0, none⟩)] w fun e w' => e = .returned (.tuple #[]) ∧ w' = w.setCell ⟨b, 0, none⟩ (.pointer (some ⟨b, 0, none⟩)) := by
  obtain ⟨j, hj, hjs⟩ : ∃ j, Tryz.prog.info? 77 = some j ∧ j.size = 2 := ⟨_, rfl, rfl⟩
  have lies : liesAt Tryz.prog Tryz.prog.depth 77 (2 / Tryz.prog.cellsOf 77) 0 77 1 = true := by kernel_rfl
  go_enter Tryz.func38, Tryz.ntmps38
  go_wp2
  rw [run_to_unsafe w ⟨b, 0, none⟩ Tryz.underlying74 Tryz.underlying131 hj (by rw [hjs]; decide) hsh (Nat.zero_lt_succ 1)]
  simp only [Result.andThen]
  rw [Oper.upon_value]
  go_wp2
  rw [run_callFunc_extern Tryz.func57 (by kernel_rfl) (by kernel_rfl) (by kernel_rfl) (e := Extern.AbiNoEscape.same) (by kernel_rfl)]
  rw [run_noEscape]
  simp only [Result.andThen]
  rw [Oper.upon_value]
  go_wp2
  rw [run_from_unsafe w ⟨b, 0, none⟩ Tryz.underlying131 Tryz.underlying74 hj hsh lies]
  simp only [Result.andThen]
  rw [Oper.upon_value]
  go_wp2
  go_end0
  exact ⟨rfl, rfl⟩
/-- A builder at block b of the bytes bs, all made from block B on. -/
def Bu (B b : Nat) (bs : List Value) (w : World) : Prop := IsBuilderF 77 5 B b bs w
/-- What a call on a builder leaves alone. -/
def Kept (B b : Nat) (w w' : World) : Prop := Below B w w' ∧ OthersKept 5 (some b) w w'
theorem check_any (B b : Nat) (bs : List Value) (w : World) (h : Bu B b bs w) :
    Calls Tryz.prog 38 #[.pointer (some ⟨b, 0, none⟩)] w fun e w' => e = .returned (.tuple #[]) ∧ BuilderAtF 77 5 B b (.pointer (some ⟨b, 0, none⟩)) bs w' ∧ Kept B b w w' := by
  rcases h with h | h
  · refine (check_fresh b w h.cell0 h.shape h.frozen0).mono ?_
    rintro e w' ⟨rfl, rfl⟩
    exact ⟨rfl, h.used _, (Below.refl B w).setCell (p := ⟨b, 0, none⟩) h.1 _, (OthersKept.refl _ _ w).setCell ⟨b, 0, none⟩ rfl _⟩
  · refine (check_used b w h.cell0).mono ?_
    rintro e w' ⟨rfl, rfl⟩
    exact ⟨rfl, h, Below.refl B _, OthersKept.refl _ _ _⟩
set_option maxHeartbeats 4000000 in
set_option maxRecDepth 100000 in
theorem rune_two (B : Nat) (v : Value) (n : Nat) (xs : List Value) (r : Int) (h0 : 128 ≤ r) (h1 : r ≤ 2047) (w : World) (hown : w.ownsRowF B 5 1 v n xs) (hlen : n + 4 ≤ 140737488355328) (hBw : B ≤ w.heap.size) :
    Calls Tryz.prog 170 #[v, .int .i32 r] w fun e w' => ∃ v', e = .returned v' ∧ w'.ownsRowF B 5 1 v' (n + 2) (xs ++ [.int .u8 (192 + r / 64), .int .u8 (128 + r % 64)]) ∧ ∃ o, (w.alloc o).grownBy w' v.ownBlock := by
  obtain ⟨i0, hi, hz0, hz1, hz2⟩ := byte_info
  go_enter Tryz.func170, Tryz.ntmps170
  go_wp2_with (at_builtin; refine wpList_append_ownF _ rfl _ _ 75 rfl B 5 i0 (.int .u8 0) 1 1 Tryz.underlying75 hi hz0 hz1 hz2 rfl (by decide) _ _ _ rfl (hown.alloc _) ⟨w.heap.size, 0, none⟩ 2 2 [.int .u8 (192 + r / 64), .int .u8 (128 + r % 64)] rfl rfl ?c1 ?c2 ?c3 ?c4 ?c5 ?_)
  case c1 =>
    intro j u hj
    rcases j with _ | _ | _ | _ | j <;> simp at hj <;> subst hj <;> simp [Addr.add]
  case c2 =>
    intro u hu
    simp only [List.mem_cons, List.not_mem_nil, or_false] at hu
    rcases hu with rfl | rfl <;> rfl
  case c3 => unfold maxLen; omega
  case c4 => omega
  case c5 => simp; omega
  intro v' w2 hown' hgrow _
  go_wp2
  go_ret
  exact ⟨_, rfl, hown', _, hgrow⟩
set_option maxHeartbeats 4000000 in
set_option maxRecDepth 100000 in
theorem rune_lo (B : Nat) (v : Value) (n : Nat) (xs : List Value) (r : Int) (h0 : 2048 ≤ r) (h1 : r < 55296) (w : World) (hown : w.ownsRowF B 5 1 v n xs) (hlen : n + 4 ≤ 140737488355328) (hBw : B ≤ w.heap.size) :
    Calls Tryz.prog 170 #[v, .int .i32 r] w fun e w' => ∃ v', e = .returned v' ∧ w'.ownsRowF B 5 1 v' (n + 3) (xs ++ [.int .u8 (224 + r / 4096), .int .u8 (128 + r / 64 % 64), .int .u8 (128 + r % 64)]) ∧ ∃ o, (w.alloc o).grownBy w' v.ownBlock := by
  obtain ⟨i0, hi, hz0, hz1, hz2⟩ := byte_info
  go_enter Tryz.func170, Tryz.ntmps170
  go_wp2_with (at_builtin; refine wpList_append_ownF _ rfl _ _ 75 rfl B 5 i0 (.int .u8 0) 1 1 Tryz.underlying75 hi hz0 hz1 hz2 rfl (by decide) _ _ _ rfl (hown.alloc _) ⟨w.heap.size, 0, none⟩ 3 3 [.int .u8 (224 + r / 4096), .int .u8 (128 + r / 64 % 64), .int .u8 (128 + r % 64)] rfl rfl ?c1 ?c2 ?c3 ?c4 ?c5 ?_)
  case c1 =>
    intro j u hj
    rcases j with _ | _ | _ | _ | j <;> simp at hj <;> subst hj <;> simp [Addr.add]
  case c2 =>
    intro u hu
    simp only [List.mem_cons, List.not_mem_nil, or_false] at hu
    rcases hu with rfl | rfl | rfl <;> rfl
  case c3 => unfold maxLen; omega
  case c4 => omega
  case c5 => simp; omega
  intro v' w2 hown' hgrow _
  go_wp2
  go_ret
  exact ⟨_, rfl, hown', _, hgrow⟩
set_option maxHeartbeats 4000000 in
set_option maxRecDepth 100000 in
theorem rune_hi (B : Nat) (v : Value) (n : Nat) (xs : List Value) (r : Int) (h0 : 57343 < r) (h1 : r ≤ 65535) (w : World) (hown : w.ownsRowF B 5 1 v n xs) (hlen : n + 4 ≤ 140737488355328) (hBw : B ≤ w.heap.size) :
    Calls Tryz.prog 170 #[v, .int .i32 r] w fun e w' => ∃ v', e = .returned v' ∧ w'.ownsRowF B 5 1 v' (n + 3) (xs ++ [.int .u8 (224 + r / 4096), .int .u8 (128 + r / 64 % 64), .int .u8 (128 + r % 64)]) ∧ ∃ o, (w.alloc o).grownBy w' v.ownBlock := by
  obtain ⟨i0, hi, hz0, hz1, hz2⟩ := byte_info
  go_enter Tryz.func170, Tryz.ntmps170
  go_wp2_with (at_builtin; refine wpList_append_ownF _ rfl _ _ 75 rfl B 5 i0 (.int .u8 0) 1 1 Tryz.underlying75 hi hz0 hz1 hz2 rfl (by decide) _ _ _ rfl (hown.alloc _) ⟨w.heap.size, 0, none⟩ 3 3 [.int .u8 (224 + r / 4096), .int .u8 (128 + r / 64 % 64), .int .u8 (128 + r % 64)] rfl rfl ?c1 ?c2 ?c3 ?c4 ?c5 ?_)
  case c1 =>
    intro j u hj
    rcases j with _ | _ | _ | _ | j <;> simp at hj <;> subst hj <;> simp [Addr.add]
  case c2 =>
    intro u hu
    simp only [List.mem_cons, List.not_mem_nil, or_false] at hu
    rcases hu with rfl | rfl | rfl <;> rfl
  case c3 => unfold maxLen; omega
  case c4 => omega
  case c5 => simp; omega
  intro v' w2 hown' hgrow _
  go_wp2
  go_ret
  exact ⟨_, rfl, hown', _, hgrow⟩
set_option maxHeartbeats 4000000 in
set_option maxRecDepth 100000 in
theorem rune_four (B : Nat) (v : Value) (n : Nat) (xs : List Value) (r : Int) (h0 : 65536 ≤ r) (h1 : r ≤ 1114111) (w : World) (hown : w.ownsRowF B 5 1 v n xs) (hlen : n + 4 ≤ 140737488355328) (hBw : B ≤ w.heap.size) :
    Calls Tryz.prog 170 #[v, .int .i32 r] w fun e w' => ∃ v', e = .returned v' ∧ w'.ownsRowF B 5 1 v' (n + 4) (xs ++ [.int .u8 (240 + r / 262144), .int .u8 (128 + r / 4096 % 64), .int .u8 (128 + r / 64 % 64), .int .u8 (128 + r % 64)]) ∧ ∃ o, (w.alloc o).grownBy w' v.ownBlock := by
  obtain ⟨i0, hi, hz0, hz1, hz2⟩ := byte_info
  go_enter Tryz.func170, Tryz.ntmps170
  go_wp2_with (at_builtin; refine wpList_append_ownF _ rfl _ _ 75 rfl B 5 i0 (.int .u8 0) 1 1 Tryz.underlying75 hi hz0 hz1 hz2 rfl (by decide) _ _ _ rfl (hown.alloc _) ⟨w.heap.size, 0, none⟩ 4 4 [.int .u8 (240 + r / 262144), .int .u8 (128 + r / 4096 % 64), .int .u8 (128 + r / 64 % 64), .int .u8 (128 + r % 64)] rfl rfl ?c1 ?c2 ?c3 ?c4 ?c5 ?_)
  case c1 =>
    intro j u hj
    rcases j with _ | _ | _ | _ | j <;> simp at hj <;> subst hj <;> simp [Addr.add]
  case c2 =>
    intro u hu
    simp only [List.mem_cons, List.not_mem_nil, or_false] at hu
    rcases hu with rfl | rfl | rfl | rfl <;> rfl
  case c3 => unfold maxLen; omega
  case c4 => omega
  case c5 => simp; omega
  intro v' w2 hown' hgrow _
  go_wp2
  go_ret
  exact ⟨_, rfl, hown', _, hgrow⟩
/-- A character: a number that a text may hold. -/
def Vr (r : Nat) : Prop := r < 55296 ∨ (57343 < r ∧ r ≤ 1114111)
set_option maxHeartbeats 4000000 in
set_option maxRecDepth 100000 in
theorem appendRune_any (B : Nat) (v : Value) (n : Nat) (xs : List Value) (r : Nat) (hr : Vr r) (w : World) (hown : w.ownsRowF B 5 1 v n xs) (hlen : n + 4 ≤ 140737488355328) (hBw : B ≤ w.heap.size) :
    Calls Tryz.prog 164 #[v, .int .i32 (r : Int)] w fun e w' => ∃ v', e = .returned v' ∧ w'.ownsRowF B 5 1 v' (n + (runeCells r).length) (xs ++ runeCells r) ∧ ∃ o, (w.alloc o).grownBy w' v.ownBlock := by
  by_cases h1 : r ≤ 127
  · have e : runeCells (r : Int) = [.int .u8 (r : Int)] := by rw [runeCells, encodeRuneZ_one (by omega) (by omega)]; rfl
    rw [e]
    obtain ⟨i0, hi, hz0, hz1, hz2⟩ := byte_info
    go_enter Tryz.func164, Tryz.ntmps164
    go_wp2_with (at_builtin; refine wpList_append_ownF _ rfl _ _ 75 rfl B 5 i0 (.int .u8 0) 1 1 Tryz.underlying75 hi hz0 hz1 hz2 rfl (by decide) _ _ _ rfl (hown.alloc _) ⟨w.heap.size, 0, none⟩ 1 1 [.int .u8 (r : Int)] rfl rfl ?c1 ?c2 ?c3 ?c4 ?c5 ?_)
    case c1 =>
      intro j u hj
      rcases j with _ | j <;> simp at hj <;> subst hj <;> simp [Addr.add]
    case c2 =>
      intro u hu
      simp only [List.mem_cons, List.not_mem_nil, or_false] at hu
      subst hu
      rfl
    case c3 => unfold maxLen; omega
    case c4 => omega
    case c5 => simp; omega
    intro v' w2 hown' hgrow _
    go_wp2
    go_ret
    exact ⟨_, rfl, hown', _, hgrow⟩
  · have key : Hid (Calls Tryz.prog 170 #[v, .int .i32 (r : Int)] w fun e w' => ∃ v', e = .returned v' ∧ w'.ownsRowF B 5 1 v' (n + (runeCells r).length) (xs ++ runeCells r) ∧ ∃ o, (w.alloc o).grownBy w' v.ownBlock) := by
      show Calls _ _ _ _ _
      by_cases h2 : r ≤ 2047
      · have e : runeCells (r : Int) = [.int .u8 (192 + r / 64), .int .u8 (128 + r % 64)] := by rw [runeCells, encodeRuneZ_two (by omega) (by omega)]; rfl
        rw [e]
        exact rune_two B v n xs r (by omega) (by omega) w hown hlen hBw
      · by_cases h3 : r ≤ 65535
        · have e : runeCells (r : Int) = [.int .u8 (224 + r / 4096), .int .u8 (128 + r / 64 % 64), .int .u8 (128 + r % 64)] := by rw [runeCells, encodeRuneZ_three (by unfold Vr at hr; omega)]; rfl
          rw [e]
          by_cases h4 : r < 55296
          · exact rune_lo B v n xs r (by omega) (by omega) w hown hlen hBw
          · exact rune_hi B v n xs r (by unfold Vr at hr; omega) (by omega) w hown hlen hBw
        · have e : runeCells (r : Int) = [.int .u8 (240 + r / 262144), .int .u8 (128 + r / 4096 % 64), .int .u8 (128 + r / 64 % 64), .int .u8 (128 + r % 64)] := by rw [runeCells, encodeRuneZ_four (by omega) (by unfold Vr at hr; omega)]; rfl
          rw [e]
          exact rune_four B v n xs r (by omega) (by unfold Vr at hr; omega) w hown hlen hBw
    have hr2 : (r : Int) ≤ 1114111 := by unfold Vr at hr; omega
    have hr1 : ¬ (r : Int) ≤ 127 := by omega
    clear hr h1
    go_enter Tryz.func164, Tryz.ntmps164
    go_wp2_with fail
    refine (show Calls Tryz.prog 170 _ _ _ from key.out).mono ?_
    rintro e w2 ⟨v', rfl, g⟩
    go_wp2
    go_ret
    exact ⟨_, rfl, g⟩
set_option maxHeartbeats 4000000 in
set_option maxRecDepth 100000 in
theorem writeRune_any (B b : Nat) (bs : List Value) (r : Nat) (hr : Vr r) (w : World) (h : Bu B b bs w) (hlen : bs.length + 4 ≤ 140737488355328) (hBw : B ≤ w.heap.size) :
    Calls Tryz.prog 159 #[.pointer (some ⟨b, 0, none⟩), .int .i32 (r : Int)] w fun e w' => ∃ q, e = .returned (.tuple #[q, .nilIface]) ∧ Bu B b (bs ++ runeCells r) w' ∧ Kept B b w w' := by
  have hk4 := runeCells_le r
  go_enter Tryz.func159, Tryz.ntmps159
  go_wp2_with fail
  refine (show Calls Tryz.prog 38 _ _ _ from check_any B b bs _ h).mono ?_
  rintro e w1 ⟨rfl, h1, hb1, hk1⟩
  obtain ⟨hB, v, hbk, hown, hne⟩ := h1
  obtain ⟨ao, cap, rfl⟩ : ∃ ao cap, v = .slice ao bs.length cap := by
    rcases hown.2 with ⟨hv, h0⟩ | ⟨g, cap, cur, fz, hv, _⟩
    · exact ⟨none, 0, by rw [hv, h0]⟩
    · exact ⟨_, _, hv⟩
  have c1 : w1.cell? ⟨b, 1, none⟩ = some (.slice ao bs.length cap) := by rw [cell_of_heap hbk]; rfl
  have hs1 := hb1.size
  go_wp2_with fail
  refine (show Calls Tryz.prog 164 _ _ _ from appendRune_any B _ bs.length bs r hr _ hown hlen (by omega)).mono ?_
  rintro e w2 ⟨v', rfl, hown', o, hgrow⟩
  have hlt : b < w1.heap.size := (Array.getElem?_eq_some_iff.1 hbk).1
  have hb2 : w2.heap[b]? = some (.cells #[.pointer (some ⟨b, 0, none⟩), .slice ao bs.length cap] 77 (0, 0)) := by
    rw [hgrow.block b (by simp; omega) (fun e => hne e.symm), alloc_old w1 _ b hlt]
    exact hbk
  have d1 : w2.cell? ⟨b, 1, none⟩ = some (.slice ao bs.length cap) := by rw [cell_of_heap hb2]; rfl
  have f1 : w2.frozen? ⟨b, 1, none⟩ = false := frozen_of_heap hb2 1
  obtain ⟨g, cap', rfl⟩ : ∃ g cap', v' = .slice (some ⟨g, 0, none⟩) (bs.length + (runeCells r).length) cap' := by
    rcases hown'.2 with ⟨_, h0⟩ | ⟨g, cap', cur, fz, hv, _⟩
    · omega
    · exact ⟨g, cap', hv⟩
  go_wp2
  go_ret2
  refine ⟨_, rfl, .inr ?_, ?_, ((hk1.alloc _).grown hgrow (ownsRowF_kind (hown.alloc _))).setCell ⟨b, 1, none⟩ rfl _⟩
  · exact BuilderAtF.put (T := 77) (e := 5) hB hb2 (bs' := bs ++ runeCells r) (by simpa using hown') (by decide)
  · exact ((hb1.alloc (by omega) _).grown hgrow (by simp; omega) (fun k hk => (hown.lt k hk).1)).setCell (p := ⟨b, 1, none⟩) hB _
end Go.Proofs.YtfecmpebnianpaaGreatDoor
namespace Go.Proofs.YtfecmpebnianpaaGreatDoor
open Go.RowKit Go.Lib
set_option linter.unusedSimpArgs false
set_option linter.unusedVariables false
/-- What is decoded is a character. -/
theorem decode_vr (s : ByteArray) (pos : Nat) : Vr (Utf8.decode s pos).1 := by
  rw [decode_at]
  have k0 := (s.get! pos).toNat_lt
  have k1 := (s.get! (pos + 1)).toNat_lt
  have k2 := (s.get! (pos + 2)).toNat_lt
  have k3 := (s.get! (pos + 3)).toNat_lt
  unfold Vr
  rcases decodeN_shape (s.size - pos) (s.get! pos).toNat (s.get! (pos + 1)).toNat (s.get! (pos + 2)).toNat (s.get! (pos + 3)).toNat with ⟨c, e⟩ | ⟨c1, c2, c3, cv, e⟩ | ⟨c1, c2, c3, c4, cv, cs, e⟩ | ⟨c1, c2, c3, c4, c5, cv, cw, e⟩ | e <;> rw [e] <;> dsimp only <;> omega
theorem une_vr {c m : Nat} (h : une c = some m) : Vr m := by
  unfold une at h
  unfold Vr
  split at h
  · simp only [Option.some.injEq] at h; omega
  · split at h
    · simp only [Option.some.injEq] at h; omega
    · simp at h
/-- The bytes of characters. -/
def enL (l : List Nat) : List UInt8 := l.flatMap fun (r : Nat) => encodeRune (r : Int)
def tx (l : List Nat) : ByteArray := ⟨(enL l).toArray⟩
theorem enL_snoc (l : List Nat) (r : Nat) : enL (l ++ [r]) = enL l ++ encodeRune (r : Int) := by simp [enL]
theorem enL_cells (l : List Nat) (r : Nat) : Lib.byteCells (enL (l ++ [r])) = Lib.byteCells (enL l) ++ runeCells (r : Int) := by rw [enL_snoc, Lib.byteCells_append, Lib.byteCells_encodeRune]
theorem enL_len (l : List Nat) (r : Nat) : (enL (l ++ [r])).length ≤ (enL l).length + 4 := by
  have := (runeCells_le (r : Int)).2
  rw [enL_snoc, List.length_append, ← runeCells_length]
  omega
def zT : Tok := ⟨0, ⟨#[]⟩, 0, 0⟩
/-- The string whose quote stands at a: its characters from a + 1 on; n: the text's length. -/
def strG (a n : Nat) : List (Nat × Nat) → Bool → List Nat → Tok × Nat × Int
  | [], true, _ => (zT, n - 1, 9)
  | [], false, _ => (zT, a, 9)
  | (i, c) :: r, true, out => match une c with
    | none => (zT, a + i, 9)
    | some m => strG a n r false (out ++ [m])
  | (i, c) :: r, false, out =>
    if c = 92 then strG a n r true out
    else if c = 34 then (if 4096 < (enL out).length then (zT, a, 11) else (⟨3, tx out, 0, a⟩, a + i + 2, 0))
    else strG a n r false (out ++ [c])
def strR (s : ByteArray) (a : Nat) : Tok × Nat × Int := strG a s.size (crs (s.extract (a + 1) s.size) (s.extract (a + 1) s.size).size 0) false []
/-- The token's cells. -/
def TkC (w : World) (N : Nat) : Prop := w.heap[N]? = some (.cells #[.int .i64 0, .string ⟨#[]⟩, .int .i64 0, .int .i64 0] 152)
theorem TkC.keep {w w' : World} {N b : Nat} (h : TkC w N) (k : OthersKept 5 (some b) w w') (hb : N ≠ b) : TkC w' N :=
  k N _ h (fun e => hb (Option.some.inj e)) (fun c fz e => by simp at e)
theorem TkC.iterAt {w : World} {N k : Nat} {s : ByteArray} {pos : Nat} (h : TkC w N) (hk : N ≠ k) : TkC (w.iterAt k s pos) N := (iterAt_other w k N s pos hk).trans h
theorem alloc_at (W : World) (o : Obj) (n : Nat) (h : n = W.heap.size) : (W.alloc o).heap[n]? = some o := by
  subst h
  exact Array.getElem?_push_size ..
theorem bu_new {w : World} {B b : Nat} (hB : B ≤ b) (h : w.heap[b]? = some (.cells #[.pointer none, .slice none 0 0] 77)) : Bu B b (Lib.byteCells (enL [])) w := .inl ⟨hB, _, h, ⟨rfl, .inl ⟨rfl, rfl⟩⟩, by simp [Value.ownBlock]⟩
set_option maxRecDepth 100000 in
set_option maxHeartbeats 8000000 in
theorem readString_any (s : ByteArray) (a : Nat) (ha : a < s.size) (hs : s.size ≤ 1000000) (w : World) :
    Calls Tryz.prog 147 #[.string s, .int .i64 (a : Int)] w fun e w' => e = .returned (rdV (strR s a)) ∧ Below w.heap.size w w' := by
  obtain ⟨S, hS⟩ : ∃ S, S = s.extract (a + 1) s.size := ⟨_, rfl⟩
  have hsl : ∀ W : World, (Instr.slice 9 (.string s) (some (.int .i64 ((a : Int) + 1))) none none).run Tryz.prog W = .ok (.string S) W := fun W => by
    rw [show ((a : Int) + 1) = ((a + 1 : Nat) : Int) by omega, run_slice_string_l W 9 s Tryz.underlying9 _ _ (by omega) (by omega), hS]
    rfl
  have hSz : S.size = s.size - (a + 1) := by rw [hS, ByteArray.size_extract]; omega
  obtain ⟨Z, hZ⟩ : ∃ Z, Z = strR s a := ⟨_, rfl⟩
  have HZ : Hid (Z = strG a s.size (crs S S.size 0) false []) := by rw [hS]; exact hZ
  rw [← hZ]
  clear hZ hS
  obtain ⟨N, hN⟩ : ∃ N, N = w.heap.size := ⟨_, rfl⟩
  have HN : Hid (N = w.heap.size) := hN
  go_enter Tryz.func147, Tryz.ntmps147
  go_wp2
  go_loopw [8] (fun r wr => ∃ (pos b : Nat) (e : Bool) (out : List Nat), r = .bool e ∧ Hid (Bu w.heap.size (w.heap.size + 1) (Lib.byteCells (enL out)) wr ∧ wr.heap[w.heap.size + 2]? = some (.stringIter S pos) ∧ TkC wr w.heap.size ∧ Below w.heap.size w wr ∧ Z = strG a s.size (crs S b pos) e out ∧ S.size ≤ pos + b ∧ (enL out).length ≤ 4 * pos)) (fun _ wr => S.size - wr.iterPos (w.heap.size + 2))
  case atStart =>
    refine ⟨0, S.size, false, [], rfl, bu_new (by omega) ?_, ?_, ?_, ?_, HZ.out, by omega, by simp [enL]⟩
    · exact (alloc_old (World.alloc _ _) _ (w.heap.size + 1) (by simp)).trans (alloc_at _ _ _ (by simp))
    · have := World.iter_heap ((w.alloc (.cells #[.int .i64 0, .string ⟨#[]⟩, .int .i64 0, .int .i64 0] 152)).alloc (.cells #[.pointer none, .slice none 0 0] 77)) S 0
      simpa using this
    · exact (alloc_old (World.alloc (World.alloc w _) _) _ w.heap.size (by simp; omega)).trans ((alloc_old (World.alloc w _) _ w.heap.size (by simp)).trans (alloc_at _ _ _ rfl))
    · exact ((((Below.refl _ w).alloc (Nat.le_refl _) _).alloc (by simp) _).alloc (by simp; omega) _)
  case round =>
    obtain ⟨pos, b, e, out, rfl, HI⟩ := hrel
    clear HZ
    by_cases hp : pos < S.size
    · have hnx : ∀ ty, (Instr.next (.pointer (some ⟨w.heap.size + 2, 0, none⟩)) true ty).run Tryz.prog wr = _ := fun ty => run_next_any_at wr (w.heap.size + 2) S pos ty HI.out.2.1 hp
      have hwd := wid_pos S pos hp
      obtain ⟨b', hb', hcr⟩ := crs_go hp HI.out.2.2.2.2.2.1
      have hvr := decode_vr S pos
      have hdl := decode_le S pos
      obtain ⟨c, hc⟩ : ∃ c, c = (Utf8.decode S pos).1 := ⟨_, rfl⟩
      obtain ⟨wd, hw⟩ : ∃ c, c = (Utf8.decode S pos).2 := ⟨_, rfl⟩
      rw [← hc, ← hw] at hnx hcr
      rw [← hc] at hvr hdl
      rw [← hw] at hwd
      have HV : Hid (Vr c) := hvr
      have hmp : wr.iterPos (w.heap.size + 2) = pos := by simp only [World.iterPos, HI.out.2.1]
      have HJ : Hid (Bu w.heap.size (w.heap.size + 1) (Lib.byteCells (enL out)) (wr.iterAt (w.heap.size + 2) S (pos + wd)) ∧ (wr.iterAt (w.heap.size + 2) S (pos + wd)).heap[w.heap.size + 2]? = some (.stringIter S (pos + wd)) ∧ TkC (wr.iterAt (w.heap.size + 2) S (pos + wd)) w.heap.size ∧ Below w.heap.size w (wr.iterAt (w.heap.size + 2) S (pos + wd)) ∧ Z = strG a s.size ((pos, c) :: crs S b' (pos + wd)) e out ∧ S.size ≤ pos + wd + b' ∧ (enL out).length ≤ 4 * pos) := by
        obtain ⟨i1, i2, i3, i4, i5, i6, i7⟩ := HI.out
        exact ⟨i1.iterAt i2 _, iterAt_heap _ _ _ _ _ i2, i3.iterAt (by omega), below_iterAt i4 (by omega) _ _, by rw [i5, hcr], by omega, i7⟩
      clear HI hc hw hcr hb' hvr
      obtain ⟨W2, hW2⟩ : ∃ W2, W2 = wr.iterAt (w.heap.size + 2) S (pos + wd) := ⟨_, rfl⟩
      rw [← hW2] at hnx HJ
      clear hW2
      cases e with
      | true =>
        have HU : Hid (Calls Tryz.prog 158 #[.int .i32 (c : Int)] W2 fun e w' => e = .returned (uneV (une c)) ∧ w' = W2) := unescape_any c W2
        cases hu : une c with
        | none =>
          rw [hu] at HU
          have HE : Hid (Z = (zT, a + pos, 9)) := by
            show Z = _
            rw [HJ.out.2.2.2.2.1]
            simp only [strG, hu]
          clear hu
          go_wp2_with fail
          refine (show Calls Tryz.prog 158 _ _ _ from HU.out).mono ?_
          rintro e wz ⟨rfl, hwz⟩; subst wz
          clear HU
          simp only [uneV]
          have R3 := HJ.out.2.2.1
          unfold TkC at R3
          have c0 := blk_cells R3 0
          have c1 := blk_cells R3 1
          have c2 := blk_cells R3 2
          have c3 := blk_cells R3 3
          have z0 := blk_froz R3 0
          have z1 := blk_froz R3 1
          have z2 := blk_froz R3 2
          have z3 := blk_froz R3 3
          simp only [List.getElem?_toArray, List.getElem?_cons_zero, List.getElem?_cons_succ] at c0 c1 c2 c3
          have hap : (a : Int) + 1 + (pos : Int) - 1 = ((a + pos : Nat) : Int) := by omega
          go_wp2
          obtain ⟨q0, q1, q2, q3⟩ := set4 R3 rfl (.int .i64 0) (.string ⟨#[]⟩) (.int .i64 0) (.int .i64 0)
          refine bodyPost_ret (results_tok rfl _ _ w.heap.size q0 q1 q2 q3 rfl) rfl ?_
          exact ⟨by rw [show Z = _ from HE.out]; rfl, (((HJ.out.2.2.2.1.setCell (p := ⟨w.heap.size, 0, none⟩) (Nat.le_refl _) _).setCell (p := ⟨w.heap.size, 1, none⟩) (Nat.le_refl _) _).setCell (p := ⟨w.heap.size, 2, none⟩) (Nat.le_refl _) _).setCell (p := ⟨w.heap.size, 3, none⟩) (Nat.le_refl _) _⟩
        | some m =>
          rw [hu] at HU
          have HE : Hid (Z = strG a s.size (crs S b' (pos + wd)) false (out ++ [m])) := by
            show Z = _
            rw [HJ.out.2.2.2.2.1]
            simp only [strG, hu]
          have HV : Hid (Vr m) := une_vr hu
          clear hu
          go_wp2_with fail
          refine (show Calls Tryz.prog 158 _ _ _ from HU.out).mono ?_
          rintro e wz ⟨rfl, hwz⟩; subst wz
          clear HU
          simp only [uneV]
          have hz2 : w.heap.size ≤ W2.heap.size := HJ.out.2.2.2.1.size
          have HR : Hid (Calls Tryz.prog 159 #[.pointer (some ⟨w.heap.size + 1, 0, none⟩), .int .i32 (m : Int)] W2 fun e w' => ∃ q, e = .returned (.tuple #[q, .nilIface]) ∧ Bu w.heap.size (w.heap.size + 1) (Lib.byteCells (enL out) ++ runeCells m) w' ∧ Kept w.heap.size (w.heap.size + 1) W2 w') := writeRune_any w.heap.size (w.heap.size + 1) _ m HV.out W2 HJ.out.1 (by rw [Lib.byteCells_length]; have := HJ.out.2.2.2.2.2.2; omega) hz2
          go_wp2_with fail
          refine (show Calls Tryz.prog 159 _ _ _ from HR.out).mono ?_
          rintro e W3 ⟨q, rfl, g1, g2, g3⟩
          clear HR
          have HK : Hid (Bu w.heap.size (w.heap.size + 1) (Lib.byteCells (enL (out ++ [m]))) W3 ∧ W3.heap[w.heap.size + 2]? = some (.stringIter S (pos + wd)) ∧ TkC W3 w.heap.size ∧ Below w.heap.size w W3 ∧ Z = strG a s.size (crs S b' (pos + wd)) false (out ++ [m]) ∧ S.size ≤ pos + wd + b' ∧ (enL (out ++ [m])).length ≤ 4 * (pos + wd)) :=
            ⟨by rw [enL_cells]; exact g1, g3.iter HJ.out.2.1 (by omega), HJ.out.2.2.1.keep g3 (by omega), HJ.out.2.2.2.1.trans g2, HE.out, HJ.out.2.2.2.2.2.1, by have := enL_len out m; have := HJ.out.2.2.2.2.2.2; omega⟩
          clear g1 g2 g3 HJ HE
          go_wp2
          go_roundw
          case rel => exact ⟨pos + wd, b', false, out ++ [m], rfl, HK.out⟩
          case measure => have e1 : W3.iterPos (w.heap.size + 2) = pos + wd := by simp only [World.iterPos, HK.out.2.1]
                          omega
      | false =>
        by_cases h92 : c = 92
        · have HE : Hid (Z = strG a s.size (crs S b' (pos + wd)) true out) := by
            show Z = _
            rw [HJ.out.2.2.2.2.1]
            simp only [strG, if_pos h92]
          subst h92
          have HK : Hid (Bu w.heap.size (w.heap.size + 1) (Lib.byteCells (enL out)) W2 ∧ W2.heap[w.heap.size + 2]? = some (.stringIter S (pos + wd)) ∧ TkC W2 w.heap.size ∧ Below w.heap.size w W2 ∧ Z = strG a s.size (crs S b' (pos + wd)) true out ∧ S.size ≤ pos + wd + b' ∧ (enL out).length ≤ 4 * (pos + wd)) :=
            ⟨HJ.out.1, HJ.out.2.1, HJ.out.2.2.1, HJ.out.2.2.2.1, HE.out, HJ.out.2.2.2.2.2.1, by have := HJ.out.2.2.2.2.2.2; omega⟩
          clear HJ HE
          go_wp2
          go_roundw
          case rel => exact ⟨pos + wd, b', true, out, rfl, HK.out⟩
          case measure => have e1 : W2.iterPos (w.heap.size + 2) = pos + wd := by simp only [World.iterPos, HK.out.2.1]
                          omega
        · by_cases h34 : c = 34
          · have HL : Hid (Calls Tryz.prog 22 #[.pointer (some ⟨w.heap.size + 1, 0, none⟩)] W2 fun e w' => e = .returned (.int .i64 (enL out).length) ∧ w' = W2) := by
              have := Tryz.Builder_Len_f w.heap.size (w.heap.size + 1) _ W2 HJ.out.1
              rw [Lib.byteCells_length] at this
              exact this
            by_cases hl : 4096 < (enL out).length
            · have HE : Hid (Z = (zT, a, 11)) := by
                show Z = _
                rw [HJ.out.2.2.2.2.1]
                simp only [strG, if_neg h92, if_pos h34, if_pos hl]
              subst h34
              have hl2 : (4096 : Int) < ((enL out).length : Int) := by omega
              obtain ⟨L, hL⟩ : ∃ L, L = (enL out).length := ⟨_, rfl⟩
              rw [← hL] at HL hl2
              clear hL hl h92
              have R3 := HJ.out.2.2.1
              unfold TkC at R3
              have c0 := blk_cells R3 0
              have c1 := blk_cells R3 1
              have c2 := blk_cells R3 2
              have c3 := blk_cells R3 3
              have z0 := blk_froz R3 0
              have z1 := blk_froz R3 1
              have z2 := blk_froz R3 2
              have z3 := blk_froz R3 3
              simp only [List.getElem?_toArray, List.getElem?_cons_zero, List.getElem?_cons_succ] at c0 c1 c2 c3
              go_wp2_with fail
              refine (show Calls Tryz.prog 22 _ _ _ from HL.out).mono ?_
              rintro e wz ⟨rfl, hwz⟩; subst wz
              clear HL
              go_wp2
              obtain ⟨q0, q1, q2, q3⟩ := set4 R3 rfl (.int .i64 0) (.string ⟨#[]⟩) (.int .i64 0) (.int .i64 0)
              refine bodyPost_ret (results_tok rfl _ _ w.heap.size q0 q1 q2 q3 rfl) rfl ?_
              exact ⟨by rw [show Z = _ from HE.out]; rfl, (((HJ.out.2.2.2.1.setCell (p := ⟨w.heap.size, 0, none⟩) (Nat.le_refl _) _).setCell (p := ⟨w.heap.size, 1, none⟩) (Nat.le_refl _) _).setCell (p := ⟨w.heap.size, 2, none⟩) (Nat.le_refl _) _).setCell (p := ⟨w.heap.size, 3, none⟩) (Nat.le_refl _) _⟩
            · have HE : Hid (Z = (⟨3, tx out, 0, a⟩, a + pos + 2, 0)) := by
                show Z = _
                rw [HJ.out.2.2.2.2.1]
                simp only [strG, if_neg h92, if_pos h34, if_neg hl]
              subst h34
              have hl2 : ¬ (4096 : Int) < ((enL out).length : Int) := by omega
              have hz2 : w.heap.size ≤ W2.heap.size := HJ.out.2.2.2.1.size
              have HS : Hid (Calls Tryz.prog 26 #[.pointer (some ⟨w.heap.size + 1, 0, none⟩)] W2 fun e w' => e = .returned (.string (tx out)) ∧ (IsBuilderF 77 5 w.heap.size (w.heap.size + 1) (Lib.byteCells (enL out)) w' ∧ Below w.heap.size W2 w' ∧ OthersKept 5 (some (w.heap.size + 1)) W2 w')) := Tryz.Builder_String_any_k w.heap.size (w.heap.size + 1) (enL out) W2 HJ.out.1 hz2
              obtain ⟨L, hL⟩ : ∃ L, L = (enL out).length := ⟨_, rfl⟩
              rw [← hL] at HL hl2
              clear hL hl h92
              go_wp2_with fail
              refine (show Calls Tryz.prog 22 _ _ _ from HL.out).mono ?_
              rintro e wz ⟨rfl, hwz⟩; subst wz
              clear HL
              go_wp2_with fail
              refine (show Calls Tryz.prog 26 _ _ _ from HS.out).mono ?_
              rintro e W3 ⟨rfl, g1, g2, g3⟩
              clear HS
              have R3 := HJ.out.2.2.1.keep g3 (by omega)
              have HB := HJ.out.2.2.2.1.trans g2
              unfold TkC at R3
              have c0 := blk_cells R3 0
              have c1 := blk_cells R3 1
              have c2 := blk_cells R3 2
              have c3 := blk_cells R3 3
              have z0 := blk_froz R3 0
              have z1 := blk_froz R3 1
              have z2 := blk_froz R3 2
              have z3 := blk_froz R3 3
              simp only [List.getElem?_toArray, List.getElem?_cons_zero, List.getElem?_cons_succ] at c0 c1 c2 c3
              have hap : (a : Int) + 1 + (pos : Int) + 1 = ((a + pos + 2 : Nat) : Int) := by omega
              go_wp2
              obtain ⟨q0, q1, q2, q3⟩ := set4 R3 rfl (.int .i64 3) (.string (tx out)) (.int .i64 0) (.int .i64 (a : Int))
              refine bodyPost_ret (results_tok rfl _ _ w.heap.size q0 q1 q2 q3 rfl) rfl ?_
              exact ⟨by rw [show Z = _ from HE.out]; rfl, (((HB.setCell (p := ⟨w.heap.size, 0, none⟩) (Nat.le_refl _) _).setCell (p := ⟨w.heap.size, 1, none⟩) (Nat.le_refl _) _).setCell (p := ⟨w.heap.size, 2, none⟩) (Nat.le_refl _) _).setCell (p := ⟨w.heap.size, 3, none⟩) (Nat.le_refl _) _⟩
          · have HE : Hid (Z = strG a s.size (crs S b' (pos + wd)) false (out ++ [c])) := by
              show Z = _
              rw [HJ.out.2.2.2.2.1]
              simp only [strG, if_neg h92, if_neg h34]
            have i1 : ¬ (c : Int) = 92 := by omega
            have i2 : ¬ (c : Int) = 34 := by omega
            have hz2 : w.heap.size ≤ W2.heap.size := HJ.out.2.2.2.1.size
            have HR : Hid (Calls Tryz.prog 159 #[.pointer (some ⟨w.heap.size + 1, 0, none⟩), .int .i32 (c : Int)] W2 fun e w' => ∃ q, e = .returned (.tuple #[q, .nilIface]) ∧ Bu w.heap.size (w.heap.size + 1) (Lib.byteCells (enL out) ++ runeCells c) w' ∧ Kept w.heap.size (w.heap.size + 1) W2 w') := writeRune_any w.heap.size (w.heap.size + 1) _ c HV.out W2 HJ.out.1 (by rw [Lib.byteCells_length]; have := HJ.out.2.2.2.2.2.2; omega) hz2
            go_wp2_with fail
            refine (show Calls Tryz.prog 159 _ _ _ from HR.out).mono ?_
            rintro e W3 ⟨q, rfl, g1, g2, g3⟩
            clear HR
            have HK : Hid (Bu w.heap.size (w.heap.size + 1) (Lib.byteCells (enL (out ++ [c]))) W3 ∧ W3.heap[w.heap.size + 2]? = some (.stringIter S (pos + wd)) ∧ TkC W3 w.heap.size ∧ Below w.heap.size w W3 ∧ Z = strG a s.size (crs S b' (pos + wd)) false (out ++ [c]) ∧ S.size ≤ pos + wd + b' ∧ (enL (out ++ [c])).length ≤ 4 * (pos + wd)) :=
              ⟨by rw [enL_cells]; exact g1, g3.iter HJ.out.2.1 (by omega), HJ.out.2.2.1.keep g3 (by omega), HJ.out.2.2.2.1.trans g2, HE.out, HJ.out.2.2.2.2.2.1, by have := enL_len out c; have := HJ.out.2.2.2.2.2.2; omega⟩
            clear g1 g2 g3 HJ HE
            go_wp2
            go_roundw
            case rel => exact ⟨pos + wd, b', false, out ++ [c], rfl, HK.out⟩
            case measure => have e1 : W3.iterPos (w.heap.size + 2) = pos + wd := by simp only [World.iterPos, HK.out.2.1]
                            omega
    · have hnx : ∀ ty, (Instr.next (.pointer (some ⟨w.heap.size + 2, 0, none⟩)) true ty).run Tryz.prog wr = _ := fun ty => run_next_end_at wr (w.heap.size + 2) S pos ty HI.out.2.1 hp
      have R3 := HI.out.2.2.1
      unfold TkC at R3
      have c0 := blk_cells R3 0
      have c1 := blk_cells R3 1
      have c2 := blk_cells R3 2
      have c3 := blk_cells R3 3
      have z0 := blk_froz R3 0
      have z1 := blk_froz R3 1
      have z2 := blk_froz R3 2
      have z3 := blk_froz R3 3
      simp only [List.getElem?_toArray, List.getElem?_cons_zero, List.getElem?_cons_succ] at c0 c1 c2 c3
      have HB := HI.out.2.2.2.1
      cases e with
      | true =>
        have HE : Hid (Z = (zT, s.size - 1, 9)) := by
          show Z = _
          rw [HI.out.2.2.2.2.1, crs_end hp]
          rfl
        have hap : (s.size : Int) - 1 = ((s.size - 1 : Nat) : Int) := by omega
        clear HI
        go_wp2
        obtain ⟨q0, q1, q2, q3⟩ := set4 R3 rfl (.int .i64 0) (.string ⟨#[]⟩) (.int .i64 0) (.int .i64 0)
        refine bodyPost_ret (results_tok rfl _ _ w.heap.size q0 q1 q2 q3 rfl) rfl ?_
        exact ⟨by rw [show Z = _ from HE.out]; rfl, (((HB.setCell (p := ⟨w.heap.size, 0, none⟩) (Nat.le_refl _) _).setCell (p := ⟨w.heap.size, 1, none⟩) (Nat.le_refl _) _).setCell (p := ⟨w.heap.size, 2, none⟩) (Nat.le_refl _) _).setCell (p := ⟨w.heap.size, 3, none⟩) (Nat.le_refl _) _⟩
      | false =>
        have HE : Hid (Z = (zT, a, 9)) := by
          show Z = _
          rw [HI.out.2.2.2.2.1, crs_end hp]
          rfl
        clear HI
        go_wp2
        obtain ⟨q0, q1, q2, q3⟩ := set4 R3 rfl (.int .i64 0) (.string ⟨#[]⟩) (.int .i64 0) (.int .i64 0)
        refine bodyPost_ret (results_tok rfl _ _ w.heap.size q0 q1 q2 q3 rfl) rfl ?_
        exact ⟨by rw [show Z = _ from HE.out]; rfl, (((HB.setCell (p := ⟨w.heap.size, 0, none⟩) (Nat.le_refl _) _).setCell (p := ⟨w.heap.size, 1, none⟩) (Nat.le_refl _) _).setCell (p := ⟨w.heap.size, 2, none⟩) (Nat.le_refl _) _).setCell (p := ⟨w.heap.size, 3, none⟩) (Nat.le_refl _) _⟩
end Go.Proofs.YtfecmpebnianpaaGreatDoor
namespace Go.Proofs.YtfecmpebnianpaaGreatDoor
open Go.RowKit Go.Lib
set_option linter.unusedSimpArgs false
set_option linter.unusedVariables false
theorem only_below {w w' : World} (h : Only (fun _ => False) w w') : Below w.heap.size w w' := ⟨h.os, h.tape, h.output, h.size, fun k hk => h.block k hk (fun g => g)⟩
/-- The byte at a place. -/
def byN (s : ByteArray) (a : Nat) : Nat := (s.get! a).toNat
theorem get_bang (s : ByteArray) (a : Nat) (h : a < s.size) : s[a]'h = s.get! a := by
  cases s with
  | mk d =>
    show d[a]'h = d[a]!
    exact (getElem!_pos d a h).symm
def redR (s : ByteArray) (a : Nat) : Tok × Nat × Int := if byN s a = 34 then strR s a else wrdR s a
set_option maxRecDepth 100000 in
set_option maxHeartbeats 4000000 in
theorem read_any (s : ByteArray) (a : Nat) (ha : a < s.size) (hs : s.size ≤ 1000000) (w : World) (h : Nog w) :
    Calls Tryz.prog 124 #[.string s, .int .i64 (a : Int)] w fun e w' => e = .returned (rdV (redR s a)) ∧ Only (fun _ => False) w w' := by
  have hix : ∀ W : World, (Instr.index 9 (.string s) (.int .i64 (a : Int))).run Tryz.prog W = .ok (.int .u8 (byN s a : Int)) W := fun W => by
    rw [run_index_string W 9 _ _ _ Tryz.underlying9, dif_pos ⟨by omega, by omega⟩]
    simp only [Int.toNat_natCast]
    rw [get_bang]
    rfl
  have HS : Hid (∀ w1, Calls Tryz.prog 147 #[.string s, .int .i64 (a : Int)] w1 fun e w' => e = .returned (rdV (strR s a)) ∧ Only (fun _ => False) w1 w') := fun w1 => (readString_any s a ha hs w1).mono fun e w' g => ⟨g.1, below_only g.2⟩
  have HW : Hid (∀ w1, Only (fun _ => False) w w1 → Calls Tryz.prog 148 #[.string s, .int .i64 (a : Int)] w1 fun e w' => e = .returned (rdV (wrdR s a)) ∧ Only (fun _ => False) w1 w') := fun w1 o => readWord_any s a (by omega) hs w1 (h.frame o)
  unfold redR
  obtain ⟨y, hy⟩ : ∃ y, y = byN s a := ⟨_, rfl⟩
  rw [← hy] at hix ⊢
  clear hy h
  have O0 : Hid (Only (fun _ => False) w w) := Only.refl _ _
  have HB : Hid (∀ (k : Nat) (o : Obj), w.heap.size ≤ k → Only (fun _ => False) w (w.alloc o)) := fun _ o _ => O0.out.alloc _
  by_cases h34 : y = 34
  · subst h34
    rw [if_pos rfl]
    obtain ⟨⟨⟨k, t, n, q⟩, p, e⟩, hr⟩ : ∃ r, r = strR s a := ⟨_, rfl⟩
    rw [← hr] at HS ⊢
    clear hr HW
    go_enter Tryz.func124, Tryz.ntmps124
    go_wp2_with fail
    refine (show Calls Tryz.prog 147 _ _ _ from HS.out _).mono ?_
    rintro e1 w1 ⟨rfl, o1⟩
    have O1 : Hid (Only (fun _ => False) w w1) := (O0.out.alloc _).trans o1 (fun _ _ g => g)
    have R3 := (o1.block w.heap.size (by simp) (fun g => g)).trans (alloc_at _ _ _ rfl)
    clear HS o1
    simp only [rdV, Tok.v]
    have c0 := blk_cells R3 0
    have c1 := blk_cells R3 1
    have c2 := blk_cells R3 2
    have c3 := blk_cells R3 3
    have z0 := blk_froz R3 0
    have z1 := blk_froz R3 1
    have z2 := blk_froz R3 2
    have z3 := blk_froz R3 3
    simp only [List.getElem?_toArray, List.getElem?_cons_zero, List.getElem?_cons_succ] at c0 c1 c2 c3
    go_wp2
    obtain ⟨q0, q1, q2, q3⟩ := set4 R3 rfl (.int .i64 k) (.string t) (.int .i64 n) (.int .i64 q)
    refine bodyPost_ret (results_tok rfl _ _ w.heap.size q0 q1 q2 q3 rfl) rfl ?_
    exact ⟨rfl, (((O1.out.setCell _ _ (fun g => by simp only at g; omega)).setCell _ _ (fun g => by simp only at g; omega)).setCell _ _ (fun g => by simp only at g; omega)).setCell _ _ (fun g => by simp only at g; omega)⟩
  · have i1 : ¬ (y : Int) = 34 := by omega
    rw [if_neg h34]
    obtain ⟨⟨⟨k, t, n, q⟩, p, e⟩, hr⟩ : ∃ r, r = wrdR s a := ⟨_, rfl⟩
    rw [← hr] at HW ⊢
    clear hr HS h34
    go_enter Tryz.func124, Tryz.ntmps124
    go_wp2_with fail
    refine (show Calls Tryz.prog 148 _ _ _ from HW.out _ (O0.out.alloc _)).mono ?_
    rintro e1 w1 ⟨rfl, o1⟩
    have O1 : Hid (Only (fun _ => False) w w1) := (O0.out.alloc _).trans o1 (fun _ _ g => g)
    have R3 := (o1.block w.heap.size (by simp) (fun g => g)).trans (alloc_at _ _ _ rfl)
    clear HW o1
    simp only [rdV, Tok.v]
    have c0 := blk_cells R3 0
    have c1 := blk_cells R3 1
    have c2 := blk_cells R3 2
    have c3 := blk_cells R3 3
    have z0 := blk_froz R3 0
    have z1 := blk_froz R3 1
    have z2 := blk_froz R3 2
    have z3 := blk_froz R3 3
    simp only [List.getElem?_toArray, List.getElem?_cons_zero, List.getElem?_cons_succ] at c0 c1 c2 c3
    go_wp2
    obtain ⟨q0, q1, q2, q3⟩ := set4 R3 rfl (.int .i64 k) (.string t) (.int .i64 n) (.int .i64 q)
    refine bodyPost_ret (results_tok rfl _ _ w.heap.size q0 q1 q2 q3 rfl) rfl ?_
    exact ⟨rfl, (((O1.out.setCell _ _ (fun g => by simp only at g; omega)).setCell _ _ (fun g => by simp only at g; omega)).setCell _ _ (fun g => by simp only at g; omega)).setCell _ _ (fun g => by simp only at g; omega)⟩
/-- Where the next token begins. -/
def bg (s : ByteArray) (a : Nat) : Nat := bgn s (s.size + 1) a
theorem bgn_bd (s : ByteArray) : ∀ (f a : Nat), a ≤ s.size → a ≤ bgn s f a ∧ bgn s f a ≤ s.size
  | 0, a, h => ⟨Nat.le_refl _, h⟩
  | f + 1, a, h => by
    have h1 := fnd_le (fun c => !blk c) s h
    unfold bgn
    split
    · have h2 := fnd_le (fun c => decide (c = 10)) s h1.2
      have := bgn_bd s f _ h2.2
      omega
    · exact h1
/-- A word that is read is not empty. -/
theorem wrd_go {s : ByteArray} {a : Nat} (ha : a ≤ s.size) (h : (wrdR s a).2.2 = 0) : a < (wrdR s a).2.1 ∧ (wrdR s a).2.1 ≤ s.size := by
  have hf := fnd_le (fun c => blk c) s ha
  unfold wrdR at h ⊢
  dsimp only at h ⊢
  by_cases he : fnd (fun c => blk c) s a = a
  · exfalso
    rw [he] at h
    have e0 : s.extract a a = ⟨#[]⟩ := by
      apply ByteArray.ext
      simp
    rw [e0] at h
    have n0 : (numR ⟨#[]⟩).2 = 9 := by decide
    have n1 : nmdB ⟨#[]⟩ = false := by
      unfold nmdB
      split
      · rfl
      · split
        · rfl
        · rfl
    rw [n0, n1, if_neg (by decide), if_neg (by decide), if_pos rfl] at h
    exact absurd h (by simp)
  · revert h
    split
    · intro _; exact ⟨by show a < fnd (fun c => blk c) s a; omega, hf.2⟩
    · split
      · intro h; simp at h
      · split
        · intro h; simp at h
        · intro _; exact ⟨by show a < fnd (fun c => blk c) s a; omega, hf.2⟩
theorem strG_go (a n : Nat) (S : ByteArray) (hS : a + 1 + S.size ≤ n) : ∀ (b pos : Nat) (e : Bool) (out : List Nat), (strG a n (crs S b pos) e out).2.2 = 0 → a < (strG a n (crs S b pos) e out).2.1 ∧ (strG a n (crs S b pos) e out).2.1 ≤ n
  | 0, pos, true, out => by intro h; simp [crs, strG] at h
  | 0, pos, false, out => by intro h; simp [crs, strG] at h
  | b + 1, pos, e, out => by
    by_cases hp : pos < S.size
    · rw [show crs S (b + 1) pos = (pos, (Utf8.decode S pos).1) :: crs S b (pos + (Utf8.decode S pos).2) by simp [crs, hp]]
      cases e with
      | true =>
        simp only [strG]
        cases hu : une (Utf8.decode S pos).1 with
        | none => intro h; simp at h
        | some m => exact strG_go a n S hS b _ _ _
      | false =>
        simp only [strG]
        split
        · exact strG_go a n S hS b _ _ _
        · split
          · split
            · intro h; simp at h
            · intro _; exact ⟨by show a < a + pos + 2; omega, by show a + pos + 2 ≤ n; omega⟩
          · exact strG_go a n S hS b _ _ _
    · rw [crs_end hp]
      cases e with
      | true => intro h; simp [strG] at h
      | false => intro h; simp [strG] at h
theorem red_go {s : ByteArray} {a : Nat} (ha : a < s.size) (h : (redR s a).2.2 = 0) : a < (redR s a).2.1 ∧ (redR s a).2.1 ≤ s.size := by
  unfold redR at h ⊢
  split at h
  · rw [if_pos (by assumption)]
    exact strG_go a s.size _ (by rw [ByteArray.size_extract]; omega) _ _ _ _ h
  · rw [if_neg (by assumption)]
    exact wrd_go (by omega) h
/-- The tokens from a place on, behind those that stand ahead. -/
def tokG (s : ByteArray) : Nat → Nat → List Tok → List Tok × Nat × Int
  | 0, _, acc => (acc, 0, 0)
  | f + 1, a, acc => if a < s.size then (if (redR s a).2.2 = 0 then (if acc.length = 4096 then ([], a, 11) else tokG s f (bg s (redR s a).2.1) (acc ++ [(redR s a).1])) else ([], (redR s a).2.1, (redR s a).2.2)) else (acc, 0, 0)
def tokR (s : ByteArray) : List Tok × Nat × Int := if 65536 < s.size then ([], 0, 11) else if stR s < s.size then ([], stR s, 8) else tokG s (s.size + 1) (bg s 0) []
end Go.Proofs.YtfecmpebnianpaaGreatDoor
