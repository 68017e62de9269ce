/- Both disks, pages and sectors: they answer alike. -/
import Derived.Test.YtdcflnfdaijpdaaE5
namespace Go.Proofs.Ytdcflnfdaijpdaa
open Go.RowKit
set_option linter.unusedSimpArgs false
set_option linter.unusedVariables false

theorem Both.atX {w0 w : World} {p S : Nat} {pv : Value} {r K : Nat} {rv : Value} {rs : List RW} {d : DS} {X : Nat} (h : Both w0 w p S pv r K rv rs d X) (Y : Nat) (hY : w.heap.size ≤ Y) : Both w0 w p S pv r K rv rs d Y :=
  ⟨h.disk, h.ref, h.good, h.byte, h.sep, h.only, fun e => by have := (h.disk.lt Y e).2; omega, fun e => by have := (h.ref.lt Y e).2; omega⟩
/-- A page is read. -/
theorem both_page {w0 w : World} {p S : Nat} {pv : Value} {r K : Nat} {rv : Value} {rs : List RW} {d : DS} {X : Nat} (h : Both w0 w p S pv r K rv rs d X) (hp : d.pend.length ≤ 1048576000) (P : Int) :
    Calls Try.prog 26 #[.pointer (some ⟨p, 0, none⟩), .int .i64 P] w fun e w1 => ∃ (k q : Int) (x : Value), e = .returned (.tuple #[.int .u32 k, x, .int .i64 q]) ∧ Hid (KeepX X w w1) ∧
      Hid (Calls Try.prog 35 #[.pointer (some ⟨r, 0, none⟩), .int .i64 P] w1 fun e w2 => ∃ y, e = .returned (.tuple #[.int .u32 k, y, .int .i64 q]) ∧
        Hid (Calls Try.prog 17 #[x, y] w2 fun e w3 => e = .returned (.bool true) ∧ Hid (Next w0 w3 p S r K d))) := by
  have fin : ∀ (k q : Int) (x : Value) (Z : List Nat) (w1 : World), BytesAt w1 x Z → Only (fun _ => False) w w1 → (Calls Try.prog 35 #[.pointer (some ⟨r, 0, none⟩), .int .i64 P] w1 fun e w2 => ∃ y, e = .returned (.tuple #[.int .u32 k, y, .int .i64 q]) ∧ BytesAt w2 y Z ∧ Only (fun _ => False) w1 w2) →
      Hid (KeepX X w w1) ∧ Hid (Calls Try.prog 35 #[.pointer (some ⟨r, 0, none⟩), .int .i64 P] w1 fun e w2 => ∃ y, e = .returned (.tuple #[.int .u32 k, y, .int .i64 q]) ∧
        Hid (Calls Try.prog 17 #[x, y] w2 fun e w3 => e = .returned (.bool true) ∧ Hid (Next w0 w3 p S r K d))) := by
    intro k q x Z w1 hx ho hc
    refine ⟨fun j v hv => ho.cell hv (fun e => e), hc.mono ?_⟩
    rintro e w2 ⟨y, rfl, hy, ho2⟩
    refine ⟨y, rfl, (same_any x y Z w2 (hx.frame ho2) hy).mono ?_⟩
    rintro e w3 ⟨rfl, ho3⟩
    exact ⟨rfl, h.same ((ho.trans ho2 (fun _ _ e => e)).trans ho3 (fun _ _ e => e))⟩
  obtain ⟨c0, hc0⟩ := h.disk.c0
  by_cases h1 : P < 0 ∨ ((d.n / 4 : Nat) : Int) ≤ P
  · refine (pread_out p S d.n c0 P w h.disk.n2 hc0 h1).mono ?_
    rintro e w1 ⟨rfl, rfl⟩
    refine ⟨0, 4, _, rfl, fin 0 4 _ [] w1 (BytesAt.none _ _ (fun _ => rfl)) (Only.refl _ _) ((rpread_out r d.n P w1 h.ref.n2 h.ref.c0 h1).mono ?_)⟩
    rintro e w2 ⟨rfl, rfl⟩
    exact ⟨_, rfl, BytesAt.none _ _ (fun _ => rfl), Only.refl _ _⟩
  · obtain ⟨Q, rfl⟩ : ∃ Q : Nat, P = Q := ⟨P.toNat, by omega⟩
    have hQ : Q < d.n / 4 := by omega
    by_cases h2 : d.life = 0
    · refine (pread_dead p S d.n c0 Q w h.disk.n2 hc0 (by rw [← h2]; exact h.disk.c2) hQ).mono ?_
      rintro e w1 ⟨rfl, o1⟩
      have f := (h.frame o1).ref
      refine ⟨0, 3, _, rfl, fin 0 3 _ [] w1 (BytesAt.none _ _ (fun _ => rfl)) o1 ((rpread_dead r d.n Q w1 f.n2 f.c0 (by rw [← h2]; exact f.c3) hQ).mono ?_)⟩
      rintro e w2 ⟨rfl, rfl⟩
      exact ⟨_, rfl, BytesAt.none _ _ (fun _ => rfl), Only.refl _ _⟩
    · refine (pread_in p S _ Q pv d w h.disk hQ h2 h.byte).mono ?_
      intro e w1 hU
      have hc := fun (o : Only (fun _ => False) w w1) => rpread_in r K _ Q rv rs d w1 (h.frame o).ref hQ h2 h.byte h.good hp
      cases hr : unp (pgN d Q 4) with
      | none =>
        rw [hr] at hU hc
        obtain ⟨rfl, o1⟩ := hU
        refine ⟨0, 5, _, rfl, fin 0 5 _ [] w1 (BytesAt.none _ _ (fun _ => rfl)) o1 ((hc o1).mono ?_)⟩
        rintro e w2 ⟨rfl, o2⟩
        exact ⟨_, rfl, BytesAt.none _ _ (fun _ => rfl), o2⟩
      | some x =>
        obtain ⟨i, D⟩ := x
        rw [hr] at hU hc
        obtain ⟨u, rfl, hf, o1⟩ := hU
        refine ⟨i, 0, u, rfl, fin i 0 u D w1 hf.bytes o1 ((hc o1).mono ?_)⟩
        rintro e w2 ⟨y, rfl, hf2, o2⟩
        exact ⟨y, rfl, hf2.bytes, o2⟩
/-- A page is written. -/
theorem both_pwrite {w0 w : World} {p S : Nat} {pv : Value} {r K : Nat} {rv : Value} {rs : List RW} {d : DS} {X : Nat} (h : Both w0 w p S pv r K rv rs d X) (hp : d.pend.length ≤ 1048576000) (P : Int) (id : Nat) (hid : id < 4294967296) (vb : Value) (D : List Nat) (hv : BytesAt w0 vb D) (hXl : X < w.heap.size) :
    Calls Try.prog 11 #[vb] w fun e w1 => ∃ u, e = .returned u ∧ Hid (KeepX X w w1) ∧
      Hid (Calls Try.prog 25 #[.pointer (some ⟨p, 0, none⟩), .int .i64 P, .int .u32 id, u] w1 fun e w2 => ∃ q, e = .returned (.int .i64 q) ∧ Hid (KeepX X w w2) ∧
        Hid (Calls Try.prog 45 #[.pointer (some ⟨r, 0, none⟩), .int .i64 P, .int .u32 id, vb] w2 fun e w3 => e = .returned (.int .i64 q) ∧ Hid (KeepX X w w3) ∧ Hid (Next w0 w3 p S r K d))) := by
  refine (own_any vb D w (hv.frame h.only)).mono ?_
  rintro e w1 ⟨u, rfl, hf, o1⟩
  have h1 := h.frame o1
  have s1 := h1.only.size
  refine ⟨u, rfl, fun j v hv => o1.cell hv (fun e => e), (pwrite_all p S _ P id pv u d D w1 h1.disk s1 hf.bytes hid hp h.byte h.good).mono ?_⟩
  rintro e w2 ⟨rfl, pv', d2, o2, b2⟩
  have hX1 : ¬ diskB p S pv X := h.x1
  have o02 : Only (fun _ => False) w0 w2 := h1.only.trans o2 (fun b hb e => by have := (h1.disk.lt b e).1; omega)
  obtain ⟨q1, q2, q3, q4⟩ := wpage_facts P id D hv.2.2 h.byte h.good
  have r2 := h1.ref.frame o2 (fun b hb e => h1.sep b e hb)
  refine ⟨_, rfl, fun j v hv => o2.cell (o1.cell hv (fun e => e)) hX1, (rwrite_all r K _ P id rv vb rs d D w2 r2 o02.size (hv.frame o02) hid hp h.byte h.good).mono ?_⟩
  rintro e w3 ⟨rfl, rv', rs', d3, o3, b3⟩
  have hX2 : ¬ refB r K rv rs X := h.x2
  exact ⟨rfl, fun j v hv => o3.cell (o2.cell (o1.cell hv (fun e => e)) hX1) hX2, h1.next d2 o2 b2 d3 o3 b3 q2 q1 q3 q4⟩

set_option maxHeartbeats 400000 in
theorem sector_empty (a : Option Addr) (c : Nat) (w : World) :
    Calls Try.prog 37 #[.slice a 0 c] w fun e w' => e = .returned (.slice (some ⟨w.heap.size, 0, none⟩) 32 32) ∧ w' = w.alloc (.cells (secL (fun _ => 0)).toArray 5) := by
  have hmk := mk32 (fun _ => 0)
  have e0 : fullF (fun _ => 0) 0 = fun _ => 0 := by funext j; simp [fullF]
  rw [e0] at hmk
  clear e0
  go_enter Try.func37, Try.ntmps37
  go_wp2
  refine wp_loop_rounds 1 ?_; rw [rounds_succ]
  go_wp2
  go_ret
  exact ⟨rfl, rfl⟩
/-- The bytes that sector makes. -/
def fillF (D : List Nat) : Nat → Int := fullF (fun j => (D.getD j 0 : Nat)) D.length
theorem fillF_byt {D : List Nat} (h : ∀ z ∈ D, z < 256) : Byt (fillF D) := by
  intro j
  have := getD_byte h j
  by_cases hj : j < D.length
  · have e : fillF D j = (D.getD j 0 : Nat) := by simp [fillF, fullF, hj]
    rw [e]; omega
  · have e : fillF D j = 0 := by simp [fillF, fullF, hj]
    rw [e]; omega
theorem sector_any (v : Value) (D : List Nat) (w : World) (h : BytesAt w v D) :
    Calls Try.prog 37 #[v] w fun e w' => e = .returned (.slice (some ⟨w.heap.size, 0, none⟩) 32 32) ∧ w' = w.alloc (.cells (secL (fillF D)).toArray 5) := by
  by_cases h0 : D.length = 0
  · obtain rfl : D = [] := List.eq_nil_of_length_eq_zero h0
    obtain ⟨a, c, rfl, _, _⟩ := h.form
    have e : fillF [] = fun _ => 0 := by funext j; simp [fillF, fullF]
    rw [e]
    exact sector_empty a c w
  · obtain ⟨a, c, rfl, _, hc⟩ := h.form
    obtain ⟨g, o, rfl, hx⟩ := hc 0 (by omega)
    refine full_any g o D.length c _ w (by have := h.2.1; unfold maxLen; omega) (fun j hj => ?_) (World.block_lt_of_cell? w _ hx)
    obtain ⟨g', o', e', hy⟩ := hc j hj
    simp only [Option.some.injEq, Addr.mk.injEq, and_true] at e'
    obtain ⟨rfl, rfl⟩ := e'
    exact hy
theorem sector_row (w : World) (f : Nat → Int) : RowAt (w.alloc (.cells (secL f).toArray 5)) (.slice (some ⟨w.heap.size, 0, none⟩) 32 32) 32 1 (fun j => .int .u8 (f j)) := by
  refine .inr ⟨⟨w.heap.size, 0, none⟩, 32, rfl, Nat.le_refl _, fun j hj => ?_⟩
  rw [Addr.add_mid, Nat.zero_add, cell_of_row _ _ _ _ _ _ (heap_alloc_new w _)]
  have := secL_get f j (by omega)
  simpa using this
/-- A sector is written. -/
theorem both_sector {w0 w : World} {p S : Nat} {pv : Value} {r K : Nat} {rv : Value} {rs : List RW} {d : DS} {X : Nat} (h : Both w0 w p S pv r K rv rs d X) (hp : d.pend.length ≤ 1048576000) (s : Int) (vb : Value) (D : List Nat) (hv : BytesAt w0 vb D) (hXl : X < w.heap.size) :
    Calls Try.prog 37 #[vb] w fun e w1 => ∃ a1 m1 c1, e = .returned (.slice a1 m1 c1) ∧ Hid (KeepX X w w1) ∧
      Hid (Calls Try.prog 36 #[.pointer (some ⟨p, 0, none⟩), .int .i64 s, .slice a1 m1 c1] w1 fun e w2 => ∃ q, e = .returned (.int .i64 q) ∧ Hid (KeepX X w w2) ∧
        Hid (Calls Try.prog 37 #[vb] w2 fun e w3 => ∃ a3 m3 c3, e = .returned (.slice a3 m3 c3) ∧ Hid (KeepX X w w3) ∧
          Hid (Calls Try.prog 38 #[.pointer (some ⟨r, 0, none⟩), .int .i64 s, .slice a3 m3 c3] w3 fun e w4 => e = .returned (.int .i64 q) ∧ Hid (KeepX X w w4) ∧ Hid (Next w0 w4 p S r K d)))) := by
  refine (sector_any vb D w (hv.frame h.only)).mono ?_
  rintro e w1 ⟨rfl, hw1⟩
  have o1 : Only (fun _ => False) w w1 := by rw [hw1]; exact (Only.refl _ w).alloc _
  have h1 := h.frame o1
  have row1 : RowAt w1 (.slice (some ⟨w.heap.size, 0, none⟩) 32 32) 32 1 (fun j => .int .u8 (fillF D j)) := by rw [hw1]; exact sector_row w _
  refine ⟨_, 32, 32, rfl, fun j v hv => o1.cell hv (fun e => e), (write_all p S 32 32 _ _ pv d s (fillF D) w1 h1.disk row1 h1.only.size (by omega) (by omega)).mono ?_⟩
  rintro e w2 ⟨rfl, pv', d2, o2, b2⟩
  have hX1 : ¬ diskB p S pv X := h.x1
  have o02 : Only (fun _ => False) w0 w2 := h1.only.trans o2 (fun b hb e => by have := (h1.disk.lt b e).1; omega)
  refine ⟨_, rfl, fun j v hv => o2.cell (o1.cell hv (fun e => e)) hX1, (sector_any vb D w2 (hv.frame o02)).mono ?_⟩
  rintro e w3 ⟨rfl, hw3⟩
  have o3 : Only (fun _ => False) w2 w3 := by rw [hw3]; exact (Only.refl _ w2).alloc _
  have row3 : RowAt w3 (.slice (some ⟨w2.heap.size, 0, none⟩) 32 32) 32 1 (fun j => .int .u8 (fillF D j)) := by rw [hw3]; exact sector_row w2 _
  have o13 : Only (diskB p S pv) w1 w3 := o2.trans o3 (fun _ _ e => e.elim)
  have r3 := h1.ref.frame o13 (fun b hb e => h1.sep b e hb)
  refine ⟨_, 32, 32, rfl, fun j v hv => o3.cell (o2.cell (o1.cell hv (fun e => e)) hX1) (fun e => e), (rput_all r3 _ 32 32 s (fillF D) row3 (by have := o02.size; have := o3.size; omega) (by omega) (by omega)).mono ?_⟩
  rintro e w4 ⟨rfl, rv', rs', r4, o4, b4⟩
  have hX2 : ¬ refB r K rv rs X := h.x2
  exact ⟨rfl, fun j v hv => o4.cell (o3.cell (o2.cell (o1.cell hv (fun e => e)) hX1) (fun e => e)) hX2,
    h1.next (d2.frame o3 (fun _ _ e => e)) o13 b2 r4 o4 b4 (h.good.write _ _ _) (h.byte.write _ _ _ (fillF_byt hv.2.2)) (write_n _ _ _ _) (by have := write_len2 d s (fillF D) 32; omega)⟩
end Go.Proofs.Ytdcflnfdaijpdaa
