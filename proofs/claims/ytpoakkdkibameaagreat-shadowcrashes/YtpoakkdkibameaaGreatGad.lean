/- Blocks of bytes; what piece, layNumber, numberAt and allZero do. What lay and the bytes of a root are. The bytes of a root. What Live, Barrier and Write leave of a disk. What maps.Clone and bytes.Clone do; a store in memory; the calls on it that look at no disk. A store in memory; the calls on it that look at no disk: usable, reach, holds, Get, Put, Drop, Epoch. What holds, Get, Put, Drop and Epoch of a store answer, and what they leave of it. -/
import Derived.Test.YtpoakkdkibameaaGreatGac
import Derived.Laws.Bits64b
import Derived.Test.YtpoakkdkibameaaGreatGab
namespace Go.Proofs.YtpoakkdkibameaaGreat
open Go.RowKit
set_option linter.unusedSimpArgs false
set_option linter.unusedVariables false

/-- The block g holds the bytes zs, and no more. -/
def Blk (w : World) (g : Nat) (zs : List Nat) : Prop := w.heap[g]? = some (.cells (BL zs).toArray 5 (0, 0)) ∧ zs.length ≤ 140737488355328 ∧ ∀ z ∈ zs, z < 256
theorem Blk.frame {w w' : World} {g : Nat} {zs : List Nat} {bs : Nat → Prop} (h : Blk w g zs) (ho : Only bs w w') (hn : ¬ bs g) : Blk w' g zs := by
  have hl : g < w.heap.size := by
    rcases Nat.lt_or_ge g w.heap.size with hlt | hge
    · exact hlt
    · have := h.1; simp [Array.getElem?_eq_none hge] at this
  exact ⟨(ho.block g hl hn).trans h.1, h.2⟩
theorem Blk.lt {w : World} {g : Nat} {zs : List Nat} (h : Blk w g zs) : g < w.heap.size := by
  rcases Nat.lt_or_ge g w.heap.size with hlt | hge
  · exact hlt
  · have := h.1; simp [Array.getElem?_eq_none hge] at this
theorem Blk.cell {w : World} {g : Nat} {zs : List Nat} (h : Blk w g zs) (j : Nat) (hj : j < zs.length) : w.cell? ⟨g, j, none⟩ = some (.int .u8 (zs.getD j 0 : Nat)) := by
  rw [cell_of_row _ _ _ _ _ _ h.1]
  simp [BL, List.getD, hj]
theorem Blk.frozen {w : World} {g : Nat} {zs : List Nat} (h : Blk w g zs) (j : Nat) : w.frozen? ⟨g, j, none⟩ = false := frozen_of_row _ _ _ _ _ h.1
theorem Blk.bytes {w : World} {g : Nat} {zs : List Nat} (h : Blk w g zs) (o n c : Nat) (hn : o + n ≤ zs.length) (hc : n ≤ c) : BytesAt w (.slice (some ⟨g, o, none⟩) n c) ((zs.drop o).take n) := by
  have e : ((zs.drop o).take n).length = n := by rw [List.length_take, List.length_drop]; omega
  refine ⟨.inr ⟨⟨g, o, none⟩, c, by rw [e], by omega, fun j hj => ?_⟩, by have := h.2.1; omega, fun z hz => h.2.2 z (List.mem_of_mem_drop (List.mem_of_mem_take hz))⟩
  rw [e] at hj
  rw [Addr.add_mid, h.cell (o + j) (by omega)]
  have : ((zs.drop o).take n).getD j 0 = zs.getD (o + j) 0 := by
    simp only [List.getD]
    rw [List.getElem?_take_of_lt (by omega), List.getElem?_drop]
  simp only [this]
theorem Blk.all {w : World} {g : Nat} {zs : List Nat} (h : Blk w g zs) (n : Nat) (hn : n = zs.length) : BytesAt w (.slice (some ⟨g, 0, none⟩) n n) zs := by
  have := h.bytes 0 n n (by omega) (Nat.le_refl _)
  rwa [List.drop_zero, hn, List.take_length, ← hn] at this
theorem Blk.fresh {w : World} {g B : Nat} {zs : List Nat} (h : Blk w g zs) (n : Nat) (hn : n = zs.length) (hB : B ≤ g) : Fresh w B (.slice (some ⟨g, 0, none⟩) n n) zs := by
  subst hn
  refine ⟨⟨by rw [BL_length, Nat.mul_one], .inr ⟨g, zs.length, (BL zs).toArray, rfl, hB, h.1, Nat.le_refl _, by have := h.2.1; unfold maxLen; omega, by simp [BL_length], ?_⟩⟩, h.2⟩
  rw [Nat.mul_one, ← BL_length zs, List.take_length]
theorem Blk.new {w : World} {zs : List Nat} (hl : zs.length ≤ 140737488355328) (hz : ∀ z ∈ zs, z < 256) : Blk (w.alloc (.cells (BL zs).toArray 5)) w.heap.size zs := ⟨heap_alloc_new w _, hl, hz⟩
theorem BL_splice (zs ys : List Nat) (o : Nat) : splice (BL zs) o (BL ys) = BL (splice zs o ys) := by
  unfold splice
  rw [BL_append, BL_append, BL_length]
  simp [BL]
theorem splice_lt {zs ys : List Nat} {o : Nat} (hz : ∀ z ∈ zs, z < 256) (hy : ∀ z ∈ ys, z < 256) : ∀ z ∈ splice zs o ys, z < 256 := by
  intro z h
  simp only [splice, List.mem_append] at h
  rcases h with h | h | h
  · exact hz z (List.mem_of_mem_take h)
  · exact hy z h
  · exact hz z (List.mem_of_mem_drop h)
theorem Blk.spliced {w w' : World} {g o : Nat} {zs ys : List Nat} (h : Blk w g zs) (hy : ∀ z ∈ ys, z < 256) (ho : o + ys.length ≤ zs.length) (hg : w'.heap[g]? = some (.cells (splice (BL zs) o (BL ys)).toArray 5 (0, 0))) : Blk w' g (splice zs o ys) := by
  rw [BL_splice] at hg
  exact ⟨hg, by rw [length_splice _ _ _ ho]; exact h.2.1, splice_lt h.2.2 hy⟩
theorem zeros_made (n : Nat) : madeCells (Value.int .u8 0).cells n = (BL (List.replicate n 0)).toArray := by
  apply Array.ext_getElem?
  intro i
  by_cases h : i < n
  · simp [madeCells, h, BL, Value.cells, Nat.mod_one]
  · rw [Array.getElem?_eq_none (by simp [madeCells]; omega), Array.getElem?_eq_none (by simp [BL]; omega)]
/-- make of n bytes. -/
theorem make_blk (n : Nat) (hn : n ≤ 140737488355328) (w : World) : (Instr.makeSlice 37 (.int .i64 n) (.int .i64 n)).run Tryz.prog w = .ok (.slice (some ⟨w.heap.size, 0, none⟩) n n) (w.alloc (.cells (BL (List.replicate n 0)).toArray 5)) := by
  rw [← zeros_made]
  exact make23 n hn w
theorem blk_zeros (n : Nat) (hn : n ≤ 140737488355328) (w : World) : Blk (w.alloc (.cells (BL (List.replicate n 0)).toArray 5)) w.heap.size (List.replicate n 0) :=
  Blk.new (by simpa using hn) (fun z h => by rw [List.eq_of_mem_replicate h]; omega)

set_option maxHeartbeats 400000 in
theorem piece_pos (g o n c p s : Nat) (w : World) (h : p + s ≤ c) (hs : 0 < s) (hc : p + s ≤ 140737488355328) :
    Calls Tryz.prog 110 #[.slice (some ⟨g, o, none⟩) n c, .int .i64 p, .int .i64 s] w fun e w' => e = .returned (.slice (some ⟨g, o + p, none⟩) s s) ∧ w' = w := by
  have e1 : IntKind.i64.wrap ((p : Int) + (s : Int)) = (p : Int) + (s : Int) := by rw [IntKind.wrap_i64]; omega
  have e2 : (0 : Int) ≤ (p : Int) := by omega
  have e3 : (p : Int) ≤ (p : Int) + (s : Int) := by omega
  have e4 : (p : Int) + (s : Int) ≤ (c : Int) := by omega
  have e5 : ((p : Int) + (s : Int) - (p : Int)).toNat = s := by omega
  go_enter Tryz.func110, Tryz.ntmps110
  go_wp2
  go_ret
  exact ⟨by simp, rfl⟩
set_option maxHeartbeats 400000 in
theorem piece_zero (a : Option Addr) (n c p : Nat) (w : World) (h : p ≤ c) (hc : p ≤ 140737488355328) :
    Calls Tryz.prog 110 #[.slice a n c, .int .i64 p, .int .i64 0] w fun e w' => e = .returned (.slice a 0 0) ∧ w' = w := by
  have e1 : IntKind.i64.wrap ((p : Int) + 0) = (p : Int) := by rw [IntKind.wrap_i64]; omega
  have e2 : (0 : Int) ≤ (p : Int) := by omega
  have e4 : (p : Int) ≤ (c : Int) := by omega
  go_enter Tryz.func110, Tryz.ntmps110
  go_wp2
  go_ret
  exact ⟨by simp, rfl⟩

theorem build4 (a b c d : Int) (w : World) : (Instr.buildSlice 37 4 #[(0, .int .u8 a), (1, .int .u8 b), (2, .int .u8 c), (3, .int .u8 d)]).run Tryz.prog w = .ok (.slice (some ⟨w.heap.size, 0, none⟩) 4 4) (w.alloc (.cells #[.int .u8 a, .int .u8 b, .int .u8 c, .int .u8 d] 5)) := by kernel_rfl
theorem size5 : (Tryz.prog.info? 5).map (·.size) = some 1 := by kernel_rfl
theorem BL4 (x : Nat) : BL (lay4 x) = [.int .u8 ((x % 256 : Nat) : Int), .int .u8 ((x / 256 % 256 : Nat) : Int), .int .u8 ((x / 65536 % 256 : Nat) : Int), .int .u8 ((x / 16777216 % 256 : Nat) : Int)] := rfl
theorem Below.only {w w' : World} {B : Nat} (h : Below B w w') : Only (fun i => B ≤ i) w w' := ⟨h.os, h.tape, h.output, h.size, fun k hk hn => h.block k (by omega)⟩
end Go.Proofs.YtpoakkdkibameaaGreat
namespace Go.Proofs.YtpoakkdkibameaaGreat
open Go.RowKit
set_option linter.unusedSimpArgs false
set_option linter.unusedVariables false

/-- The k lowest bytes of a number, the lowest first. -/
def layB (x k : Nat) : List Nat := (List.range k).map fun j => x / 2 ^ (8 * j) % 256
theorem layB_length (x k : Nat) : (layB x k).length = k := by simp [layB]
theorem layB_lt (x k : Nat) : ∀ z ∈ layB x k, z < 256 := by
  intro z hz
  simp only [layB, List.mem_map] at hz
  obtain ⟨j, _, rfl⟩ := hz
  exact Nat.mod_lt _ (by omega)
theorem layB_succ (x k : Nat) : layB x (k + 1) = layB x k ++ [x / 2 ^ (8 * k) % 256] := by simp [layB, List.range_succ]
theorem Blk.set {w : World} {g : Nat} {zs : List Nat} (h : Blk w g zs) (i q : Nat) (hq : q < 256) : Blk (w.setCell ⟨g, i, none⟩ (.int .u8 (q : Nat))) g (zs.set i q) := by
  refine ⟨?_, by rw [List.length_set]; exact h.2.1, fun z hz => ?_⟩
  · rw [heap_setCell_same w g i _ _ _ h.1]
    congr 2
    simp [BL, List.map_set]
  · rcases List.mem_or_eq_of_mem_set hz with hz | rfl
    · exact h.2.2 z hz
    · exact hq
theorem splice_snoc (zs ys : List Nat) (o q : Nat) (h : o + ys.length < zs.length) : (splice zs o ys).set (o + ys.length) q = splice zs o (ys ++ [q]) := by
  have e1 : (zs.take o).length = o := by rw [List.length_take]; omega
  have e2 : zs.drop (o + ys.length) = zs.getD (o + ys.length) 0 :: zs.drop (o + (ys ++ [q]).length) := by
    rw [List.drop_eq_getElem_cons h]
    simp [List.getD, h, Nat.add_assoc]
  unfold splice
  rw [e2, List.set_append_right _ _ (by omega), List.set_append_right _ _ (by omega), e1]
  simp
theorem splice_nil (zs : List Nat) (o : Nat) : splice zs o [] = zs := by simp [splice]

set_option maxRecDepth 100000 in
set_option maxHeartbeats 1000000 in
/-- A number is laid into bytes. -/
theorem slay_any (g o k c x : Nat) (zs : List Nat) (w : World) (h : Blk w g zs) (hp : o + k ≤ zs.length) (hk : k ≤ 8) (hx : x < 18446744073709551616) :
    Calls Tryz.prog 89 #[.slice (some ⟨g, o, none⟩) k c, .int .u64 x] w fun e w' => e = .returned (.tuple #[]) ∧ Blk w' g (splice zs o (layB x k)) ∧ Only (fun i => i = g) w w' ∧ w'.heap.size = w.heap.size := by
  have HP : Hid (Blk w g zs) := h
  go_enter Tryz.func89, Tryz.ntmps89
  clear h
  go_wp2
  go_loopw [7] (fun t wr => ∃ j : Nat, j ≤ k ∧ t = .int .i64 j ∧ Blk wr g (splice zs o (layB x j)) ∧ Only (fun i => i = g) w wr ∧ wr.heap.size = w.heap.size) (fun t _ => k - (intOf t).toNat)
  case atStart => exact ⟨0, by omega, rfl, by rw [show layB x 0 = [] from rfl, splice_nil]; exact HP.out, Only.refl _ _, rfl⟩
  case round =>
    obtain ⟨j, hj, rfl, hb, ho, hsz⟩ := hrel
    obtain ⟨w2, rfl⟩ : ∃ w2, w2 = wr := ⟨_, rfl⟩
    have HO : Hid (Only (fun i => i = g) w w2) := ho
    have HB : Hid (Blk w2 g (splice zs o (layB x j))) := hb
    have HS : Hid (w2.heap.size = w.heap.size) := hsz
    clear HP hb ho hsz
    by_cases hlt : j < k
    · have k1 : (j : Int) < k := by omega
      have k0 : (0 : Int) ≤ (j : Int) := by omega
      have hm8 : IntKind.i64.wrap (8 * (j : Int)) = 8 * (j : Int) := by rw [IntKind.wrap_i64]; omega
      obtain ⟨s, hs⟩ : ∃ s, s = 8 * j := ⟨_, rfl⟩
      have hs8 : 8 * (j : Int) = (s : Int) := by omega
      rw [hs8] at hm8
      have s1 : (s : Int) < 64 := by omega
      have s0 : (0 : Int) ≤ (s : Int) := by omega
      have HT : Hid _ := layB_succ x j
      rw [← hs] at HT
      obtain ⟨y, hy⟩ : ∃ y, y = x / 2 ^ s := ⟨_, rfl⟩
      have hyi : (x : Int) / 2 ^ s = (y : Nat) := by rw [hy]; simp
      obtain ⟨q, hq⟩ : ∃ q, q = y % 256 := ⟨_, rfl⟩
      have hqi : (y : Int) % 256 = (q : Nat) := by omega
      have hq2 : q < 256 := by omega
      rw [← hy, ← hq] at HT
      have hl : (splice zs o (layB x j)).length = zs.length := length_splice _ _ _ (by rw [layB_length]; omega)
      have hc := HB.out.cell (o + j) (by rw [hl]; omega)
      have hf := HB.out.frozen (o + j)
      have HN : Hid (Blk (w2.setCell ⟨g, o + j, none⟩ (.int .u8 (q : Nat))) g (splice zs o (layB x (j + 1)))) := by
        have := HB.out.set (o + j) q hq2
        have e := splice_snoc zs (layB x j) o q (by rw [layB_length]; omega)
        rw [layB_length] at e
        rw [e, ← HT.out] at this
        exact this
      have HN2 : Hid (Only (fun i => i = g) w (w2.setCell ⟨g, o + j, none⟩ (.int .u8 (q : Nat)))) := HO.out.setCell _ _ (fun _ => rfl)
      have HS2 : Hid ((w2.setCell ⟨g, o + j, none⟩ (.int .u8 (q : Nat))).heap.size = w.heap.size) := (by rw [← HS.out]; simp [World.setCell] : _ = _)
      clear HB HO HS HT hl hy hq hs hj
      go_wp2
      go_roundw
      case rel => exact ⟨j + 1, by omega, by go_num, HN.out, HN2.out, HS2.out⟩
      case measure => simp [intOf]; omega
    · have e : j = k := by omega
      subst e
      have k1 : ¬ (j : Int) < j := by omega
      go_wp2
      go_end0
      exact ⟨rfl, HB.out, HO.out, HS.out⟩
end Go.Proofs.YtpoakkdkibameaaGreat
namespace Go.Proofs.YtpoakkdkibameaaGreat
open Go.RowKit
set_option linter.unusedSimpArgs false
set_option linter.unusedVariables false

/-- A root's sector. -/
def rootB (x f c : Nat) : List Nat := layB x 8 ++ (layB f 4 ++ (layB c 4 ++ (List.replicate 8 0 ++ layB x 8)))
theorem rootB_length (x f c : Nat) : (rootB x f c).length = 32 := by simp [rootB, layB_length]
theorem rootB_lt (x f c : Nat) : ∀ z ∈ rootB x f c, z < 256 := by
  intro z hz
  simp only [rootB, List.mem_append, List.mem_replicate] at hz
  rcases hz with h | h | h | h | h
  · exact layB_lt _ _ z h
  · exact layB_lt _ _ z h
  · exact layB_lt _ _ z h
  · omega
  · exact layB_lt _ _ z h
theorem list8 {l : List Nat} (h : l.length = 8) : ∃ a b c d e f g i, l = [a, b, c, d, e, f, g, i] := by
  match l, h with
  | [a, b, c, d, e, f, g, i], _ => exact ⟨a, b, c, d, e, f, g, i, rfl⟩
theorem list4 {l : List Nat} (h : l.length = 4) : ∃ a b c d, l = [a, b, c, d] := by
  match l, h with
  | [a, b, c, d], _ => exact ⟨a, b, c, d, rfl⟩
theorem rootB_splice (x f c : Nat) : splice (splice (splice (splice (List.replicate 32 0) 0 (layB x 8)) 8 (layB f 4)) 12 (layB c 4)) 24 (layB x 8) = rootB x f c := by
  obtain ⟨a0, a1, a2, a3, a4, a5, a6, a7, ha⟩ := list8 (layB_length x 8)
  obtain ⟨b0, b1, b2, b3, hb⟩ := list4 (layB_length f 4)
  obtain ⟨c0, c1, c2, c3, hc⟩ := list4 (layB_length c 4)
  simp only [rootB, ha, hb, hc]
  rfl
theorem slay_hid (g o k c x : Nat) (zs : List Nat) (w : World) (h : Blk w g zs) (hp : o + k ≤ zs.length) (hk : k ≤ 8) (hx : x < 18446744073709551616) :
    Calls Tryz.prog 89 #[.slice (some ⟨g, o, none⟩) k c, .int .u64 x] w fun e w' => e = .returned (.tuple #[]) ∧ Hid (Blk w' g (splice zs o (layB x k)) ∧ Only (fun i => i = g) w w' ∧ w'.heap.size = w.heap.size) :=
  (slay_any g o k c x zs w h hp hk hx).mono fun _ _ h => h

set_option maxRecDepth 100000 in
set_option maxHeartbeats 4000000 in
theorem rootbytes_any (x f c : Nat) (w : World) (hx : x < 18446744073709551616) (hf : f < 4294967296) (hc : c < 4294967296) :
    Calls Tryz.prog 52 #[.agg #[.int .u64 x, .int .u32 f, .int .u32 c]] w fun e w' => e = .returned (.slice (some ⟨w.heap.size + 1, 0, none⟩) 32 32) ∧ Blk w' (w.heap.size + 1) (rootB x f c) ∧ Only (fun _ => False) w w' := by
  obtain ⟨Z, hZ⟩ : ∃ Z, Z = (BL (List.replicate 32 0)).toArray := ⟨_, rfl⟩
  have hmk : ∀ w, (Instr.makeSlice 37 (.int .i64 32) (.int .i64 32)).run Tryz.prog w = .ok (.slice (some ⟨w.heap.size, 0, none⟩) 32 32) (w.alloc (.cells Z 5)) := fun w => by rw [hZ]; exact make_blk 32 (by omega) w
  obtain ⟨wa, hwa⟩ : ∃ q, q = w.alloc (.cells #[.int .u64 x, .int .u32 f, .int .u32 c] 105) := ⟨_, rfl⟩
  obtain ⟨wx, hwx⟩ : ∃ q, q = wa.alloc (.cells Z 5) := ⟨_, rfl⟩
  obtain ⟨N, hN⟩ : ∃ q, q = w.heap.size := ⟨_, rfl⟩
  have oa : Only (fun _ => False) w wa := by rw [hwa]; exact (Only.refl _ w).alloc _
  have ox : Only (fun _ => False) wa wx := by rw [hwx]; exact (Only.refl _ wa).alloc _
  have sa : wa.heap.size = N + 1 := by rw [hwa, hN]; simp
  have ba : wa.heap[N]? = some (.cells #[.int .u64 x, .int .u32 f, .int .u32 c] 105 (0, 0)) := by rw [hwa, hN]; exact heap_alloc_new w _
  have bx : wx.heap[N]? = some (.cells #[.int .u64 x, .int .u32 f, .int .u32 c] 105 (0, 0)) := by rw [ox.block N (by omega) (fun e => e)]; exact ba
  have x0 : wx.cell? ⟨N, 0, none⟩ = some (.int .u64 x) := by rw [cell_of_row _ _ _ _ _ _ bx]; rfl
  have x1 : wx.cell? ⟨N, 1, none⟩ = some (.int .u32 f) := by rw [cell_of_row _ _ _ _ _ _ bx]; rfl
  have x2 : wx.cell? ⟨N, 2, none⟩ = some (.int .u32 c) := by rw [cell_of_row _ _ _ _ _ _ bx]; rfl
  have HB0 : Hid (Blk wx (N + 1) (List.replicate 32 0)) := by rw [hwx, hZ, ← sa]; exact blk_zeros 32 (by omega) wa
  have HP0 : Hid (Only (fun i => i = N + 1) w wx) := (oa.trans ox (fun _ _ e => e)).mono (fun _ _ e => e.elim)
  have HW : Hid (wx = (w.alloc (.cells #[.int .u64 x, .int .u32 f, .int .u32 c] 105)).alloc (.cells Z 5)) := (by rw [hwx, hwa] : _ = _)
  have HN : Hid (N = w.heap.size) := hN
  have HA : Hid (wa = w.alloc (.cells #[.int .u64 x, .int .u32 f, .int .u32 c] 105)) := hwa
  have hf64 : IntKind.u64.wrap (f : Int) = (f : Int) := by rw [IntKind.wrap_u64]; omega
  have hc64 : IntKind.u64.wrap (c : Int) = (c : Int) := by rw [IntKind.wrap_u64]; omega
  have HX0 : Hid _ := x0
  have HX1 : Hid _ := x1
  have HX2 : Hid _ := x2
  have HC0 : Hid (Calls Tryz.prog 89 _ _ _) := slay_hid (N + 1) 0 8 32 x _ wx.drew HB0.out (by simp) (by omega) hx
  clear hZ hwx hwa oa ox sa ba bx hN x1 x2
  go_enter Tryz.func52, Tryz.ntmps52
  go_wp2_with fail
  rw [← HW.out, ← HN.out]
  clear hmk
  go_region_held3 (fun w' => w'.cell? ⟨N, 0, none⟩ = some (.int .u64 x)) (first | exact (HK0.out.2.1.cell HX0.out (by simp)) | go_keep)
    (first
      | (go_at_call 89; refine (show Calls Tryz.prog 89 _ _ _ from HC0.out).mono ?_; rintro e w1 ⟨rfl, HK0⟩))
  clear HC0 x0
  have HP1 : Hid (Only (fun i => i = N + 1) w w1) := (HP0.out.drew).trans HK0.out.2.1 (fun _ _ e => e)
  have HY10 : Hid (w1.cell? ⟨N, 0, none⟩ = some (.int .u64 x)) := HK0.out.2.1.cell HX0.out (by simp)
  have HY11 : Hid (w1.cell? ⟨N, 1, none⟩ = some (.int .u32 f)) := HK0.out.2.1.cell HX1.out (by simp)
  have HY12 : Hid (w1.cell? ⟨N, 2, none⟩ = some (.int .u32 c)) := HK0.out.2.1.cell HX2.out (by simp)
  clear HX0 HX1 HX2
  rename Hid (w1.cell? ⟨N, 0, none⟩ = some (.int .u64 x)) => HX0
  rename Hid (w1.cell? ⟨N, 1, none⟩ = some (.int .u32 f)) => HX1
  rename Hid (w1.cell? ⟨N, 2, none⟩ = some (.int .u32 c)) => HX2
  have x1 := HX1.out
  have HC1 : Hid (Calls Tryz.prog 89 _ _ _) := slay_hid (N + 1) 8 4 24 f _ w1.drew HK0.out.1 (by rw [length_splice, List.length_replicate] <;> simp [layB_length]) (by omega) (by omega)
  go_wp2_with fail
  go_region_held3 (fun w' => w'.cell? ⟨N, 1, none⟩ = some (.int .u32 f)) (first | exact (HK1.out.2.1.cell HX1.out (by simp)) | go_keep)
    (first
      | (go_at_call 89; refine (show Calls Tryz.prog 89 _ _ _ from HC1.out).mono ?_; rintro e w2 ⟨rfl, HK1⟩))
  clear HC1 x1
  have HP2 : Hid (Only (fun i => i = N + 1) w w2) := (HP1.out.drew).trans HK1.out.2.1 (fun _ _ e => e)
  have HY20 : Hid (w2.cell? ⟨N, 0, none⟩ = some (.int .u64 x)) := HK1.out.2.1.cell HX0.out (by simp)
  have HY21 : Hid (w2.cell? ⟨N, 1, none⟩ = some (.int .u32 f)) := HK1.out.2.1.cell HX1.out (by simp)
  have HY22 : Hid (w2.cell? ⟨N, 2, none⟩ = some (.int .u32 c)) := HK1.out.2.1.cell HX2.out (by simp)
  clear HX0 HX1 HX2
  rename Hid (w2.cell? ⟨N, 0, none⟩ = some (.int .u64 x)) => HX0
  rename Hid (w2.cell? ⟨N, 1, none⟩ = some (.int .u32 f)) => HX1
  rename Hid (w2.cell? ⟨N, 2, none⟩ = some (.int .u32 c)) => HX2
  have x2 := HX2.out
  have HC2 : Hid (Calls Tryz.prog 89 _ _ _) := slay_hid (N + 1) 12 4 20 c _ w2.drew HK1.out.1 (by simp [splice, layB_length]) (by omega) (by omega)
  go_wp2_with fail
  go_region_held3 (fun w' => w'.cell? ⟨N, 2, none⟩ = some (.int .u32 c)) (first | exact (HK2.out.2.1.cell HX2.out (by simp)) | go_keep)
    (first
      | (go_at_call 89; refine (show Calls Tryz.prog 89 _ _ _ from HC2.out).mono ?_; rintro e w3 ⟨rfl, HK2⟩))
  clear HC2 x2
  have HP3 : Hid (Only (fun i => i = N + 1) w w3) := (HP2.out.drew).trans HK2.out.2.1 (fun _ _ e => e)
  have HY30 : Hid (w3.cell? ⟨N, 0, none⟩ = some (.int .u64 x)) := HK2.out.2.1.cell HX0.out (by simp)
  have HY31 : Hid (w3.cell? ⟨N, 1, none⟩ = some (.int .u32 f)) := HK2.out.2.1.cell HX1.out (by simp)
  have HY32 : Hid (w3.cell? ⟨N, 2, none⟩ = some (.int .u32 c)) := HK2.out.2.1.cell HX2.out (by simp)
  clear HX0 HX1 HX2
  rename Hid (w3.cell? ⟨N, 0, none⟩ = some (.int .u64 x)) => HX0
  rename Hid (w3.cell? ⟨N, 1, none⟩ = some (.int .u32 f)) => HX1
  rename Hid (w3.cell? ⟨N, 2, none⟩ = some (.int .u32 c)) => HX2
  have x0 := HX0.out
  have HC3 : Hid (Calls Tryz.prog 89 _ _ _) := slay_hid (N + 1) 24 8 8 x _ w3.drew HK2.out.1 (by simp [splice, layB_length]) (by omega) (by omega)
  go_wp2_with fail
  go_region_held3 (fun w' => w'.cell? ⟨N, 0, none⟩ = some (.int .u64 x)) (first | exact (HK3.out.2.1.cell HX0.out (by simp)) | go_keep)
    (first
      | (go_at_call 89; refine (show Calls Tryz.prog 89 _ _ _ from HC3.out).mono ?_; rintro e w4 ⟨rfl, HK3⟩))
  clear HC3 x0
  have HP4 : Hid (Only (fun i => i = N + 1) w w4) := (HP3.out.drew).trans HK3.out.2.1 (fun _ _ e => e)
  go_wp2
  go_ret
  refine ⟨by rw [← HN.out]; rfl, ?_, ?_⟩
  · rw [← HN.out]
    have := HK3.out.1
    rw [rootB_splice] at this
    exact this
  · exact HP4.out.mono (fun i hi e => by have := HN.out; omega)
end Go.Proofs.YtpoakkdkibameaaGreat
namespace Go.Proofs.YtpoakkdkibameaaGreat
open Go.RowKit
set_option linter.unusedSimpArgs false
set_option linter.unusedVariables false

theorem info4 : (Tryz.prog.info? 4).map (fun i => (i.zero, i.size, i.bytes)) = some (some (.bool false), 1, 1) := by kernel_rfl
def allL (n : Nat) (sec : Nat → Nat → Int) : List Value := (List.range (n * 32)).map fun k => .int .u8 (sec (k / 32) (k % 32))
theorem allL_length (n : Nat) (sec : Nat → Nat → Int) : (allL n sec).length = n * 32 := by simp [allL]
theorem allL_get (n : Nat) (sec : Nat → Nat → Int) (i j : Nat) (hi : i < n) (hj : j < 32) : (allL n sec)[i * 32 + j]? = some (.int .u8 (sec i j)) := by
  have h1 : i * 32 + j < n * 32 := by omega
  have h2 : (i * 32 + j) / 32 = i := by omega
  have h3 : (i * 32 + j) % 32 = j := by omega
  simp [allL, h1, h2, h3]
theorem allL_one (n : Nat) (sec : Nat → Nat → Int) : ∀ v ∈ allL n sec, v.oneCell' = true := by
  intro v hv
  simp only [allL, List.mem_map] at hv
  obtain ⟨k, _, rfl⟩ := hv
  rfl
theorem wrsL_one (l : List Wr) : ∀ v ∈ wrsL l, v.oneCell' = true := by
  intro v hv
  simp only [wrsL, List.mem_flatMap] at hv
  obtain ⟨x, _, hx⟩ := hv
  exact wrL_one _ _ _ v hx

theorem ownsRow_base {w : World} {B B' e size n : Nat} {v : Value} {xs : List Value} (h : w.ownsRow B e size v n xs) (hb : B' ≤ B) : w.ownsRow B' e size v n xs := by
  refine ⟨h.1, h.2.imp id ?_⟩
  rintro ⟨g, cap, cur, h1, h2, rest⟩
  exact ⟨g, cap, cur, h1, by omega, rest⟩


set_option maxHeartbeats 400000 in
theorem live_any (p S B : Nat) (pv : Value) (d : DS) (n : Int) (w : World) (h : DiskAt w B p S pv d) (h1 : -1 ≤ n) (h2 : n ≤ 9223372036854775807) :
    Calls Tryz.prog 17 #[.pointer (some ⟨p, 0, none⟩), .int .i64 n] w fun e w' => e = .returned (.int .i64 0) ∧ DiskAt w' B p S pv { d with life := n } ∧ Only (fun i => i = p) w w' := by
  refine (live_ok p _ n w h1 h.c2 h.f2).mono ?_
  rintro e w' ⟨rfl, rfl⟩
  have oP : Only (fun i => i = p) w (w.setCell ⟨p, 2, none⟩ (.int .i64 n)) := (Only.refl (fun i => i = p) w).setCell _ _ (fun _ => rfl)
  have hSp : S ≠ p := Ne.symm h.pS
  obtain ⟨c, hc⟩ := h.c0
  refine ⟨rfl, ?_, oP⟩
  exact { pB := h.pB, SB := h.SB, pS := h.pS
          c0 := ⟨c, by rw [World.cell?_setCell_other _ _ _ _ (by simp)]; exact hc⟩
          c1 := by rw [World.cell?_setCell_other _ _ _ _ (by simp)]; exact h.c1
          c2 := World.cell?_setCell_same _ _ _ h.c2
          f1 := by simpa using h.f1
          f2 := by simpa using h.f2
          secs := fun i hi => ⟨oP.range (h.secs i hi).1 hSp, oP.there (h.secs i hi).2 hSp⟩
          own := oP.owns h.own (fun k hk e => h.hp (by rw [hk, e]))
          hp := h.hp, hS := h.hS, n1 := h.n1, n2 := h.n2, at_ := h.at_, l1 := h1, l2 := h2 }

theorem barred {W W' : World} {B p S : Nat} {pv : Value} {d : DS} (h : DiskAt W B p S pv d) (l : Int) (hl1 : -1 ≤ l) (hl2 : l ≤ 9223372036854775807) (oP : Only (fun i => i = p) W W') (e0 : ∀ v, W.cell? ⟨p, 0, none⟩ = some v → W'.cell? ⟨p, 0, none⟩ = some v)
    (e1 : W'.cell? ⟨p, 1, none⟩ = some (.slice none 0 0)) (e2 : W'.cell? ⟨p, 2, none⟩ = some (.int .i64 l)) (f : ∀ a, W'.frozen? a = W.frozen? a) : DiskAt W' B p S (.slice none 0 0) { d with pend := [], life := l } := by
  have hSp : S ≠ p := Ne.symm h.pS
  obtain ⟨c, hc⟩ := h.c0
  exact { pB := h.pB, SB := h.SB, pS := h.pS
          c0 := ⟨c, e0 _ hc⟩
          c1 := e1
          c2 := e2
          f1 := (f _).trans h.f1
          f2 := (f _).trans h.f2
          secs := fun i hi => ⟨oP.range (h.secs i hi).1 hSp, oP.there (h.secs i hi).2 hSp⟩
          own := World.ownsRow_nil _ _ _ _
          hp := by simp [Value.ownBlock]
          hS := by simp [Value.ownBlock]
          n1 := h.n1, n2 := h.n2
          at_ := fun x hx => by cases hx
          l1 := hl1, l2 := hl2 }
/-- Barrier on a disk that lives. -/
theorem barrier_any (p S B : Nat) (pv : Value) (d : DS) (w : World) (h : DiskAt w B p S pv d) (hl : d.life ≠ 0) :
    Calls Tryz.prog 81 #[.pointer (some ⟨p, 0, none⟩)] w fun e w' => e = .returned (.int .i64 0) ∧ DiskAt w' B p S (.slice none 0 0) { d with pend := [], life := aged d.life } ∧ Only (fun i => i = p) w w' := by
  have h1 := h.l1
  have h2 := h.l2
  by_cases e : d.life = -1
  · refine (barrier_end p _ w h.c1 h.f1 (by rw [← e]; exact h.c2)).mono ?_
    rintro e' w' ⟨rfl, rfl⟩
    have oP : Only (fun i => i = p) w (w.setCell ⟨p, 1, none⟩ (.slice none 0 0)) := (Only.refl (fun i => i = p) w).setCell _ _ (fun _ => rfl)
    refine ⟨rfl, barred h _ (by simp [aged, e]) (by simp [aged, e]) oP (fun v hv => by rw [World.cell?_setCell_other _ _ _ _ (by simp)]; exact hv) (World.cell?_setCell_same _ _ _ h.c1) ?_ (fun a => by simp), oP⟩
    rw [World.cell?_setCell_other _ _ _ _ (by simp), h.c2, e]; rfl
  · refine (barrier_less p _ d.life w h.c1 h.f1 h.c2 h.f2 (by omega) h2).mono ?_
    rintro e' w' ⟨rfl, rfl⟩
    have oP : Only (fun i => i = p) w ((w.setCell ⟨p, 1, none⟩ (.slice none 0 0)).setCell ⟨p, 2, none⟩ (.int .i64 (d.life - 1))) := ((Only.refl (fun i => i = p) w).setCell _ _ (fun _ => rfl)).setCell _ _ (fun _ => rfl)
    refine ⟨rfl, barred h _ (by simp only [aged]; split <;> omega) (by simp only [aged]; split <;> omega) oP (fun v hv => by rw [World.cell?_setCell_other _ _ _ _ (by simp), World.cell?_setCell_other _ _ _ _ (by simp)]; exact hv) ?_ ?_ (fun a => by simp), oP⟩
    · rw [World.cell?_setCell_other _ _ _ _ (by simp), World.cell?_setCell_same _ _ _ h.c1]
    · rw [World.cell?_setCell_same _ _ _ ((World.cell?_setCell_other _ _ _ _ (by simp)).trans h.c2)]
      simp [aged, e]

/-- What Write answers, and what it leaves of a disk. -/
def DS.write (d : DS) (k : Int) (f : Nat → Int) (m : Nat) : Int × DS :=
  if m ≠ 32 then (2, d) else if d.life = 0 then (3, d) else if k < 0 ∨ (d.n : Int) ≤ k then (4, d)
  else (0, { d with sec := upd d.sec k.toNat f, pend := d.pend ++ [⟨k.toNat, d.sec k.toNat, f⟩], life := aged d.life })
theorem write_all (p S m c B : Nat) (a : Option Addr) (pv : Value) (d : DS) (k : Int) (f : Nat → Int) (w : World) (h : DiskAt w B p S pv d) (hr : RowAt w (.slice a m c) m 1 (fun j => .int .u8 (f j))) (hB : B ≤ w.heap.size) (hby : (d.pend.length + 1) * 72 ≤ 140737488355328) (hm : m ≤ 140737488351232) :
    Calls Tryz.prog 58 #[.pointer (some ⟨p, 0, none⟩), .int .i64 k, .slice a m c] w fun e w' => e = .returned (.int .i64 (d.write k f m).1) ∧ ∃ pv', DiskAt w' B p S pv' (d.write k f m).2 ∧ Only (diskB p S pv) w w' ∧ (∀ b, pv'.ownBlock = some b → pv.ownBlock = some b ∨ w.heap.size ≤ b) := by
  have same : ∀ (x : Int) (e : Ending) (w' : World), d.write k f m = (x, d) → e = .returned (.int .i64 x) ∧ w' = w → e = .returned (.int .i64 (d.write k f m).1) ∧ ∃ pv', DiskAt w' B p S pv' (d.write k f m).2 ∧ Only (diskB p S pv) w w' ∧ (∀ b, pv'.ownBlock = some b → pv.ownBlock = some b ∨ w.heap.size ≤ b) := by
    rintro x e w' hw ⟨rfl, rfl⟩
    rw [hw]
    exact ⟨rfl, pv, h, Only.refl _ _, fun b hb => .inl hb⟩
  obtain ⟨c0, hc0⟩ := h.c0
  by_cases e1 : m = 32
  · subst e1
    by_cases e2 : d.life = 0
    · refine (write_dead p c a k w (by rw [← e2]; exact h.c2)).mono fun e w' hh => same 3 e w' (by simp [DS.write, e2]) hh
    · by_cases e3 : k < 0 ∨ (d.n : Int) ≤ k
      · refine (write_out p S d.n c0 c a d.life k w hc0 h.c2 (by simpa using e2) e3).mono fun e w' hh => same 4 e w' (by simp [DS.write, e2, e3]) hh
      · obtain ⟨g, o, c', hv, hcell, hg⟩ := hr.at (by omega)
        simp only [Value.slice.injEq] at hv
        obtain ⟨rfl, _, rfl⟩ := hv
        have hk : k = (k.toNat : Int) := by omega
        have hrange : w.rangeAt g o (secL f) := fun j v hv => by
          have hj : j < 32 := by have := (List.getElem?_eq_some_iff.1 hv).1; rwa [secL_length] at this
          rw [secL_get _ _ hj] at hv
          rw [hcell j (by omega)]; exact hv
        have hwr : d.write k f 32 = (0, { d with sec := upd d.sec k.toNat f, pend := d.pend ++ [⟨k.toNat, d.sec k.toNat, f⟩], life := aged d.life }) := by simp [DS.write, e2, e3]
        rw [hwr]
        have := write_ok p S k.toNat g o c B pv d f w h e2 (by omega) hrange hB hby
        rw [← hk] at this
        exact this
  · refine (write_len _ k a m c w (by simp; omega)).mono fun e w' hh => same 2 e w' (by simp [DS.write, e1]) hh
end Go.Proofs.YtpoakkdkibameaaGreat
namespace Go.Proofs.YtpoakkdkibameaaGreat
open Go.RowKit Go.Maps
set_option linter.unusedSimpArgs false
set_option linter.unusedVariables false

section
variable {P : Program} (w : World)
/-- A map held against nil. -/
theorem equalIn_map_nil (d : Nat) (t k e : TypeId) (p : Option Nat) (h : P.underlying t = some (.map k e)) :
    (Op.equalIn (d + 1) t (.map p) (.map none)).run P w = .ok p.isNone w := by
  cases p <;> simp [Op.equalIn, run_underlying h]
theorem eql_map_nil (t k e : TypeId) (p : Option Nat) (h : P.underlying t = some (.map k e)) :
    (binOp .eql t (.map p) (.map none)).run P w = .ok (.bool p.isNone) w := by
  simp only [binOp]
  simp [show Op.equal t (.map p) (.map none) = Op.equalIn (9999 + 1) t (.map p) (.map none) from rfl, equalIn_map_nil w 9999 t k e p h]
/-- A type assertion to a map type that it is. -/
theorem typeAssert_map (t xT k e : TypeId) (v : Value) (h : P.underlying t = some (.map k e)) : (Instr.typeAssert (.iface t v) xT t false).run P w = .ok v w := by
  simp [Instr.typeAssert, run_underlying h, go_sem, Result.andThen]
theorem run_clone {r : Nat} {es : Array MapEntry} {clock : Nat} (t : TypeId) (hb : w.heap[r]? = some (.map es clock)) :
    (Extern.MapsClone.clone #[.iface t (.map (some r))]).run P w = .ok (.iface t (.map (some w.heap.size))) (w.alloc (.map es clock)) := by
  obtain ⟨bad, e⟩ : ∃ bad : Sem Value, Extern.MapsClone.clone #[.iface t (.map (some r))] = (getObj r >>= fun o => match o with
      | .map entries clock => (newObj (.map entries clock) >>= fun n => pure (.iface t (.map (some n))))
      | _ => bad) := ⟨_, rfl⟩
  rw [e]
  simp [MapKept.run_getObj_map hb, Result.andThen, go_sem]
end

set_option maxRecDepth 100000 in
set_option maxHeartbeats 2000000 in
theorem mclone_raw (b : Nat) (es : Array MapEntry) (clock : Nat) (w : World) (hb : w.heap[b]? = some (.map es clock)) :
    Calls Tryz.prog 83 #[.map (some b)] w fun e w' => e = .returned (.map (some w.heap.size)) ∧ w' = w.alloc (.map es clock) := by
  have hq := fun w => eql_map_nil (P := Tryz.prog) w 87 _ _ (some b) Tryz.underlying87
  go_enter Tryz.func83, Tryz.ntmps83
  go_wp2
  rw [run_callFunc_extern Tryz.func112 (by kernel_rfl) (by kernel_rfl) (by kernel_rfl) (e := Extern.MapsClone.clone) (by kernel_rfl), run_clone w 87 hb]
  simp only [Result.andThen]
  rw [Oper.upon_value]
  go_wp2
  rw [typeAssert_map _ 87 20 _ _ _ Tryz.underlying87]
  simp only [Result.andThen]
  rw [Oper.upon_value]
  go_wp2
  go_ret
  exact ⟨rfl, rfl⟩
theorem mclone_any (b : Nat) (l : List (Int × Value)) (w : World) (h : MapAt w b l) :
    Calls Tryz.prog 83 #[.map (some b)] w fun e w' => e = .returned (.map (some w.heap.size)) ∧ MapAt w' w.heap.size l ∧ Only (fun _ => False) w w' ∧ w'.heap.size = w.heap.size + 1 := by
  obtain ⟨es, clock, hb, F, hs, hD⟩ := h.own
  refine (mclone_raw b es clock w hb).mono ?_
  rintro e w' ⟨rfl, rfl⟩
  exact ⟨rfl, ⟨⟨es, clock, (MapKept.heap_alloc w _).1, F, hs, hD⟩, h.rise⟩, (Only.refl _ w).alloc _, by simp⟩

theorem eql_slice_nil {a : Option Addr} {n c : Nat} (w : World) : (binOp .eql 37 (.slice a n c) (.slice none 0 0)).run Tryz.prog w = .ok (.bool a.isNone) w := by
  cases a <;> kernel_rfl
set_option maxRecDepth 100000 in
set_option maxHeartbeats 2000000 in
/-- Bytes are cloned. -/
theorem bclone_any (v : Value) (zs : List Nat) (w : World) (h : BytesAt w v zs) :
    Calls Tryz.prog 54 #[v] w fun e w' => ∃ u, e = .returned u ∧ Fresh w' w.heap.size u zs ∧ Only (fun _ => False) w w' := by
  obtain ⟨i0, hi0, hz0, hz1, hz2⟩ := info_parts info5
  obtain ⟨a, cap, w', hr, own, ho⟩ := app_copy 37 5 i0 _ 1 Tryz.underlying37 hi0 hz0 hz1 hz2 rfl rfl w v zs.length _ h.1 (fun j => rfl) h.2.1
  rw [← BL_getD] at own
  have HR : Hid _ := hr
  have HF : Hid (Fresh w' w.heap.size (.slice a zs.length cap) zs) := ⟨own, h.2⟩
  have HO : Hid (Only (fun _ => False) w w') := ho
  have hem := empty23
  rcases h.1 with ⟨rfl, h0⟩ | ⟨ad, c, rfl, _, _⟩
  · have hn : zs = [] := List.eq_nil_of_length_eq_zero h0
    subst hn
    clear hr own ho h HR HF HO hem
    have hq := fun w => eql_slice_nil (a := none) (n := 0) (c := 0) w
    go_enter Tryz.func54, Tryz.ntmps54
    go_wp2
    go_ret
    exact ⟨_, rfl, ⟨World.ownsRow_nil _ _ _ _, by simp, fun z hz => by cases hz⟩, Only.refl _ _⟩
  · clear hr own ho h
    have hq := fun w => eql_slice_nil (a := some ad) (n := zs.length) (c := c) w
    go_enter Tryz.func54, Tryz.ntmps54
    go_wp2_with (at_builtin; refine wpList_append_run rfl _ _ 37 rfl _ _ (.slice a zs.length cap) rfl rfl HR.out ?_)
    go_ret
    exact ⟨_, rfl, HF.out, HO.out⟩
end Go.Proofs.YtpoakkdkibameaaGreat
namespace Go.Proofs.YtpoakkdkibameaaGreat
open Go.RowKit Go.Maps
set_option linter.unusedSimpArgs false
set_option linter.unusedVariables false

theorem RowAt.keep {W W' : World} {v : Value} {k size : Nat} {f : Nat → Value} {bs : Nat → Prop} (h : RowAt W v k size f) (ho : Only bs W W') (hn : ∀ b, v.ownBlock = some b → ¬ bs b) : RowAt W' v k size f := by
  rcases h with h | ⟨ad, c, hv, hkc, hc⟩
  · exact .inl h
  · exact .inr ⟨ad, c, hv, hkc, fun j hj => ho.cell (hc j hj) (hn _ (by rw [hv]; simp only [Value.ownBlock, Addr.add]; repeat' split <;> rfl))⟩
theorem BytesAt.keep {W W' : World} {v : Value} {zs : List Nat} {bs : Nat → Prop} (h : BytesAt W v zs) (ho : Only bs W W') (hn : ∀ b, v.ownBlock = some b → ¬ bs b) : BytesAt W' v zs := ⟨h.1.keep ho hn, h.2⟩

/-- Logical pages: number, page of the disk (0: nowhere), data. -/
abbrev Pgs := List (Int × Nat × List Nat)
/-- A store. -/
structure SS where
  size : Nat
  epoch : Nat
  sector : Nat
  tabs : List Nat
  com : Pgs
  now : Pgs

/-- A page's value: where it lies, and the slice of its data. -/
def pgV (sl : Int → Value) (p : Int × Nat × List Nat) : Value := .agg #[.int .i64 (p.2.1 : Nat), sl p.1]
/-- The map m holds the pages l; their data lie in blocks that av leaves out. -/
def PMap (w : World) (av : Nat → Prop) (m : Nat) (l : Pgs) : Prop :=
  ∃ sl : Int → Value, MapAt w m (l.map fun p => (p.1, pgV sl p)) ∧ ∀ p ∈ l, BytesAt w (sl p.1) p.2.2 ∧ ∀ b, (sl p.1).ownBlock = some b → b < w.heap.size ∧ ¬ av b

theorem PMap.rise {w : World} {av : Nat → Prop} {m : Nat} {l : Pgs} (h : PMap w av m l) : Rise l := by
  obtain ⟨sl, h, _⟩ := h
  exact (Rise.map _).1 h.rise
theorem PMap.lt {w : World} {av : Nat → Prop} {m : Nat} {l : Pgs} (h : PMap w av m l) : m < w.heap.size := by
  obtain ⟨sl, h, _⟩ := h
  exact h.lt
theorem PMap.frame {w w' : World} {av av' bs : Nat → Prop} {m : Nat} {l : Pgs} (h : PMap w av m l) (ho : Only bs w w') (hm : ¬ bs m) (hb : ∀ k, k < w.heap.size → bs k → av k) (ha : ∀ k, k < w.heap.size → av' k → av k) : PMap w' av' m l := by
  obtain ⟨sl, h1, h2⟩ := h
  refine ⟨sl, h1.frame ho hm, fun p hp => ?_⟩
  obtain ⟨h3, h4⟩ := h2 p hp
  refine ⟨h3.keep ho (fun b hb' e => (h4 b hb').2 (hb b (h4 b hb').1 e)), fun b hb' => ⟨Nat.lt_of_lt_of_le (h4 b hb').1 ho.size, fun e => (h4 b hb').2 (ha b (h4 b hb').1 e)⟩⟩

/-- The blocks of a store and of its disk that calls turn. -/
def mutB (dk : Nat → Prop) (s mc mn : Nat) : Nat → Prop := fun k => k = s ∨ k = mc ∨ k = mn ∨ dk k

/-- What a store keeps to. -/
structure SS.Wf (x : SS) : Prop where
  size : 3 ≤ x.size ∧ x.size ≤ 2048
  epoch : x.epoch < 18446744073709551616
  sector : x.sector = 0 ∨ x.sector = 4
  tabs : x.tabs.length ≤ 2048 ∧ ∀ t ∈ x.tabs, 2 ≤ t ∧ t < x.size
  com : ∀ p ∈ x.com, (0 ≤ p.1 ∧ p.1 < 728) ∧ (2 ≤ p.2.1 ∧ p.2.1 < x.size) ∧ p.2.2.length ≤ 116
  now : ∀ p ∈ x.now, (0 ≤ p.1 ∧ p.1 < 728) ∧ (p.2.1 = 0 ∨ 2 ≤ p.2.1 ∧ p.2.1 < x.size) ∧ p.2.2.length ≤ 116

def stL (p : Nat) (x : SS) (tv : Value) (mc mn : Nat) : List Value :=
  [.pointer (some ⟨p, 0, none⟩), .int .i64 (x.size : Nat), .int .u64 (x.epoch : Nat), .int .i64 (x.sector : Nat), tv, .map (some mc), .map (some mn)]

/-- The store x lies at block s, over the disk at p; its maps at mc and mn, its tables behind tv. -/
structure StAt (w : World) (dk : Nat → Prop) (s p mc mn : Nat) (tv : Value) (x : SS) : Prop where
  cells : w.rangeAt s 0 (stL p x tv mc mn)
  there : w.there s 0 7
  d1 : s ≠ mc
  d2 : s ≠ mn
  d3 : mc ≠ mn
  k1 : ¬ dk s
  k2 : ¬ dk mc
  k3 : ¬ dk mn
  tabs : RowAt w tv x.tabs.length 1 (fun j => .int .i64 (x.tabs.getD j 0 : Nat))
  tabsB : ∀ b, tv.ownBlock = some b → b < w.heap.size ∧ ¬ mutB dk s mc mn b
  com : PMap w (mutB dk s mc mn) mc x.com
  now : PMap w (mutB dk s mc mn) mn x.now
  wf : x.Wf

theorem StAt.lt {w : World} {dk : Nat → Prop} {s p mc mn : Nat} {tv : Value} {x : SS} (h : StAt w dk s p mc mn tv x) : s < w.heap.size :=
  World.block_lt_of_cell? w _ (h.cells 0 _ rfl)
/-- Calls on the disk, and whatever makes new memory, leave a store as it is. -/
theorem StAt.frame {w w' : World} {dk dk' bs : Nat → Prop} {s p mc mn : Nat} {tv : Value} {x : SS} (h : StAt w dk s p mc mn tv x) (ho : Only bs w w') (hb : ∀ k, k < w.heap.size → bs k → dk k) (hd : ∀ k, k < w.heap.size → dk' k → dk k) : StAt w' dk' s p mc mn tv x := by
  have hs := h.lt
  have hmc := h.com.lt
  have hmn := h.now.lt
  have ns : ¬ bs s := fun e => h.k1 (hb _ hs e)
  have nc : ¬ bs mc := fun e => h.k2 (hb _ hmc e)
  have nn : ¬ bs mn := fun e => h.k3 (hb _ hmn e)
  have ha : ∀ k, k < w.heap.size → mutB dk' s mc mn k → mutB dk s mc mn k := by
    rintro k hk (e | e | e | e)
    · exact .inl e
    · exact .inr (.inl e)
    · exact .inr (.inr (.inl e))
    · exact .inr (.inr (.inr (hd k hk e)))
  have hb' : ∀ k, k < w.heap.size → bs k → mutB dk s mc mn k := fun k hk e => .inr (.inr (.inr (hb k hk e)))
  exact { cells := ho.range h.cells ns, there := ho.there h.there ns, d1 := h.d1, d2 := h.d2, d3 := h.d3
          k1 := fun e => h.k1 (hd _ hs e), k2 := fun e => h.k2 (hd _ hmc e), k3 := fun e => h.k3 (hd _ hmn e)
          tabs := h.tabs.keep ho (fun b e e' => (h.tabsB b e).2 (hb' b (h.tabsB b e).1 e'))
          tabsB := fun b e => ⟨Nat.lt_of_lt_of_le (h.tabsB b e).1 ho.size, fun e' => (h.tabsB b e).2 (ha b (h.tabsB b e).1 e')⟩
          com := h.com.frame ho nc hb' ha, now := h.now.frame ho nn hb' ha, wf := h.wf }

set_option maxRecDepth 100000 in
set_option maxHeartbeats 400000 in
theorem usable_nil (w : World) : Calls Tryz.prog 39 #[.pointer none] w fun e w' => e = .returned (.int .i64 2) ∧ w' = w := by
  go_enter Tryz.func39, Tryz.ntmps39
  go_wp2
  go_ret
  exact ⟨rfl, rfl⟩
set_option maxRecDepth 100000 in
set_option maxHeartbeats 400000 in
theorem usable_dead (s : Nat) (w : World) (h : w.cell? ⟨s, 0, none⟩ = some (.pointer none)) : Calls Tryz.prog 39 #[.pointer (some ⟨s, 0, none⟩)] w fun e w' => e = .returned (.int .i64 3) ∧ w' = w := by
  go_enter Tryz.func39, Tryz.ntmps39
  go_wp2
  go_ret
  exact ⟨rfl, rfl⟩
set_option maxRecDepth 100000 in
set_option maxHeartbeats 400000 in
theorem usable_ok (s p : Nat) (w : World) (h : w.cell? ⟨s, 0, none⟩ = some (.pointer (some ⟨p, 0, none⟩))) : Calls Tryz.prog 39 #[.pointer (some ⟨s, 0, none⟩)] w fun e w' => e = .returned (.int .i64 0) ∧ w' = w := by
  go_enter Tryz.func39, Tryz.ntmps39
  go_wp2
  go_ret
  exact ⟨rfl, rfl⟩
set_option maxRecDepth 100000 in
set_option maxHeartbeats 400000 in
theorem sreach_nil (i : Int) (w : World) : Calls Tryz.prog 53 #[.pointer none, .int .i64 i] w fun e w' => e = .returned (.int .i64 2) ∧ w' = w := by
  go_enter Tryz.func53, Tryz.ntmps53
  go_wp2_with (go_at_call 39; refine (usable_nil _).mono ?_; rintro e w' ⟨rfl, rfl⟩)
  go_ret
  exact ⟨rfl, rfl⟩
set_option maxRecDepth 100000 in
set_option maxHeartbeats 400000 in
theorem sreach_out (s p : Nat) (i : Int) (w : World) (h : w.cell? ⟨s, 0, none⟩ = some (.pointer (some ⟨p, 0, none⟩))) (hi : i < 0 ∨ 728 ≤ i) : Calls Tryz.prog 53 #[.pointer (some ⟨s, 0, none⟩), .int .i64 i] w fun e w' => e = .returned (.int .i64 4) ∧ w' = w := by
  have HU := usable_ok s p w h
  clear h
  by_cases h1 : i < 0
  · go_enter Tryz.func53, Tryz.ntmps53
    go_wp2_with (go_at_call 39; refine HU.mono ?_; rintro e w' ⟨rfl, rfl⟩)
    go_ret
    exact ⟨rfl, rfl⟩
  · have h2 : 728 ≤ i := by omega
    have h3 : decide (i < 0) = false := by simpa using h1
    go_enter Tryz.func53, Tryz.ntmps53
    go_wp2_with (go_at_call 39; refine HU.mono ?_; rintro e w' ⟨rfl, rfl⟩)
    go_ret
    exact ⟨rfl, rfl⟩
set_option maxRecDepth 100000 in
set_option maxHeartbeats 400000 in
theorem sreach_ok (s p : Nat) (i : Int) (w : World) (h : w.cell? ⟨s, 0, none⟩ = some (.pointer (some ⟨p, 0, none⟩))) (hi : 0 ≤ i ∧ i < 728) : Calls Tryz.prog 53 #[.pointer (some ⟨s, 0, none⟩), .int .i64 i] w fun e w' => e = .returned (.int .i64 0) ∧ w' = w := by
  have HU := usable_ok s p w h
  clear h
  have h1 : ¬ i < 0 := by omega
  have h3 : decide (i < 0) = false := by simpa using h1
  have h2 : ¬ 728 ≤ i := by omega
  go_enter Tryz.func53, Tryz.ntmps53
  go_wp2_with (go_at_call 39; refine HU.mono ?_; rintro e w' ⟨rfl, rfl⟩)
  go_ret
  exact ⟨rfl, rfl⟩
end Go.Proofs.YtpoakkdkibameaaGreat
namespace Go.Proofs.YtpoakkdkibameaaGreat
open Go.RowKit Go.Maps
set_option linter.unusedSimpArgs false
set_option linter.unusedVariables false

section
variable {w : World} {dk : Nat → Prop} {s p mc mn : Nat} {tv : Value} {x : SS}
theorem StAt.c0 (h : StAt w dk s p mc mn tv x) : w.cell? ⟨s, 0, none⟩ = some (.pointer (some ⟨p, 0, none⟩)) := h.cells 0 _ rfl
theorem StAt.c1 (h : StAt w dk s p mc mn tv x) : w.cell? ⟨s, 1, none⟩ = some (.int .i64 (x.size : Nat)) := h.cells 1 _ rfl
theorem StAt.c2 (h : StAt w dk s p mc mn tv x) : w.cell? ⟨s, 2, none⟩ = some (.int .u64 (x.epoch : Nat)) := h.cells 2 _ rfl
theorem StAt.c3 (h : StAt w dk s p mc mn tv x) : w.cell? ⟨s, 3, none⟩ = some (.int .i64 (x.sector : Nat)) := h.cells 3 _ rfl
theorem StAt.c4 (h : StAt w dk s p mc mn tv x) : w.cell? ⟨s, 4, none⟩ = some tv := h.cells 4 _ rfl
theorem StAt.c5 (h : StAt w dk s p mc mn tv x) : w.cell? ⟨s, 5, none⟩ = some (.map (some mc)) := h.cells 5 _ rfl
theorem StAt.c6 (h : StAt w dk s p mc mn tv x) : w.cell? ⟨s, 6, none⟩ = some (.map (some mn)) := h.cells 6 _ rfl
theorem StAt.fz (h : StAt w dk s p mc mn tv x) (j : Nat) (hj : j < 7) : w.frozen? ⟨s, j, none⟩ = false := by
  have := (h.there j hj).2
  rwa [Nat.zero_add] at this
end
theorem field_at (a : Int) (ad : Option Addr) (n c : Nat) (w : World) : (Instr.field 108 (.agg #[.int .i64 a, .slice ad n c]) 0).run Tryz.prog w = .ok (.int .i64 a) w := by kernel_rfl
theorem field_data (a : Int) (ad : Option Addr) (n c : Nat) (w : World) : (Instr.field 108 (.agg #[.int .i64 a, .slice ad n c]) 1).run Tryz.prog w = .ok (.slice ad n c) w := by kernel_rfl
/-- The page of a number. -/
def pgAt (l : Pgs) (k : Int) : Option (Nat × List Nat) := getL l k

set_option maxRecDepth 100000 in
set_option maxHeartbeats 400000 in
theorem holds_nil (i : Int) (w : World) : Calls Tryz.prog 55 #[.pointer none, .int .i64 i] w fun e w' => e = .returned (.int .i64 2) ∧ w' = w := by
  go_enter Tryz.func55, Tryz.ntmps55
  go_wp2_with (go_at_call 53; refine (sreach_nil _ _).mono ?_; rintro e w' ⟨rfl, rfl⟩)
  go_ret
  exact ⟨rfl, rfl⟩
set_option maxRecDepth 100000 in
set_option maxHeartbeats 400000 in
theorem holds_out (s p : Nat) (i : Int) (w : World) (h : w.cell? ⟨s, 0, none⟩ = some (.pointer (some ⟨p, 0, none⟩))) (hi : i < 0 ∨ 728 ≤ i) : Calls Tryz.prog 55 #[.pointer (some ⟨s, 0, none⟩), .int .i64 i] w fun e w' => e = .returned (.int .i64 4) ∧ w' = w := by
  have HR := sreach_out s p i w h hi
  clear h
  go_enter Tryz.func55, Tryz.ntmps55
  go_wp2_with (go_at_call 53; refine HR.mono ?_; rintro e w' ⟨rfl, rfl⟩)
  go_ret
  exact ⟨rfl, rfl⟩
set_option maxRecDepth 100000 in
set_option maxHeartbeats 1000000 in
theorem holds_core (s p mn : Nat) (i : Int) (w : World) (a : Int) (sl : Value) (b : Bool) (h : w.cell? ⟨s, 0, none⟩ = some (.pointer (some ⟨p, 0, none⟩))) (h6 : w.cell? ⟨s, 6, none⟩ = some (.map (some mn))) (hi : 0 ≤ i ∧ i < 728) (hsl : ∃ ad n c, sl = .slice ad n c)
    (hl : (Instr.lookup 87 (.map (some mn)) (.int .i64 i) true).run Tryz.prog w = .ok (.tuple #[.agg #[.int .i64 a, sl], .bool b]) w) :
    Calls Tryz.prog 55 #[.pointer (some ⟨s, 0, none⟩), .int .i64 i] w fun e w' => e = .returned (.int .i64 (if b then 0 else 6)) ∧ Only (fun _ => False) w w' := by
  have HR := sreach_ok s p i w h hi
  obtain ⟨ad, n, c, rfl⟩ := hsl
  clear h
  cases b
  · go_enter Tryz.func55, Tryz.ntmps55
    go_wp2_with (go_at_call 53; refine HR.mono ?_; rintro e w' ⟨rfl, rfl⟩)
    go_ret
    exact ⟨rfl, (Only.refl _ _).alloc _⟩
  · go_enter Tryz.func55, Tryz.ntmps55
    go_wp2_with (go_at_call 53; refine HR.mono ?_; rintro e w' ⟨rfl, rfl⟩)
    go_ret
    exact ⟨rfl, (Only.refl _ _).alloc _⟩
/-- What a look into a map of pages gives. -/
theorem PMap.look {w : World} {av : Nat → Prop} {m : Nat} {l : Pgs} (h : PMap w av m l) (i : Int) (hi : 0 ≤ i ∧ i < 728) :
    ∃ (a : Nat) (sl : Value) (zs : List Nat), (Instr.lookup 87 (.map (some m)) (.int .i64 i) true).run Tryz.prog w = .ok (.tuple #[.agg #[.int .i64 (a : Nat), sl], .bool (pgAt l i).isSome]) w ∧
      (Instr.lookup 87 (.map (some m)) (.int .i64 i) false).run Tryz.prog w = .ok (.agg #[.int .i64 (a : Nat), sl]) w ∧ BytesAt w sl zs ∧ (pgAt l i).getD (0, []) = (a, zs) := by
  obtain ⟨sl, h1, h2⟩ := h
  have e1 := h1.look i (by omega)
  have e2 := h1.look1 i (by omega)
  rw [getL_map] at e1 e2
  cases hf : l.find? fun p => p.1 == i with
  | none =>
    rw [hf] at e1 e2
    refine ⟨0, .slice none 0 0, [], ?_, e2, ⟨.inl ⟨rfl, rfl⟩, by simp, fun z hz => by cases hz⟩, by simp [pgAt, getL, hf]⟩
    rw [e1]
    simp [pgAt, getL, hf, pg0]
  | some q =>
    obtain ⟨hq1, hq2⟩ := find_key hf
    rw [hf] at e1 e2
    refine ⟨q.2.1, sl q.1, q.2.2, ?_, e2, (h2 q hq1).1, by simp [pgAt, getL, hf]⟩
    rw [e1]
    simp [pgAt, getL, hf, pgV]
theorem bytes_slice {w : World} {v : Value} {zs : List Nat} (h : BytesAt w v zs) : ∃ ad n c, v = .slice ad n c := by
  obtain ⟨a, c, h, _⟩ := h.form
  exact ⟨_, _, _, h⟩

section
variable {w : World} {dk : Nat → Prop} {s p mc mn : Nat} {tv : Value} {x : SS}
theorem holds_st (h : StAt w dk s p mc mn tv x) (i : Int) (hi : 0 ≤ i ∧ i < 728) :
    Calls Tryz.prog 55 #[.pointer (some ⟨s, 0, none⟩), .int .i64 i] w fun e w' => e = .returned (.int .i64 (if (pgAt x.now i).isSome then 0 else 6)) ∧ Only (fun _ => False) w w' := by
  obtain ⟨a, sl, zs, h1, _, h3, _⟩ := h.now.look i hi
  exact holds_core s p mn i w a sl _ h.c0 h.c6 hi (bytes_slice h3) h1
theorem StAt.still {w' : World} (h : StAt w dk s p mc mn tv x) (ho : Only (fun _ => False) w w') : StAt w' dk s p mc mn tv x := h.frame ho (fun _ _ e => e.elim) (fun _ _ e => e)
set_option maxRecDepth 100000 in
set_option maxHeartbeats 1000000 in
theorem get_some (h : StAt w dk s p mc mn tv x) (i : Int) (hi : 0 ≤ i ∧ i < 728) {a : Nat} {zs : List Nat} (hg : pgAt x.now i = some (a, zs)) :
    Calls Tryz.prog 26 #[.pointer (some ⟨s, 0, none⟩), .int .i64 i] w fun e w' => ∃ u, e = .returned (.tuple #[u, .int .i64 0]) ∧ Fresh w' w.heap.size u zs ∧ Only (fun _ => False) w w' := by
  have HH := holds_st h i hi
  simp only [hg, Option.isSome_some, ↓reduceIte] at HH
  have HS : Hid (StAt w dk s p mc mn tv x) := h
  have HG : Hid _ := hg
  have HI : Hid _ := hi
  clear h hg hi
  go_enter Tryz.func26, Tryz.ntmps26
  go_wp2_with fail
  refine HH.mono ?_
  rintro e w1 ⟨rfl, ho1⟩
  have h1 := HS.out.still ho1
  obtain ⟨a', sl, zs', _, hl, hb, he⟩ := h1.now.look i HI.out
  rw [HG.out] at he
  simp only [Option.getD_some, Prod.mk.injEq] at he
  obtain ⟨rfl, rfl⟩ := he
  obtain ⟨ad, n, c, rfl⟩ := bytes_slice hb
  have h6 := h1.c6
  have hfd := field_data (a : Int) ad n c w1
  have HC : Hid (Calls Tryz.prog 54 _ _ _) := bclone_any _ _ w1 hb
  have HO1 : Hid (Only (fun _ => False) w w1) := ho1
  clear h1 hb HH ho1
  go_wp2_with (go_at_call 54; refine (show Calls Tryz.prog 54 _ _ _ from HC.out).mono ?_; rintro e w2 ⟨u, rfl, hf2, ho2⟩)
  have HF : Hid (Fresh w2 w1.heap.size u zs) := hf2
  have HO2 : Hid (Only (fun _ => False) w1 w2) := ho2
  clear hf2 ho2
  try go_wp2
  go_ret2
  refine ⟨_, rfl, ?_, HO1.out.trans HO2.out (fun _ _ e => e)⟩
  have hs := HO1.out.size
  exact ⟨by
    refine ⟨HF.out.1.1, HF.out.1.2.imp id ?_⟩
    rintro ⟨g, cap, cur, e1, e2, r⟩
    exact ⟨g, cap, cur, e1, by omega, r⟩, HF.out.2⟩
set_option maxRecDepth 100000 in
set_option maxHeartbeats 1000000 in
theorem get_none (h : StAt w dk s p mc mn tv x) (i : Int) (hi : 0 ≤ i ∧ i < 728) (hg : pgAt x.now i = none) :
    Calls Tryz.prog 26 #[.pointer (some ⟨s, 0, none⟩), .int .i64 i] w fun e w' => e = .returned (.tuple #[.slice none 0 0, .int .i64 6]) ∧ Only (fun _ => False) w w' := by
  have HH := holds_st h i hi
  simp only [hg, Option.isSome_none, Bool.false_eq_true, ↓reduceIte] at HH
  clear h hg hi
  go_enter Tryz.func26, Tryz.ntmps26
  go_wp2_with fail
  refine HH.mono ?_
  rintro e w1 ⟨rfl, ho1⟩
  have HO : Hid _ := ho1
  clear HH ho1
  go_wp2
  go_ret2
  exact ⟨rfl, HO.out⟩
set_option maxRecDepth 100000 in
set_option maxHeartbeats 1000000 in
theorem get_out (h : StAt w dk s p mc mn tv x) (i : Int) (hi : i < 0 ∨ 728 ≤ i) :
    Calls Tryz.prog 26 #[.pointer (some ⟨s, 0, none⟩), .int .i64 i] w fun e w' => e = .returned (.tuple #[.slice none 0 0, .int .i64 4]) ∧ w' = w := by
  have HH := holds_out s p i w h.c0 hi
  clear h hi
  go_enter Tryz.func26, Tryz.ntmps26
  go_wp2_with (go_at_call 55; refine HH.mono ?_; rintro e w' ⟨rfl, rfl⟩)
  go_ret2
  exact ⟨rfl, rfl⟩
end
end Go.Proofs.YtpoakkdkibameaaGreat
