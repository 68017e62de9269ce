import Derived.Test.YtlcglapcmdpkfaaGreatP1
namespace Go.Proofs.YtlcglapcmdpkfaaGreat
open Go.RowKit
set_option linter.unusedSimpArgs false
set_option linter.unusedVariables false
set_option maxRecDepth 100000 in
set_option maxHeartbeats 1000000 in
theorem laynum_any (g n c p x : Nat) (zs : List Nat) (w : World) (h : Blk w g zs) (hp : p + 4 ≤ zs.length) (hc : zs.length ≤ c) (hc2 : c ≤ 140737488355328) (hx : x < 4294967296) :
  Calls Tryz.prog 125 #[.slice (some ⟨g, 0, none⟩) n c, .int .i64 p, .int .u32 x] w fun e w' => e = .returned (.tuple #[]) ∧ Blk w' g (splice zs p (lay4 x)) ∧ Only (fun i => g ≤ i) w w' := by
 have hb := build4 ((x % 256 : Nat) : Int) ((x / 256 % 256 : Nat) : Int) ((x / 65536 % 256 : Nat) : Int) ((x / 16777216 % 256 : Nat) : Int)
 obtain ⟨x0, h0⟩ : ∃ y, y = x % 256 := ⟨_, rfl⟩
 obtain ⟨x1, h1⟩ : ∃ y, y = x / 256 % 256 := ⟨_, rfl⟩
 obtain ⟨x2, h2⟩ : ∃ y, y = x / 65536 % 256 := ⟨_, rfl⟩
 obtain ⟨x3, h3⟩ : ∃ y, y = x / 16777216 % 256 := ⟨_, rfl⟩
 have c0 : (x : Int) % 256 = (x0 : Int) := by omega
 have c1 : (x : Int) / 256 % 256 = (x1 : Int) := by omega
 have c2 : (x : Int) / 65536 % 256 = (x2 : Int) := by omega
 have c3 : (x : Int) / 16777216 = (x3 : Int) := by omega
 rw [← h0, ← h1, ← h2, ← h3] at hb
 have HL : Hid (BL (lay4 x) = [.int .u8 (x0 : Int), .int .u8 (x1 : Int), .int .u8 (x2 : Int), .int .u8 (x3 : Int)]) := (by rw [BL4, ← h0, ← h1, ← h2, ← h3] : _ = _)
 have HB : Hid (Blk w g zs) := h
 have HP := piece_pos g 0 n c p 4 w (by omega) (by omega) (by omega)
 rw [Nat.zero_add] at HP
 clear h h0 h1 h2 h3
 go_enter Tryz.func125, Tryz.ntmps125
 go_wp2_with fail
 refine HP.mono ?_
 rintro e w1 ⟨rfl, rfl⟩
 clear HP
 have o2 : Only (fun _ => False) w1 (w1.alloc (.cells #[.int .u8 (x0 : Int), .int .u8 (x1 : Int), .int .u8 (x2 : Int), .int .u8 (x3 : Int)] 5)) := (Only.refl _ _).alloc _
 have HO2 : Hid (Only (fun _ => False) w1 (w1.alloc (.cells #[.int .u8 (x0 : Int), .int .u8 (x1 : Int), .int .u8 (x2 : Int), .int .u8 (x3 : Int)] 5))) := o2
 have HB2 : Hid (Blk (w1.alloc (.cells #[.int .u8 (x0 : Int), .int .u8 (x1 : Int), .int .u8 (x2 : Int), .int .u8 (x3 : Int)] 5)) g zs) := HB.out.frame o2 (fun e => e)
 have HSRC : Hid (∀ j u, (BL (lay4 x))[j]? = some u → (w1.alloc (.cells #[.int .u8 (x0 : Int), .int .u8 (x1 : Int), .int .u8 (x2 : Int), .int .u8 (x3 : Int)] 5)).cell? ((⟨w1.heap.size, 0, none⟩ : Addr).add j) = some u) := by
  rw [HL.out]
  exact World.news_of_block (heap_alloc_new w1 _)
 clear hb o2
 obtain ⟨Y, hY⟩ : ∃ Y, Y = BL (lay4 x) := ⟨_, rfl⟩
 have HY : Hid (Y = BL (lay4 x)) := hY
 rw [← hY] at HSRC
 have HYL : Hid (Y.length = 4) := (by rw [hY, BL_length, lay4_length] : _ = _)
 clear hY
 go_wp2_with ((refine wpList_copy_splice rfl _ _ 37 37 rfl 5 Tryz.underlying37 size5 _ _ _ _ _ _ rfl rfl g p (BL zs) 5 HB2.out.1 Y HYL.out (fun _ => ⟨rfl, _, rfl, HSRC.out⟩) (by rw [HYL.out, BL_length]; exact hp) (by rw [HY.out]; exact BL_one _) g _ (Below.refl _ _) (Nat.le_refl _) ?_); intro w3 HG3 hB3)
 have HE : Hid (Blk w3 g (splice zs p (lay4 x)) ∧ Only (fun i => g ≤ i) w1 w3) := ⟨Blk.spliced HB2.out (lay4_lt x) (by rw [lay4_length]; exact hp) (by have := HG3.out; rwa [HY.out] at this), (HO2.out.mono (fun _ _ e => e.elim)).trans (Below.only hB3) (fun i hi e => e)⟩
 clear HG3 hB3
 go_end0
 exact ⟨rfl, HE.out⟩
end Go.Proofs.YtlcglapcmdpkfaaGreat
