/- Apart, of lists of bytes: they are marked, grown and looked at, twice. -/
import Derived.Test.YtdcflnfdaijpdabRows
import Derived.WalkKit
import Derived.OwnWalk
import Derived.Deep.RegionHeld3
import Derived.WalkSpells
import Derived.WalkLawsBesides
import Derived.Test.YtdcflnfdaijpdabGrow
import Derived.Test.YtdcflnfdaijpdabRead
namespace Go.Proofs.Ytdcflnfdaijpdab
open Go.RowKit
set_option linter.unusedSimpArgs false
set_option linter.unusedVariables false

theorem infoB5 : (Try.prog.info? 5).map (fun i => (i.zero, i.size, i.bytes)) = some (some (.int .u8 0), 1, 1) := by kernel_rfl
theorem infoB31 : (Try.prog.info? 23).map (fun i => (i.zero, i.size, i.bytes)) = some (some (.slice none 0 0), 1, 24) := by kernel_rfl
set_option maxRecDepth 100000 in
set_option maxHeartbeats 4000000 in
theorem apart_bytes (k : Nat) (xs : Nat → Value) (ns : Nat → Nat) (lv : Value) (w : World) (hlv : Whole w lv k xs) (hlb : ∀ b, lv.ownBlock = some b → ¬ lsB k xs b) (hL : Lists w k xs ns) (hk : k * 24 ≤ 140737488355328) :
    Calls Try.prog 18 #[lv] w fun e w' => e = .returned (.bool true) ∧ Only (lsB k xs) w w' ∧ Th w w' := by
  obtain ⟨i5, hi5, hz50, hz51, hz52⟩ := info_parts infoB5
  obtain ⟨i31, hi31, hz310, hz311, hz312⟩ := info_parts infoB31
  have HLV : Hid (Whole w lv k xs) := hlv
  have HLB : Hid (∀ b, lv.ownBlock = some b → ¬ lsB k xs b) := hlb
  have HL : Hid (Lists w k xs ns) := hL
  obtain ⟨la, lc, hlv'⟩ := hlv.slice
  have hkm : k ≤ 9223372036854775807 := by omega
  subst hlv'
  clear hlv hlb hL
  go_enter Try.func18, Try.ntmps18
  go_wp2_with fail
  go_loopw [3] (fun t wr => ∃ r : Int, (r = 0 ∨ r = 1 ∨ r = 2) ∧ t = .int .i64 r ∧ Only (lsB k xs) w wr ∧ Th w wr) (fun t _ => 2 - (intOf t).toNat)
  case atStart => exact ⟨0, .inl rfl, rfl, Only.refl _ _, Th.refl _⟩
  case round =>
    obtain ⟨r, hr, rfl, ho, ht⟩ := hrel
    obtain ⟨w1, rfl⟩ : ∃ w1, w1 = wr := ⟨_, rfl⟩
    have HO : Hid (Only (lsB k xs) w w1) := ho
    have HT : Hid (Th w w1) := ht
    have HL1 : Hid (Lists w1 k xs ns) := HL.out.next ht ho.size
    have HLV1 : Hid (Whole w1 (.slice la k lc) k xs) := HLV.out.frame ho HLB.out
    clear ho ht
    rcases hr with rfl | rfl | rfl
    · go_wp2_with fail
      go_loopw [4, 5] (fun b t wr => ∃ i : Nat, i ≤ k ∧ t = .int .i64 i ∧ ∃ G, Gr w1 wr k xs ns (fun q => .int .u8 ((q : Int) % 256)) b G i) (fun _ t _ => k - (intOf t).toNat)
      case atStart => exact ⟨0, Nat.zero_le _, rfl, fun _ => .bool true, Gr.start _ _ _ _ _ _⟩
      case round =>
        obtain ⟨i, hi, rfl, G, hG⟩ := hrel
        obtain ⟨w2, rfl⟩ : ∃ w2, w2 = wr := ⟨_, rfl⟩
        obtain ⟨gv, rfl⟩ : ∃ gv, gv = u4 := ⟨_, rfl⟩
        by_cases hlt : i < k
        · have i0 : (0 : Int) ≤ (i : Int) := Int.natCast_nonneg _
          have i1 : (i : Int) < (k : Int) := by omega
          obtain ⟨lg, lo, lc', hv, hcell, _⟩ := HLV1.out.form (by omega)
          simp only [Value.slice.injEq, true_and] at hv
          obtain ⟨rfl, rfl⟩ := hv
          obtain ⟨xa, xc, hxi⟩ := (HL1.out.room i hlt).form
          have HX : Hid (xs i = .slice xa (ns i) xc) := hxi
          have HC : Hid (∀ wr gv G, Gr w1 wr k xs ns (fun q => .int .u8 ((q : Int) % 256)) gv G i → wr.cell? ⟨lg, lo + i, none⟩ = some (.slice xa (ns i) xc)) := fun wr gv G h => by
            rw [← hxi]; exact h.only.cell (hcell i hlt) (HLB.out _ rfl)
          have y0 := HC.out _ _ _ hG
          obtain ⟨nn, hnn⟩ : ∃ nn, nn = ns i := ⟨_, rfl⟩
          have HNN : Hid (nn = ns i) := hnn
          have hmax : nn ≤ 140737488351232 := hnn ▸ HL1.out.max i hlt
          rw [← hnn] at y0 hxi
          have HGM : Hid _ := Gm.start HL1.out hG hlt
          clear hxi hnn hG hcell
          go_wp2_with fail
          go_loopw [8] (fun t wr => ∃ j : Nat, j ≤ nn ∧ t = .int .i64 j ∧ Gm w1 wr k xs ns (fun q => .int .u8 ((q : Int) % 256)) gv G i j) (fun t _ => nn - (intOf t).toNat)
          case atStart => exact ⟨0, Nat.zero_le _, rfl, HGM.out⟩
          case round =>
            clear HGM y0
            obtain ⟨j, hj, rfl, hM⟩ := hrel
            obtain ⟨w3, rfl⟩ : ∃ w3, w3 = wr := ⟨_, rfl⟩
            have y0 := HC.out _ _ _ hM.gr
            rw [← HNN.out] at y0
            by_cases hlj : j < nn
            · have j0 : (0 : Int) ≤ (j : Int) := Int.natCast_nonneg _
              have j1 : (j : Int) < (nn : Int) := by omega
              obtain ⟨xg, xo, xc', hv, hth⟩ := hM.md.1.at_ (by rw [← HNN.out]; omega)
              have hx2 := hv
              rw [HX.out] at hv
              simp only [Value.slice.injEq, true_and] at hv
              obtain ⟨rfl, rfl⟩ := hv
              obtain ⟨yv, z0⟩ := Option.isSome_iff_exists.1 (hth j (by rw [← HNN.out]; omega)).1
              have z1 := (hth j (by rw [← HNN.out]; omega)).2
              have HMM : Hid _ := hM.more HL1.out hlt (by rw [← HNN.out]; omega) hx2
              clear hM hx2 hth
              go_wp2
              go_roundw
              case rel => exact ⟨j + 1, by omega, by go_num, HMM.out⟩
              case measure => simp [intOf]; omega
            · obtain rfl : j = nn := by omega
              have HW : Hid (Gw w1 w3 k xs ns (fun q => .int .u8 ((q : Int) % 256)) gv G i (.slice xa j xc) 0) := by
                have := Gw.start HL1.out (HNN.out ▸ hM) hlt
                rw [HX.out, ← HNN.out] at this
                exact this
              clear hM
              go_wp2_with fail
              go_loopw [7, 9] (fun b t wr => ∃ m : Nat, m ≤ 9 ∧ t = .int .i64 m ∧ Gw w1 wr k xs ns (fun q => .int .u8 ((q : Int) % 256)) gv G i b m) (fun _ t _ => 9 - (intOf t).toNat)
              case atStart => exact ⟨0, Nat.zero_le _, rfl, HW.out⟩
              case round =>
                clear HW y0
                obtain ⟨m, hm, rfl, hW⟩ := hrel
                obtain ⟨w4, rfl⟩ : ∃ w4, w4 = wr := ⟨_, rfl⟩
                obtain ⟨g, rfl⟩ : ∃ g, g = u7 := ⟨_, rfl⟩
                by_cases hlm : m < 9
                · have m0 : (0 : Int) ≤ (m : Int) := Int.natCast_nonneg _
                  have m1 : (m : Int) < 9 := by omega
                  have oA : Only (fun _ => False) w4 (w4.alloc (.cells #[.int .u8 ((i : Int) % 256)] 5)) := (Only.refl _ w4).alloc _
                  have hrow := hW.row.frame oA (fun _ _ e => e)
                  have hns : ns i ≤ 140737488351232 := HNN.out ▸ hmax
                  have HWH : Hid _ := hW
                  clear hW oA
                  go_wp2_with (at_builtin; go_must (refine wpList_append_whole _ rfl _ _ 23 rfl 5 i5 _ 1 Try.underlying23 hi5 hz50 hz51 hz52 rfl _ (ns i + m) _ rfl hrow ⟨w4.heap.size, 0, none⟩ (.int .u8 ((i : Int) % 256)) rfl (by simp) rfl (by unfold maxLen; omega) (by omega) ?_); intro v' w5 hv5 hg5 hb5 ht5)
                  have HW5 : Hid (Gw w1 w5 k xs ns (fun q => .int .u8 ((q : Int) % 256)) gv G i v' (m + 1)) := HWH.out.more _ hlt hv5 hg5 hb5 ht5
                  clear hrow hv5 hg5 hb5 ht5
                  go_wp2
                  go_roundw
                  case rel => exact ⟨m + 1, by omega, by go_num, HW5.out⟩
                  case measure => simp [intOf]; omega
                · obtain rfl : m = 9 := by omega
                  obtain ⟨ga, gc, hgs⟩ := hW.row.slice
                  subst hgs
                  have oA : Only (fun _ => False) w4 (w4.alloc (.cells #[.slice ga (ns i + 9) gc] 23)) := (Only.refl _ w4).alloc _
                  have hrow := hW.gr.row.frame oA (fun _ _ e => e)
                  have HWH : Hid _ := hW
                  clear hW oA
                  go_wp2_with (at_builtin; go_must (refine wpList_append_whole _ rfl _ _ 35 rfl 23 i31 _ 24 Try.underlying35 hi31 hz310 hz311 hz312 rfl _ i _ rfl hrow ⟨w4.heap.size, 0, none⟩ (.slice ga (ns i + 9) gc) rfl (by simp) rfl (by unfold maxLen; omega) (by omega) ?_); intro v' w5 hv5 hg5 hb5 ht5)
                  have HG5 : Hid _ := Gr.more _ HWH.out hv5 hg5 hb5 ht5
                  clear hrow hv5 hg5 hb5 ht5
                  go_wp2
                  go_roundw
                  case rel => exact ⟨i + 1, by omega, by go_num, _, HG5.out⟩
                  case measure => simp [intOf]; omega
        · obtain rfl : i = k := by omega
          obtain ⟨ga, gc, hgs⟩ := hG.row.slice
          subst hgs
          have HG : Hid _ := hG
          clear hG
          go_wp2_with fail
          go_loopw [10] (fun t wr => ∃ q : Nat, q ≤ i ∧ t = .int .i64 q ∧ w2 = wr) (fun t _ => i - (intOf t).toNat)
          case atStart => exact ⟨0, Nat.zero_le _, rfl, rfl⟩
          case round =>
            obtain ⟨q, hq, rfl, rfl⟩ := hrel
            by_cases hlq : q < i
            · have q0 : (0 : Int) ≤ (q : Int) := Int.natCast_nonneg _
              have q1 : (q : Int) < (i : Int) := by omega
              obtain ⟨bg, bo, bc, hv, gg, go, gc', y0, y1⟩ := HG.out.done q hlq
              simp only [Value.slice.injEq, true_and] at hv
              obtain ⟨rfl, rfl⟩ := hv
              obtain ⟨nn, hnn⟩ : ∃ nn, nn = ns q + 9 := ⟨_, rfl⟩
              have hmax : nn ≤ 140737488351250 := by have := HL1.out.max q hlq; omega
              rw [← hnn] at y0 y1
              have Y1 : Hid _ := y1
              clear y1 hnn
              go_wp2_with fail
              go_loopw [11] (fun t wr => ∃ j : Nat, j ≤ nn ∧ t = .int .i64 j ∧ w2 = wr) (fun t _ => nn - (intOf t).toNat)
              case atStart => exact ⟨0, Nat.zero_le _, rfl, rfl⟩
              case round =>
                obtain ⟨j, hj, rfl, rfl⟩ := hrel
                by_cases hlj : j < nn
                · have j0 : (0 : Int) ≤ (j : Int) := Int.natCast_nonneg _
                  have j1 : (j : Int) < (nn : Int) := by omega
                  have y1 := Y1.out j hlj
                  go_wp2
                  go_roundw
                  case rel => exact ⟨j + 1, by omega, by go_num, trivial⟩
                  case measure => simp [intOf]; omega
                · obtain rfl : j = nn := by omega
                  go_wp2
                  go_roundw
                  case rel => exact ⟨q + 1, by omega, by go_num, trivial⟩
                  case measure => simp [intOf]; omega
            · obtain rfl : q = i := by omega
              go_wp2
              go_roundw
              case rel => exact ⟨0 + 1, by decide, by go_num, HO.out.trans HG.out.only (fun _ _ e => e), HT.out.trans HG.out.th⟩
              case measure => simp [intOf]
    · go_wp2_with fail
      go_loopw [4, 5] (fun b t wr => ∃ i : Nat, i ≤ k ∧ t = .int .i64 i ∧ ∃ G, Gr w1 wr k xs ns (fun q => .int .u8 ((q : Int) / 256 % 256)) b G i) (fun _ t _ => k - (intOf t).toNat)
      case atStart => exact ⟨0, Nat.zero_le _, rfl, fun _ => .bool true, Gr.start _ _ _ _ _ _⟩
      case round =>
        obtain ⟨i, hi, rfl, G, hG⟩ := hrel
        obtain ⟨w2, rfl⟩ : ∃ w2, w2 = wr := ⟨_, rfl⟩
        obtain ⟨gv, rfl⟩ : ∃ gv, gv = u4 := ⟨_, rfl⟩
        by_cases hlt : i < k
        · have i0 : (0 : Int) ≤ (i : Int) := Int.natCast_nonneg _
          have i1 : (i : Int) < (k : Int) := by omega
          obtain ⟨lg, lo, lc', hv, hcell, _⟩ := HLV1.out.form (by omega)
          simp only [Value.slice.injEq, true_and] at hv
          obtain ⟨rfl, rfl⟩ := hv
          obtain ⟨xa, xc, hxi⟩ := (HL1.out.room i hlt).form
          have HX : Hid (xs i = .slice xa (ns i) xc) := hxi
          have HC : Hid (∀ wr gv G, Gr w1 wr k xs ns (fun q => .int .u8 ((q : Int) / 256 % 256)) gv G i → wr.cell? ⟨lg, lo + i, none⟩ = some (.slice xa (ns i) xc)) := fun wr gv G h => by
            rw [← hxi]; exact h.only.cell (hcell i hlt) (HLB.out _ rfl)
          have y0 := HC.out _ _ _ hG
          obtain ⟨nn, hnn⟩ : ∃ nn, nn = ns i := ⟨_, rfl⟩
          have HNN : Hid (nn = ns i) := hnn
          have hmax : nn ≤ 140737488351232 := hnn ▸ HL1.out.max i hlt
          rw [← hnn] at y0 hxi
          have HGM : Hid _ := Gm.start HL1.out hG hlt
          clear hxi hnn hG hcell
          go_wp2_with fail
          go_loopw [8] (fun t wr => ∃ j : Nat, j ≤ nn ∧ t = .int .i64 j ∧ Gm w1 wr k xs ns (fun q => .int .u8 ((q : Int) / 256 % 256)) gv G i j) (fun t _ => nn - (intOf t).toNat)
          case atStart => exact ⟨0, Nat.zero_le _, rfl, HGM.out⟩
          case round =>
            clear HGM y0
            obtain ⟨j, hj, rfl, hM⟩ := hrel
            obtain ⟨w3, rfl⟩ : ∃ w3, w3 = wr := ⟨_, rfl⟩
            have y0 := HC.out _ _ _ hM.gr
            rw [← HNN.out] at y0
            by_cases hlj : j < nn
            · have j0 : (0 : Int) ≤ (j : Int) := Int.natCast_nonneg _
              have j1 : (j : Int) < (nn : Int) := by omega
              obtain ⟨xg, xo, xc', hv, hth⟩ := hM.md.1.at_ (by rw [← HNN.out]; omega)
              have hx2 := hv
              rw [HX.out] at hv
              simp only [Value.slice.injEq, true_and] at hv
              obtain ⟨rfl, rfl⟩ := hv
              obtain ⟨yv, z0⟩ := Option.isSome_iff_exists.1 (hth j (by rw [← HNN.out]; omega)).1
              have z1 := (hth j (by rw [← HNN.out]; omega)).2
              have HMM : Hid _ := hM.more HL1.out hlt (by rw [← HNN.out]; omega) hx2
              clear hM hx2 hth
              go_wp2
              go_roundw
              case rel => exact ⟨j + 1, by omega, by go_num, HMM.out⟩
              case measure => simp [intOf]; omega
            · obtain rfl : j = nn := by omega
              have HW : Hid (Gw w1 w3 k xs ns (fun q => .int .u8 ((q : Int) / 256 % 256)) gv G i (.slice xa j xc) 0) := by
                have := Gw.start HL1.out (HNN.out ▸ hM) hlt
                rw [HX.out, ← HNN.out] at this
                exact this
              clear hM
              go_wp2_with fail
              go_loopw [7, 9] (fun b t wr => ∃ m : Nat, m ≤ 9 ∧ t = .int .i64 m ∧ Gw w1 wr k xs ns (fun q => .int .u8 ((q : Int) / 256 % 256)) gv G i b m) (fun _ t _ => 9 - (intOf t).toNat)
              case atStart => exact ⟨0, Nat.zero_le _, rfl, HW.out⟩
              case round =>
                clear HW y0
                obtain ⟨m, hm, rfl, hW⟩ := hrel
                obtain ⟨w4, rfl⟩ : ∃ w4, w4 = wr := ⟨_, rfl⟩
                obtain ⟨g, rfl⟩ : ∃ g, g = u7 := ⟨_, rfl⟩
                by_cases hlm : m < 9
                · have m0 : (0 : Int) ≤ (m : Int) := Int.natCast_nonneg _
                  have m1 : (m : Int) < 9 := by omega
                  have oA : Only (fun _ => False) w4 (w4.alloc (.cells #[.int .u8 ((i : Int) / 256 % 256)] 5)) := (Only.refl _ w4).alloc _
                  have hrow := hW.row.frame oA (fun _ _ e => e)
                  have hns : ns i ≤ 140737488351232 := HNN.out ▸ hmax
                  have HWH : Hid _ := hW
                  clear hW oA
                  go_wp2_with (at_builtin; go_must (refine wpList_append_whole _ rfl _ _ 23 rfl 5 i5 _ 1 Try.underlying23 hi5 hz50 hz51 hz52 rfl _ (ns i + m) _ rfl hrow ⟨w4.heap.size, 0, none⟩ (.int .u8 ((i : Int) / 256 % 256)) rfl (by simp) rfl (by unfold maxLen; omega) (by omega) ?_); intro v' w5 hv5 hg5 hb5 ht5)
                  have HW5 : Hid (Gw w1 w5 k xs ns (fun q => .int .u8 ((q : Int) / 256 % 256)) gv G i v' (m + 1)) := HWH.out.more _ hlt hv5 hg5 hb5 ht5
                  clear hrow hv5 hg5 hb5 ht5
                  go_wp2
                  go_roundw
                  case rel => exact ⟨m + 1, by omega, by go_num, HW5.out⟩
                  case measure => simp [intOf]; omega
                · obtain rfl : m = 9 := by omega
                  obtain ⟨ga, gc, hgs⟩ := hW.row.slice
                  subst hgs
                  have oA : Only (fun _ => False) w4 (w4.alloc (.cells #[.slice ga (ns i + 9) gc] 23)) := (Only.refl _ w4).alloc _
                  have hrow := hW.gr.row.frame oA (fun _ _ e => e)
                  have HWH : Hid _ := hW
                  clear hW oA
                  go_wp2_with (at_builtin; go_must (refine wpList_append_whole _ rfl _ _ 35 rfl 23 i31 _ 24 Try.underlying35 hi31 hz310 hz311 hz312 rfl _ i _ rfl hrow ⟨w4.heap.size, 0, none⟩ (.slice ga (ns i + 9) gc) rfl (by simp) rfl (by unfold maxLen; omega) (by omega) ?_); intro v' w5 hv5 hg5 hb5 ht5)
                  have HG5 : Hid _ := Gr.more _ HWH.out hv5 hg5 hb5 ht5
                  clear hrow hv5 hg5 hb5 ht5
                  go_wp2
                  go_roundw
                  case rel => exact ⟨i + 1, by omega, by go_num, _, HG5.out⟩
                  case measure => simp [intOf]; omega
        · obtain rfl : i = k := by omega
          obtain ⟨ga, gc, hgs⟩ := hG.row.slice
          subst hgs
          have HG : Hid _ := hG
          clear hG
          go_wp2_with fail
          go_loopw [10] (fun t wr => ∃ q : Nat, q ≤ i ∧ t = .int .i64 q ∧ w2 = wr) (fun t _ => i - (intOf t).toNat)
          case atStart => exact ⟨0, Nat.zero_le _, rfl, rfl⟩
          case round =>
            obtain ⟨q, hq, rfl, rfl⟩ := hrel
            by_cases hlq : q < i
            · have q0 : (0 : Int) ≤ (q : Int) := Int.natCast_nonneg _
              have q1 : (q : Int) < (i : Int) := by omega
              obtain ⟨bg, bo, bc, hv, gg, go, gc', y0, y1⟩ := HG.out.done q hlq
              simp only [Value.slice.injEq, true_and] at hv
              obtain ⟨rfl, rfl⟩ := hv
              obtain ⟨nn, hnn⟩ : ∃ nn, nn = ns q + 9 := ⟨_, rfl⟩
              have hmax : nn ≤ 140737488351250 := by have := HL1.out.max q hlq; omega
              rw [← hnn] at y0 y1
              have Y1 : Hid _ := y1
              clear y1 hnn
              go_wp2_with fail
              go_loopw [11] (fun t wr => ∃ j : Nat, j ≤ nn ∧ t = .int .i64 j ∧ w2 = wr) (fun t _ => nn - (intOf t).toNat)
              case atStart => exact ⟨0, Nat.zero_le _, rfl, rfl⟩
              case round =>
                obtain ⟨j, hj, rfl, rfl⟩ := hrel
                by_cases hlj : j < nn
                · have j0 : (0 : Int) ≤ (j : Int) := Int.natCast_nonneg _
                  have j1 : (j : Int) < (nn : Int) := by omega
                  have y1 := Y1.out j hlj
                  go_wp2
                  go_roundw
                  case rel => exact ⟨j + 1, by omega, by go_num, trivial⟩
                  case measure => simp [intOf]; omega
                · obtain rfl : j = nn := by omega
                  go_wp2
                  go_roundw
                  case rel => exact ⟨q + 1, by omega, by go_num, trivial⟩
                  case measure => simp [intOf]; omega
            · obtain rfl : q = i := by omega
              go_wp2
              go_roundw
              case rel => exact ⟨1 + 1, by decide, by go_num, HO.out.trans HG.out.only (fun _ _ e => e), HT.out.trans HG.out.th⟩
              case measure => simp [intOf]
    · go_wp2
      go_ret
      exact ⟨rfl, HO.out, HT.out⟩
end Go.Proofs.Ytdcflnfdaijpdab
