/- Apart, of lists of bytes: they are marked, grown and looked at, twice. A book's Apart: three of its four lists are empty. A map keyed by int: its entries as a list that rises; what a look, a store and a delete do of it. The sum of bytes as numbers: one step of the register, that it is linear and that nothing but 0 comes to 0. What shift answers. What own, Sum, the document's Sum and SameBytes of the same bytes answer. What the document's Sum answers: the same. Slices of bytes cut short, made anew. -/
import Derived.Test.YtpoakkdkibameabRows
import Derived.WalkKit
import Derived.OwnWalk
import Derived.Deep.RegionHeld3
import Derived.WalkSpells
import Derived.WalkLawsBesides
import Derived.Test.YtpoakkdkibameabGaa
import Derived.Maps.OwnSet
import Derived.Maps.Ext
import Derived.MapKept
import Derived.Laws.BitsLemmas
import Derived.Deep.MidRow
import Derived.Deep.AppendLies
import Derived.Deep.DrawnRows
namespace Go.Proofs.Ytpoakkdkibameab
open Go.RowKit
set_option linter.unusedSimpArgs false
set_option linter.unusedVariables false

theorem infoB5 : (Try.prog.info? 5).map (fun i => (i.zero, i.size, i.bytes)) = some (some (.int .u8 0), 1, 1) := by kernel_rfl
theorem infoB31 : (Try.prog.info? 23).map (fun i => (i.zero, i.size, i.bytes)) = some (some (.slice none 0 0), 1, 24) := by kernel_rfl
set_option maxRecDepth 100000 in
set_option maxHeartbeats 4000000 in
theorem apart_bytes (k : Nat) (xs : Nat → Value) (ns : Nat → Nat) (lv : Value) (w : World) (hlv : Whole w lv k xs) (hlb : ∀ b, lv.ownBlock = some b → ¬ lsB k xs b) (hL : Lists w k xs ns) (hk : k * 24 ≤ 140737488355328) :
    Calls Try.prog 25 #[lv] w fun e w' => e = .returned (.bool true) ∧ Only (lsB k xs) w w' ∧ Th w w' := by
  obtain ⟨i5, hi5, hz50, hz51, hz52⟩ := info_parts infoB5
  obtain ⟨i31, hi31, hz310, hz311, hz312⟩ := info_parts infoB31
  have HLV : Hid (Whole w lv k xs) := hlv
  have HLB : Hid (∀ b, lv.ownBlock = some b → ¬ lsB k xs b) := hlb
  have HL : Hid (Lists w k xs ns) := hL
  obtain ⟨la, lc, hlv'⟩ := hlv.slice
  have hkm : k ≤ 9223372036854775807 := by omega
  subst hlv'
  clear hlv hlb hL
  go_enter Try.func25, Try.ntmps25
  go_wp2_with fail
  go_loopw [3] (fun t wr => ∃ r : Int, (r = 0 ∨ r = 1 ∨ r = 2) ∧ t = .int .i64 r ∧ Only (lsB k xs) w wr ∧ Th w wr) (fun t _ => 2 - (intOf t).toNat)
  case atStart => exact ⟨0, .inl rfl, rfl, Only.refl _ _, Th.refl _⟩
  case round =>
    obtain ⟨r, hr, rfl, ho, ht⟩ := hrel
    obtain ⟨w1, rfl⟩ : ∃ w1, w1 = wr := ⟨_, rfl⟩
    have HO : Hid (Only (lsB k xs) w w1) := ho
    have HT : Hid (Th w w1) := ht
    have HL1 : Hid (Lists w1 k xs ns) := HL.out.next ht ho.size
    have HLV1 : Hid (Whole w1 (.slice la k lc) k xs) := HLV.out.frame ho HLB.out
    clear ho ht
    rcases hr with rfl | rfl | rfl
    · go_wp2_with fail
      go_loopw [4, 5] (fun b t wr => ∃ i : Nat, i ≤ k ∧ t = .int .i64 i ∧ ∃ G, Gr w1 wr k xs ns (fun q => .int .u8 ((q : Int) % 256)) b G i) (fun _ t _ => k - (intOf t).toNat)
      case atStart => exact ⟨0, Nat.zero_le _, rfl, fun _ => .bool true, Gr.start _ _ _ _ _ _⟩
      case round =>
        obtain ⟨i, hi, rfl, G, hG⟩ := hrel
        obtain ⟨w2, rfl⟩ : ∃ w2, w2 = wr := ⟨_, rfl⟩
        obtain ⟨gv, rfl⟩ : ∃ gv, gv = u4 := ⟨_, rfl⟩
        by_cases hlt : i < k
        · have i0 : (0 : Int) ≤ (i : Int) := Int.natCast_nonneg _
          have i1 : (i : Int) < (k : Int) := by omega
          obtain ⟨lg, lo, lc', hv, hcell, _⟩ := HLV1.out.form (by omega)
          simp only [Value.slice.injEq, true_and] at hv
          obtain ⟨rfl, rfl⟩ := hv
          obtain ⟨xa, xc, hxi⟩ := (HL1.out.room i hlt).form
          have HX : Hid (xs i = .slice xa (ns i) xc) := hxi
          have HC : Hid (∀ wr gv G, Gr w1 wr k xs ns (fun q => .int .u8 ((q : Int) % 256)) gv G i → wr.cell? ⟨lg, lo + i, none⟩ = some (.slice xa (ns i) xc)) := fun wr gv G h => by
            rw [← hxi]; exact h.only.cell (hcell i hlt) (HLB.out _ rfl)
          have y0 := HC.out _ _ _ hG
          obtain ⟨nn, hnn⟩ : ∃ nn, nn = ns i := ⟨_, rfl⟩
          have HNN : Hid (nn = ns i) := hnn
          have hmax : nn ≤ 140737488351232 := hnn ▸ HL1.out.max i hlt
          rw [← hnn] at y0 hxi
          have HGM : Hid _ := Gm.start HL1.out hG hlt
          clear hxi hnn hG hcell
          go_wp2_with fail
          go_loopw [8] (fun t wr => ∃ j : Nat, j ≤ nn ∧ t = .int .i64 j ∧ Gm w1 wr k xs ns (fun q => .int .u8 ((q : Int) % 256)) gv G i j) (fun t _ => nn - (intOf t).toNat)
          case atStart => exact ⟨0, Nat.zero_le _, rfl, HGM.out⟩
          case round =>
            clear HGM y0
            obtain ⟨j, hj, rfl, hM⟩ := hrel
            obtain ⟨w3, rfl⟩ : ∃ w3, w3 = wr := ⟨_, rfl⟩
            have y0 := HC.out _ _ _ hM.gr
            rw [← HNN.out] at y0
            by_cases hlj : j < nn
            · have j0 : (0 : Int) ≤ (j : Int) := Int.natCast_nonneg _
              have j1 : (j : Int) < (nn : Int) := by omega
              obtain ⟨xg, xo, xc', hv, hth⟩ := hM.md.1.at_ (by rw [← HNN.out]; omega)
              have hx2 := hv
              rw [HX.out] at hv
              simp only [Value.slice.injEq, true_and] at hv
              obtain ⟨rfl, rfl⟩ := hv
              obtain ⟨yv, z0⟩ := Option.isSome_iff_exists.1 (hth j (by rw [← HNN.out]; omega)).1
              have z1 := (hth j (by rw [← HNN.out]; omega)).2
              have HMM : Hid _ := hM.more HL1.out hlt (by rw [← HNN.out]; omega) hx2
              clear hM hx2 hth
              go_wp2
              go_roundw
              case rel => exact ⟨j + 1, by omega, by go_num, HMM.out⟩
              case measure => simp [intOf]; omega
            · obtain rfl : j = nn := by omega
              have HW : Hid (Gw w1 w3 k xs ns (fun q => .int .u8 ((q : Int) % 256)) gv G i (.slice xa j xc) 0) := by
                have := Gw.start HL1.out (HNN.out ▸ hM) hlt
                rw [HX.out, ← HNN.out] at this
                exact this
              clear hM
              go_wp2_with fail
              go_loopw [7, 9] (fun b t wr => ∃ m : Nat, m ≤ 9 ∧ t = .int .i64 m ∧ Gw w1 wr k xs ns (fun q => .int .u8 ((q : Int) % 256)) gv G i b m) (fun _ t _ => 9 - (intOf t).toNat)
              case atStart => exact ⟨0, Nat.zero_le _, rfl, HW.out⟩
              case round =>
                clear HW y0
                obtain ⟨m, hm, rfl, hW⟩ := hrel
                obtain ⟨w4, rfl⟩ : ∃ w4, w4 = wr := ⟨_, rfl⟩
                obtain ⟨g, rfl⟩ : ∃ g, g = u7 := ⟨_, rfl⟩
                by_cases hlm : m < 9
                · have m0 : (0 : Int) ≤ (m : Int) := Int.natCast_nonneg _
                  have m1 : (m : Int) < 9 := by omega
                  have oA : Only (fun _ => False) w4 (w4.alloc (.cells #[.int .u8 ((i : Int) % 256)] 5)) := (Only.refl _ w4).alloc _
                  have hrow := hW.row.frame oA (fun _ _ e => e)
                  have hns : ns i ≤ 140737488351232 := HNN.out ▸ hmax
                  have HWH : Hid _ := hW
                  clear hW oA
                  go_wp2_with (at_builtin; go_must (refine wpList_append_whole _ rfl _ _ 23 rfl 5 i5 _ 1 Try.underlying23 hi5 hz50 hz51 hz52 rfl _ (ns i + m) _ rfl hrow ⟨w4.heap.size, 0, none⟩ (.int .u8 ((i : Int) % 256)) rfl (by simp) rfl (by unfold maxLen; omega) (by omega) ?_); intro v' w5 hv5 hg5 hb5 ht5)
                  have HW5 : Hid (Gw w1 w5 k xs ns (fun q => .int .u8 ((q : Int) % 256)) gv G i v' (m + 1)) := HWH.out.more _ hlt hv5 hg5 hb5 ht5
                  clear hrow hv5 hg5 hb5 ht5
                  go_wp2
                  go_roundw
                  case rel => exact ⟨m + 1, by omega, by go_num, HW5.out⟩
                  case measure => simp [intOf]; omega
                · obtain rfl : m = 9 := by omega
                  obtain ⟨ga, gc, hgs⟩ := hW.row.slice
                  subst hgs
                  have oA : Only (fun _ => False) w4 (w4.alloc (.cells #[.slice ga (ns i + 9) gc] 23)) := (Only.refl _ w4).alloc _
                  have hrow := hW.gr.row.frame oA (fun _ _ e => e)
                  have HWH : Hid _ := hW
                  clear hW oA
                  go_wp2_with (at_builtin; go_must (refine wpList_append_whole _ rfl _ _ 35 rfl 23 i31 _ 24 Try.underlying35 hi31 hz310 hz311 hz312 rfl _ i _ rfl hrow ⟨w4.heap.size, 0, none⟩ (.slice ga (ns i + 9) gc) rfl (by simp) rfl (by unfold maxLen; omega) (by omega) ?_); intro v' w5 hv5 hg5 hb5 ht5)
                  have HG5 : Hid _ := Gr.more _ HWH.out hv5 hg5 hb5 ht5
                  clear hrow hv5 hg5 hb5 ht5
                  go_wp2
                  go_roundw
                  case rel => exact ⟨i + 1, by omega, by go_num, _, HG5.out⟩
                  case measure => simp [intOf]; omega
        · obtain rfl : i = k := by omega
          obtain ⟨ga, gc, hgs⟩ := hG.row.slice
          subst hgs
          have HG : Hid _ := hG
          clear hG
          go_wp2_with fail
          go_loopw [10] (fun t wr => ∃ q : Nat, q ≤ i ∧ t = .int .i64 q ∧ w2 = wr) (fun t _ => i - (intOf t).toNat)
          case atStart => exact ⟨0, Nat.zero_le _, rfl, rfl⟩
          case round =>
            obtain ⟨q, hq, rfl, rfl⟩ := hrel
            by_cases hlq : q < i
            · have q0 : (0 : Int) ≤ (q : Int) := Int.natCast_nonneg _
              have q1 : (q : Int) < (i : Int) := by omega
              obtain ⟨bg, bo, bc, hv, gg, go, gc', y0, y1⟩ := HG.out.done q hlq
              simp only [Value.slice.injEq, true_and] at hv
              obtain ⟨rfl, rfl⟩ := hv
              obtain ⟨nn, hnn⟩ : ∃ nn, nn = ns q + 9 := ⟨_, rfl⟩
              have hmax : nn ≤ 140737488351250 := by have := HL1.out.max q hlq; omega
              rw [← hnn] at y0 y1
              have Y1 : Hid _ := y1
              clear y1 hnn
              go_wp2_with fail
              go_loopw [11] (fun t wr => ∃ j : Nat, j ≤ nn ∧ t = .int .i64 j ∧ w2 = wr) (fun t _ => nn - (intOf t).toNat)
              case atStart => exact ⟨0, Nat.zero_le _, rfl, rfl⟩
              case round =>
                obtain ⟨j, hj, rfl, rfl⟩ := hrel
                by_cases hlj : j < nn
                · have j0 : (0 : Int) ≤ (j : Int) := Int.natCast_nonneg _
                  have j1 : (j : Int) < (nn : Int) := by omega
                  have y1 := Y1.out j hlj
                  go_wp2
                  go_roundw
                  case rel => exact ⟨j + 1, by omega, by go_num, trivial⟩
                  case measure => simp [intOf]; omega
                · obtain rfl : j = nn := by omega
                  go_wp2
                  go_roundw
                  case rel => exact ⟨q + 1, by omega, by go_num, trivial⟩
                  case measure => simp [intOf]; omega
            · obtain rfl : q = i := by omega
              go_wp2
              go_roundw
              case rel => exact ⟨0 + 1, by decide, by go_num, HO.out.trans HG.out.only (fun _ _ e => e), HT.out.trans HG.out.th⟩
              case measure => simp [intOf]
    · go_wp2_with fail
      go_loopw [4, 5] (fun b t wr => ∃ i : Nat, i ≤ k ∧ t = .int .i64 i ∧ ∃ G, Gr w1 wr k xs ns (fun q => .int .u8 ((q : Int) / 256 % 256)) b G i) (fun _ t _ => k - (intOf t).toNat)
      case atStart => exact ⟨0, Nat.zero_le _, rfl, fun _ => .bool true, Gr.start _ _ _ _ _ _⟩
      case round =>
        obtain ⟨i, hi, rfl, G, hG⟩ := hrel
        obtain ⟨w2, rfl⟩ : ∃ w2, w2 = wr := ⟨_, rfl⟩
        obtain ⟨gv, rfl⟩ : ∃ gv, gv = u4 := ⟨_, rfl⟩
        by_cases hlt : i < k
        · have i0 : (0 : Int) ≤ (i : Int) := Int.natCast_nonneg _
          have i1 : (i : Int) < (k : Int) := by omega
          obtain ⟨lg, lo, lc', hv, hcell, _⟩ := HLV1.out.form (by omega)
          simp only [Value.slice.injEq, true_and] at hv
          obtain ⟨rfl, rfl⟩ := hv
          obtain ⟨xa, xc, hxi⟩ := (HL1.out.room i hlt).form
          have HX : Hid (xs i = .slice xa (ns i) xc) := hxi
          have HC : Hid (∀ wr gv G, Gr w1 wr k xs ns (fun q => .int .u8 ((q : Int) / 256 % 256)) gv G i → wr.cell? ⟨lg, lo + i, none⟩ = some (.slice xa (ns i) xc)) := fun wr gv G h => by
            rw [← hxi]; exact h.only.cell (hcell i hlt) (HLB.out _ rfl)
          have y0 := HC.out _ _ _ hG
          obtain ⟨nn, hnn⟩ : ∃ nn, nn = ns i := ⟨_, rfl⟩
          have HNN : Hid (nn = ns i) := hnn
          have hmax : nn ≤ 140737488351232 := hnn ▸ HL1.out.max i hlt
          rw [← hnn] at y0 hxi
          have HGM : Hid _ := Gm.start HL1.out hG hlt
          clear hxi hnn hG hcell
          go_wp2_with fail
          go_loopw [8] (fun t wr => ∃ j : Nat, j ≤ nn ∧ t = .int .i64 j ∧ Gm w1 wr k xs ns (fun q => .int .u8 ((q : Int) / 256 % 256)) gv G i j) (fun t _ => nn - (intOf t).toNat)
          case atStart => exact ⟨0, Nat.zero_le _, rfl, HGM.out⟩
          case round =>
            clear HGM y0
            obtain ⟨j, hj, rfl, hM⟩ := hrel
            obtain ⟨w3, rfl⟩ : ∃ w3, w3 = wr := ⟨_, rfl⟩
            have y0 := HC.out _ _ _ hM.gr
            rw [← HNN.out] at y0
            by_cases hlj : j < nn
            · have j0 : (0 : Int) ≤ (j : Int) := Int.natCast_nonneg _
              have j1 : (j : Int) < (nn : Int) := by omega
              obtain ⟨xg, xo, xc', hv, hth⟩ := hM.md.1.at_ (by rw [← HNN.out]; omega)
              have hx2 := hv
              rw [HX.out] at hv
              simp only [Value.slice.injEq, true_and] at hv
              obtain ⟨rfl, rfl⟩ := hv
              obtain ⟨yv, z0⟩ := Option.isSome_iff_exists.1 (hth j (by rw [← HNN.out]; omega)).1
              have z1 := (hth j (by rw [← HNN.out]; omega)).2
              have HMM : Hid _ := hM.more HL1.out hlt (by rw [← HNN.out]; omega) hx2
              clear hM hx2 hth
              go_wp2
              go_roundw
              case rel => exact ⟨j + 1, by omega, by go_num, HMM.out⟩
              case measure => simp [intOf]; omega
            · obtain rfl : j = nn := by omega
              have HW : Hid (Gw w1 w3 k xs ns (fun q => .int .u8 ((q : Int) / 256 % 256)) gv G i (.slice xa j xc) 0) := by
                have := Gw.start HL1.out (HNN.out ▸ hM) hlt
                rw [HX.out, ← HNN.out] at this
                exact this
              clear hM
              go_wp2_with fail
              go_loopw [7, 9] (fun b t wr => ∃ m : Nat, m ≤ 9 ∧ t = .int .i64 m ∧ Gw w1 wr k xs ns (fun q => .int .u8 ((q : Int) / 256 % 256)) gv G i b m) (fun _ t _ => 9 - (intOf t).toNat)
              case atStart => exact ⟨0, Nat.zero_le _, rfl, HW.out⟩
              case round =>
                clear HW y0
                obtain ⟨m, hm, rfl, hW⟩ := hrel
                obtain ⟨w4, rfl⟩ : ∃ w4, w4 = wr := ⟨_, rfl⟩
                obtain ⟨g, rfl⟩ : ∃ g, g = u7 := ⟨_, rfl⟩
                by_cases hlm : m < 9
                · have m0 : (0 : Int) ≤ (m : Int) := Int.natCast_nonneg _
                  have m1 : (m : Int) < 9 := by omega
                  have oA : Only (fun _ => False) w4 (w4.alloc (.cells #[.int .u8 ((i : Int) / 256 % 256)] 5)) := (Only.refl _ w4).alloc _
                  have hrow := hW.row.frame oA (fun _ _ e => e)
                  have hns : ns i ≤ 140737488351232 := HNN.out ▸ hmax
                  have HWH : Hid _ := hW
                  clear hW oA
                  go_wp2_with (at_builtin; go_must (refine wpList_append_whole _ rfl _ _ 23 rfl 5 i5 _ 1 Try.underlying23 hi5 hz50 hz51 hz52 rfl _ (ns i + m) _ rfl hrow ⟨w4.heap.size, 0, none⟩ (.int .u8 ((i : Int) / 256 % 256)) rfl (by simp) rfl (by unfold maxLen; omega) (by omega) ?_); intro v' w5 hv5 hg5 hb5 ht5)
                  have HW5 : Hid (Gw w1 w5 k xs ns (fun q => .int .u8 ((q : Int) / 256 % 256)) gv G i v' (m + 1)) := HWH.out.more _ hlt hv5 hg5 hb5 ht5
                  clear hrow hv5 hg5 hb5 ht5
                  go_wp2
                  go_roundw
                  case rel => exact ⟨m + 1, by omega, by go_num, HW5.out⟩
                  case measure => simp [intOf]; omega
                · obtain rfl : m = 9 := by omega
                  obtain ⟨ga, gc, hgs⟩ := hW.row.slice
                  subst hgs
                  have oA : Only (fun _ => False) w4 (w4.alloc (.cells #[.slice ga (ns i + 9) gc] 23)) := (Only.refl _ w4).alloc _
                  have hrow := hW.gr.row.frame oA (fun _ _ e => e)
                  have HWH : Hid _ := hW
                  clear hW oA
                  go_wp2_with (at_builtin; go_must (refine wpList_append_whole _ rfl _ _ 35 rfl 23 i31 _ 24 Try.underlying35 hi31 hz310 hz311 hz312 rfl _ i _ rfl hrow ⟨w4.heap.size, 0, none⟩ (.slice ga (ns i + 9) gc) rfl (by simp) rfl (by unfold maxLen; omega) (by omega) ?_); intro v' w5 hv5 hg5 hb5 ht5)
                  have HG5 : Hid _ := Gr.more _ HWH.out hv5 hg5 hb5 ht5
                  clear hrow hv5 hg5 hb5 ht5
                  go_wp2
                  go_roundw
                  case rel => exact ⟨i + 1, by omega, by go_num, _, HG5.out⟩
                  case measure => simp [intOf]; omega
        · obtain rfl : i = k := by omega
          obtain ⟨ga, gc, hgs⟩ := hG.row.slice
          subst hgs
          have HG : Hid _ := hG
          clear hG
          go_wp2_with fail
          go_loopw [10] (fun t wr => ∃ q : Nat, q ≤ i ∧ t = .int .i64 q ∧ w2 = wr) (fun t _ => i - (intOf t).toNat)
          case atStart => exact ⟨0, Nat.zero_le _, rfl, rfl⟩
          case round =>
            obtain ⟨q, hq, rfl, rfl⟩ := hrel
            by_cases hlq : q < i
            · have q0 : (0 : Int) ≤ (q : Int) := Int.natCast_nonneg _
              have q1 : (q : Int) < (i : Int) := by omega
              obtain ⟨bg, bo, bc, hv, gg, go, gc', y0, y1⟩ := HG.out.done q hlq
              simp only [Value.slice.injEq, true_and] at hv
              obtain ⟨rfl, rfl⟩ := hv
              obtain ⟨nn, hnn⟩ : ∃ nn, nn = ns q + 9 := ⟨_, rfl⟩
              have hmax : nn ≤ 140737488351250 := by have := HL1.out.max q hlq; omega
              rw [← hnn] at y0 y1
              have Y1 : Hid _ := y1
              clear y1 hnn
              go_wp2_with fail
              go_loopw [11] (fun t wr => ∃ j : Nat, j ≤ nn ∧ t = .int .i64 j ∧ w2 = wr) (fun t _ => nn - (intOf t).toNat)
              case atStart => exact ⟨0, Nat.zero_le _, rfl, rfl⟩
              case round =>
                obtain ⟨j, hj, rfl, rfl⟩ := hrel
                by_cases hlj : j < nn
                · have j0 : (0 : Int) ≤ (j : Int) := Int.natCast_nonneg _
                  have j1 : (j : Int) < (nn : Int) := by omega
                  have y1 := Y1.out j hlj
                  go_wp2
                  go_roundw
                  case rel => exact ⟨j + 1, by omega, by go_num, trivial⟩
                  case measure => simp [intOf]; omega
                · obtain rfl : j = nn := by omega
                  go_wp2
                  go_roundw
                  case rel => exact ⟨q + 1, by omega, by go_num, trivial⟩
                  case measure => simp [intOf]; omega
            · obtain rfl : q = i := by omega
              go_wp2
              go_roundw
              case rel => exact ⟨1 + 1, by decide, by go_num, HO.out.trans HG.out.only (fun _ _ e => e), HT.out.trans HG.out.th⟩
              case measure => simp [intOf]
    · go_wp2
      go_ret
      exact ⟨rfl, HO.out, HT.out⟩
end Go.Proofs.Ytpoakkdkibameab
namespace Go.Proofs.Ytpoakkdkibameab
open Go.RowKit
set_option linter.unusedSimpArgs false
set_option linter.unusedVariables false

set_option maxRecDepth 100000 in
set_option maxHeartbeats 1000000 in
theorem apart_ints0 (w : World) : Calls Try.prog 23 #[.slice none 0 0] w fun e w' => e = .returned (.bool true) ∧ w' = w := by
  go_enter Try.func23, Try.ntmps23
  go_wp2_with fail
  go_loopw [3, 4, 5] (fun a b c wr => a = .int .i64 1000000 ∧ b = .slice none 0 0 ∧ c = .int .i64 0 ∧ w = wr) (fun _ _ _ _ => 0)
  case atStart => exact ⟨rfl, rfl, rfl, rfl⟩
  case round =>
    obtain ⟨rfl, rfl, rfl, rfl⟩ := hrel
    go_wp2_with fail
    go_loopw [3, 9] (fun a c wr => a = .int .i64 1000000 ∧ c = .int .i64 0 ∧ w = wr) (fun _ _ _ => 0)
    case atStart => exact ⟨rfl, rfl, rfl⟩
    case round =>
      obtain ⟨rfl, rfl, rfl⟩ := hrel
      go_wp2
      go_ret
      exact ⟨rfl, rfl⟩
set_option maxRecDepth 100000 in
set_option maxHeartbeats 1000000 in
theorem apart_words0 (w : World) : Calls Try.prog 24 #[.slice none 0 0] w fun e w' => e = .returned (.bool true) ∧ w' = w := by
  go_enter Try.func24, Try.ntmps24
  go_wp2_with fail
  go_loopw [3, 4, 5] (fun a b c wr => a = .int .i64 1000000 ∧ b = .slice none 0 0 ∧ c = .int .i64 0 ∧ w = wr) (fun _ _ _ _ => 0)
  case atStart => exact ⟨rfl, rfl, rfl, rfl⟩
  case round =>
    obtain ⟨rfl, rfl, rfl, rfl⟩ := hrel
    go_wp2_with fail
    go_loopw [3, 9] (fun a c wr => a = .int .i64 1000000 ∧ c = .int .i64 0 ∧ w = wr) (fun _ _ _ => 0)
    case atStart => exact ⟨rfl, rfl, rfl⟩
    case round =>
      obtain ⟨rfl, rfl, rfl⟩ := hrel
      go_wp2
      go_ret
      exact ⟨rfl, rfl⟩
set_option maxRecDepth 100000 in
set_option maxHeartbeats 1000000 in
theorem apart_texts0 (w : World) : Calls Try.prog 26 #[.slice none 0 0] w fun e w' => e = .returned (.bool true) ∧ w' = w := by
  go_enter Try.func26, Try.ntmps26
  go_wp2_with fail
  go_loopw [3, 4, 5] (fun a b c wr => a = .int .i64 0 ∧ b = .slice none 0 0 ∧ c = .int .i64 0 ∧ w = wr) (fun _ _ _ _ => 0)
  case atStart => exact ⟨rfl, rfl, rfl, rfl⟩
  case round =>
    obtain ⟨rfl, rfl, rfl, rfl⟩ := hrel
    go_wp2_with fail
    go_loopw [3, 9] (fun a c wr => a = .int .i64 0 ∧ c = .int .i64 0 ∧ w = wr) (fun _ _ _ => 0)
    case atStart => exact ⟨rfl, rfl, rfl⟩
    case round =>
      obtain ⟨rfl, rfl, rfl⟩ := hrel
      go_wp2
      go_ret
      exact ⟨rfl, rfl⟩
/-- A book of lists of bytes alone. -/
theorem apart_book (p k : Nat) (xs : Nat → Value) (ns : Nat → Nat) (lv : Value) (w : World) (c0 : w.cell? ⟨p, 0, none⟩ = some (.slice none 0 0)) (c1 : w.cell? ⟨p, 1, none⟩ = some (.slice none 0 0)) (c2 : w.cell? ⟨p, 2, none⟩ = some lv) (c3 : w.cell? ⟨p, 3, none⟩ = some (.slice none 0 0)) (hp : ¬ lsB k xs p)
    (hlv : Whole w lv k xs) (hlb : ∀ b, lv.ownBlock = some b → ¬ lsB k xs b) (hL : Lists w k xs ns) (hk : k * 24 ≤ 140737488355328) :
    Calls Try.prog 10 #[.pointer (some ⟨p, 0, none⟩)] w fun e w' => e = .returned (.bool true) ∧ Only (lsB k xs) w w' ∧ Th w w' := by
  obtain ⟨la, lc, hlv'⟩ := hlv.slice
  have HB := apart_bytes k xs ns lv w hlv hlb hL hk
  clear hlv hlb hL
  subst hlv'
  have HB' : Calls Try.prog 25 #[.slice la k lc] w fun e w' => e = .returned (.bool true) ∧ w'.cell? ⟨p, 3, none⟩ = some (.slice none 0 0) ∧ Hid (Only (lsB k xs) w w' ∧ Th w w') := by
    refine HB.mono ?_
    rintro e w' ⟨rfl, h1, h2⟩
    exact ⟨rfl, h1.cell c3 hp, h1, h2⟩
  clear HB
  go_enter Try.func10, Try.ntmps10
  go_wp2_with fail
  refine (apart_ints0 w).mono ?_
  rintro e w1 ⟨rfl, rfl⟩
  go_wp2_with fail
  refine (apart_words0 w1).mono ?_
  rintro e w2 ⟨rfl, rfl⟩
  go_wp2_with fail
  refine HB'.mono ?_
  rintro e w3 ⟨rfl, y3, HE⟩
  clear HB' c0 c1 c2 c3
  go_wp2_with fail
  refine (apart_texts0 w3).mono ?_
  rintro e w4 ⟨rfl, rfl⟩
  go_wp2
  go_ret
  exact ⟨rfl, HE.out⟩
end Go.Proofs.Ytpoakkdkibameab
namespace Go.Proofs.Ytpoakkdkibameab
open Go.RowKit Go.Maps
set_option linter.unusedSimpArgs false
set_option linter.unusedVariables false

/-- An element is told as the value itself. -/
def hv : Value → Option (DataW Value × List MemPlace) := fun v => some (.held v, [])
def entL (l : List (Int × Value)) : List (Lit × DataW Value) := l.map fun p => (.int .i64 p.1, .held p.2)
section
variable {α : Type}
def Rise (l : List (Int × α)) : Prop := l.Pairwise fun p q => p.1 < q.1
def getL (l : List (Int × α)) (k : Int) : Option α := (l.find? fun p => p.1 == k).map (·.2)
def delL (l : List (Int × α)) (k : Int) : List (Int × α) := l.filter fun p => !(p.1 == k)
def insL (x : Int × α) : List (Int × α) → List (Int × α)
  | [] => [x]
  | y :: r => if x.1 < y.1 then x :: y :: r else y :: insL x r
def putL (l : List (Int × α)) (k : Int) (v : α) : List (Int × α) := insL (k, v) (delL l k)

end
theorem entL_length (l : List (Int × Value)) : (entL l).length = l.length := by simp [entL]
theorem sameKey_int (a b : Int) : (Lit.int .i64 a).sameKey (.int .i64 b) = (a == b) := by
  by_cases h : a = b <;> simp [Lit.sameKey, h]
theorem entL_find (l : List (Int × Value)) (k : Int) : (entL l).find? (fun p => p.1.sameKey (.int .i64 k)) = (l.find? fun p => p.1 == k).map fun p => (.int .i64 p.1, .held p.2) := by
  induction l with
  | nil => rfl
  | cons x r ih =>
    simp only [entL, List.map_cons, List.find?_cons, sameKey_int]
    cases x.1 == k with
    | true => rfl
    | false => exact ih
theorem entL_at (l : List (Int × Value)) (k : Int) (z : Value) : (DataW.map (entL l)).atKey (.int .i64 k) (.held z) = .held ((getL l k).getD z) := by
  simp only [DataW.atKey, entL_find, getL]
  cases l.find? fun p => p.1 == k <;> rfl
theorem entL_has (l : List (Int × Value)) (k : Int) : Maps.has (DataW.map (entL l)) (.int .i64 k) = (getL l k).isSome := by
  rw [Maps.has_eq]
  induction l with
  | nil => rfl
  | cons x r ih =>
    simp only [entL, List.map_cons, List.any_cons, sameKey_int, getL, List.find?_cons]
    cases x.1 == k with
    | true => rfl
    | false =>
      simp only [getL] at ih
      rw [Bool.false_or]
      exact ih
theorem entL_filter (l : List (Int × Value)) (k : Int) : (entL l).filter (fun p => !p.1.sameKey (.int .i64 k)) = entL (delL l k) := by
  induction l with
  | nil => rfl
  | cons x r ih =>
    simp only [entL, delL, List.map_cons, List.filter_cons, sameKey_int]
    cases x.1 == k with
    | true => simpa [entL, delL] using ih
    | false => simpa [entL, delL] using ih
theorem entL_insert (x : Int × Value) (l : List (Int × Value)) : DataW.insert (.int .i64 x.1, .held x.2) (entL l) = entL (insL x l) := by
  induction l with
  | nil => rfl
  | cons y r ih =>
    simp only [entL, List.map_cons, DataW.insert, insL, Lit.before]
    by_cases h : x.1 < y.1
    · simp [h]
    · have := ih
      simp only [entL] at this
      simp [h, this]
theorem entL_put (l : List (Int × Value)) (k : Int) (v : Value) : (DataW.map (entL l)).put (.int .i64 k) (.held v) = .map (entL (putL l k v)) := by
  simp only [DataW.put, entL_filter, putL]
  rw [← entL_insert (k, v)]
theorem entL_del (l : List (Int × Value)) (k : Int) : (DataW.map (entL l)).del (.int .i64 k) = .map (entL (delL l k)) := by
  simp only [DataW.del, entL_filter]

section
variable {α : Type}
theorem insL_mem (x : Int × α) (l : List (Int × α)) (p : Int × α) : p ∈ insL x l ↔ p = x ∨ p ∈ l := by
  induction l with
  | nil => simp [insL]
  | cons y r ih =>
    simp only [insL]
    split
    · simp
    · simp only [List.mem_cons, ih]
      constructor
      · rintro (h | h | h)
        · exact .inr (.inl h)
        · exact .inl h
        · exact .inr (.inr h)
      · rintro (h | h | h)
        · exact .inr (.inl h)
        · exact .inl h
        · exact .inr (.inr h)
theorem Rise.del {l : List (Int × α)} (h : Rise l) (k : Int) : Rise (delL l k) := List.Pairwise.filter _ h
theorem delL_mem (l : List (Int × α)) (k : Int) (p : Int × α) : p ∈ delL l k ↔ p ∈ l ∧ p.1 ≠ k := by simp [delL]
theorem Rise.ins {x : Int × α} : ∀ {l : List (Int × α)}, Rise l → (∀ p ∈ l, p.1 ≠ x.1) → Rise (insL x l)
  | [], _, _ => List.pairwise_singleton _ _
  | y :: r, h, hn => by
    have hy := List.pairwise_cons.1 h
    simp only [insL]
    split
    · rename_i hlt
      refine List.pairwise_cons.2 ⟨fun p hp => ?_, h⟩
      rcases List.mem_cons.1 hp with rfl | hp
      · exact hlt
      · exact Int.lt_trans hlt (hy.1 p hp)
    · rename_i hlt
      refine List.pairwise_cons.2 ⟨fun p hp => ?_, Rise.ins hy.2 (fun p hp => hn p (List.mem_cons_of_mem _ hp))⟩
      rcases (insL_mem x r p).1 hp with rfl | hp
      · have := hn y (List.mem_cons_self ..)
        omega
      · exact hy.1 p hp
theorem Rise.put {l : List (Int × α)} (h : Rise l) (k : Int) (v : α) : Rise (putL l k v) :=
  (h.del k).ins (fun p hp => ((delL_mem l k p).1 hp).2)
theorem putL_mem (l : List (Int × α)) (k : Int) (v : α) (p : Int × α) : p ∈ putL l k v ↔ p = (k, v) ∨ (p ∈ l ∧ p.1 ≠ k) := by
  simp [putL, insL_mem, delL_mem]
/-- What is told of a key, by the entries. -/
theorem getL_mem {l : List (Int × α)} (h : Rise l) (k : Int) (v : α) : getL l k = some v ↔ (k, v) ∈ l := by
  induction l with
  | nil => simp [getL]
  | cons x r ih =>
    have hx := List.pairwise_cons.1 h
    have ih := ih hx.2
    simp only [getL, List.find?_cons] at ih ⊢
    by_cases e : x.1 = k
    · subst e
      simp only [beq_self_eq_true, Option.map_some, Option.some.injEq, List.mem_cons]
      constructor
      · rintro rfl; exact .inl rfl
      · rintro (e | e)
        · rw [← e]
        · exact absurd (hx.1 _ e) (by simp)
    · have : (x.1 == k) = false := by simpa using e
      simp only [this, List.mem_cons]
      rw [ih]
      constructor
      · exact .inr
      · rintro (e' | e')
        · exact absurd (by rw [← e']) e
        · exact e'
theorem getL_none {l : List (Int × α)} (k : Int) : getL l k = none ↔ ∀ p ∈ l, p.1 ≠ k := by
  simp [getL, List.find?_eq_none]
theorem getL_put_same {l : List (Int × α)} (h : Rise l) (k : Int) (v : α) : getL (putL l k v) k = some v :=
  (getL_mem (h.put k v) k v).2 ((putL_mem _ _ _ _).2 (.inl rfl))
theorem getL_put_other {l : List (Int × α)} (h : Rise l) {k k' : Int} (hk : k' ≠ k) (v : α) : getL (putL l k v) k' = getL l k' := by
  cases e : getL l k' with
  | none =>
    rw [getL_none] at e ⊢
    intro p hp
    rcases (putL_mem _ _ _ _).1 hp with rfl | hp
    · exact fun e' => hk e'.symm
    · exact e p hp.1
  | some u => rw [getL_mem (h.put k v), putL_mem]; exact .inr ⟨(getL_mem h _ _).1 e, hk⟩
theorem getL_del_same (l : List (Int × α)) (k : Int) : getL (delL l k) k = none := by
  rw [getL_none]
  exact fun p hp => ((delL_mem _ _ _).1 hp).2
theorem getL_del_other {l : List (Int × α)} (h : Rise l) {k k' : Int} (hk : k' ≠ k) : getL (delL l k) k' = getL l k' := by
  cases e : getL l k' with
  | none =>
    rw [getL_none] at e ⊢
    exact fun p hp => e p ((delL_mem _ _ _).1 hp).1
  | some u => rw [getL_mem (h.del k), delL_mem]; exact ⟨(getL_mem h _ _).1 e, hk⟩

/-- Two lists that rise and tell the same are one. -/
theorem Rise.ext : ∀ {l m : List (Int × α)}, Rise l → Rise m → (∀ k, getL l k = getL m k) → l = m := by
  intro l m hl hm h
  have hmem : ∀ p, p ∈ l ↔ p ∈ m := fun p => by rw [← getL_mem hl p.1 p.2, h, getL_mem hm p.1 p.2]
  induction l generalizing m with
  | nil =>
    cases m with
    | nil => rfl
    | cons y r => exact absurd ((hmem y).2 (List.mem_cons_self ..)) (by simp)
  | cons x r ih =>
    cases m with
    | nil => exact absurd ((hmem x).1 (List.mem_cons_self ..)) (by simp)
    | cons y s =>
      have hx := List.pairwise_cons.1 hl
      have hy := List.pairwise_cons.1 hm
      have e : x = y := by
        rcases List.mem_cons.1 ((hmem x).1 (List.mem_cons_self ..)) with e | e
        · exact e
        rcases List.mem_cons.1 ((hmem y).2 (List.mem_cons_self ..)) with e' | e'
        · exact e'.symm
        have h1 := hx.1 y e'
        have h2 := hy.1 x e
        omega
      subst e
      have hm' : ∀ p, p ∈ r ↔ p ∈ s := fun p => by
        constructor
        · intro hp
          rcases List.mem_cons.1 ((hmem p).1 (List.mem_cons_of_mem _ hp)) with rfl | h'
          · exact absurd (hx.1 p hp) (by omega)
          · exact h'
        · intro hp
          rcases List.mem_cons.1 ((hmem p).2 (List.mem_cons_of_mem _ hp)) with rfl | h'
          · exact absurd (hy.1 p hp) (by omega)
          · exact h'
      rw [ih hx.2 hy.2 (fun k => by
        cases e : getL s k with
        | none =>
          rw [getL_none] at e ⊢
          exact fun p hp => e p ((hm' p).1 hp)
        | some u => rw [getL_mem hx.2, hm', ← getL_mem hy.2]; exact e) hm']

theorem delL_id {l : List (Int × α)} {k : Int} (h : getL l k = none) : delL l k = l := by
  rw [getL_none] at h
  exact List.filter_eq_self.2 fun p hp => by simpa using h p hp

theorem insL_map {β : Type} (g : Int × α → β) (x : Int × α) (l : List (Int × α)) : insL (x.1, g x) (l.map fun p => (p.1, g p)) = (insL x l).map fun p => (p.1, g p) := by
  induction l with
  | nil => rfl
  | cons y r ih =>
    simp only [List.map_cons, insL]
    split
    · simp
    · rw [ih]; simp
theorem delL_map {β : Type} (g : Int × α → β) (k : Int) (l : List (Int × α)) : delL (l.map fun p => (p.1, g p)) k = (delL l k).map fun p => (p.1, g p) := by
  simp only [delL, List.filter_map]
  rfl
theorem getL_map {β : Type} (g : Int × α → β) (k : Int) (l : List (Int × α)) : getL (l.map fun p => (p.1, g p)) k = (l.find? fun p => p.1 == k).map g := by
  induction l with
  | nil => rfl
  | cons y r ih =>
    simp only [getL, List.map_cons, List.find?_cons] at ih ⊢
    cases y.1 == k with
    | true => rfl
    | false => exact ih
theorem find_key {l : List (Int × α)} {k : Int} {p : Int × α} (h : (l.find? fun p => p.1 == k) = some p) : p ∈ l ∧ p.1 = k :=
  ⟨List.mem_of_find?_eq_some h, by simpa using List.find?_some h⟩
theorem putL_map {β : Type} (g g' : Int × α → β) (x : Int × α) (l : List (Int × α)) (h : ∀ p, p.1 ≠ x.1 → g' p = g p) : putL (l.map fun p => (p.1, g p)) x.1 (g' x) = (putL l x.1 x.2).map fun p => (p.1, g' p) := by
  unfold putL
  rw [delL_map]
  have e : (delL l x.1).map (fun p => (p.1, g p)) = (delL l x.1).map fun p => (p.1, g' p) := by
    apply List.map_congr_left
    intro p hp
    rw [h p ((delL_mem _ _ _).1 hp).2]
  rw [e, insL_map g' x]
theorem Rise.map {β : Type} (g : Int × α → β) {l : List (Int × α)} : Rise (l.map fun p => (p.1, g p)) ↔ Rise l := by
  unfold Rise
  rw [List.pairwise_map]
/-- As many entries as there are keys, at most. -/
theorem Rise.len : ∀ {l : List (Int × α)} {a b : Int}, Rise l → (∀ p ∈ l, a ≤ p.1 ∧ p.1 < b) → (l.length : Int) ≤ if a ≤ b then b - a else 0
  | [], a, b, _, _ => by split <;> simp <;> omega
  | x :: r, a, b, h, hb => by
    have hx := List.pairwise_cons.1 h
    have h1 := hb x (List.mem_cons_self ..)
    have := Rise.len (a := x.1 + 1) (b := b) hx.2 (fun p hp => ⟨by have := hx.1 p hp; omega, (hb p (List.mem_cons_of_mem _ hp)).2⟩)
    simp only [List.length_cons]
    split at this <;> split <;> omega
end
/-- Block b is a map whose entries are l. -/
structure MapAt (w : World) (b : Nat) (l : List (Int × Value)) : Prop where
  own : w.ownsMap Try.prog 3 hv b l.length (.map (entL l))
  rise : Rise l

theorem MapAt.lt {w : World} {b : Nat} {l : List (Int × Value)} (h : MapAt w b l) : b < w.heap.size := h.own.lt
theorem MapAt.frame {w w' : World} {b : Nat} {l : List (Int × Value)} {bs : Nat → Prop} (h : MapAt w b l) (ho : Only bs w w') (hn : ¬ bs b) : MapAt w' b l := by
  refine ⟨?_, h.rise⟩
  have hlt := h.lt
  obtain ⟨es, clock, hb, F, hs, hD⟩ := h.own
  exact ⟨es, clock, (ho.block b hlt hn).trans hb, F, hs, hD⟩
theorem MapAt.shrink {w : World} {b n : Nat} {l : List (Int × Value)} (h : w.ownsMap Try.prog 3 hv b n (.map (entL l))) (hr : Rise l) : MapAt w b l := by
  refine ⟨?_, hr⟩
  obtain ⟨es, clock, hb, F, hs, hD⟩ := h
  refine ⟨es, clock, hb, F, ?_, hD⟩
  have := congrArg (fun D : DataW Value => match D with | .map es => es.length | _ => 0) hD
  simp only [entL_length, length_sorted, List.length_map, Array.length_toList] at this
  omega
theorem MapAt.made (w : World) : MapAt (w.alloc (.map #[] 0)) w.heap.size [] := ⟨World.ownsMap_made w _ _ _, List.Pairwise.nil⟩
theorem map_keyed : Keyed Try.prog 3 := int_keyed Try.underlying3
def pg0 : Value := .agg #[.int .i64 0, .slice none 0 0]
theorem zero_pg (w : World) : (zeroValue 58).run Try.prog w = .ok pg0 w := by kernel_rfl
theorem wf64 {k : Int} (h : -9223372036854775808 ≤ k ∧ k ≤ 9223372036854775807) : (Lit.int .i64 k).wf = true := WalkArith.wf_i64 h
/-- v, ok := m[k] -/
theorem MapAt.look {w : World} {b : Nat} {l : List (Int × Value)} (h : MapAt w b l) (k : Int) (hk : -9223372036854775808 ≤ k ∧ k ≤ 9223372036854775807) :
    (Instr.lookup 59 (.map (some b)) (.int .i64 k) true).run Try.prog w = .ok (.tuple #[(getL l k).getD pg0, .bool (getL l k).isSome]) w := by
  obtain ⟨v, ps, hr, hR⟩ := h.own.look_ok map_keyed Try.underlying59 (zero_pg w) (zd := .held pg0) (zp := []) rfl (keyOf_int_mk Try.underlying3 (wf64 hk))
  rw [entL_at] at hR
  rw [entL_has] at hr
  simp only [hv, Option.some.injEq, Prod.mk.injEq, DataW.held.injEq] at hR
  rw [hr, hR.1]
/-- v := m[k] -/
theorem MapAt.look1 {w : World} {b : Nat} {l : List (Int × Value)} (h : MapAt w b l) (k : Int) (hk : -9223372036854775808 ≤ k ∧ k ≤ 9223372036854775807) :
    (Instr.lookup 59 (.map (some b)) (.int .i64 k) false).run Try.prog w = .ok ((getL l k).getD pg0) w := by
  obtain ⟨v, ps, hr, hR⟩ := h.own.lookup map_keyed Try.underlying59 (zero_pg w) (zd := .held pg0) (zp := []) rfl (keyOf_int_mk Try.underlying3 (wf64 hk))
  rw [entL_at] at hR
  simp only [hv, Option.some.injEq, Prod.mk.injEq, DataW.held.injEq] at hR
  rw [hr, hR.1]
theorem turned_only {w w' : World} {b : Nat} (h : w.mapTurned w' b) : Only (fun i => i = b) w w' ∧ w'.heap.size = w.heap.size := by
  have hg := h.grown
  refine ⟨⟨hg.os, hg.tape, hg.output, hg.size, fun k hk hn => hg.block k hk (fun e => hn (by injection e))⟩, ?_⟩
  obtain ⟨es, clock, es', clock', hb, rfl⟩ := h
  simp [ChangeMaps.setBlock]
/-- m[k] = v -/
theorem MapAt.store {w : World} {b : Nat} {l : List (Int × Value)} (h : MapAt w b l) (k : Int) (hk : -9223372036854775808 ≤ k ∧ k ≤ 9223372036854775807) (hl : l.length < maxLen) (v : Value) :
    ∃ w', (Instr.mapUpdate 59 (.map (some b)) (.int .i64 k) v).run Try.prog w = .ok () w' ∧ MapAt w' b (putL l k v) ∧ Only (fun i => i = b) w w' ∧ w'.heap.size = w.heap.size := by
  obtain ⟨w', hr, ho, ht⟩ := h.own.store map_keyed Try.underlying59 hl (keyOf_int_mk Try.underlying3 (wf64 hk)) (val := v) (d := .held v) (ps := []) rfl
  rw [entL_put] at ho
  exact ⟨w', hr, MapAt.shrink ho (h.rise.put k v), turned_only ht⟩
/-- delete(m, k) -/
theorem MapAt.drop {w : World} {b : Nat} {l : List (Int × Value)} (h : MapAt w b l) (k : Int) (hk : -9223372036854775808 ≤ k ∧ k ≤ 9223372036854775807) (ty : TypeId) :
    ∃ w', (Builtin.delete_ #[59, 3] ty #[.map (some b), .int .i64 k]).run Try.prog w = .ok (.tuple #[]) w' ∧ MapAt w' b (delL l k) ∧ Only (fun i => i = b) w w' ∧ w'.heap.size = w.heap.size := by
  obtain ⟨w', hr, ho, ht⟩ := h.own.drop map_keyed Try.underlying59 (keyOf_int_mk Try.underlying3 (wf64 hk)) ty
  rw [entL_del] at ho
  exact ⟨w', hr, MapAt.shrink ho (h.rise.del k), turned_only ht⟩
end Go.Proofs.Ytpoakkdkibameab
namespace Go.Proofs.Ytpoakkdkibameab

/-- One step of the register. -/
def st (r : Nat) : Nat := if r % 2 = 1 then (r / 2) ^^^ 3988292384 else r / 2
/-- k steps. -/
def it : Nat → Nat → Nat
  | 0, r => r
  | k + 1, r => st (it k r)
/-- One byte. -/
def eat (r c : Nat) : Nat := it 8 (r ^^^ c)
/-- The register behind the bytes. -/
def reg (l : List Nat) : Nat := l.foldl eat 4294967295
def sumN (l : List Nat) : Nat := reg l ^^^ 4294967295

theorem st_lt {r : Nat} (h : r < 4294967296) : st r < 4294967296 := by
  unfold st
  split
  · exact Nat.xor_lt_two_pow (n := 32) (by omega) (by omega)
  · omega
theorem it_lt {r : Nat} (h : r < 4294967296) : ∀ k, it k r < 4294967296
  | 0 => h
  | k + 1 => st_lt (it_lt h k)
theorem eat_lt {r c : Nat} (h : r < 4294967296) (hc : c < 256) : eat r c < 4294967296 := it_lt (Nat.xor_lt_two_pow (n := 32) (by omega) (by omega)) 8
theorem fold_lt : ∀ (l : List Nat) (r : Nat), r < 4294967296 → (∀ z ∈ l, z < 256) → l.foldl eat r < 4294967296
  | [], _, h, _ => h
  | c :: l, _, h, hl => fold_lt l _ (eat_lt h (hl c List.mem_cons_self)) (fun z hz => hl z (List.mem_cons_of_mem _ hz))
theorem reg_lt (l : List Nat) (hl : ∀ z ∈ l, z < 256) : reg l < 4294967296 := fold_lt l _ (by omega) hl
theorem sumN_lt (l : List Nat) (hl : ∀ z ∈ l, z < 256) : sumN l < 4294967296 := Nat.xor_lt_two_pow (n := 32) (reg_lt l hl) (by omega)

theorem xor_half (a b : Nat) : (a ^^^ b) / 2 = a / 2 ^^^ b / 2 := by
  have := Nat.shiftRight_xor_distrib (a := a) (b := b) (i := 1)
  simpa [Nat.shiftRight_eq_div_pow] using this
theorem xor_par (a b : Nat) : (a ^^^ b) % 2 = (a + b) % 2 := by
  have h := Nat.xor_mod_two_pow (a := a) (b := b) (n := 1)
  rw [Nat.pow_one] at h
  have k : ∀ x, x < 2 → ∀ y, y < 2 → x ^^^ y = (x + y) % 2 := by decide
  rw [h, k _ (by omega) _ (by omega)]
  omega
theorem xor_eq {a b : Nat} (h : a ^^^ b = 0) : a = b := by
  have : a ^^^ b ^^^ b = a := by rw [Nat.xor_assoc, Nat.xor_self, Nat.xor_zero]
  rw [← this, h, Nat.zero_xor]
theorem st_xor (a b : Nat) : st (a ^^^ b) = st a ^^^ st b := by
  have hp := xor_par a b
  have hx : ∀ x y z : Nat, x ^^^ y ^^^ (z ^^^ y) = x ^^^ z := fun x y z => by
    rw [Nat.xor_comm z y, ← Nat.xor_assoc, Nat.xor_assoc x y y, Nat.xor_self, Nat.xor_zero]
  unfold st
  rw [xor_half]
  by_cases h1 : a % 2 = 1 <;> by_cases h2 : b % 2 = 1
  · rw [if_neg (by omega), if_pos h1, if_pos h2, hx]
  · rw [if_pos (by omega), if_pos h1, if_neg h2, Nat.xor_assoc, Nat.xor_assoc, Nat.xor_comm (b / 2)]
  · rw [if_pos (by omega), if_neg h1, if_pos h2, Nat.xor_assoc]
  · rw [if_neg (by omega), if_neg h1, if_neg h2]
theorem it_xor (a b : Nat) : ∀ k, it k (a ^^^ b) = it k a ^^^ it k b
  | 0 => rfl
  | k + 1 => by simp only [it]; rw [it_xor a b k, st_xor]
theorem st_zero : st 0 = 0 := by decide
theorem it_zero : ∀ k, it k 0 = 0
  | 0 => rfl
  | k + 1 => by simp only [it]; rw [it_zero k, st_zero]
theorem st_ker {r : Nat} (h : r < 4294967296) (h0 : st r = 0) : r = 0 := by
  unfold st at h0
  split at h0
  · have := xor_eq h0
    omega
  · omega
theorem it_ker {r : Nat} (h : r < 4294967296) : ∀ k, it k r = 0 → r = 0
  | 0, h0 => h0
  | k + 1, h0 => it_ker h k (st_ker (it_lt h k) h0)
theorem it_add (j r : Nat) : ∀ k, it (j + k) r = it k (it j r)
  | 0 => rfl
  | k + 1 => by show st (it (j + k) r) = st (it k (it j r)); rw [it_add j r k]
theorem it_pow (d : Nat) : ∀ k, it k (d * 2 ^ k) = d
  | 0 => by simp [it]
  | k + 1 => by
    rw [show k + 1 = 1 + k by omega, it_add]
    have : it 1 (d * 2 ^ (1 + k)) = d * 2 ^ k := by
      have e : d * 2 ^ (1 + k) = 2 * (d * 2 ^ k) := by rw [Nat.pow_add]; simp [Nat.mul_left_comm]
      show st (d * 2 ^ (1 + k)) = _
      rw [e]
      unfold st
      rw [if_neg (by omega)]
      omega
    rw [this, it_pow d k]

/-- Four registers whose xor is 0 stay so. -/
theorem eat4 {a b c d w x y z : Nat} (hr : a ^^^ b ^^^ c ^^^ d = 0) (hc : w ^^^ x ^^^ y ^^^ z = 0) : eat a w ^^^ eat b x ^^^ eat c y ^^^ eat d z = 0 := by
  unfold eat
  rw [← it_xor, ← it_xor, ← it_xor]
  have : a ^^^ w ^^^ (b ^^^ x) ^^^ (c ^^^ y) ^^^ (d ^^^ z) = (a ^^^ b ^^^ c ^^^ d) ^^^ (w ^^^ x ^^^ y ^^^ z) := by ac_rfl
  rw [this, hr, hc]
  exact it_zero 8
theorem sum_xor4 (f g h : Nat → Nat) : ∀ n, reg ((List.range n).map f) ^^^ reg ((List.range n).map g) ^^^ reg ((List.range n).map h) ^^^ reg ((List.range n).map fun i => f i ^^^ g i ^^^ h i) = 0
  | 0 => by simp [reg]
  | n + 1 => by
    unfold reg
    simp only [List.range_succ, List.map_append, List.map_cons, List.map_nil, List.foldl_append, List.foldl_cons, List.foldl_nil]
    exact eat4 (sum_xor4 f g h n) (by rw [Nat.xor_self])
theorem sumN_xor4 (f g h : Nat → Nat) (n : Nat) : sumN ((List.range n).map f) ^^^ sumN ((List.range n).map g) ^^^ sumN ((List.range n).map h) ^^^ sumN ((List.range n).map fun i => f i ^^^ g i ^^^ h i) = 0 := by
  have := sum_xor4 f g h n
  unfold sumN
  have e : ∀ a b c d o : Nat, a ^^^ o ^^^ (b ^^^ o) ^^^ (c ^^^ o) ^^^ (d ^^^ o) = (a ^^^ b ^^^ c ^^^ d) ^^^ ((o ^^^ o) ^^^ (o ^^^ o)) := fun a b c d o => by ac_rfl
  rw [e, this]
  simp
end Go.Proofs.Ytpoakkdkibameab
namespace Go.Proofs.Ytpoakkdkibameab
open Go.RowKit
set_option linter.unusedSimpArgs false
set_option linter.unusedVariables false

theorem bx32 (a b : Nat) (ha : a < 4294967296) (hb : b < 4294967296) : bits .xor .u32 (a : Int) (b : Int) = ((a ^^^ b : Nat) : Int) := by
  have hx : a ^^^ b < 4294967296 := Nat.xor_lt_two_pow (n := 32) ha hb
  have e1 : a % 2 ^ IntKind.u32.bits = a := Nat.mod_eq_of_lt ha
  have e2 : b % 2 ^ IntKind.u32.bits = b := Nat.mod_eq_of_lt hb
  simp only [bits, BitVec.ofInt_natCast, BitVec.toNat_xor, BitVec.toNat_ofNat, e1, e2]
  rw [IntKind.wrap_u32]
  omega
theorem bx8 (a b : Nat) (ha : a < 256) (hb : b < 256) : bits .xor .u8 (a : Int) (b : Int) = ((a ^^^ b : Nat) : Int) := by
  have hx : a ^^^ b < 256 := Nat.xor_lt_two_pow (n := 8) ha hb
  have e1 : a % 2 ^ IntKind.u8.bits = a := Nat.mod_eq_of_lt ha
  have e2 : b % 2 ^ IntKind.u8.bits = b := Nat.mod_eq_of_lt hb
  simp only [bits, BitVec.ofInt_natCast, BitVec.toNat_xor, BitVec.toNat_ofNat, e1, e2]
  rw [IntKind.wrap_u8]
  omega
theorem ba32 (a : Nat) (ha : a < 4294967296) : bits .and .u32 (a : Int) 1 = ((a % 2 : Nat) : Int) := by
  have e1 : a % 2 ^ IntKind.u32.bits = a := Nat.mod_eq_of_lt ha
  have e2 : (1 : Int) = ((1 : Nat) : Int) := rfl
  have e3 : 1 % 2 ^ IntKind.u32.bits = 1 := rfl
  rw [e2]
  simp only [bits, BitVec.ofInt_natCast, BitVec.toNat_and, BitVec.toNat_ofNat, e1, e3]
  rw [IntKind.wrap_u32, Nat.and_one_is_mod]
  omega

set_option maxHeartbeats 400000 in
theorem shift_any (r : Nat) (w : World) (h : r < 4294967296) :
    Calls Try.prog 96 #[.int .u32 r] w fun e w' => e = .returned (.int .u32 (it 8 r : Nat)) ∧ w' = w := by
  go_enter Try.func96, Try.ntmps96
  go_wp2
  go_loopw [0, 4] (fun a t wr => ∃ k : Nat, k ≤ 8 ∧ t = .int .i64 k ∧ a = .int .u32 (it k r : Nat) ∧ w = wr) (fun _ t _ => 8 - (intOf t).toNat)
  case atStart => exact ⟨0, by omega, rfl, rfl, rfl⟩
  case round =>
    obtain ⟨k, hk, rfl, rfl, rfl⟩ := hrel
    by_cases hlt : k < 8
    · have k0 : (k : Int) < 8 := by omega
      have HX : Hid (it (k + 1) r = st (it k r)) := rfl
      have hx := it_lt h k
      obtain ⟨x, hxx⟩ : ∃ x, x = it k r := ⟨_, rfl⟩
      rw [← hxx] at hx
      have HXX : Hid (x = it k r) := hxx
      rw [← hxx]
      clear hxx
      have hb := ba32 x hx
      by_cases h1 : x % 2 = 1
      · rw [h1] at hb
        have hs : bits .xor .u32 ((x : Int) / 2) 3988292384 = ((st x : Nat) : Int) := by
          have := bx32 (x / 2) 3988292384 (by omega) (by omega)
          simp only [st, h1, if_true]
          rw [← this]; rfl
        have H1 : Hid (x % 2 = 1) := h1
        clear h1
        go_wp2
        go_roundw
        case rel => exact ⟨k + 1, by omega, by go_num, by rw [HX.out, ← HXX.out], trivial⟩
        case measure => simp [intOf]; omega
      · have h2 : x % 2 = 0 := by omega
        rw [h2] at hb
        have hs : (x : Int) / 2 = ((st x : Nat) : Int) := by
          simp only [st, h2]; rfl
        have H1 : Hid (x % 2 = 0) := h2
        clear h1 h2
        go_wp2
        go_roundw
        case rel => exact ⟨k + 1, by omega, by go_num, by rw [HX.out, ← HXX.out], trivial⟩
        case measure => simp [intOf]; omega
    · obtain rfl : k = 8 := by omega
      go_wp2
      go_ret
      exact ⟨rfl, rfl⟩
end Go.Proofs.Ytpoakkdkibameab
namespace Go.Proofs.Ytpoakkdkibameab
open Go.RowKit
set_option linter.unusedSimpArgs false
set_option linter.unusedVariables false

set_option maxHeartbeats 400000 in
theorem own_any (v : Value) (zs : List Nat) (w : World) (h : BytesAt w v zs) :
    Calls Try.prog 6 #[v] w fun e w' => ∃ u, e = .returned u ∧ Fresh w' w.heap.size u zs ∧ Only (fun _ => False) w w' := by
  obtain ⟨i0, hi0, hz0, hz1, hz2⟩ := info_parts info5
  obtain ⟨a, cap, w', hr, own, ho⟩ := app_copy 23 5 i0 _ 1 Try.underlying23 hi0 hz0 hz1 hz2 rfl rfl w v zs.length _ h.1 (fun j => rfl) h.2.1
  rw [← BL_getD] at own
  have HR : Hid _ := hr
  have HF : Hid (Fresh w' w.heap.size (.slice a zs.length cap) zs) := ⟨own, h.2⟩
  have HO : Hid (Only (fun _ => False) w w') := ho
  have hem := empty23
  clear hr own ho h
  go_enter Try.func6, Try.ntmps6
  go_wp2_with (at_builtin; refine wpList_append_run rfl _ _ 23 rfl _ _ (.slice a zs.length cap) rfl rfl HR.out ?_)
  go_ret
  exact ⟨_, rfl, HF.out, HO.out⟩

theorem fold_take (zs : List Nat) (k : Nat) (h : k < zs.length) : (zs.take (k + 1)).foldl eat 4294967295 = eat ((zs.take k).foldl eat 4294967295) (zs.getD k 0) := by
  rw [List.take_succ_eq_append_getElem h, List.foldl_append]
  simp [List.getD, h]
theorem getD_lt {zs : List Nat} (h : ∀ z ∈ zs, z < 256) (k : Nat) : zs.getD k 0 < 256 := by
  simp only [List.getD]
  rcases Nat.lt_or_ge k zs.length with hk | hk
  · rw [List.getElem?_eq_getElem hk]; exact h _ (List.getElem_mem hk)
  · rw [List.getElem?_eq_none hk]; decide

set_option maxHeartbeats 400000 in
theorem sum_any (v : Value) (zs : List Nat) (w : World) (h : BytesAt w v zs) :
    Calls Try.prog 88 #[v] w fun e w' => e = .returned (.int .u32 (sumN zs : Nat)) ∧ w' = w := by
  obtain ⟨a, c, rfl, hcap, hc⟩ := h.form
  have hlt := h.2.2
  have HL : Hid (∀ z ∈ zs, z < 256) := hlt
  have HC : Hid _ := hc
  obtain ⟨m, hm⟩ : ∃ m, m = zs.length := ⟨_, rfl⟩
  have HM : Hid (m = zs.length) := hm
  have hm2 : m ≤ 140737488355328 := hm ▸ h.2.1
  rw [← hm]
  clear h hc hlt hm hcap
  go_enter Try.func88, Try.ntmps88
  go_wp2
  go_loopw [3, 8] (fun r t wr => ∃ k : Nat, k ≤ m ∧ t = .int .i64 k ∧ r = .int .u32 ((zs.take k).foldl eat 4294967295 : Nat) ∧ w = wr) (fun _ t _ => m - (intOf t).toNat)
  case atStart => exact ⟨0, Nat.zero_le _, rfl, rfl, rfl⟩
  case round =>
    obtain ⟨k, hk, rfl, rfl, rfl⟩ := hrel
    by_cases hlt : k < m
    · have k0 : (0 : Int) ≤ (k : Int) := Int.natCast_nonneg _
      have k1 : (k : Int) < (m : Int) := by omega
      obtain ⟨g, o, rfl, hcell⟩ := HC.out k (by have := HM.out; omega)
      have HF : Hid _ := fold_take zs k (by have := HM.out; omega)
      have hz := getD_lt HL.out k
      have hx : (zs.take k).foldl eat 4294967295 < 4294967296 := fold_lt _ _ (by omega) (fun z hz => HL.out z (List.mem_of_mem_take hz))
      obtain ⟨x, hxx⟩ : ∃ x, x = (zs.take k).foldl eat 4294967295 := ⟨_, rfl⟩
      obtain ⟨z, hzz⟩ : ∃ z, z = zs.getD k 0 := ⟨_, rfl⟩
      rw [← hxx] at hx HF
      rw [← hzz] at hz hcell HF
      rw [← hxx]
      clear hxx hzz
      have hb := bx32 x z hx (by omega)
      have hs : x ^^^ z < 4294967296 := Nat.xor_lt_two_pow (n := 32) hx (by omega)
      go_wp2_with (go_at_call 96; refine (shift_any _ _ hs).mono ?_; rintro e w' ⟨rfl, rfl⟩)
      go_roundw
      case rel => exact ⟨k + 1, by omega, by go_num, by rw [HF.out]; rfl, trivial⟩
      case measure => simp [intOf]; omega
    · obtain rfl : k = m := by omega
      have hx : reg zs < 4294967296 := reg_lt zs HL.out
      have hb : bits .xor .u32 ((zs.take k).foldl eat 4294967295 : Nat) 4294967295 = (sumN zs : Nat) := by
        rw [HM.out, List.take_length]
        exact bx32 (reg zs) 4294967295 hx (by omega)
      go_wp2
      go_ret
      exact ⟨rfl, rfl⟩

/-- The register behind k bits of a byte c. -/
theorem it_bit (r c : Nat) (k : Nat) : (it k (r ^^^ c)) = it k r ^^^ it k c := it_xor r c k
end Go.Proofs.Ytpoakkdkibameab
namespace Go.Proofs.Ytpoakkdkibameab
open Go.RowKit
set_option linter.unusedSimpArgs false
set_option linter.unusedVariables false

/-- The register that takes the bits of c one by one. -/
def rr (k r c : Nat) : Nat := it k (r ^^^ c) ^^^ c / 2 ^ k
theorem rr_zero (r c : Nat) : rr 0 r c = r := by simp [rr, it, Nat.xor_assoc]
theorem rr_bit (k r c : Nat) : (rr k r c ^^^ c / 2 ^ k) = it k (r ^^^ c) := by simp [rr, Nat.xor_assoc]
theorem rr_succ (k r c : Nat) : rr (k + 1) r c = if (rr k r c ^^^ c / 2 ^ k) % 2 = 1 then rr k r c / 2 ^^^ 3988292384 else rr k r c / 2 := by
  rw [rr_bit]
  have e1 : rr k r c / 2 = it k (r ^^^ c) / 2 ^^^ c / 2 ^ (k + 1) := by
    unfold rr
    rw [xor_half, Nat.div_div_eq_div_mul, ← Nat.pow_succ]
  rw [e1]
  show st (it k (r ^^^ c)) ^^^ c / 2 ^ (k + 1) = _
  unfold st
  split
  · rw [Nat.xor_assoc, Nat.xor_assoc, Nat.xor_comm 3988292384]
  · rfl
theorem rr_eight (r c : Nat) (h : c < 256) : rr 8 r c = eat r c := by
  have : c / 2 ^ 8 = 0 := by omega
  simp [rr, this, eat]
theorem half_le (c k : Nat) : c / 2 ^ k ≤ c := Nat.div_le_self _ _
theorem rr_lt (k r c : Nat) (hr : r < 4294967296) (hc : c < 256) : rr k r c < 4294967296 :=
  Nat.xor_lt_two_pow (n := 32) (it_lt (Nat.xor_lt_two_pow (n := 32) hr (by omega)) k) (by have := half_le c k; omega)

end Go.Proofs.Ytpoakkdkibameab
namespace Go.Proofs.Ytpoakkdkibameab
open Go.RowKit
set_option linter.unusedSimpArgs false
set_option linter.unusedVariables false

theorem BytesAt.take {w : World} {a : Option Addr} {m c n : Nat} {zs : List Nat} (h : BytesAt w (.slice a m c) zs) (hn : n ≤ m) : BytesAt w (.slice a n c) (zs.take n) := by
  have hl : (zs.take n).length ≤ zs.length := by rw [List.length_take]; omega
  have hz : ∀ z ∈ zs.take n, z < 256 := fun z hz => h.2.2 z (List.mem_of_mem_take hz)
  rcases h.1 with ⟨hv, h0⟩ | ⟨ad, c', hv, hkc, hc⟩
  · simp only [Value.slice.injEq] at hv
    obtain ⟨rfl, rfl, rfl⟩ := hv
    obtain rfl : n = 0 := by omega
    exact ⟨.inl ⟨rfl, by simp⟩, by have := h.2.1; omega, hz⟩
  · simp only [Value.slice.injEq] at hv
    obtain ⟨rfl, rfl, rfl⟩ := hv
    have e : (zs.take n).length = n := by rw [List.length_take]; omega
    refine ⟨.inr ⟨ad, c, by rw [e], by omega, fun j hj => ?_⟩, by have := h.2.1; omega, hz⟩
    rw [e] at hj
    rw [hc j (by omega)]
    have : (zs.take n).getD j 0 = zs.getD j 0 := by simp only [List.getD]; rw [List.getElem?_take_of_lt (by omega)]
    simp only [this]
theorem Whole.bytes {w : World} {v : Value} {n : Nat} {f : Nat → Nat} (h : Whole w v n (fun j => .int .u8 (f j : Nat))) (hn : n ≤ 140737488355328) (hf : ∀ j, j < n → f j < 256) : BytesAt w v ((List.range n).map f) := by
  obtain ⟨a, c, rfl, h1, h2, h3, h4⟩ := h
  have hz : ∀ z ∈ (List.range n).map f, z < 256 := fun z hz => by obtain ⟨j, hj, rfl⟩ := List.mem_map.1 hz; exact hf j (by simpa using hj)
  by_cases hc : c = 0
  · obtain rfl : n = 0 := by omega
    cases a with
    | none => subst hc; exact ⟨.inl ⟨rfl, by simp⟩, by simp, hz⟩
    | some ad => exact ⟨.inr ⟨ad, c, by simp, by simp, fun j hj => by simp at hj⟩, by simp, hz⟩
  · obtain ⟨g, o, rfl, ht, hcell⟩ := h4 (by omega)
    refine ⟨.inr ⟨⟨g, o, none⟩, c, by simp, by simpa using h1, fun j hj => ?_⟩, by simpa using hn, hz⟩
    simp at hj
    rw [Addr.add_mid, hcell j hj]
    simp [List.getD, hj]
theorem make23 (n : Nat) (hn : n ≤ 140737488355328) (w : World) : (Instr.makeSlice 23 (.int .i64 n) (.int .i64 n)).run Try.prog w = .ok (.slice (some ⟨w.heap.size, 0, none⟩) n n) (w.alloc (.cells (madeCells (Value.int .u8 0).cells n) 5)) := by
  obtain ⟨i0, hi0, hz0, hz1, hz2⟩ := info_parts info5
  have := run_make (P := Try.prog) w 23 5 i0 _ Try.underlying23 hi0 hz0 .i64 .i64 (n : Int) (n : Int) (by omega) (Int.le_refl _) (by rw [hz2]; omega) (by omega)
  rw [hz1, show ((n : Int)).toNat = n by omega, Nat.mul_one] at this
  exact this
theorem made_whole (n : Nat) (hn : n ≤ 140737488355328) (w : World) : Whole (w.alloc (.cells (madeCells (Value.int .u8 0).cells n) 5)) (.slice (some ⟨w.heap.size, 0, none⟩) n n) n (fun _ => .int .u8 ((0 : Nat) : Int)) := by
  have hS := heap_alloc_new w (.cells (madeCells (Value.int .u8 0).cells n) 5)
  have hcell : ∀ j, j < n → (madeCells (Value.int .u8 0).cells n)[j]? = some (.int .u8 ((0 : Nat) : Int)) := by
    intro j hj
    simp [madeCells, hj, Value.cells, Nat.mod_one]
  refine ⟨_, n, rfl, Nat.le_refl _, by unfold maxLen; omega, fun e => (by cases e), fun hc => ⟨_, 0, rfl, fun j hj => ?_, fun j hj => ?_⟩⟩
  · rw [Nat.zero_add]
    refine ⟨?_, frozen_of_row _ _ _ _ _ hS⟩
    rw [cell_of_row _ _ _ _ _ _ hS, hcell _ hj]; rfl
  · rw [Nat.zero_add, cell_of_row _ _ _ _ _ _ hS, hcell _ hj]

/-- make of n bytes. -/
theorem made_any (n : Nat) (hn : n ≤ 140737488355328) : ∃ M : Array Value, (∀ w, (Instr.makeSlice 23 (.int .i64 n) (.int .i64 n)).run Try.prog w = .ok (.slice (some ⟨w.heap.size, 0, none⟩) n n) (w.alloc (.cells M 5))) ∧
    ∀ w : World, Whole (w.alloc (.cells M 5)) (.slice (some ⟨w.heap.size, 0, none⟩) n n) n (fun _ => .int .u8 ((0 : Nat) : Int)) := ⟨_, make23 n hn, made_whole n hn⟩

end Go.Proofs.Ytpoakkdkibameab
