/- The document's Quoted. The document's Tokens: what its steps are. -/
import Derived.Test.YtapehdolnljnoaaGreatDoorGam
namespace Go.Proofs.YtapehdolnljnoaaGreatDoor
open Go.RowKit Go.Lib
set_option linter.unusedSimpArgs false
set_option linter.unusedVariables false
theorem new_cells1 (W : World) (t : TypeId) (a : Value) : ∀ (j : Nat) (u : Value), [a][j]? = some u → (W.alloc (.cells #[a] t)).cell? ((⟨W.heap.size, 0, none⟩ : Addr).add j) = some u := by
  intro j u hj
  rw [addr_add, blk_cells (alloc_at W _ _ rfl)]
  simpa using hj
theorem new_cells2 (W : World) (t : TypeId) (a b : Value) : ∀ (j : Nat) (u : Value), [a, b][j]? = some u → (W.alloc (.cells #[a, b] t)).cell? ((⟨W.heap.size, 0, none⟩ : Addr).add j) = some u := by
  intro j u hj
  rw [addr_add, blk_cells (alloc_at W _ _ rfl)]
  simpa using hj
theorem one_b1 (x : Int) : ∀ u ∈ [Value.int .u8 x], u.oneCell' = true := by
  intro u hu
  simp only [List.mem_cons, List.not_mem_nil, or_false] at hu
  subst hu
  rfl
theorem one_b2 (x y : Int) : ∀ u ∈ [Value.int .u8 x, .int .u8 y], u.oneCell' = true := by
  intro u hu
  simp only [List.mem_cons, List.not_mem_nil, or_false] at hu
  rcases hu with rfl | rfl <;> rfl
set_option maxRecDepth 100000 in
theorem conv_row {w : World} {N : Nat} {ao : Option Addr} {cap : Nat} {l : List UInt8} (hl : l ≠ []) (h : w.ownsRowF N 5 1 (.slice ao l.length cap) l.length (Lib.byteCells l)) :
    (convert 93 9 (.slice ao l.length cap)).run Tryz.prog w = .ok (.string ⟨l.toArray⟩) w := by
  rcases h.2 with ⟨_, h0⟩ | ⟨g, cap', cur, fz, hv, _⟩
  · exact absurd (List.eq_nil_of_length_eq_zero h0) hl
  · injection hv with e1 e2 e3
    subst e1
    refine run_convert_bytes_back w _ _ 5 ⟨g, 0, none⟩ cap l Tryz.underlying93 Tryz.underlying5 Tryz.underlying9 (fun j hj => ?_)
    exact h.cells (g := g) rfl j _ (by simp [Lib.byteCells, hj])
theorem quo_rest {s : ByteArray} {k : Nat} (hk : k < s.size) : s.data.toList.drop k = s.get! k :: s.data.toList.drop (k + 1) := by
  have hl : k < s.data.toList.length := by rw [Array.length_toList]; exact hk
  rw [List.drop_eq_getElem_cons hl, ← get_bang s k hk]
  rfl
theorem quo_bytes {s : ByteArray} (h : ¬ stR s < s.size) : tx ([34] ++ quo (rns s) ++ [34]) = ⟨([34] ++ s.data.toList.flatMap qB ++ [34] : List UInt8).toArray⟩ := by
  obtain ⟨l, hv, e⟩ := valid_tx h
  rw [e, rns_tx hv, tx_data, qB_all hv]
  unfold tx
  rw [enL_app, enL_app]
  rfl
set_option maxRecDepth 100000 in
set_option maxHeartbeats 1000000 in
theorem rQuoted_any (s : ByteArray) (hs : s.size ≤ 4000000) (w : World) :
    Calls Tryz.prog 80 #[.string s] w fun e w' => e = .returned (.tuple #[.string (quoR s).1, .int .i64 (quoR s).2]) ∧ Only (fun _ => False) w w' := by
  have HB : Hid (Calls Tryz.prog 54 #[.string s] w fun e w' => e = .returned (.int .i64 (badR s)) ∧ Only (fun _ => False) w w') := bad_any s hs w
  have hbr : badR s = if stR s < s.size then (stR s : Int) else -1 := rfl
  obtain ⟨Z, hZ⟩ : ∃ Z, Z = quoR s := ⟨_, rfl⟩
  rw [← hZ]
  unfold quoR at hZ
  by_cases hb : stR s < s.size
  · rw [if_pos hb] at hbr hZ
    rw [hbr] at HB
    have HE : Hid (Z = (⟨#[]⟩, 8)) := hZ
    have b2 : (0 : Int) ≤ (stR s : Int) := Int.natCast_nonneg _
    obtain ⟨z, hz⟩ : ∃ z, z = stR s := ⟨_, rfl⟩
    rw [← hz] at HB b2
    clear hbr hb hz hZ
    go_enter Tryz.func80, Tryz.ntmps80
    go_wp2_with fail
    refine (show Calls Tryz.prog 54 _ _ _ from HB.out).mono ?_
    rintro e w1 ⟨rfl, o1⟩
    have O1 : Hid (Only (fun _ => False) w w1) := o1
    clear HB o1
    go_wp2
    go_ret2
    exact ⟨by rw [show Z = _ from HE.out]; rfl, O1.out⟩
  · rw [if_neg hb] at hbr hZ
    rw [hbr] at HB
    by_cases hl : 4096 < s.size
    · rw [if_pos hl] at hZ
      have HE : Hid (Z = (⟨#[]⟩, 11)) := hZ
      have b2 : decide ((4096 : Int) < (s.size : Int)) = true := decide_eq_true (by omega)
      clear hbr hb hZ hl
      go_enter Tryz.func80, Tryz.ntmps80
      go_wp2_with fail
      refine (show Calls Tryz.prog 54 _ _ _ from HB.out).mono ?_
      rintro e w1 ⟨rfl, o1⟩
      have O1 : Hid (Only (fun _ => False) w w1) := o1
      clear HB o1
      go_wp2
      go_ret2
      exact ⟨by rw [show Z = _ from HE.out]; rfl, O1.out⟩
    · rw [if_neg hl, quo_bytes hb] at hZ
      have HE : Hid (Z = (⟨([34] ++ (s.data.toList.drop 0).flatMap qB ++ [34] : List UInt8).toArray⟩, 0)) := hZ
      have b2 : decide ((4096 : Int) < (s.size : Int)) = false := decide_eq_false (by omega)
      clear hbr hb hZ
      obtain ⟨i0, hi, hz0, hz1, hz2⟩ := byte_info
      have HBi : Hid (Tryz.prog.info? 5 = some i0 ∧ i0.zero = some (.int .u8 0) ∧ i0.size = 1 ∧ i0.bytes = 1) := ⟨hi, hz0, hz1, hz2⟩
      clear hi hz0 hz1 hz2
      go_enter Tryz.func80, Tryz.ntmps80
      go_wp2_with fail
      refine (show Calls Tryz.prog 54 _ _ _ from HB.out).mono ?_
      rintro e w1 ⟨rfl, o1⟩
      have O1 : Hid (Only (fun _ => False) w w1) := o1
      clear HB o1
      go_wp2
      obtain ⟨N, hN⟩ : ∃ N, N = w1.heap.size := ⟨_, rfl⟩
      have R0 : Hid ((w1.alloc (.cells #[.int .u8 34] 5)).ownsRowF N 5 1 (.slice (some ⟨N, 0, none⟩) ([34] : List UInt8).length 1) ([34] : List UInt8).length (Lib.byteCells [34]) ∧ Only (fun _ => False) w (w1.alloc (.cells #[.int .u8 34] 5)) ∧ N ≤ (w1.alloc (.cells #[.int .u8 34] 5)).heap.size) := by
        refine ⟨⟨rfl, .inr ⟨N, 1, #[.int .u8 34], (0, 0), rfl, Nat.le_refl _, alloc_at _ _ _ hN, by simp, Nat.le_refl _, by unfold maxLen; omega, rfl, rfl⟩⟩, O1.out.alloc _, by simp; omega⟩
      have HNw : Hid (w.heap.size ≤ N) := by show w.heap.size ≤ N; rw [hN]; exact O1.out.size
      rw [← hN]
      clear hN
      go_loopw [4, 5] (fun r4 r5 wr => ∃ (k : Nat) (acc : List UInt8) (ao : Option Addr) (cap : Nat), k ≤ s.size ∧ r4 = .slice ao acc.length cap ∧ r5 = .int .i64 (k : Int) ∧ Hid (acc ≠ [] ∧ acc.length ≤ 1 + 2 * k ∧ wr.ownsRowF N 5 1 (.slice ao acc.length cap) acc.length (Lib.byteCells acc) ∧ Only (fun _ => False) w wr ∧ N ≤ wr.heap.size ∧ Z = (⟨(acc ++ (s.data.toList.drop k).flatMap qB ++ [34] : List UInt8).toArray⟩, 0))) (fun _ r5 _ => s.size - uOf r5)
      case atStart => exact ⟨0, [34], some ⟨N, 0, none⟩, 1, Nat.zero_le _, rfl, rfl, by simp, by simp, R0.out.1, R0.out.2.1, R0.out.2.2, HE.out⟩
      case round =>
        obtain ⟨k, acc, ao, cap, hk, rfl, rfl, HI⟩ := hrel
        obtain ⟨w5, rfl⟩ : ∃ w5, w5 = wr := ⟨_, rfl⟩
        obtain ⟨L, hL⟩ : ∃ L, L = acc.length := ⟨_, rfl⟩
        have HL : Hid (L = acc.length) := hL
        have hLk : L ≤ 1 + 2 * k := by rw [hL]; exact HI.out.2.1
        have HI2 : Hid (w5.ownsRowF N 5 1 (.slice ao L cap) L (Lib.byteCells acc)) := by rw [hL]; exact HI.out.2.2.1
        have HO : Hid (Only (fun _ => False) w w5) := HI.out.2.2.2.1
        have HNs : Hid (N ≤ w5.heap.size) := HI.out.2.2.2.2.1
        have HZk : Hid (Z = (⟨(acc ++ (s.data.toList.drop k).flatMap qB ++ [34] : List UInt8).toArray⟩, 0)) := HI.out.2.2.2.2.2
        rw [← hL]
        clear HE R0 HI hL O1
        by_cases hlt : k < s.size
        · have hix : ∀ W : World, (Instr.index 9 (.string s) (.int .i64 (k : Int))).run Tryz.prog W = .ok (.int .u8 (byN s k : Int)) W := fun W => by
            rw [run_index_string W 9 _ _ _ Tryz.underlying9, dif_pos ⟨by omega, by omega⟩]
            simp only [Int.toNat_natCast]
            rw [get_bang]
            rfl
          have hrest := quo_rest hlt
          obtain ⟨b, hbb⟩ : ∃ b, b = s.get! k := ⟨_, rfl⟩
          rw [← hbb] at hrest
          have hby : byN s k = b.toNat := by unfold byN; rw [hbb]
          obtain ⟨y, hy⟩ : ∃ y, y = byN s k := ⟨_, rfl⟩
          rw [← hy] at hix hby
          have HZ2 : Hid (∀ x, qB b = x → Z = (⟨((acc ++ x) ++ (s.data.toList.drop (k + 1)).flatMap qB ++ [34] : List UInt8).toArray⟩, 0)) := fun x hx => by
            rw [HZk.out, hrest, List.flatMap_cons, hx, ← List.append_assoc acc x]
          have hqb : qB b = if b.toNat = 10 then [92, 110] else if b.toNat = 34 ∨ b.toNat = 92 then [92, b] else [b] := rfl
          rw [← hby] at hqb
          have hcb : (.int .u8 (y : Int) : Value) = .int .u8 (b.toNat : Int) := by rw [hby]
          have k1 : (k : Int) < (s.size : Int) := by omega
          have k0 : (0 : Int) ≤ (k : Int) := Int.natCast_nonneg _
          clear HZk hrest hbb hy
          by_cases h10 : y = 10
          · rw [if_pos h10] at hqb
            have HZ3 := HZ2.out _ hqb
            have e10 : ((y : Int) == 10) = true := by rw [h10]; rfl
            have HZ4 : Hid (Z = (⟨((acc ++ [92, 110]) ++ (s.data.toList.drop (k + 1)).flatMap qB ++ [34] : List UInt8).toArray⟩, 0)) := HZ3
            clear HZ2 HZ3 hqb h10 hby hcb
            obtain ⟨hi, hz0, hz1, hz2⟩ := HBi.out
            have hm1 : L + 2 ≤ maxLen := by unfold maxLen; omega
            have hm2 : (L + 2) * 1 ≤ 140737488355328 := by omega
            have HM3 : Hid (∀ o, N ≤ (w5.alloc o).heap.size) := fun o => by have : N ≤ w5.heap.size := HNs.out; simp; omega
            have HOw : Hid (w5.ownsRowF N 5 1 (.slice ao L cap) L (Lib.byteCells acc)) := HI2.out
            go_wp2_with (at_builtin; refine wpList_append_ownF _ rfl _ _ 93 rfl N 5 i0 (.int .u8 0) 1 1 Tryz.underlying93 hi hz0 hz1 hz2 rfl (by decide) _ L (Lib.byteCells acc) rfl (HOw.out.alloc _) ⟨w5.heap.size, 0, none⟩ 2 2 [.int .u8 92, .int .u8 110] rfl rfl (new_cells2 _ _ _ _) (one_b2 _ _) hm1 hm2 (HM3.out _) ?_)
            intro v' w6 hown' hgrow _
            obtain ⟨ao', cap', rfl⟩ : ∃ ao' cap', v' = .slice ao' (L + 2) cap' := by
              rcases hown'.2 with ⟨_, h0⟩ | ⟨g, cap', cur, fz, hv, _⟩
              · omega
              · exact ⟨_, cap', hv⟩
            have e2 : (acc ++ [92, 110]).length = L + 2 := by rw [List.length_append, ← (show L = acc.length from HL.out)]; rfl
            have HK1 : Hid (w6.ownsRowF N 5 1 (.slice ao' (acc ++ [92, 110]).length cap') (acc ++ [92, 110]).length (Lib.byteCells (acc ++ [92, 110]))) := by
              rw [e2, Lib.byteCells_append]
              exact hown'
            have HK2 : Hid (Below N w6 w6 ∧ N ≤ w6.heap.size ∧ Only (fun _ => False) w w6) := by
              have hb : Below N w5 w6 := ((Below.refl N w5).alloc HNs.out _).grown hgrow (HM3.out _) (fun k hk => (HOw.out.lt k hk).1)
              refine ⟨Below.refl _ _, Nat.le_trans HNs.out hb.size, ⟨hb.os.trans HO.out.os, hb.tape.trans HO.out.tape, hb.output.trans HO.out.output, Nat.le_trans HO.out.size hb.size, fun k hk hn => ?_⟩⟩
              exact (hb.block k (Nat.lt_of_lt_of_le hk HNw.out)).trans (HO.out.block k hk hn)
            have HV : Hid ((Value.slice ao' (L + 2) cap') = .slice ao' (acc ++ [92, 110]).length cap') := by rw [e2]; exact rfl
            clear hown' hgrow e2 HOw HM3
            go_wp2
            go_roundw
            case rel => exact ⟨k + 1, acc ++ [92, 110], ao', cap', by omega, HV.out, by go_num, by simp, by rw [List.length_append, ← (show L = acc.length from HL.out)]; show L + 2 ≤ _; omega, HK1.out, HK2.out.2.2, HK2.out.2.1, HZ4.out⟩
            case measure => simp only [uOf]; omega
          · have e10 : ((y : Int) == 10) = false := by simp; omega
            rw [if_neg h10] at hqb
            by_cases h2 : y = 34 ∨ y = 92
            · rw [if_pos h2] at hqb
              have HZ3 := HZ2.out _ hqb
              have HZ4 : Hid (Z = (⟨((acc ++ [92, b]) ++ (s.data.toList.drop (k + 1)).flatMap qB ++ [34] : List UInt8).toArray⟩, 0)) := HZ3
              have e34 : ((y : Int) == 34) = true ∨ (((y : Int) == 34) = false ∧ ((y : Int) == 92) = true) := by
                rcases h2 with h2 | h2
                · left; rw [h2]; rfl
                · right; rw [h2]; exact ⟨rfl, rfl⟩
              subst hby
              clear HZ2 HZ3 hqb h10 h2 hcb
              rcases e34 with e34 | ⟨e34, e92⟩
              · obtain ⟨hi, hz0, hz1, hz2⟩ := HBi.out
                have hm1 : L + 2 ≤ maxLen := by unfold maxLen; omega
                have hm2 : (L + 2) * 1 ≤ 140737488355328 := by omega
                have HM3 : Hid (∀ o, N ≤ (w5.alloc o).heap.size) := fun o => by have : N ≤ w5.heap.size := HNs.out; simp; omega
                have HOw : Hid (w5.ownsRowF N 5 1 (.slice ao L cap) L (Lib.byteCells acc)) := HI2.out
                go_wp2_with (at_builtin; refine wpList_append_ownF _ rfl _ _ 93 rfl N 5 i0 (.int .u8 0) 1 1 Tryz.underlying93 hi hz0 hz1 hz2 rfl (by decide) _ L (Lib.byteCells acc) rfl (HOw.out.alloc _) ⟨w5.heap.size, 0, none⟩ 2 2 [.int .u8 92, .int .u8 (b.toNat : Int)] rfl rfl (new_cells2 _ _ _ _) (one_b2 _ _) hm1 hm2 (HM3.out _) ?_)
                intro v' w6 hown' hgrow _
                obtain ⟨ao', cap', rfl⟩ : ∃ ao' cap', v' = .slice ao' (L + 2) cap' := by
                  rcases hown'.2 with ⟨_, h0⟩ | ⟨g, cap', cur, fz, hv, _⟩
                  · omega
                  · exact ⟨_, cap', hv⟩
                have e2 : (acc ++ [92, b]).length = L + 2 := by rw [List.length_append, ← (show L = acc.length from HL.out)]; rfl
                have HK1 : Hid (w6.ownsRowF N 5 1 (.slice ao' (acc ++ [92, b]).length cap') (acc ++ [92, b]).length (Lib.byteCells (acc ++ [92, b]))) := by
                  rw [e2, Lib.byteCells_append]
                  exact hown'
                have HK2 : Hid (Below N w6 w6 ∧ N ≤ w6.heap.size ∧ Only (fun _ => False) w w6) := by
                  have hb : Below N w5 w6 := ((Below.refl N w5).alloc HNs.out _).grown hgrow (HM3.out _) (fun k hk => (HOw.out.lt k hk).1)
                  refine ⟨Below.refl _ _, Nat.le_trans HNs.out hb.size, ⟨hb.os.trans HO.out.os, hb.tape.trans HO.out.tape, hb.output.trans HO.out.output, Nat.le_trans HO.out.size hb.size, fun k hk hn => ?_⟩⟩
                  exact (hb.block k (Nat.lt_of_lt_of_le hk HNw.out)).trans (HO.out.block k hk hn)
                have HV : Hid ((Value.slice ao' (L + 2) cap') = .slice ao' (acc ++ [92, b]).length cap') := by rw [e2]; exact rfl
                clear hown' hgrow e2 HOw HM3
                go_wp2
                go_roundw
                case rel => exact ⟨k + 1, acc ++ [92, b], ao', cap', by omega, HV.out, by go_num, by simp, by rw [List.length_append, ← (show L = acc.length from HL.out)]; show L + 2 ≤ _; omega, HK1.out, HK2.out.2.2, HK2.out.2.1, HZ4.out⟩
                case measure => simp only [uOf]; omega
              · obtain ⟨hi, hz0, hz1, hz2⟩ := HBi.out
                have hm1 : L + 2 ≤ maxLen := by unfold maxLen; omega
                have hm2 : (L + 2) * 1 ≤ 140737488355328 := by omega
                have HM3 : Hid (∀ o, N ≤ (w5.alloc o).heap.size) := fun o => by have : N ≤ w5.heap.size := HNs.out; simp; omega
                have HOw : Hid (w5.ownsRowF N 5 1 (.slice ao L cap) L (Lib.byteCells acc)) := HI2.out
                go_wp2_with (at_builtin; refine wpList_append_ownF _ rfl _ _ 93 rfl N 5 i0 (.int .u8 0) 1 1 Tryz.underlying93 hi hz0 hz1 hz2 rfl (by decide) _ L (Lib.byteCells acc) rfl (HOw.out.alloc _) ⟨w5.heap.size, 0, none⟩ 2 2 [.int .u8 92, .int .u8 (b.toNat : Int)] rfl rfl (new_cells2 _ _ _ _) (one_b2 _ _) hm1 hm2 (HM3.out _) ?_)
                intro v' w6 hown' hgrow _
                obtain ⟨ao', cap', rfl⟩ : ∃ ao' cap', v' = .slice ao' (L + 2) cap' := by
                  rcases hown'.2 with ⟨_, h0⟩ | ⟨g, cap', cur, fz, hv, _⟩
                  · omega
                  · exact ⟨_, cap', hv⟩
                have e2 : (acc ++ [92, b]).length = L + 2 := by rw [List.length_append, ← (show L = acc.length from HL.out)]; rfl
                have HK1 : Hid (w6.ownsRowF N 5 1 (.slice ao' (acc ++ [92, b]).length cap') (acc ++ [92, b]).length (Lib.byteCells (acc ++ [92, b]))) := by
                  rw [e2, Lib.byteCells_append]
                  exact hown'
                have HK2 : Hid (Below N w6 w6 ∧ N ≤ w6.heap.size ∧ Only (fun _ => False) w w6) := by
                  have hb : Below N w5 w6 := ((Below.refl N w5).alloc HNs.out _).grown hgrow (HM3.out _) (fun k hk => (HOw.out.lt k hk).1)
                  refine ⟨Below.refl _ _, Nat.le_trans HNs.out hb.size, ⟨hb.os.trans HO.out.os, hb.tape.trans HO.out.tape, hb.output.trans HO.out.output, Nat.le_trans HO.out.size hb.size, fun k hk hn => ?_⟩⟩
                  exact (hb.block k (Nat.lt_of_lt_of_le hk HNw.out)).trans (HO.out.block k hk hn)
                have HV : Hid ((Value.slice ao' (L + 2) cap') = .slice ao' (acc ++ [92, b]).length cap') := by rw [e2]; exact rfl
                clear hown' hgrow e2 HOw HM3
                go_wp2
                go_roundw
                case rel => exact ⟨k + 1, acc ++ [92, b], ao', cap', by omega, HV.out, by go_num, by simp, by rw [List.length_append, ← (show L = acc.length from HL.out)]; show L + 2 ≤ _; omega, HK1.out, HK2.out.2.2, HK2.out.2.1, HZ4.out⟩
                case measure => simp only [uOf]; omega
            · rw [if_neg h2] at hqb
              have HZ3 := HZ2.out _ hqb
              have HZ4 : Hid (Z = (⟨((acc ++ [b]) ++ (s.data.toList.drop (k + 1)).flatMap qB ++ [34] : List UInt8).toArray⟩, 0)) := HZ3
              have e34 : ((y : Int) == 34) = false := by simp; omega
              have e92 : ((y : Int) == 92) = false := by simp; omega
              subst hby
              clear HZ2 HZ3 hqb h10 h2 hcb
              obtain ⟨hi, hz0, hz1, hz2⟩ := HBi.out
              have hm1 : L + 1 ≤ maxLen := by unfold maxLen; omega
              have hm2 : (L + 1) * 1 ≤ 140737488355328 := by omega
              have HM3 : Hid (∀ o, N ≤ (w5.alloc o).heap.size) := fun o => by have : N ≤ w5.heap.size := HNs.out; simp; omega
              have HOw : Hid (w5.ownsRowF N 5 1 (.slice ao L cap) L (Lib.byteCells acc)) := HI2.out
              go_wp2_with (at_builtin; refine wpList_append_ownF _ rfl _ _ 93 rfl N 5 i0 (.int .u8 0) 1 1 Tryz.underlying93 hi hz0 hz1 hz2 rfl (by decide) _ L (Lib.byteCells acc) rfl (HOw.out.alloc _) ⟨w5.heap.size, 0, none⟩ 1 1 [.int .u8 (b.toNat : Int)] rfl rfl (new_cells1 _ _ _) (one_b1 _) hm1 hm2 (HM3.out _) ?_)
              intro v' w6 hown' hgrow _
              obtain ⟨ao', cap', rfl⟩ : ∃ ao' cap', v' = .slice ao' (L + 1) cap' := by
                rcases hown'.2 with ⟨_, h0⟩ | ⟨g, cap', cur, fz, hv, _⟩
                · omega
                · exact ⟨_, cap', hv⟩
              have e2 : (acc ++ [b]).length = L + 1 := by rw [List.length_append, ← (show L = acc.length from HL.out)]; rfl
              have HK1 : Hid (w6.ownsRowF N 5 1 (.slice ao' (acc ++ [b]).length cap') (acc ++ [b]).length (Lib.byteCells (acc ++ [b]))) := by
                rw [e2, Lib.byteCells_append]
                exact hown'
              have HK2 : Hid (Below N w6 w6 ∧ N ≤ w6.heap.size ∧ Only (fun _ => False) w w6) := by
                have hb : Below N w5 w6 := ((Below.refl N w5).alloc HNs.out _).grown hgrow (HM3.out _) (fun k hk => (HOw.out.lt k hk).1)
                refine ⟨Below.refl _ _, Nat.le_trans HNs.out hb.size, ⟨hb.os.trans HO.out.os, hb.tape.trans HO.out.tape, hb.output.trans HO.out.output, Nat.le_trans HO.out.size hb.size, fun k hk hn => ?_⟩⟩
                exact (hb.block k (Nat.lt_of_lt_of_le hk HNw.out)).trans (HO.out.block k hk hn)
              have HV : Hid ((Value.slice ao' (L + 1) cap') = .slice ao' (acc ++ [b]).length cap') := by rw [e2]; exact rfl
              clear hown' hgrow e2 HOw HM3
              go_wp2
              go_roundw
              case rel => exact ⟨k + 1, acc ++ [b], ao', cap', by omega, HV.out, by go_num, by simp, by rw [List.length_append, ← (show L = acc.length from HL.out)]; show L + 1 ≤ _; omega, HK1.out, HK2.out.2.2, HK2.out.2.1, HZ4.out⟩
              case measure => simp only [uOf]; omega
        · have k1 : ¬ (k : Int) < (s.size : Int) := by omega
          have HZ4 : Hid (Z = (⟨(acc ++ [34] : List UInt8).toArray⟩, 0)) := by
            show Z = _
            rw [HZk.out, List.drop_eq_nil_of_le (by rw [Array.length_toList]; show s.size ≤ k; omega)]
            simp
          clear HZk
          obtain ⟨hi, hz0, hz1, hz2⟩ := HBi.out
          have hm1 : L + 1 ≤ maxLen := by unfold maxLen; omega
          have hm2 : (L + 1) * 1 ≤ 140737488355328 := by omega
          have HM3 : Hid (∀ o, N ≤ (w5.alloc o).heap.size) := fun o => by have : N ≤ w5.heap.size := HNs.out; simp; omega
          have HOw : Hid (w5.ownsRowF N 5 1 (.slice ao L cap) L (Lib.byteCells acc)) := HI2.out
          go_wp2_with (at_builtin; refine wpList_append_ownF _ rfl _ _ 93 rfl N 5 i0 (.int .u8 0) 1 1 Tryz.underlying93 hi hz0 hz1 hz2 rfl (by decide) _ L (Lib.byteCells acc) rfl (HOw.out.alloc _) ⟨w5.heap.size, 0, none⟩ 1 1 [.int .u8 34] rfl rfl (new_cells1 _ _ _) (one_b1 _) hm1 hm2 (HM3.out _) ?_)
          intro v' w6 hown' hgrow _
          obtain ⟨ao', cap', rfl⟩ : ∃ ao' cap', v' = .slice ao' (L + 1) cap' := by
            rcases hown'.2 with ⟨_, h0⟩ | ⟨g, cap', cur, fz, hv, _⟩
            · omega
            · exact ⟨_, cap', hv⟩
          have e2 : (acc ++ [34]).length = L + 1 := by rw [List.length_append, ← (show L = acc.length from HL.out)]; rfl
          have HK1 : Hid (w6.ownsRowF N 5 1 (.slice ao' (acc ++ [34]).length cap') (acc ++ [34]).length (Lib.byteCells (acc ++ [34]))) := by
            rw [e2, Lib.byteCells_append]
            exact hown'
          have HK2 : Hid (Below N w6 w6 ∧ N ≤ w6.heap.size ∧ Only (fun _ => False) w w6) := by
            have hb : Below N w5 w6 := ((Below.refl N w5).alloc HNs.out _).grown hgrow (HM3.out _) (fun k hk => (HOw.out.lt k hk).1)
            refine ⟨Below.refl _ _, Nat.le_trans HNs.out hb.size, ⟨hb.os.trans HO.out.os, hb.tape.trans HO.out.tape, hb.output.trans HO.out.output, Nat.le_trans HO.out.size hb.size, fun k hk hn => ?_⟩⟩
            exact (hb.block k (Nat.lt_of_lt_of_le hk HNw.out)).trans (HO.out.block k hk hn)
          have HV : Hid ((Value.slice ao' (L + 1) cap') = .slice ao' (acc ++ [34]).length cap') := by rw [e2]; exact rfl
          clear hown' hgrow e2 HOw HM3
          have HCv := conv_row (by simp) HK1.out
          rw [← HV.out] at HCv
          go_wp2
          go_ret2
          exact ⟨by rw [show Z = _ from HZ4.out]; rfl, HK2.out.2.2⟩
end Go.Proofs.YtapehdolnljnoaaGreatDoor
namespace Go.Proofs.YtapehdolnljnoaaGreatDoor
open Go.RowKit Go.Lib
set_option linter.unusedSimpArgs false
set_option linter.unusedVariables false
/-- The place of the k-th character. -/
def Pk (l : List Nat) (k : Nat) : Nat := wl (l.take k)
theorem pk_add (l : List Nat) (k i : Nat) : Pk l (k + i) = Pk l k + wl ((l.drop k).take i) := by
  unfold Pk
  rw [List.take_add, wl_app]
theorem pk_succ {l : List Nat} {k c : Nat} (h : l[k]? = some c) : Pk l (k + 1) = Pk l k + wr c := by
  rw [pk_add, drop_cons h, List.take_succ_cons, List.take_zero, wl_cons, wl_nil, Nat.add_zero]
theorem sfx_at {l : List Nat} (hv : VL l) (k : Nat) : Sfx (tx l) (l.drop k) (Pk l k) := by
  have : Sfx (tx l) (l.take k ++ l.drop k) 0 := by rw [List.take_append_drop]; exact sfx_all hv
  have := this.drop
  rwa [Nat.zero_add] at this
theorem t_end {l : List Nat} (hv : VL l) {k : Nat} (h : l.length ≤ k) (acc : List Tok) : tokH (tx l) (bg (tx l) (Pk l k)) acc = (acc, 0, 0) := by
  have g := sfx_at hv k
  rw [List.drop_eq_nil_of_le h] at g
  have gb := bg_sfx g
  rw [SK_nil] at gb
  have := gb.size
  rw [wl_nil] at this
  exact tokH_end _ (by omega)
theorem t_blank {l : List Nat} (hv : VL l) {k c : Nat} (h : l[k]? = some c) (hb : blk c = true) : bg (tx l) (Pk l k) = bg (tx l) (Pk l (k + 1)) := by
  have g := bg_sfx (sfx_at hv k)
  rw [drop_cons h, SK_one hb] at g
  exact g.pos (bg_sfx (sfx_at hv (k + 1)))
theorem t_head {l : List Nat} (hv : VL l) {k c : Nat} (h : l[k]? = some c) (hb : blk c = false) (hr : rmL (l.drop k) = false) : bg (tx l) (Pk l k) = Pk l k ∧ Pk l k < (tx l).size := by
  have g0 := sfx_at hv k
  have g := bg_sfx g0
  have e : SK (l.drop k) = l.drop k := by
    rw [SK_eq]
    have hd : (l.drop k).dropWhile blk = l.drop k := by rw [drop_cons h, List.dropWhile_cons, if_neg (by rw [hb]; simp)]
    rw [hd, hr, if_neg (by simp)]
  rw [e] at g
  refine ⟨g.pos g0, ?_⟩
  have := g0.size
  rw [drop_cons h, wl_cons] at this
  have := wr_pos c
  omega
theorem t_err {s : ByteArray} {a : Nat} (acc : List Tok) (h : a < s.size) (he : (redR s a).2.2 ≠ 0) : tokH s a acc = ([], (redR s a).2.1, (redR s a).2.2) := by
  unfold tokH tokG
  rw [if_pos h, if_neg he]
theorem t_full {s : ByteArray} {a : Nat} {acc : List Tok} (h : a < s.size) (he : (redR s a).2.2 = 0) (hl : acc.length = 4096) : tokH s a acc = ([], a, 11) := by
  unfold tokH tokG
  rw [if_pos h, if_pos he, if_pos hl]
theorem t_remark {l : List Nat} (hv : VL l) {k k' : Nat} (hb : (l.drop k).dropWhile blk = l.drop k) (hr : rmL (l.drop k) = true) (hd : l.drop k' = (l.drop k).dropWhile (fun c => !decide (c = 10))) : bg (tx l) (Pk l k) = bg (tx l) (Pk l k') := by
  have g := bg_sfx (sfx_at hv k)
  rw [SK_eq, hb, if_pos hr, ← hd] at g
  exact g.pos (bg_sfx (sfx_at hv k'))
theorem t_str {l : List Nat} (hv : VL l) {k : Nat} (h : l[k]? = some 34) :
    ((rstr (Pk l k) (l.length + 1) ((cl 0 l).drop (k + 1)) (k + 1) []).2.2 = 0 → ∃ i, k + 1 + i ≤ l.length ∧ (rstr (Pk l k) (l.length + 1) ((cl 0 l).drop (k + 1)) (k + 1) []).2.1 = k + 1 + i ∧ redR (tx l) (Pk l k) = (⟨3, tx (rstr (Pk l k) (l.length + 1) ((cl 0 l).drop (k + 1)) (k + 1) []).1, 0, Pk l k⟩, Pk l (k + 1 + i), 0)) ∧
    ((rstr (Pk l k) (l.length + 1) ((cl 0 l).drop (k + 1)) (k + 1) []).2.2 ≠ 0 → (rstr (Pk l k) (l.length + 1) ((cl 0 l).drop (k + 1)) (k + 1) []).1 = [] ∧ redR (tx l) (Pk l k) = (zT, (rstr (Pk l k) (l.length + 1) ((cl 0 l).drop (k + 1)) (k + 1) []).2.1, (rstr (Pk l k) (l.length + 1) ((cl 0 l).drop (k + 1)) (k + 1) []).2.2)) := by
  have hk := (List.getElem?_eq_some_iff.1 h).1
  have g0 := sfx_at hv k
  rw [drop_cons h] at g0
  have hs := pk_succ h
  rw [show wr 34 = 1 from rfl] at hs
  have ecl : (cl 0 l).drop (k + 1) = cl (Pk l k + 1 + 0) (l.drop (k + 1)) := by
    rw [cl_drop, Nat.zero_add, Nat.add_zero, ← hs]
    rfl
  have hsz := g0.size
  rw [wl_cons, show wr 34 = 1 from rfl] at hsz
  have hsz2 : (tx l).size = Pk l k + 1 + 0 + wl (l.drop (k + 1)) := by omega
  rw [ecl, red_str g0, hsz2]
  have hlen : (l.drop (k + 1)).length = l.length - (k + 1) := List.length_drop
  obtain ⟨i1, i2⟩ := str_rel (Pk l k) (l.length + 1) (l.drop (k + 1)) 0 (k + 1) [] (by omega)
  refine ⟨fun g => ?_, i2⟩
  obtain ⟨i, hi, e1, e2⟩ := i1 g
  have hle : k + 1 + i ≤ l.length := by
    rw [hlen] at hi
    have := Nat.add_le_add_left hi (k + 1)
    rwa [Nat.add_sub_cancel' (Nat.succ_le_of_lt hk)] at this
  refine ⟨i, hle, e1, ?_⟩
  rw [e2, Nat.add_zero, pk_add l (k + 1) i, hs]
theorem tw_take (P : Nat → Bool) : ∀ q : List Nat, q.takeWhile P = q.take (q.takeWhile P).length
  | [] => rfl
  | c :: q => by
    rw [List.takeWhile_cons]
    split
    · rw [List.length_cons, List.take_succ_cons, ← tw_take P q]
    · rfl
theorem wrd_take (l : List Nat) (k : Nat) : (l.drop k).takeWhile (fun c => !blk c) = (l.drop k).take ((l.drop k).takeWhile (fun c => !blk c)).length := tw_take _ _
theorem t_word {l : List Nat} (hv : VL l) {k c : Nat} (h : l[k]? = some c) (h34 : c ≠ 34) : redR (tx l) (Pk l k) = wrdL ((l.drop k).takeWhile (fun c => !blk c)) (Pk l k) (Pk l (k + ((l.drop k).takeWhile (fun c => !blk c)).length)) := by
  have g0 := sfx_at hv k
  rw [drop_cons h] at g0
  rw [red_word (r := []) g0 h34 rfl, pk_add, ← drop_cons h]
  rw [← wrd_take]
theorem t_bytes {l : List Nat} (hv : VL l) (k : Nat) : (tx l).extract (Pk l k) (Pk l (k + ((l.drop k).takeWhile (fun c => !blk c)).length)) = tx ((l.drop k).takeWhile (fun c => !blk c)) := by
  have g0 := sfx_at hv k
  have g1 : Sfx (tx l) ((l.drop k).takeWhile (fun c => !blk c) ++ (l.drop k).dropWhile (fun c => !blk c)) (Pk l k) := by rw [← split_while]; exact g0
  rw [pk_add, ← wrd_take]
  exact g1.extract
/-- A remark begins just where the word is the sign !. -/
theorem rm_word {l : List Nat} {k c : Nat} (h : l[k]? = some c) (hb : blk c = false) : rmL (l.drop k) = decide ((l.drop k).takeWhile (fun c => !blk c) = [33]) := by
  rw [drop_cons h]
  unfold rmL
  rw [List.head?_cons, List.tail_cons, List.takeWhile_cons, hb]
  simp only [Bool.not_false, if_true, Option.some.injEq]
  by_cases h33 : c = 33
  · subst h33
    cases hq : (l.drop (k + 1)).takeWhile (fun c => !blk c) <;> simp
  · simp [h33]
theorem bang_toList (w : List Nat) (hv : VL w) : ((tx w).toList == [33]) = decide (w = [33]) := by
  rw [Bool.eq_iff_iff, decide_eq_true_iff, beq_iff_eq, ByteArray.toList_eq, tx_data]
  constructor
  · intro h
    have e : tx w = tx [33] := by
      apply tx_inj
      rw [tx_data, h]
      rfl
    have := rns_tx hv
    rw [e, rns_tx (by intro c hc; simp at hc; subst hc; exact .inl (by decide))] at this
    exact this.symm
  · rintro rfl
    rfl
end Go.Proofs.YtapehdolnljnoaaGreatDoor
