/- The document's Quoted, in a program without the document's reader. The document's text of a tree: as the program's; its contract. -/
import Derived.Test.YtllpacppedobjaaGreatDoorHak
import Derived.Test.YtllpacppedobjaaGreatDoorHac
import Derived.Test.YtllpacppedobjaaGreatDoorHan
import Derived.Test.YtllpacppedobjaaGreatDoorHam
namespace Go.Proofs.YtllpacppedobjaaGreatDoor
open Go.RowKit Go.Lib
set_option linter.unusedSimpArgs false
set_option linter.unusedVariables false
def byN (s : ByteArray) (a : Nat) : Nat := (s.get! a).toNat
theorem get_bang (s : ByteArray) (a : Nat) (h : a < s.size) : s[a]'h = s.get! a := by
  cases s with
  | mk d =>
    show d[a]'h = d[a]!
    exact (getElem!_pos d a h).symm
theorem rns_tx {q : List Nat} (h : VL q) : rns (tx q) = q := by
  unfold rns chs
  rw [crs_tx0 h]
  have : ∀ (q : List Nat) (a : Nat), (pl a q).map (·.2) = q := by
    intro q
    induction q with
    | nil => intro a; rfl
    | cons c q ih => intro a; simp only [pl, List.map_cons, ih]
  exact this q 0
/-- What stands for a byte. -/
def qB (b : UInt8) : List UInt8 := if b.toNat = 10 then [92, 110] else if b.toNat = 34 ∨ b.toNat = 92 then [92, b] else [b]
theorem qB_enc {c : Nat} (hc : Vr c) : (encodeRune (c : Int)).flatMap qB = enL (quC c) := by
  unfold Vr at hc
  have hi : ∀ n : Nat, 128 ≤ n → n < 256 → qB n.toUInt8 = [n.toUInt8] := fun n h1 h2 => by
    unfold qB
    rw [byte_of h2, if_neg (by omega), if_neg (by omega)]
  have hq : 128 ≤ c → quC c = [c] := fun h => by unfold quC; rw [if_neg (by omega), if_neg (by omega)]
  have hs : enL [c] = encodeRune (c : Int) := by simp [enL]
  by_cases h1 : c ≤ 127
  · rw [enc1 h1, List.flatMap_cons, List.flatMap_nil, List.append_nil]
    unfold qB quC
    rw [byte_of (by omega)]
    by_cases h10 : c = 10
    · rw [if_pos h10, if_pos h10]; rfl
    · rw [if_neg h10, if_neg h10]
      by_cases h2 : c = 34 ∨ c = 92
      · rw [if_pos h2, if_pos h2, show enL [92, c] = encodeRune ((92 : Nat) : Int) ++ encodeRune (c : Int) by simp [enL], enc1 h1, enc1 (by decide)]
        rfl
      · rw [if_neg h2, if_neg h2, hs, enc1 h1]
  · rw [hq (by omega), hs]
    by_cases h2 : c ≤ 2047
    · rw [enc2 (by omega) h2]
      simp only [List.flatMap_cons, List.flatMap_nil, hi _ (by omega : 128 ≤ 192 + c / 64) (by omega), hi _ (by omega : 128 ≤ 128 + c % 64) (by omega)]
      rfl
    · by_cases h3 : c ≤ 65535
      · rw [enc3 (by omega)]
        simp only [List.flatMap_cons, List.flatMap_nil, hi _ (by omega : 128 ≤ 224 + c / 4096) (by omega), hi _ (by omega : 128 ≤ 128 + c / 64 % 64) (by omega), hi _ (by omega : 128 ≤ 128 + c % 64) (by omega)]
        rfl
      · rw [enc4 (by omega) (by omega)]
        simp only [List.flatMap_cons, List.flatMap_nil, hi _ (by omega : 128 ≤ 240 + c / 262144) (by omega), hi _ (by omega : 128 ≤ 128 + c / 4096 % 64) (by omega), hi _ (by omega : 128 ≤ 128 + c / 64 % 64) (by omega), hi _ (by omega : 128 ≤ 128 + c % 64) (by omega)]
        rfl
theorem qB_all {l : List Nat} (hv : VL l) : (enL l).flatMap qB = enL (quo l) := by
  induction l with
  | nil => rfl
  | cons c l ih =>
    have e1 : enL (c :: l) = encodeRune (c : Int) ++ enL l := by simp [enL]
    have e2 : quo (c :: l) = quC c ++ quo l := by simp [quo]
    rw [e1, e2, List.flatMap_append, enL_app, ih (fun x hx => hv x (List.mem_cons_of_mem _ hx)), qB_enc (hv c (List.mem_cons_self ..))]
theorem new_cells1 (W : World) (t : TypeId) (a : Value) : ∀ (j : Nat) (u : Value), [a][j]? = some u → (W.alloc (.cells #[a] t)).cell? ((⟨W.heap.size, 0, none⟩ : Addr).add j) = some u := by
  intro j u hj
  rw [addr_add, blk_cells (alloc_at W _ _ rfl)]
  simpa using hj
theorem new_cells2 (W : World) (t : TypeId) (a b : Value) : ∀ (j : Nat) (u : Value), [a, b][j]? = some u → (W.alloc (.cells #[a, b] t)).cell? ((⟨W.heap.size, 0, none⟩ : Addr).add j) = some u := by
  intro j u hj
  rw [addr_add, blk_cells (alloc_at W _ _ rfl)]
  simpa using hj
theorem one_b1 (x : Int) : ∀ u ∈ [Value.int .u8 x], u.oneCell' = true := by
  intro u hu
  simp only [List.mem_cons, List.not_mem_nil, or_false] at hu
  subst hu
  rfl
theorem one_b2 (x y : Int) : ∀ u ∈ [Value.int .u8 x, .int .u8 y], u.oneCell' = true := by
  intro u hu
  simp only [List.mem_cons, List.not_mem_nil, or_false] at hu
  rcases hu with rfl | rfl <;> rfl
set_option maxRecDepth 100000 in
theorem conv_row {w : World} {N : Nat} {ao : Option Addr} {cap : Nat} {l : List UInt8} (hl : l ≠ []) (h : w.ownsRowF N 5 1 (.slice ao l.length cap) l.length (Lib.byteCells l)) :
    (convert 105 9 (.slice ao l.length cap)).run Tryz.prog w = .ok (.string ⟨l.toArray⟩) w := by
  rcases h.2 with ⟨_, h0⟩ | ⟨g, cap', cur, fz, hv, _⟩
  · exact absurd (List.eq_nil_of_length_eq_zero h0) hl
  · injection hv with e1 e2 e3
    subst e1
    refine run_convert_bytes_back w _ _ 5 ⟨g, 0, none⟩ cap l Tryz.underlying105 Tryz.underlying5 Tryz.underlying9 (fun j hj => ?_)
    exact h.cells (g := g) rfl j _ (by simp [Lib.byteCells, hj])
theorem quo_rest {s : ByteArray} {k : Nat} (hk : k < s.size) : s.data.toList.drop k = s.get! k :: s.data.toList.drop (k + 1) := by
  have hl : k < s.data.toList.length := by rw [Array.length_toList]; exact hk
  rw [List.drop_eq_getElem_cons hl, ← get_bang s k hk]
  rfl
theorem quo_bytes {s : ByteArray} (h : ¬ stR s < s.size) : tx ([34] ++ quo (rns s) ++ [34]) = ⟨([34] ++ s.data.toList.flatMap qB ++ [34] : List UInt8).toArray⟩ := by
  obtain ⟨l, hv, e⟩ := valid_tx h
  rw [e, rns_tx hv, tx_data, qB_all hv]
  unfold tx
  rw [enL_app, enL_app]
  rfl
set_option maxRecDepth 100000 in
set_option maxHeartbeats 1000000 in
theorem rQuoted_any (s : ByteArray) (hs : s.size ≤ 4000000) (w : World) :
    Calls Tryz.prog 39 #[.string s] w fun e w' => e = .returned (.tuple #[.string (quoR s).1, .int .i64 (quoR s).2]) ∧ Only (fun _ => False) w w' := by
  have HB : Hid (Calls Tryz.prog 36 #[.string s] w fun e w' => e = .returned (.int .i64 (badR s)) ∧ Only (fun _ => False) w w') := bad_any s (by omega) w
  have hbr : badR s = if stR s < s.size then (stR s : Int) else -1 := rfl
  obtain ⟨Z, hZ⟩ : ∃ Z, Z = quoR s := ⟨_, rfl⟩
  rw [← hZ]
  unfold quoR at hZ
  by_cases hb : stR s < s.size
  · rw [if_pos hb] at hbr hZ
    rw [hbr] at HB
    have HE : Hid (Z = (⟨#[]⟩, 8)) := hZ
    have b2 : (0 : Int) ≤ (stR s : Int) := Int.natCast_nonneg _
    obtain ⟨z, hz⟩ : ∃ z, z = stR s := ⟨_, rfl⟩
    rw [← hz] at HB b2
    clear hbr hb hz hZ
    go_enter Tryz.func39, Tryz.ntmps39
    go_wp2_with fail
    refine (show Calls Tryz.prog 36 _ _ _ from HB.out).mono ?_
    rintro e w1 ⟨rfl, o1⟩
    have O1 : Hid (Only (fun _ => False) w w1) := o1
    clear HB o1
    go_wp2
    go_ret2
    exact ⟨by rw [show Z = _ from HE.out]; rfl, O1.out⟩
  · rw [if_neg hb] at hbr hZ
    rw [hbr] at HB
    by_cases hl : 4096 < s.size
    · rw [if_pos hl] at hZ
      have HE : Hid (Z = (⟨#[]⟩, 11)) := hZ
      have b2 : decide ((4096 : Int) < (s.size : Int)) = true := decide_eq_true (by omega)
      clear hbr hb hZ hl
      go_enter Tryz.func39, Tryz.ntmps39
      go_wp2_with fail
      refine (show Calls Tryz.prog 36 _ _ _ from HB.out).mono ?_
      rintro e w1 ⟨rfl, o1⟩
      have O1 : Hid (Only (fun _ => False) w w1) := o1
      clear HB o1
      go_wp2
      go_ret2
      exact ⟨by rw [show Z = _ from HE.out]; rfl, O1.out⟩
    · rw [if_neg hl, quo_bytes hb] at hZ
      have HE : Hid (Z = (⟨([34] ++ (s.data.toList.drop 0).flatMap qB ++ [34] : List UInt8).toArray⟩, 0)) := hZ
      have b2 : decide ((4096 : Int) < (s.size : Int)) = false := decide_eq_false (by omega)
      clear hbr hb hZ
      obtain ⟨i0, hi, hz0, hz1, hz2⟩ := byte_info
      have HBi : Hid (Tryz.prog.info? 5 = some i0 ∧ i0.zero = some (.int .u8 0) ∧ i0.size = 1 ∧ i0.bytes = 1) := ⟨hi, hz0, hz1, hz2⟩
      clear hi hz0 hz1 hz2
      go_enter Tryz.func39, Tryz.ntmps39
      go_wp2_with fail
      refine (show Calls Tryz.prog 36 _ _ _ from HB.out).mono ?_
      rintro e w1 ⟨rfl, o1⟩
      have O1 : Hid (Only (fun _ => False) w w1) := o1
      clear HB o1
      go_wp2
      obtain ⟨N, hN⟩ : ∃ N, N = w1.heap.size := ⟨_, rfl⟩
      have R0 : Hid ((w1.alloc (.cells #[.int .u8 34] 5)).ownsRowF N 5 1 (.slice (some ⟨N, 0, none⟩) ([34] : List UInt8).length 1) ([34] : List UInt8).length (Lib.byteCells [34]) ∧ Only (fun _ => False) w (w1.alloc (.cells #[.int .u8 34] 5)) ∧ N ≤ (w1.alloc (.cells #[.int .u8 34] 5)).heap.size) := by
        refine ⟨⟨rfl, .inr ⟨N, 1, #[.int .u8 34], (0, 0), rfl, Nat.le_refl _, alloc_at _ _ _ hN, by simp, Nat.le_refl _, by unfold maxLen; omega, rfl, rfl⟩⟩, O1.out.alloc _, by simp; omega⟩
      have HNw : Hid (w.heap.size ≤ N) := by show w.heap.size ≤ N; rw [hN]; exact O1.out.size
      rw [← hN]
      clear hN
      go_loopw [4, 5] (fun r4 r5 wr => ∃ (k : Nat) (acc : List UInt8) (ao : Option Addr) (cap : Nat), k ≤ s.size ∧ r4 = .slice ao acc.length cap ∧ r5 = .int .i64 (k : Int) ∧ Hid (acc ≠ [] ∧ acc.length ≤ 1 + 2 * k ∧ wr.ownsRowF N 5 1 (.slice ao acc.length cap) acc.length (Lib.byteCells acc) ∧ Only (fun _ => False) w wr ∧ N ≤ wr.heap.size ∧ Z = (⟨(acc ++ (s.data.toList.drop k).flatMap qB ++ [34] : List UInt8).toArray⟩, 0))) (fun _ r5 _ => s.size - uOf r5)
      case atStart => exact ⟨0, [34], some ⟨N, 0, none⟩, 1, Nat.zero_le _, rfl, rfl, by simp, by simp, R0.out.1, R0.out.2.1, R0.out.2.2, HE.out⟩
      case round =>
        obtain ⟨k, acc, ao, cap, hk, rfl, rfl, HI⟩ := hrel
        obtain ⟨w5, rfl⟩ : ∃ w5, w5 = wr := ⟨_, rfl⟩
        obtain ⟨L, hL⟩ : ∃ L, L = acc.length := ⟨_, rfl⟩
        have HL : Hid (L = acc.length) := hL
        have hLk : L ≤ 1 + 2 * k := by rw [hL]; exact HI.out.2.1
        have HI2 : Hid (w5.ownsRowF N 5 1 (.slice ao L cap) L (Lib.byteCells acc)) := by rw [hL]; exact HI.out.2.2.1
        have HO : Hid (Only (fun _ => False) w w5) := HI.out.2.2.2.1
        have HNs : Hid (N ≤ w5.heap.size) := HI.out.2.2.2.2.1
        have HZk : Hid (Z = (⟨(acc ++ (s.data.toList.drop k).flatMap qB ++ [34] : List UInt8).toArray⟩, 0)) := HI.out.2.2.2.2.2
        rw [← hL]
        clear HE R0 HI hL O1
        by_cases hlt : k < s.size
        · have hix : ∀ W : World, (Instr.index 9 (.string s) (.int .i64 (k : Int))).run Tryz.prog W = .ok (.int .u8 (byN s k : Int)) W := fun W => by
            rw [run_index_string W 9 _ _ _ Tryz.underlying9, dif_pos ⟨by omega, by omega⟩]
            simp only [Int.toNat_natCast]
            rw [get_bang]
            rfl
          have hrest := quo_rest hlt
          obtain ⟨b, hbb⟩ : ∃ b, b = s.get! k := ⟨_, rfl⟩
          rw [← hbb] at hrest
          have hby : byN s k = b.toNat := by unfold byN; rw [hbb]
          obtain ⟨y, hy⟩ : ∃ y, y = byN s k := ⟨_, rfl⟩
          rw [← hy] at hix hby
          have HZ2 : Hid (∀ x, qB b = x → Z = (⟨((acc ++ x) ++ (s.data.toList.drop (k + 1)).flatMap qB ++ [34] : List UInt8).toArray⟩, 0)) := fun x hx => by
            rw [HZk.out, hrest, List.flatMap_cons, hx, ← List.append_assoc acc x]
          have hqb : qB b = if b.toNat = 10 then [92, 110] else if b.toNat = 34 ∨ b.toNat = 92 then [92, b] else [b] := rfl
          rw [← hby] at hqb
          have hcb : (.int .u8 (y : Int) : Value) = .int .u8 (b.toNat : Int) := by rw [hby]
          have k1 : (k : Int) < (s.size : Int) := by omega
          have k0 : (0 : Int) ≤ (k : Int) := Int.natCast_nonneg _
          clear HZk hrest hbb hy
          by_cases h10 : y = 10
          · rw [if_pos h10] at hqb
            have HZ3 := HZ2.out _ hqb
            have e10 : ((y : Int) == 10) = true := by rw [h10]; rfl
            have HZ4 : Hid (Z = (⟨((acc ++ [92, 110]) ++ (s.data.toList.drop (k + 1)).flatMap qB ++ [34] : List UInt8).toArray⟩, 0)) := HZ3
            clear HZ2 HZ3 hqb h10 hby hcb
            obtain ⟨hi, hz0, hz1, hz2⟩ := HBi.out
            have hm1 : L + 2 ≤ maxLen := by unfold maxLen; omega
            have hm2 : (L + 2) * 1 ≤ 140737488355328 := by omega
            have HM3 : Hid (∀ o, N ≤ (w5.alloc o).heap.size) := fun o => by have : N ≤ w5.heap.size := HNs.out; simp; omega
            have HOw : Hid (w5.ownsRowF N 5 1 (.slice ao L cap) L (Lib.byteCells acc)) := HI2.out
            go_wp2_with (at_builtin; refine wpList_append_ownF _ rfl _ _ 105 rfl N 5 i0 (.int .u8 0) 1 1 Tryz.underlying105 hi hz0 hz1 hz2 rfl (by decide) _ L (Lib.byteCells acc) rfl (HOw.out.alloc _) ⟨w5.heap.size, 0, none⟩ 2 2 [.int .u8 92, .int .u8 110] rfl rfl (new_cells2 _ _ _ _) (one_b2 _ _) hm1 hm2 (HM3.out _) ?_)
            intro v' w6 hown' hgrow _
            obtain ⟨ao', cap', rfl⟩ : ∃ ao' cap', v' = .slice ao' (L + 2) cap' := by
              rcases hown'.2 with ⟨_, h0⟩ | ⟨g, cap', cur, fz, hv, _⟩
              · omega
              · exact ⟨_, cap', hv⟩
            have e2 : (acc ++ [92, 110]).length = L + 2 := by rw [List.length_append, ← (show L = acc.length from HL.out)]; rfl
            have HK1 : Hid (w6.ownsRowF N 5 1 (.slice ao' (acc ++ [92, 110]).length cap') (acc ++ [92, 110]).length (Lib.byteCells (acc ++ [92, 110]))) := by
              rw [e2, Lib.byteCells_append]
              exact hown'
            have HK2 : Hid (Below N w6 w6 ∧ N ≤ w6.heap.size ∧ Only (fun _ => False) w w6) := by
              have hb : Below N w5 w6 := ((Below.refl N w5).alloc HNs.out _).grown hgrow (HM3.out _) (fun k hk => (HOw.out.lt k hk).1)
              refine ⟨Below.refl _ _, Nat.le_trans HNs.out hb.size, ⟨hb.os.trans HO.out.os, hb.tape.trans HO.out.tape, hb.output.trans HO.out.output, Nat.le_trans HO.out.size hb.size, fun k hk hn => ?_⟩⟩
              exact (hb.block k (Nat.lt_of_lt_of_le hk HNw.out)).trans (HO.out.block k hk hn)
            have HV : Hid ((Value.slice ao' (L + 2) cap') = .slice ao' (acc ++ [92, 110]).length cap') := by rw [e2]; exact rfl
            clear hown' hgrow e2 HOw HM3
            go_wp2
            go_roundw
            case rel => exact ⟨k + 1, acc ++ [92, 110], ao', cap', by omega, HV.out, by go_num, by simp, by rw [List.length_append, ← (show L = acc.length from HL.out)]; show L + 2 ≤ _; omega, HK1.out, HK2.out.2.2, HK2.out.2.1, HZ4.out⟩
            case measure => simp only [uOf]; omega
          · have e10 : ((y : Int) == 10) = false := by simp; omega
            rw [if_neg h10] at hqb
            by_cases h2 : y = 34 ∨ y = 92
            · rw [if_pos h2] at hqb
              have HZ3 := HZ2.out _ hqb
              have HZ4 : Hid (Z = (⟨((acc ++ [92, b]) ++ (s.data.toList.drop (k + 1)).flatMap qB ++ [34] : List UInt8).toArray⟩, 0)) := HZ3
              have e34 : ((y : Int) == 34) = true ∨ (((y : Int) == 34) = false ∧ ((y : Int) == 92) = true) := by
                rcases h2 with h2 | h2
                · left; rw [h2]; rfl
                · right; rw [h2]; exact ⟨rfl, rfl⟩
              subst hby
              clear HZ2 HZ3 hqb h10 h2 hcb
              rcases e34 with e34 | ⟨e34, e92⟩
              · obtain ⟨hi, hz0, hz1, hz2⟩ := HBi.out
                have hm1 : L + 2 ≤ maxLen := by unfold maxLen; omega
                have hm2 : (L + 2) * 1 ≤ 140737488355328 := by omega
                have HM3 : Hid (∀ o, N ≤ (w5.alloc o).heap.size) := fun o => by have : N ≤ w5.heap.size := HNs.out; simp; omega
                have HOw : Hid (w5.ownsRowF N 5 1 (.slice ao L cap) L (Lib.byteCells acc)) := HI2.out
                go_wp2_with (at_builtin; refine wpList_append_ownF _ rfl _ _ 105 rfl N 5 i0 (.int .u8 0) 1 1 Tryz.underlying105 hi hz0 hz1 hz2 rfl (by decide) _ L (Lib.byteCells acc) rfl (HOw.out.alloc _) ⟨w5.heap.size, 0, none⟩ 2 2 [.int .u8 92, .int .u8 (b.toNat : Int)] rfl rfl (new_cells2 _ _ _ _) (one_b2 _ _) hm1 hm2 (HM3.out _) ?_)
                intro v' w6 hown' hgrow _
                obtain ⟨ao', cap', rfl⟩ : ∃ ao' cap', v' = .slice ao' (L + 2) cap' := by
                  rcases hown'.2 with ⟨_, h0⟩ | ⟨g, cap', cur, fz, hv, _⟩
                  · omega
                  · exact ⟨_, cap', hv⟩
                have e2 : (acc ++ [92, b]).length = L + 2 := by rw [List.length_append, ← (show L = acc.length from HL.out)]; rfl
                have HK1 : Hid (w6.ownsRowF N 5 1 (.slice ao' (acc ++ [92, b]).length cap') (acc ++ [92, b]).length (Lib.byteCells (acc ++ [92, b]))) := by
                  rw [e2, Lib.byteCells_append]
                  exact hown'
                have HK2 : Hid (Below N w6 w6 ∧ N ≤ w6.heap.size ∧ Only (fun _ => False) w w6) := by
                  have hb : Below N w5 w6 := ((Below.refl N w5).alloc HNs.out _).grown hgrow (HM3.out _) (fun k hk => (HOw.out.lt k hk).1)
                  refine ⟨Below.refl _ _, Nat.le_trans HNs.out hb.size, ⟨hb.os.trans HO.out.os, hb.tape.trans HO.out.tape, hb.output.trans HO.out.output, Nat.le_trans HO.out.size hb.size, fun k hk hn => ?_⟩⟩
                  exact (hb.block k (Nat.lt_of_lt_of_le hk HNw.out)).trans (HO.out.block k hk hn)
                have HV : Hid ((Value.slice ao' (L + 2) cap') = .slice ao' (acc ++ [92, b]).length cap') := by rw [e2]; exact rfl
                clear hown' hgrow e2 HOw HM3
                go_wp2
                go_roundw
                case rel => exact ⟨k + 1, acc ++ [92, b], ao', cap', by omega, HV.out, by go_num, by simp, by rw [List.length_append, ← (show L = acc.length from HL.out)]; show L + 2 ≤ _; omega, HK1.out, HK2.out.2.2, HK2.out.2.1, HZ4.out⟩
                case measure => simp only [uOf]; omega
              · obtain ⟨hi, hz0, hz1, hz2⟩ := HBi.out
                have hm1 : L + 2 ≤ maxLen := by unfold maxLen; omega
                have hm2 : (L + 2) * 1 ≤ 140737488355328 := by omega
                have HM3 : Hid (∀ o, N ≤ (w5.alloc o).heap.size) := fun o => by have : N ≤ w5.heap.size := HNs.out; simp; omega
                have HOw : Hid (w5.ownsRowF N 5 1 (.slice ao L cap) L (Lib.byteCells acc)) := HI2.out
                go_wp2_with (at_builtin; refine wpList_append_ownF _ rfl _ _ 105 rfl N 5 i0 (.int .u8 0) 1 1 Tryz.underlying105 hi hz0 hz1 hz2 rfl (by decide) _ L (Lib.byteCells acc) rfl (HOw.out.alloc _) ⟨w5.heap.size, 0, none⟩ 2 2 [.int .u8 92, .int .u8 (b.toNat : Int)] rfl rfl (new_cells2 _ _ _ _) (one_b2 _ _) hm1 hm2 (HM3.out _) ?_)
                intro v' w6 hown' hgrow _
                obtain ⟨ao', cap', rfl⟩ : ∃ ao' cap', v' = .slice ao' (L + 2) cap' := by
                  rcases hown'.2 with ⟨_, h0⟩ | ⟨g, cap', cur, fz, hv, _⟩
                  · omega
                  · exact ⟨_, cap', hv⟩
                have e2 : (acc ++ [92, b]).length = L + 2 := by rw [List.length_append, ← (show L = acc.length from HL.out)]; rfl
                have HK1 : Hid (w6.ownsRowF N 5 1 (.slice ao' (acc ++ [92, b]).length cap') (acc ++ [92, b]).length (Lib.byteCells (acc ++ [92, b]))) := by
                  rw [e2, Lib.byteCells_append]
                  exact hown'
                have HK2 : Hid (Below N w6 w6 ∧ N ≤ w6.heap.size ∧ Only (fun _ => False) w w6) := by
                  have hb : Below N w5 w6 := ((Below.refl N w5).alloc HNs.out _).grown hgrow (HM3.out _) (fun k hk => (HOw.out.lt k hk).1)
                  refine ⟨Below.refl _ _, Nat.le_trans HNs.out hb.size, ⟨hb.os.trans HO.out.os, hb.tape.trans HO.out.tape, hb.output.trans HO.out.output, Nat.le_trans HO.out.size hb.size, fun k hk hn => ?_⟩⟩
                  exact (hb.block k (Nat.lt_of_lt_of_le hk HNw.out)).trans (HO.out.block k hk hn)
                have HV : Hid ((Value.slice ao' (L + 2) cap') = .slice ao' (acc ++ [92, b]).length cap') := by rw [e2]; exact rfl
                clear hown' hgrow e2 HOw HM3
                go_wp2
                go_roundw
                case rel => exact ⟨k + 1, acc ++ [92, b], ao', cap', by omega, HV.out, by go_num, by simp, by rw [List.length_append, ← (show L = acc.length from HL.out)]; show L + 2 ≤ _; omega, HK1.out, HK2.out.2.2, HK2.out.2.1, HZ4.out⟩
                case measure => simp only [uOf]; omega
            · rw [if_neg h2] at hqb
              have HZ3 := HZ2.out _ hqb
              have HZ4 : Hid (Z = (⟨((acc ++ [b]) ++ (s.data.toList.drop (k + 1)).flatMap qB ++ [34] : List UInt8).toArray⟩, 0)) := HZ3
              have e34 : ((y : Int) == 34) = false := by simp; omega
              have e92 : ((y : Int) == 92) = false := by simp; omega
              subst hby
              clear HZ2 HZ3 hqb h10 h2 hcb
              obtain ⟨hi, hz0, hz1, hz2⟩ := HBi.out
              have hm1 : L + 1 ≤ maxLen := by unfold maxLen; omega
              have hm2 : (L + 1) * 1 ≤ 140737488355328 := by omega
              have HM3 : Hid (∀ o, N ≤ (w5.alloc o).heap.size) := fun o => by have : N ≤ w5.heap.size := HNs.out; simp; omega
              have HOw : Hid (w5.ownsRowF N 5 1 (.slice ao L cap) L (Lib.byteCells acc)) := HI2.out
              go_wp2_with (at_builtin; refine wpList_append_ownF _ rfl _ _ 105 rfl N 5 i0 (.int .u8 0) 1 1 Tryz.underlying105 hi hz0 hz1 hz2 rfl (by decide) _ L (Lib.byteCells acc) rfl (HOw.out.alloc _) ⟨w5.heap.size, 0, none⟩ 1 1 [.int .u8 (b.toNat : Int)] rfl rfl (new_cells1 _ _ _) (one_b1 _) hm1 hm2 (HM3.out _) ?_)
              intro v' w6 hown' hgrow _
              obtain ⟨ao', cap', rfl⟩ : ∃ ao' cap', v' = .slice ao' (L + 1) cap' := by
                rcases hown'.2 with ⟨_, h0⟩ | ⟨g, cap', cur, fz, hv, _⟩
                · omega
                · exact ⟨_, cap', hv⟩
              have e2 : (acc ++ [b]).length = L + 1 := by rw [List.length_append, ← (show L = acc.length from HL.out)]; rfl
              have HK1 : Hid (w6.ownsRowF N 5 1 (.slice ao' (acc ++ [b]).length cap') (acc ++ [b]).length (Lib.byteCells (acc ++ [b]))) := by
                rw [e2, Lib.byteCells_append]
                exact hown'
              have HK2 : Hid (Below N w6 w6 ∧ N ≤ w6.heap.size ∧ Only (fun _ => False) w w6) := by
                have hb : Below N w5 w6 := ((Below.refl N w5).alloc HNs.out _).grown hgrow (HM3.out _) (fun k hk => (HOw.out.lt k hk).1)
                refine ⟨Below.refl _ _, Nat.le_trans HNs.out hb.size, ⟨hb.os.trans HO.out.os, hb.tape.trans HO.out.tape, hb.output.trans HO.out.output, Nat.le_trans HO.out.size hb.size, fun k hk hn => ?_⟩⟩
                exact (hb.block k (Nat.lt_of_lt_of_le hk HNw.out)).trans (HO.out.block k hk hn)
              have HV : Hid ((Value.slice ao' (L + 1) cap') = .slice ao' (acc ++ [b]).length cap') := by rw [e2]; exact rfl
              clear hown' hgrow e2 HOw HM3
              go_wp2
              go_roundw
              case rel => exact ⟨k + 1, acc ++ [b], ao', cap', by omega, HV.out, by go_num, by simp, by rw [List.length_append, ← (show L = acc.length from HL.out)]; show L + 1 ≤ _; omega, HK1.out, HK2.out.2.2, HK2.out.2.1, HZ4.out⟩
              case measure => simp only [uOf]; omega
        · have k1 : ¬ (k : Int) < (s.size : Int) := by omega
          have HZ4 : Hid (Z = (⟨(acc ++ [34] : List UInt8).toArray⟩, 0)) := by
            show Z = _
            rw [HZk.out, List.drop_eq_nil_of_le (by rw [Array.length_toList]; show s.size ≤ k; omega)]
            simp
          clear HZk
          obtain ⟨hi, hz0, hz1, hz2⟩ := HBi.out
          have hm1 : L + 1 ≤ maxLen := by unfold maxLen; omega
          have hm2 : (L + 1) * 1 ≤ 140737488355328 := by omega
          have HM3 : Hid (∀ o, N ≤ (w5.alloc o).heap.size) := fun o => by have : N ≤ w5.heap.size := HNs.out; simp; omega
          have HOw : Hid (w5.ownsRowF N 5 1 (.slice ao L cap) L (Lib.byteCells acc)) := HI2.out
          go_wp2_with (at_builtin; refine wpList_append_ownF _ rfl _ _ 105 rfl N 5 i0 (.int .u8 0) 1 1 Tryz.underlying105 hi hz0 hz1 hz2 rfl (by decide) _ L (Lib.byteCells acc) rfl (HOw.out.alloc _) ⟨w5.heap.size, 0, none⟩ 1 1 [.int .u8 34] rfl rfl (new_cells1 _ _ _) (one_b1 _) hm1 hm2 (HM3.out _) ?_)
          intro v' w6 hown' hgrow _
          obtain ⟨ao', cap', rfl⟩ : ∃ ao' cap', v' = .slice ao' (L + 1) cap' := by
            rcases hown'.2 with ⟨_, h0⟩ | ⟨g, cap', cur, fz, hv, _⟩
            · omega
            · exact ⟨_, cap', hv⟩
          have e2 : (acc ++ [34]).length = L + 1 := by rw [List.length_append, ← (show L = acc.length from HL.out)]; rfl
          have HK1 : Hid (w6.ownsRowF N 5 1 (.slice ao' (acc ++ [34]).length cap') (acc ++ [34]).length (Lib.byteCells (acc ++ [34]))) := by
            rw [e2, Lib.byteCells_append]
            exact hown'
          have HK2 : Hid (Below N w6 w6 ∧ N ≤ w6.heap.size ∧ Only (fun _ => False) w w6) := by
            have hb : Below N w5 w6 := ((Below.refl N w5).alloc HNs.out _).grown hgrow (HM3.out _) (fun k hk => (HOw.out.lt k hk).1)
            refine ⟨Below.refl _ _, Nat.le_trans HNs.out hb.size, ⟨hb.os.trans HO.out.os, hb.tape.trans HO.out.tape, hb.output.trans HO.out.output, Nat.le_trans HO.out.size hb.size, fun k hk hn => ?_⟩⟩
            exact (hb.block k (Nat.lt_of_lt_of_le hk HNw.out)).trans (HO.out.block k hk hn)
          have HV : Hid ((Value.slice ao' (L + 1) cap') = .slice ao' (acc ++ [34]).length cap') := by rw [e2]; exact rfl
          clear hown' hgrow e2 HOw HM3
          have HCv := conv_row (by simp) HK1.out
          rw [← HV.out] at HCv
          go_wp2
          go_ret2
          exact ⟨by rw [show Z = _ from HZ4.out]; rfl, HK2.out.2.2⟩
end Go.Proofs.YtllpacppedobjaaGreatDoor
namespace Go.Proofs.YtllpacppedobjaaGreatDoor
open Go.RowKit Go.Lib
set_option linter.unusedSimpArgs false
set_option linter.unusedVariables false
/-- the text of a tree -/
def opB (k : Int) : List UInt8 := if k = 5 then [91, 32] else [123, 32]
def shB (k : Int) : List UInt8 := if k = 5 then [93] else [125]
def tdD : Nat → Vt → List UInt8
  | 0, _ => []
  | d + 1, t => if t.k = 1 then itoa t.n else if t.k = 2 then (quoR t.s).1.data.toList else if t.k = 3 then (flT (t.n != 0)).data.toList else if t.k = 6 then [98, 111, 120] else if t.k = 7 then t.s.data.toList
    else opB t.k ++ t.l.flatMap (fun x => tdD d x ++ [32]) ++ shB t.k
theorem td_list {d : Nat} {t : Vt} (hk : t.k = 4 ∨ t.k = 5) : tdD (d + 1) t = opB t.k ++ t.l.flatMap (fun x => tdD d x ++ [32]) ++ shB t.k := by
  show (if t.k = 1 then _ else _) = _
  rw [if_neg (by omega), if_neg (by omega), if_neg (by omega), if_neg (by omega), if_neg (by omega)]
theorem td_def (d : Nat) (t : Vt) : tdD (d + 1) t = (if t.k = 1 then itoa t.n else if t.k = 2 then (quoR t.s).1.data.toList else if t.k = 3 then (flT (t.n != 0)).data.toList else if t.k = 6 then [98, 111, 120] else if t.k = 7 then t.s.data.toList
    else opB t.k ++ t.l.flatMap (fun x => tdD d x ++ [32]) ++ shB t.k) := rfl
theorem jn_app {a b : List (List UInt8)} {s : List UInt8} (ha : a ≠ []) (hb : b ≠ []) : join (a ++ b) s = join a s ++ s ++ join b s := by
  cases a with
  | nil => exact absurd rfl ha
  | cons x a =>
    cases b with
    | nil => exact absurd rfl hb
    | cons y b =>
      rw [List.cons_append, join_cons, join_cons, join_cons]
      simp [joinTail]
theorem jn_flat (f : Vt → List (List UInt8)) (e : List UInt8) : ∀ (l : List Vt), (∀ x ∈ l, f x ≠ []) → join (l.flatMap f ++ [e]) [32] = l.flatMap (fun x => join (f x) [32] ++ [32]) ++ e
  | [], _ => by simp [join_one]
  | x :: l, h => by
    rw [List.flatMap_cons, List.append_assoc, jn_app (h x (List.mem_cons_self ..)) (by simp), jn_flat f e l (fun y hy => h y (List.mem_cons_of_mem _ hy)), List.flatMap_cons]
    simp
theorem wdL_nz : ∀ (F : Nat) (i : Bool) (t : Vt), 2 ≤ F → wdL F i t ≠ []
  | 0, _, _, h => by omega
  | 1, _, _, h => by omega
  | F + 2, false, t, _ => wdL_ne (F + 1) t
  | F + 2, true, t, _ => by
    unfold wdL
    split
    · simp
    · exact wdL_ne F t
/-- the words of a tree with blanks between are its text -/
theorem td_join : ∀ (d : Nat) (t : Vt), LfT d t → ∀ (i : Bool) (F : Nat), 2 * d + 1 + (if i = true then 1 else 0) ≤ F → okD d i t = true → join ((wdL F i t).map (·.data.toList)) [32] = tdD d t
  | 0, _, h, _, _, _, _ => h.elim
  | d + 1, t, h, i, F, hF, hok => by
    have val : ∀ F', 2 * (d + 1) + 1 ≤ F' → okD (d + 1) false t = true → join ((wdL F' false t).map (·.data.toList)) [32] = tdD (d + 1) t := by
      intro F' hF' hok'
      obtain ⟨G, rfl⟩ : ∃ G, F' = G + 1 := ⟨F' - 1, by omega⟩
      unfold okD at hok'
      by_cases hk : t.k = 4 ∨ t.k = 5
      · rw [if_pos hk, List.all_eq_true] at hok'
        have key : ∀ (j : Bool) (o c : UInt8), decide (t.k = 5) = j → opB t.k = [o, 32] → shB t.k = [c] → join (((⟨#[o]⟩ : ByteArray) :: (t.l.flatMap (wdL G j) ++ [⟨#[c]⟩])).map (·.data.toList)) [32] = tdD (d + 1) t := fun j o c hj ho hc => by
          rw [List.map_cons, List.map_append, show ([⟨#[c]⟩] : List ByteArray).map (·.data.toList) = [[c]] from rfl]
          have e1 : (t.l.flatMap (wdL G j)).map (·.data.toList) = t.l.flatMap (fun x => (wdL G j x).map (·.data.toList)) := by rw [List.map_flatMap]
          rw [e1, show ((⟨#[o]⟩ : ByteArray).data.toList :: (t.l.flatMap (fun x => (wdL G j x).map (·.data.toList)) ++ [[c]])) = [[o]] ++ (t.l.flatMap (fun x => (wdL G j x).map (·.data.toList)) ++ [[c]]) from rfl]
          rw [jn_app (by simp) (by simp), join_one, jn_flat _ _ _ (fun x hx => by simpa using wdL_nz G j x (by omega))]
          have e2 : t.l.flatMap (fun x => join ((wdL G j x).map (·.data.toList)) [32] ++ [32]) = t.l.flatMap (fun x => tdD d x ++ [32]) := by
            have : ∀ x ∈ t.l, join ((wdL G j x).map (·.data.toList)) [32] ++ [32] = tdD d x ++ [32] := fun x hx => by
              rw [td_join d x (h.2 x hx) j G (by split <;> omega) (by rw [← hj]; exact hok' x hx)]
            rw [List.flatMap_def, List.flatMap_def, List.map_congr_left this]
          rw [e2]
          rw [td_list hk, ho, hc]
          simp
        rcases hk with h4 | h5
        · rw [show wdL (G + 1) false t = ⟨#[123]⟩ :: (t.l.flatMap (wdL G false) ++ [⟨#[125]⟩]) from if_pos h4]
          exact key false 123 125 (decide_eq_false (by omega)) (if_neg (by omega)) (if_neg (by omega))
        · rw [show wdL (G + 1) false t = ⟨#[91]⟩ :: (t.l.flatMap (wdL G true) ++ [⟨#[93]⟩]) from (if_neg (by omega)).trans (if_pos h5)]
          exact key true 91 93 (decide_eq_true h5) (if_pos h5) (if_pos h5)
      · rw [if_neg hk, if_neg (by simp)] at hok'
        unfold wdL
        rw [td_def, if_neg (by omega), if_neg (by omega)]
        by_cases h6 : t.k = 6
        · rw [if_pos h6, if_neg (by omega), if_neg (by omega), if_neg (by omega), if_pos h6]
          rfl
        · rw [if_neg h6]
          show join [(lfT t).data.toList] [32] = _
          rw [join_one]
          unfold lfT
          by_cases h1 : t.k = 1
          · rw [if_pos h1, if_pos h1]
          · rw [if_neg h1, if_neg h1]
            by_cases h2 : t.k = 2
            · rw [if_pos h2, if_pos h2]
            · rw [if_neg h2, if_neg h2]
              have h3 : t.k = 3 := by
                unfold alB at hok'
                rw [if_neg h1, if_neg h2, if_neg h6] at hok'
                exact of_decide_eq_true hok'
              rw [if_pos h3]
    cases i with
    | false => exact val F (by simpa using hF) hok
    | true =>
      obtain ⟨G, rfl⟩ : ∃ G, F = G + 1 := ⟨F - 1, by omega⟩
      by_cases h7 : t.k = 7
      · rw [show wdL (G + 1) true t = [t.s] from if_pos h7]
        show join [t.s.data.toList] [32] = _
        rw [join_one, td_def]
        rw [if_neg (by omega), if_neg (by omega), if_neg (by omega), if_neg (by omega), if_pos h7]
      · rw [show wdL (G + 1) true t = wdL G false t from if_neg h7]
        refine val G (by simp at hF; omega) ?_
        unfold okD at hok ⊢
        by_cases hk : t.k = 4 ∨ t.k = 5
        · rw [if_pos hk] at hok ⊢; exact hok
        · rw [if_neg hk, if_neg (fun g => h7 g.2)] at hok
          rw [if_neg hk, if_neg (fun g => h7 g.2)]
          exact hok
theorem sum_le {α : Type} (f g : α → Nat) (l : List α) (h : ∀ x ∈ l, f x ≤ g x) : (l.map f).sum ≤ (l.map g).sum := by
  induction l with
  | nil => simp
  | cons x l ih =>
    simp only [List.map_cons, List.sum_cons]
    have h1 := h x (List.mem_cons_self ..)
    have h2 := ih (fun y hy => h y (List.mem_cons_of_mem _ hy))
    omega
theorem sum_mul (c : Nat) {α : Type} (f : α → Nat) (l : List α) : (l.map (fun x => c * f x)).sum = c * (l.map f).sum := by
  induction l with
  | nil => simp
  | cons x l ih => simp only [List.map_cons, List.sum_cons, ih, Nat.mul_add]
theorem td_len : ∀ (d : Nat) (t : Vt) (i : Bool), okD d i t = true → (tdD d t).length + 1 ≤ 70000 * szD d t
  | 0, t, i, h => by unfold okD at h; cases h
  | d + 1, t, i, h => by
    have hs := szD_pos (d + 1) t
    unfold okD at h
    rw [td_def]
    by_cases hk : t.k = 4 ∨ t.k = 5
    · rw [if_pos hk, List.all_eq_true] at h
      rw [if_neg (by omega), if_neg (by omega), if_neg (by omega), if_neg (by omega), if_neg (by omega)]
      have e1 : (t.l.flatMap (fun x => tdD d x ++ [32])).length ≤ (t.l.map (fun x => 70000 * szD d x)).sum := by
        rw [List.length_flatMap]
        refine sum_le _ _ _ (fun x hx => ?_)
        rw [List.length_append]
        exact td_len d x _ (h x hx)
      rw [sum_mul] at e1
      have e2 : (opB t.k).length = 2 := by unfold opB; split <;> rfl
      have e3 : (shB t.k).length = 1 := by unfold shB; split <;> rfl
      rw [List.length_append, List.length_append, e2, e3]
      unfold szD
      omega
    · rw [if_neg hk] at h
      by_cases h7 : i = true ∧ t.k = 7
      · rw [if_pos h7] at h
        unfold clB at h
        simp only [Bool.and_eq_true] at h
        have := (name_size h.1).1
        rw [if_neg (by omega), if_neg (by omega), if_neg (by omega), if_neg (by omega), if_pos h7.2]
        have e : t.s.data.toList.length = t.s.size := by rw [Array.length_toList]; rfl
        omega
      · rw [if_neg h7] at h
        by_cases h1 : t.k = 1
        · rw [if_pos h1]
          have hb : -1152921504606846976 ≤ t.n ∧ t.n ≤ 1152921504606846975 := by
            rw [show alB t = (decide (-1152921504606846976 ≤ t.n) && decide (t.n ≤ 1152921504606846975)) from if_pos h1] at h
            simpa using h
          have := itoa_length_le t.n (by omega) (by omega)
          omega
        · rw [if_neg h1]
          by_cases h2 : t.k = 2
          · rw [if_pos h2]
            have hb : t.s.size ≤ 4096 ∧ vlB t.s = true := by
              rw [show alB t = (decide (t.s.size ≤ 4096) && vlB t.s) from (if_neg (by omega)).trans (if_pos h2)] at h
              simpa using h
            have := (quo_sizes hb.1 hb.2).2
            have e : (quoR t.s).1.data.toList.length = (quoR t.s).1.size := by rw [Array.length_toList]; rfl
            omega
          · rw [if_neg h2]
            by_cases h3 : t.k = 3
            · rw [if_pos h3]
              cases t.n != 0 <;> (show 1 + 1 ≤ _; omega)
            · rw [if_neg h3]
              by_cases h6 : t.k = 6
              · rw [if_pos h6]
                show 3 + 1 ≤ _
                omega
              · unfold alB at h
                rw [if_neg h1, if_neg h2, if_neg h6] at h
                exact absurd (of_decide_eq_true h) h3
/-- what the document's Told answers -/
def ToC (d : Nat) : Prop := ∀ (t : Vt) (lv : Value) (i : Bool) (w : World) (S : Nat → Prop), VsAt w S d t.l lv → okD d i t = true → (∃ e, SmT e t) → (tdD d t).length ≤ 100000000 →
  Calls Tryz.prog 20 #[vV t.k t.n t.s lv] w fun e w' => e = .returned (.string ⟨(tdD d t).toArray⟩) ∧ Only (fun _ => False) w w'
theorem ba_app (a b : List UInt8) : (⟨a.toArray⟩ : ByteArray) ++ (⟨b.toArray⟩ : ByteArray) = ⟨(a ++ b).toArray⟩ := by
  apply ByteArray.ext
  simp
theorem ba_size (a : List UInt8) : (ByteArray.mk a.toArray).size = a.length := by show a.toArray.size = _; simp
theorem ba_back (s : ByteArray) : (⟨s.data.toList.toArray⟩ : ByteArray) = s := by
  apply ByteArray.ext
  simp
set_option maxRecDepth 100000 in
set_option maxHeartbeats 4000000 in
theorem told_leaf (d : Nat) : ∀ (t : Vt) (lv : Value) (i : Bool) (w : World), ¬ (t.k = 4 ∨ t.k = 5) → okD (d + 1) i t = true → (-9223372036854775808 ≤ t.n ∧ t.n ≤ 9223372036854775807) → (∃ ao n cap, lv = .slice ao n cap) →
    Calls Tryz.prog 20 #[vV t.k t.n t.s lv] w fun e w' => e = .returned (.string ⟨(tdD (d + 1) t).toArray⟩) ∧ Only (fun _ => False) w w' := by
  intro t lv i w hk hok hn ⟨ao, N, cap, hlv⟩
  subst hlv
  obtain ⟨k, n, s, l⟩ := t
  dsimp only at hk hn ⊢
  unfold okD at hok
  dsimp only at hok
  rw [if_neg hk] at hok
  rw [td_def]
  unfold vV
  dsimp only
  have O0 : Hid (Only (fun _ => False) w w) := Only.refl _ _
  by_cases h1 : k = 1
  · subst h1
    rw [if_pos rfl]
    have HC : Hid (∀ w1, Calls Tryz.prog 38 #[.int .i64 n] w1 fun e w' => e = .returned (.string ⟨(itoa n).toArray⟩) ∧ Only (fun _ => False) w1 w') := fun w1 => signed_any hn.1 hn.2 w1
    clear hok hk hn
    go_enter Tryz.func20, Tryz.ntmps20
    go_wp2_with fail
    refine (show Calls Tryz.prog 38 _ _ _ from HC.out _).mono ?_
    rintro e w1 ⟨rfl, o1⟩
    have O1 : Hid (Only (fun _ => False) w w1) := (O0.out.alloc _).trans o1 (fun _ _ g => g)
    clear HC o1
    go_wp2
    go_ret
    exact ⟨rfl, O1.out⟩
  rw [if_neg h1]
  by_cases h2 : k = 2
  · subst h2
    rw [if_pos rfl]
    have hb : s.size ≤ 4096 := by
      rw [if_neg (by omega)] at hok
      unfold alB at hok
      dsimp only at hok
      rw [if_neg (by omega), if_pos rfl] at hok
      simp at hok
      exact hok.1
    rw [ba_back]
    have HC : Hid (∀ w1, Calls Tryz.prog 39 #[.string s] w1 fun e w' => e = .returned (.tuple #[.string (quoR s).1, .int .i64 (quoR s).2]) ∧ Only (fun _ => False) w1 w') := fun w1 => rQuoted_any s (by omega) w1
    obtain ⟨Q, hQ⟩ : ∃ Q, Q = quoR s := ⟨_, rfl⟩
    rw [← hQ] at HC ⊢
    clear hok hk hn hQ hb
    go_enter Tryz.func20, Tryz.ntmps20
    go_wp2_with fail
    refine (show Calls Tryz.prog 39 _ _ _ from HC.out _).mono ?_
    rintro e w1 ⟨rfl, o1⟩
    have O1 : Hid (Only (fun _ => False) w w1) := (O0.out.alloc _).trans o1 (fun _ _ g => g)
    clear HC o1
    go_wp2
    go_ret
    exact ⟨rfl, O1.out⟩
  rw [if_neg h2]
  by_cases h3 : k = 3
  · subst h3
    rw [if_pos rfl, ba_back]
    clear hok hk
    by_cases h0 : n = 0
    · subst h0
      go_enter Tryz.func20, Tryz.ntmps20
      go_wp2
      go_ret
      exact ⟨rfl, O0.out.alloc _⟩
    · have e0 : (n != 0) = true := by simpa using h0
      rw [e0]
      go_enter Tryz.func20, Tryz.ntmps20
      go_wp2
      go_ret
      exact ⟨rfl, O0.out.alloc _⟩
  rw [if_neg h3]
  by_cases h6 : k = 6
  · subst h6
    rw [if_pos rfl]
    clear hok hk hn
    go_enter Tryz.func20, Tryz.ntmps20
    go_wp2
    go_ret
    exact ⟨rfl, O0.out.alloc _⟩
  rw [if_neg h6]
  by_cases h7 : k = 7
  · subst h7
    rw [if_pos rfl, ba_back]
    clear hok hk hn
    go_enter Tryz.func20, Tryz.ntmps20
    go_wp2
    go_ret
    exact ⟨rfl, O0.out.alloc _⟩
  exfalso
  rw [if_neg (fun g => h7 g.2)] at hok
  unfold alB at hok
  dsimp only at hok
  rw [if_neg h1, if_neg h2, if_neg h6] at hok
  exact absurd (of_decide_eq_true hok) h3
/-- lists and quotations -/
def toldMark : Nat := 0
set_option maxRecDepth 100000 in
set_option maxHeartbeats 4000000 in
theorem told_list (d : Nat) (H : ToC d) (n : Int) (s : ByteArray) (l : List Vt) (ao : Option Addr) (cap : Nat) (w : World) (S : Nat → Prop) (hv : VsAt w S (d + 1) l (.slice ao l.length cap)) (hok : ∀ x ∈ l, okD d false x = true) (hsm : ∀ x ∈ l, ∃ e, SmT e x) (hlen : l.length ≤ 1048576) (hb : ([123, 32] ++ l.flatMap (fun x => tdD d x ++ [32]) ++ [125]).length ≤ 100000000) :
    Calls Tryz.prog 20 #[vV 4 n s (.slice ao l.length cap)] w fun e w' => e = .returned (.string ⟨([123, 32] ++ l.flatMap (fun x => tdD d x ++ [32]) ++ [125]).toArray⟩) ∧ Only (fun _ => False) w w' := by
  obtain ⟨g', hg'⟩ : ∃ g' : Vt → List UInt8, g' = fun x => tdD d x ++ [32] := ⟨_, rfl⟩
  rw [← hg'] at hb ⊢
  obtain ⟨W, hW⟩ : ∃ W, W = w.alloc (.cells #[.int .i64 4, .int .i64 n, .string s, .slice ao l.length cap] 24) := ⟨_, rfl⟩
  obtain ⟨B, hB⟩ : ∃ B, B = w.heap.size := ⟨_, rfl⟩
  have oW : Only (fun _ => False) w W := by rw [hW]; exact (Only.refl _ w).alloc _
  have bW : W.heap[B]? = some (.cells #[.int .i64 4, .int .i64 n, .string s, .slice ao l.length cap] 24) := by rw [hW]; exact valloc_at _ _ _ hB
  obtain ⟨ao', cap', he, hcap, hel⟩ := hv
  obtain ⟨rfl, rfl⟩ : ao = ao' ∧ cap = cap' := by simpa using he
  have hsz : ∀ (j : Nat) (x : Vt), l[j]? = some x → ([123, 32] ++ (l.take j).flatMap g').length + (tdD d x).length + 1 ≤ 100000000 ∧ [123, 32] ++ (l.take (j + 1)).flatMap g' = [123, 32] ++ (l.take j).flatMap g' ++ tdD d x ++ [32] := fun j x hx => by
    have e1 : (l.take (j + 1)).flatMap g' = (l.take j).flatMap g' ++ (tdD d x ++ [32]) := by
      rw [List.take_add_one, hx]
      simp [hg']
    refine ⟨?_, by rw [e1]; simp⟩
    have e2 : l.flatMap g' = (l.take (j + 1)).flatMap g' ++ (l.drop (j + 1)).flatMap g' := by
      conv => lhs; rw [← List.take_append_drop (j + 1) l]
      rw [List.flatMap_append]
    rw [e2, e1] at hb
    simp only [List.length_append, List.length_cons, List.length_nil] at hb ⊢
    omega
  have HE : Hid (∀ (j : Nat) (x : Vt), l[j]? = some x → ([123, 32] ++ (l.take j).flatMap g').length + (tdD d x).length + 1 ≤ 100000000 ∧ [123, 32] ++ (l.take (j + 1)).flatMap g' = [123, 32] ++ (l.take j).flatMap g' ++ tdD d x ++ [32] ∧ ∃ g q lx, ao = some ⟨g, q, none⟩ ∧ (∀ w1, Only (fun _ => False) w w1 → w1.cell? ⟨g, q + j * 4, none⟩ = some (.int .i64 x.k) ∧ w1.cell? ⟨g, q + j * 4 + 1, none⟩ = some (.int .i64 x.n) ∧ w1.cell? ⟨g, q + j * 4 + 2, none⟩ = some (.string x.s) ∧ w1.cell? ⟨g, q + j * 4 + 3, none⟩ = some lx) ∧ ∀ w1, Only (fun _ => False) w w1 → Calls Tryz.prog 20 #[.agg #[.int .i64 x.k, .int .i64 x.n, .string x.s, lx]] w1 fun e w' => e = .returned (.string ⟨(tdD d x).toArray⟩) ∧ Only (fun _ => False) w1 w') := fun j x hx => by
    obtain ⟨g, q, lx, p1, p2, ⟨c0, c1, c2, c3⟩, p4⟩ := hel j x hx
    have hm := List.mem_of_getElem? hx
    obtain ⟨z1, z2⟩ := hsz j x hx
    refine ⟨z1, z2, g, q, lx, p1, fun w1 o => ⟨o.cell c0 (fun g => g), o.cell c1 (fun g => g), o.cell c2 (fun g => g), o.cell c3 (fun g => g)⟩, fun w1 o => ?_⟩
    exact H x lx _ w1 S (p4.only o) (hok x hm) (hsm x hm) (by omega)
  obtain ⟨N, hN⟩ : ∃ N, N = l.length := ⟨_, rfl⟩
  have HN : Hid (N = l.length ∧ N ≤ 1048576 ∧ ([123, 32] ++ l.flatMap g' ++ [125]).length ≤ 100000000) := ⟨hN, by omega, hb⟩
  have HW : Hid (W.heap[B]? = some (.cells #[.int .i64 4, .int .i64 n, .string s, .slice ao N cap] 24) ∧ Only (fun _ => False) w W) := by rw [hN]; exact ⟨bW, oW⟩
  rw [← hN] at hW ⊢
  obtain ⟨R, hR⟩ : ∃ R : ByteArray, R = ⟨([123, 32] ++ l.flatMap g' ++ [125]).toArray⟩ := ⟨_, rfl⟩
  rw [← hR]
  have HR : Hid (R = ⟨([123, 32] ++ l.flatMap g' ++ [125]).toArray⟩) := hR
  clear hR
  clear hel hok hsm hlen hb hcap he hsz hN bW oW H hg'
  unfold vV
  go_enter Tryz.func20, Tryz.ntmps20
  go_wp2
  rw [← hW, ← hB]
  clear hW hB
  go_loopw [5, 7] (fun r5 r7 wr => ∃ (j : Nat) (A : List UInt8), r7 = .int .i64 (j : Int) ∧ r5 = .string ⟨A.toArray⟩ ∧ j ≤ N ∧ Hid (A = [123, 32] ++ (l.take j).flatMap g' ∧ Only (fun _ => False) W wr)) (fun _ r7 _ => N - vuOf r7)
  case atStart => exact ⟨0, [123, 32], rfl, rfl, Nat.zero_le _, by simp, Only.refl _ _⟩
  case round =>
    obtain ⟨j, A, rfl, rfl, hj, HI⟩ := hrel
    obtain ⟨w1, hw1⟩ : ∃ w1, w1 = wr := ⟨_, rfl⟩
    rw [← hw1] at HI ⊢
    clear hw1
    have hb1 := (HI.out.2.block B (Array.getElem?_eq_some_iff.1 HW.out.1).1 (fun g => g)).trans HW.out.1
    have cB0 := (vblk_cells hb1 0).trans rfl
    have cB3 := (vblk_cells hb1 3).trans rfl
    have hNl := HN.out.1
    have hN2 := HN.out.2.1
    by_cases hjN : j < N
    · obtain ⟨x, hx⟩ : ∃ x, l[j]? = some x := ⟨l[j]'(by omega), List.getElem?_eq_getElem (by omega)⟩
      obtain ⟨z1, z2, g, q, lx, rfl, hc, hcall⟩ := HE.out j x hx
      have ow := HW.out.2.trans HI.out.2 (fun _ _ g => g)
      obtain ⟨c0, c1, c2, c3⟩ := hc w1 ow
      have HC : Hid _ := hcall w1 ow
      rw [← HI.out.1] at z1 z2
      have i1 : (j : Int) < (N : Int) := by omega
      have i0 : (0 : Int) ≤ (j : Int) := by omega
      have i4 : j ≤ 1048576 := by omega
      obtain ⟨X, hX⟩ : ∃ X, X = tdD d x := ⟨_, rfl⟩
      rw [← hX] at HC z1 z2
      have a1 : ∀ W : World, (Op.stringOp .add (⟨A.toArray⟩ : ByteArray) ⟨X.toArray⟩).run Tryz.prog W = .ok (.string ⟨(A ++ X).toArray⟩) W := fun W => by
        rw [run_string_add_sum, ba_app]
        rw [ba_size, ba_size]
        omega
      have a2 : ∀ W : World, (Op.stringOp .add (⟨(A ++ X).toArray⟩ : ByteArray) ⟨#[32]⟩).run Tryz.prog W = .ok (.string ⟨(A ++ X ++ [32]).toArray⟩) W := fun W => by
        rw [run_string_add_sum, show (⟨#[32]⟩ : ByteArray) = ⟨([32] : List UInt8).toArray⟩ from rfl, ba_app]
        rw [ba_size, ba_size, List.length_append]
        simp only [List.length_cons, List.length_nil]
        omega
      obtain ⟨A2, hA2⟩ : ∃ A2, A2 = A ++ X ++ [32] := ⟨_, rfl⟩
      have HA2 : Hid (A2 = [123, 32] ++ (l.take (j + 1)).flatMap g' ∧ j < N) := ⟨by rw [z2]; exact hA2, hjN⟩
      obtain ⟨A1, hA1⟩ : ∃ A1, A1 = A ++ X := ⟨_, rfl⟩
      rw [← hA2] at a2
      rw [← hA1] at a1 a2
      obtain ⟨b0, hb0⟩ : ∃ b, b = (⟨A.toArray⟩ : ByteArray) := ⟨_, rfl⟩
      obtain ⟨b1, hb1'⟩ : ∃ b, b = (⟨X.toArray⟩ : ByteArray) := ⟨_, rfl⟩
      obtain ⟨b2, hb2⟩ : ∃ b, b = (⟨A1.toArray⟩ : ByteArray) := ⟨_, rfl⟩
      obtain ⟨b3, hb3⟩ : ∃ b, b = (⟨A2.toArray⟩ : ByteArray) := ⟨_, rfl⟩
      have HB3 : Hid (b3 = (⟨A2.toArray⟩ : ByteArray)) := hb3
      rw [← hb1'] at HC
      rw [← hb0, ← hb1', ← hb2] at a1
      rw [← hb2, ← hb3] at a2
      rw [← hb0]
      obtain ⟨x0, hx0⟩ : ∃ x0, x0 = x.k := ⟨_, rfl⟩
      obtain ⟨x1, hx1⟩ : ∃ x1, x1 = x.n := ⟨_, rfl⟩
      obtain ⟨x2, hx2⟩ : ∃ x2, x2 = x.s := ⟨_, rfl⟩
      rw [← hx0, ← hx1, ← hx2] at HC
      rw [← hx0] at c0
      rw [← hx1] at c1
      rw [← hx2] at c2
      clear hc hcall ow hNl hN2 hjN hj hx hX hA1 hA2 hb0 hb1' hb2 hb3 z1 z2 hx0 hx1 hx2 hb1 cB0 HE
      go_wp2_with fail
      refine (show Calls Tryz.prog 20 _ _ _ from HC.out).mono ?_
      rintro e w2 ⟨rfl, o2⟩
      have HF : Hid (Only (fun _ => False) W w2) := HI.out.2.trans o2 (fun _ _ g => g)
      clear HC o2 HI cB3 c0 c1 c2 c3
      go_wp2
      go_roundw
      case rel => exact ⟨j + 1, A2, by go_num, by rw [show b3 = _ from HB3.out], by have := HA2.out.2; omega, HA2.out.1, HF.out⟩
      case measure => simp only [vuOf]; have := HA2.out.2; omega
    · obtain rfl : j = N := by omega
      have i1 : ¬ (j : Int) < (j : Int) := by omega
      have hA := HI.out.1
      rw [show l.take j = l from by rw [hNl]; exact List.take_length] at hA
      have hN3 := HN.out.2.2
      have a1 : ∀ W : World, (Op.stringOp .add (⟨A.toArray⟩ : ByteArray) ⟨#[125]⟩).run Tryz.prog W = .ok (.string ⟨([123, 32] ++ l.flatMap g' ++ [125]).toArray⟩) W := fun W => by
        rw [run_string_add_sum, show (⟨#[125]⟩ : ByteArray) = ⟨([125] : List UInt8).toArray⟩ from rfl, ba_app, hA]
        rw [ba_size, ba_size, hA]
        simp only [List.length_append, List.length_cons, List.length_nil] at hN3 ⊢
        omega
      have HF : Hid (Only (fun _ => False) w w1) := HW.out.2.trans HI.out.2 (fun _ _ g => g)
      obtain ⟨b0, hb0⟩ : ∃ b, b = (⟨A.toArray⟩ : ByteArray) := ⟨_, rfl⟩
      rw [← hb0, ← show R = _ from HR.out] at a1
      rw [← hb0]
      clear hNl hN2 hjN hj hA hN3 hb0 hb1 HE HI
      go_wp2
      go_ret
      exact ⟨rfl, HF.out⟩
set_option maxRecDepth 100000 in
set_option maxHeartbeats 4000000 in
theorem told_quot (d : Nat) (H : ToC d) (n : Int) (s : ByteArray) (l : List Vt) (ao : Option Addr) (cap : Nat) (w : World) (S : Nat → Prop) (hv : VsAt w S (d + 1) l (.slice ao l.length cap)) (hok : ∀ x ∈ l, okD d true x = true) (hsm : ∀ x ∈ l, ∃ e, SmT e x) (hlen : l.length ≤ 1048576) (hb : ([91, 32] ++ l.flatMap (fun x => tdD d x ++ [32]) ++ [93]).length ≤ 100000000) :
    Calls Tryz.prog 20 #[vV 5 n s (.slice ao l.length cap)] w fun e w' => e = .returned (.string ⟨([91, 32] ++ l.flatMap (fun x => tdD d x ++ [32]) ++ [93]).toArray⟩) ∧ Only (fun _ => False) w w' := by
  obtain ⟨g', hg'⟩ : ∃ g' : Vt → List UInt8, g' = fun x => tdD d x ++ [32] := ⟨_, rfl⟩
  rw [← hg'] at hb ⊢
  obtain ⟨W, hW⟩ : ∃ W, W = w.alloc (.cells #[.int .i64 5, .int .i64 n, .string s, .slice ao l.length cap] 24) := ⟨_, rfl⟩
  obtain ⟨B, hB⟩ : ∃ B, B = w.heap.size := ⟨_, rfl⟩
  have oW : Only (fun _ => False) w W := by rw [hW]; exact (Only.refl _ w).alloc _
  have bW : W.heap[B]? = some (.cells #[.int .i64 5, .int .i64 n, .string s, .slice ao l.length cap] 24) := by rw [hW]; exact valloc_at _ _ _ hB
  obtain ⟨ao', cap', he, hcap, hel⟩ := hv
  obtain ⟨rfl, rfl⟩ : ao = ao' ∧ cap = cap' := by simpa using he
  have hsz : ∀ (j : Nat) (x : Vt), l[j]? = some x → ([91, 32] ++ (l.take j).flatMap g').length + (tdD d x).length + 1 ≤ 100000000 ∧ [91, 32] ++ (l.take (j + 1)).flatMap g' = [91, 32] ++ (l.take j).flatMap g' ++ tdD d x ++ [32] := fun j x hx => by
    have e1 : (l.take (j + 1)).flatMap g' = (l.take j).flatMap g' ++ (tdD d x ++ [32]) := by
      rw [List.take_add_one, hx]
      simp [hg']
    refine ⟨?_, by rw [e1]; simp⟩
    have e2 : l.flatMap g' = (l.take (j + 1)).flatMap g' ++ (l.drop (j + 1)).flatMap g' := by
      conv => lhs; rw [← List.take_append_drop (j + 1) l]
      rw [List.flatMap_append]
    rw [e2, e1] at hb
    simp only [List.length_append, List.length_cons, List.length_nil] at hb ⊢
    omega
  have HE : Hid (∀ (j : Nat) (x : Vt), l[j]? = some x → ([91, 32] ++ (l.take j).flatMap g').length + (tdD d x).length + 1 ≤ 100000000 ∧ [91, 32] ++ (l.take (j + 1)).flatMap g' = [91, 32] ++ (l.take j).flatMap g' ++ tdD d x ++ [32] ∧ ∃ g q lx, ao = some ⟨g, q, none⟩ ∧ (∀ w1, Only (fun _ => False) w w1 → w1.cell? ⟨g, q + j * 4, none⟩ = some (.int .i64 x.k) ∧ w1.cell? ⟨g, q + j * 4 + 1, none⟩ = some (.int .i64 x.n) ∧ w1.cell? ⟨g, q + j * 4 + 2, none⟩ = some (.string x.s) ∧ w1.cell? ⟨g, q + j * 4 + 3, none⟩ = some lx) ∧ ∀ w1, Only (fun _ => False) w w1 → Calls Tryz.prog 20 #[.agg #[.int .i64 x.k, .int .i64 x.n, .string x.s, lx]] w1 fun e w' => e = .returned (.string ⟨(tdD d x).toArray⟩) ∧ Only (fun _ => False) w1 w') := fun j x hx => by
    obtain ⟨g, q, lx, p1, p2, ⟨c0, c1, c2, c3⟩, p4⟩ := hel j x hx
    have hm := List.mem_of_getElem? hx
    obtain ⟨z1, z2⟩ := hsz j x hx
    refine ⟨z1, z2, g, q, lx, p1, fun w1 o => ⟨o.cell c0 (fun g => g), o.cell c1 (fun g => g), o.cell c2 (fun g => g), o.cell c3 (fun g => g)⟩, fun w1 o => ?_⟩
    exact H x lx _ w1 S (p4.only o) (hok x hm) (hsm x hm) (by omega)
  obtain ⟨N, hN⟩ : ∃ N, N = l.length := ⟨_, rfl⟩
  have HN : Hid (N = l.length ∧ N ≤ 1048576 ∧ ([91, 32] ++ l.flatMap g' ++ [93]).length ≤ 100000000) := ⟨hN, by omega, hb⟩
  have HW : Hid (W.heap[B]? = some (.cells #[.int .i64 5, .int .i64 n, .string s, .slice ao N cap] 24) ∧ Only (fun _ => False) w W) := by rw [hN]; exact ⟨bW, oW⟩
  rw [← hN] at hW ⊢
  obtain ⟨R, hR⟩ : ∃ R : ByteArray, R = ⟨([91, 32] ++ l.flatMap g' ++ [93]).toArray⟩ := ⟨_, rfl⟩
  rw [← hR]
  have HR : Hid (R = ⟨([91, 32] ++ l.flatMap g' ++ [93]).toArray⟩) := hR
  clear hR
  clear hel hok hsm hlen hb hcap he hsz hN bW oW H hg'
  unfold vV
  go_enter Tryz.func20, Tryz.ntmps20
  go_wp2
  rw [← hW, ← hB]
  clear hW hB
  go_loopw [5, 7] (fun r5 r7 wr => ∃ (j : Nat) (A : List UInt8), r7 = .int .i64 (j : Int) ∧ r5 = .string ⟨A.toArray⟩ ∧ j ≤ N ∧ Hid (A = [91, 32] ++ (l.take j).flatMap g' ∧ Only (fun _ => False) W wr)) (fun _ r7 _ => N - vuOf r7)
  case atStart => exact ⟨0, [91, 32], rfl, rfl, Nat.zero_le _, by simp, Only.refl _ _⟩
  case round =>
    obtain ⟨j, A, rfl, rfl, hj, HI⟩ := hrel
    obtain ⟨w1, hw1⟩ : ∃ w1, w1 = wr := ⟨_, rfl⟩
    rw [← hw1] at HI ⊢
    clear hw1
    have hb1 := (HI.out.2.block B (Array.getElem?_eq_some_iff.1 HW.out.1).1 (fun g => g)).trans HW.out.1
    have cB0 := (vblk_cells hb1 0).trans rfl
    have cB3 := (vblk_cells hb1 3).trans rfl
    have hNl := HN.out.1
    have hN2 := HN.out.2.1
    by_cases hjN : j < N
    · obtain ⟨x, hx⟩ : ∃ x, l[j]? = some x := ⟨l[j]'(by omega), List.getElem?_eq_getElem (by omega)⟩
      obtain ⟨z1, z2, g, q, lx, rfl, hc, hcall⟩ := HE.out j x hx
      have ow := HW.out.2.trans HI.out.2 (fun _ _ g => g)
      obtain ⟨c0, c1, c2, c3⟩ := hc w1 ow
      have HC : Hid _ := hcall w1 ow
      rw [← HI.out.1] at z1 z2
      have i1 : (j : Int) < (N : Int) := by omega
      have i0 : (0 : Int) ≤ (j : Int) := by omega
      have i4 : j ≤ 1048576 := by omega
      obtain ⟨X, hX⟩ : ∃ X, X = tdD d x := ⟨_, rfl⟩
      rw [← hX] at HC z1 z2
      have a1 : ∀ W : World, (Op.stringOp .add (⟨A.toArray⟩ : ByteArray) ⟨X.toArray⟩).run Tryz.prog W = .ok (.string ⟨(A ++ X).toArray⟩) W := fun W => by
        rw [run_string_add_sum, ba_app]
        rw [ba_size, ba_size]
        omega
      have a2 : ∀ W : World, (Op.stringOp .add (⟨(A ++ X).toArray⟩ : ByteArray) ⟨#[32]⟩).run Tryz.prog W = .ok (.string ⟨(A ++ X ++ [32]).toArray⟩) W := fun W => by
        rw [run_string_add_sum, show (⟨#[32]⟩ : ByteArray) = ⟨([32] : List UInt8).toArray⟩ from rfl, ba_app]
        rw [ba_size, ba_size, List.length_append]
        simp only [List.length_cons, List.length_nil]
        omega
      obtain ⟨A2, hA2⟩ : ∃ A2, A2 = A ++ X ++ [32] := ⟨_, rfl⟩
      have HA2 : Hid (A2 = [91, 32] ++ (l.take (j + 1)).flatMap g' ∧ j < N) := ⟨by rw [z2]; exact hA2, hjN⟩
      obtain ⟨A1, hA1⟩ : ∃ A1, A1 = A ++ X := ⟨_, rfl⟩
      rw [← hA2] at a2
      rw [← hA1] at a1 a2
      obtain ⟨b0, hb0⟩ : ∃ b, b = (⟨A.toArray⟩ : ByteArray) := ⟨_, rfl⟩
      obtain ⟨b1, hb1'⟩ : ∃ b, b = (⟨X.toArray⟩ : ByteArray) := ⟨_, rfl⟩
      obtain ⟨b2, hb2⟩ : ∃ b, b = (⟨A1.toArray⟩ : ByteArray) := ⟨_, rfl⟩
      obtain ⟨b3, hb3⟩ : ∃ b, b = (⟨A2.toArray⟩ : ByteArray) := ⟨_, rfl⟩
      have HB3 : Hid (b3 = (⟨A2.toArray⟩ : ByteArray)) := hb3
      rw [← hb1'] at HC
      rw [← hb0, ← hb1', ← hb2] at a1
      rw [← hb2, ← hb3] at a2
      rw [← hb0]
      obtain ⟨x0, hx0⟩ : ∃ x0, x0 = x.k := ⟨_, rfl⟩
      obtain ⟨x1, hx1⟩ : ∃ x1, x1 = x.n := ⟨_, rfl⟩
      obtain ⟨x2, hx2⟩ : ∃ x2, x2 = x.s := ⟨_, rfl⟩
      rw [← hx0, ← hx1, ← hx2] at HC
      rw [← hx0] at c0
      rw [← hx1] at c1
      rw [← hx2] at c2
      clear hc hcall ow hNl hN2 hjN hj hx hX hA1 hA2 hb0 hb1' hb2 hb3 z1 z2 hx0 hx1 hx2 hb1 cB0 HE
      go_wp2_with fail
      refine (show Calls Tryz.prog 20 _ _ _ from HC.out).mono ?_
      rintro e w2 ⟨rfl, o2⟩
      have HF : Hid (Only (fun _ => False) W w2) := HI.out.2.trans o2 (fun _ _ g => g)
      clear HC o2 HI cB3 c0 c1 c2 c3
      go_wp2
      go_roundw
      case rel => exact ⟨j + 1, A2, by go_num, by rw [show b3 = _ from HB3.out], by have := HA2.out.2; omega, HA2.out.1, HF.out⟩
      case measure => simp only [vuOf]; have := HA2.out.2; omega
    · obtain rfl : j = N := by omega
      have i1 : ¬ (j : Int) < (j : Int) := by omega
      have hA := HI.out.1
      rw [show l.take j = l from by rw [hNl]; exact List.take_length] at hA
      have hN3 := HN.out.2.2
      have a1 : ∀ W : World, (Op.stringOp .add (⟨A.toArray⟩ : ByteArray) ⟨#[93]⟩).run Tryz.prog W = .ok (.string ⟨([91, 32] ++ l.flatMap g' ++ [93]).toArray⟩) W := fun W => by
        rw [run_string_add_sum, show (⟨#[93]⟩ : ByteArray) = ⟨([93] : List UInt8).toArray⟩ from rfl, ba_app, hA]
        rw [ba_size, ba_size, hA]
        simp only [List.length_append, List.length_cons, List.length_nil] at hN3 ⊢
        omega
      have HF : Hid (Only (fun _ => False) w w1) := HW.out.2.trans HI.out.2 (fun _ _ g => g)
      obtain ⟨b0, hb0⟩ : ∃ b, b = (⟨A.toArray⟩ : ByteArray) := ⟨_, rfl⟩
      rw [← hb0, ← show R = _ from HR.out] at a1
      rw [← hb0]
      clear hNl hN2 hjN hj hA hN3 hb0 hb1 HE HI
      go_wp2
      go_ret
      exact ⟨rfl, HF.out⟩
theorem told_all : ∀ d : Nat, ToC d
  | 0 => fun t lv i w S h => h.elim
  | d + 1 => by
    intro t lv i w S hv hok hsm hb
    obtain ⟨ao, cap, hlv⟩ := hv.form
    have hn : -9223372036854775808 ≤ t.n ∧ t.n ≤ 9223372036854775807 := by
      obtain ⟨e, he⟩ := hsm
      cases e with
      | zero => exact he.elim
      | succ e => exact he.2.2.2.1
    by_cases hk : t.k = 4 ∨ t.k = 5
    · have hps : t.l.length ≤ 1048576 ∧ ∀ x ∈ t.l, ∃ e, SmT e x := by
        obtain ⟨e, he⟩ := hsm
        exact ⟨he.len, he.parts⟩
      have hall : ∀ x ∈ t.l, okD d (decide (t.k = 5)) x = true := by
        unfold okD at hok
        rw [if_pos hk, List.all_eq_true] at hok
        exact hok
      rw [td_list hk] at hb ⊢
      rw [hlv] at hv ⊢
      rcases hk with h4 | h5
      · rw [show opB t.k = [123, 32] from if_neg (by omega), show shB t.k = [125] from if_neg (by omega)] at hb ⊢
        rw [decide_eq_false (show ¬ t.k = 5 by omega)] at hall
        rw [h4]
        exact told_list d (told_all d) t.n t.s t.l ao cap w S hv hall hps.2 hps.1 hb
      · rw [show opB t.k = [91, 32] from if_pos h5, show shB t.k = [93] from if_pos h5] at hb ⊢
        rw [decide_eq_true h5] at hall
        rw [h5]
        exact told_quot d (told_all d) t.n t.s t.l ao cap w S hv hall hps.2 hps.1 hb
    · exact told_leaf d t lv i w hk hok hn ⟨ao, _, cap, hlv⟩
end Go.Proofs.YtllpacppedobjaaGreatDoor
