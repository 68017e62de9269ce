/- The characters of a text, as the document has them: Chars and Bad. Bad: the place of the first byte that belongs to no character; and LexComments. LexComments: the walk. LexQuotes: what stands for a text is read as it. LexQuotes: the walk. The document's numbers: script and number. -/
import Derived.Test.YtfecmpebnianpaaGreatDoorGap
import Derived.Test.YtfecmpebnianpaaGreatDoorGaj
namespace Go.Proofs.YtfecmpebnianpaaGreatDoor
open Go.RowKit Go.Lib
set_option linter.unusedSimpArgs false
set_option linter.unusedVariables false
/-- A character of a text: its number, its place, the place behind it, and whether the byte belongs to none. -/
structure Chr where
  r : Nat
  a : Nat
  z : Nat
  b : Bool
def chr1 (s : ByteArray) (x : Nat × Nat) : Chr := if x.2 = 65533 ∧ preB (s.extract x.1 s.size) rpB = false then ⟨x.2, x.1, x.1 + 1, true⟩ else ⟨x.2, x.1, x.1 + wr x.2, false⟩
def chrL (s : ByteArray) : List Chr := (chs s).map (chr1 s)
def chCs (l : List Chr) : List Value := l.flatMap fun c => [.int .i32 (c.r : Int), .int .i64 (c.a : Int), .int .i64 (c.z : Int), .bool c.b]
theorem chCs_snoc (l : List Chr) (c : Chr) : chCs (l ++ [c]) = chCs l ++ [.int .i32 (c.r : Int), .int .i64 (c.a : Int), .int .i64 (c.z : Int), .bool c.b] := by simp [chCs]
set_option maxRecDepth 100000 in
theorem chr_info : ∃ i z, Tryz.prog.info? 145 = some i ∧ i.zero = some z ∧ i.size = 4 ∧ i.bytes = 32 ∧ z.cells.size = 4 := ⟨_, _, rfl, rfl, rfl, rfl, rfl⟩
/-- A row of characters that was made since block B. -/
def ChrAt (w : World) (B : Nat) (v : Value) (l : List Chr) : Prop := (∃ ao cap, v = .slice ao l.length cap) ∧ w.ownsRowF B 145 4 v l.length (chCs l)
theorem chCs_get : ∀ (l : List Chr) (i : Nat) (t : Chr), l[i]? = some t → (chCs l)[i * 4]? = some (.int .i32 (t.r : Int)) ∧ (chCs l)[i * 4 + 1]? = some (.int .i64 (t.a : Int)) ∧ (chCs l)[i * 4 + 2]? = some (.int .i64 (t.z : Int)) ∧ (chCs l)[i * 4 + 3]? = some (.bool t.b)
  | [], i, t, h => by simp at h
  | x :: l, 0, t, h => by
    simp only [List.getElem?_cons_zero, Option.some.injEq] at h
    subst h
    simp [chCs]
  | x :: l, i + 1, t, h => by
    have := chCs_get l i t (by simpa using h)
    have e : ∀ k, (chCs (x :: l))[k + 4]? = (chCs l)[k]? := fun k => by simp [chCs]
    rw [show (i + 1) * 4 = i * 4 + 4 by omega, show i * 4 + 4 + 1 = i * 4 + 1 + 4 by omega, show i * 4 + 4 + 2 = i * 4 + 2 + 4 by omega, show i * 4 + 4 + 3 = i * 4 + 3 + 4 by omega, e, e, e, e]
    exact this
theorem chr_cells {w : World} {B : Nat} {v : Value} {l : List Chr} (h : ChrAt w B v l) {i : Nat} {t : Chr} (ht : l[i]? = some t) :
    ∃ g cap, v = .slice (some ⟨g, 0, none⟩) l.length cap ∧ B ≤ g ∧ g < w.heap.size ∧ w.cell? ⟨g, i * 4, none⟩ = some (.int .i32 (t.r : Int)) ∧ w.cell? ⟨g, i * 4 + 1, none⟩ = some (.int .i64 (t.a : Int)) ∧ w.cell? ⟨g, i * 4 + 2, none⟩ = some (.int .i64 (t.z : Int)) ∧ w.cell? ⟨g, i * 4 + 3, none⟩ = some (.bool t.b) := by
  obtain ⟨c0, c1, c2, c3⟩ := chCs_get l i t ht
  have hi : i < l.length := (List.getElem?_eq_some_iff.1 ht).1
  rcases h.2.2 with ⟨_, h0⟩ | ⟨g, cap, cur, fz, hv, hB, hg, _⟩
  · omega
  · subst hv
    exact ⟨g, cap, rfl, hB, (Array.getElem?_eq_some_iff.1 hg).1, (by have := h.2.cells (g := g) rfl _ _ c0; rwa [addr_add] at this), (by have := h.2.cells (g := g) rfl _ _ c1; rwa [addr_add] at this), (by have := h.2.cells (g := g) rfl _ _ c2; rwa [addr_add] at this), (by have := h.2.cells (g := g) rfl _ _ c3; rwa [addr_add] at this)⟩
/-- The language's own encoding of a character. -/
theorem encode_tx {c : Nat} (hc : Vr c) : Utf8.encode (c : Int) = tx [c] := by
  apply tx_inj
  rw [show enL [c] = encodeRune (c : Int) by simp [enL]]
  have hv : Utf8.valid (c : Int) = true := by
    unfold Vr at hc
    simp only [Utf8.valid, Bool.and_eq_true, Bool.or_eq_true, decide_eq_true_eq]
    omega
  unfold Utf8.encode
  simp only [hv, if_true, Int.toNat_natCast]
  unfold Vr at hc
  by_cases h1 : c ≤ 127
  · rw [enc1 h1, if_pos (by omega)]
  · by_cases h2 : c ≤ 2047
    · rw [enc2 (by omega) h2, if_neg (by omega), if_pos (by omega)]
    · by_cases h3 : c ≤ 65535
      · rw [enc3 (by omega), if_neg (by omega), if_neg (by omega), if_pos (by omega)]
      · rw [enc4 (by omega) (by omega), if_neg (by omega), if_neg (by omega), if_neg (by omega)]
theorem wr_le (c : Nat) : wr c ≤ 4 := by
  have := (runeCells_le (c : Int)).2
  rw [runeCells_length] at this
  exact this
theorem ext3 (s : ByteArray) (i : Nat) (h : i + 3 ≤ s.size) : (s.extract i s.size).extract 0 3 = s.extract i (i + 3) := by
  apply ByteArray.ext
  simp only [ByteArray.data_extract, Array.extract_extract, Nat.add_zero]
  rw [show min (i + 3) s.size = i + 3 by omega]
theorem list_inj {x y : ByteArray} (h : x.toList = y.toList) : x = y := by
  rw [ByteArray.toList_eq, ByteArray.toList_eq] at h
  exact ByteArray.ext (Array.toList_inj.1 h)
/-- The three bytes of the character FFFD stand at a place, or not. -/
theorem pre_three (s : ByteArray) (i : Nat) (hi : i ≤ s.size) : preB (s.extract i s.size) rpB = decide (i + 3 ≤ s.size ∧ s.extract i (i + 3) = rpB) := by
  have hz : (s.extract i s.size).size = s.size - i := by rw [ByteArray.size_extract]; omega
  unfold preB
  rw [show rpB.size = 3 from rfl, hz]
  by_cases h : i + 3 ≤ s.size
  · rw [ext3 s i h, decide_eq_true (by omega : 3 ≤ s.size - i), Bool.true_and]
    by_cases h2 : s.extract i (i + 3) = rpB
    · rw [decide_eq_true ⟨h, h2⟩, h2]
      simp
    · rw [decide_eq_false (fun g => h2 g.2), Bool.eq_false_iff]
      intro g
      exact h2 (list_inj (by simpa using g))
  · rw [decide_eq_false (by omega : ¬ 3 ≤ s.size - i), decide_eq_false (fun g => h g.1)]
    rfl
theorem new_cells (W : World) (t : TypeId) (a b c d : Value) : ∀ (j : Nat) (u : Value), [a, b, c, d][j]? = some u → (W.alloc (.cells #[a, b, c, d] t)).cell? ((⟨W.heap.size, 0, none⟩ : Addr).add j) = some u := by
  intro j u hj
  rw [addr_add, blk_cells (alloc_at W _ _ rfl)]
  simpa using hj
theorem one4 (x y z : Int) (b : Bool) : ∀ u ∈ [Value.int .i32 x, .int .i64 y, .int .i64 z, .bool b], u.oneCell' = true := by
  intro u hu
  simp only [List.mem_cons, List.not_mem_nil, or_false] at hu
  rcases hu with rfl | rfl | rfl | rfl <;> rfl
set_option maxRecDepth 100000 in
set_option maxHeartbeats 400000 in
theorem chars_any (s : ByteArray) (hs : s.size ≤ 4000000) (w : World) :
    Calls Tryz.prog 67 #[.string s] w fun e w' => ∃ v, e = .returned v ∧ Hid (ChrAt w' w.heap.size v (chrL s) ∧ Below w.heap.size w w') := by
  obtain ⟨Z, hZ⟩ : ∃ Z, Z = chrL s := ⟨_, rfl⟩
  have HZ : Hid (Z = [] ++ (crs s s.size 0).map (chr1 s)) := hZ
  rw [← hZ]
  clear hZ
  obtain ⟨i0, z0, hi, hz0, hz1, hz2, hz3⟩ := chr_info
  have HI0 : Hid (Tryz.prog.info? 145 = some i0 ∧ i0.zero = some z0 ∧ i0.size = 4 ∧ i0.bytes = 32 ∧ z0.cells.size = 4) := ⟨hi, hz0, hz1, hz2, hz3⟩
  clear hi hz0 hz1 hz2 hz3
  go_enter Tryz.func67, Tryz.ntmps67
  go_wp2
  go_loopw [3] (fun r3 wr_ => ∃ (pos b : Nat) (acc : List Chr) (ao : Option Addr) (cap : Nat), r3 = .slice ao acc.length cap ∧ Hid (wr_.heap[w.heap.size]? = some (.stringIter s pos) ∧ Z = acc ++ (crs s b pos).map (chr1 s) ∧ s.size ≤ pos + b ∧ pos ≤ s.size ∧ acc.length ≤ pos ∧ wr_.ownsRowF (w.heap.size + 1) 145 4 (.slice ao acc.length cap) acc.length (chCs acc) ∧ Below w.heap.size w wr_)) (fun _ wr_ => s.size - wr_.iterPos w.heap.size)
  case atStart => exact ⟨0, s.size, [], none, 0, rfl, alloc_at _ _ _ rfl, HZ.out, by omega, by omega, by simp, ⟨rfl, .inl ⟨rfl, rfl⟩⟩, (Below.refl _ w).alloc (Nat.le_refl _) _⟩
  case round =>
    obtain ⟨pos, b, acc, ao, cap, rfl, HI⟩ := hrel
    obtain ⟨w1, rfl⟩ : ∃ w1, w1 = wr := ⟨_, rfl⟩
    clear HZ
    by_cases hp : pos < s.size
    · have hnx : ∀ ty, (Instr.next (.pointer (some ⟨w.heap.size, 0, none⟩)) true ty).run Tryz.prog w1 = _ := fun ty => run_next_any_at w1 w.heap.size s pos ty HI.out.1 hp
      have hwd := wid_pos s pos hp
      have hwp := decode_wd s pos hp
      obtain ⟨b', hb', hcr⟩ := crs_go hp HI.out.2.2.1
      have hvr := decode_vr s pos
      have hdl := decode_le s pos
      obtain ⟨c, hc⟩ : ∃ c, c = (Utf8.decode s pos).1 := ⟨_, rfl⟩
      obtain ⟨wd, hw⟩ : ∃ c, c = (Utf8.decode s pos).2 := ⟨_, rfl⟩
      rw [← hc, ← hw] at hnx hcr
      rw [← hc] at hvr hdl
      rw [← hw] at hwd hwp
      have hcv : ∀ W : World, (convert 21 9 (.int .i32 (c : Int))).run Tryz.prog W = .ok (.string (tx [c])) W := fun W => by
        rw [← encode_tx hvr]
        exact run_convert_int_string W _ _ _ _ rfl Tryz.underlying9
      have hts : (tx [c]).size = wr c := by rw [tx_size, wl_cons, wl_nil, Nat.add_zero]
      have hw4 := wr_le c
      have hw1 := wr_pos c
      obtain ⟨X, hX⟩ : ∃ X, X = tx [c] := ⟨_, rfl⟩
      rw [← hX] at hcv hts
      have HXr : Hid (c = 65533 → wr c = 3) := fun g => by rw [g]; rfl
      have hmp : w1.iterPos w.heap.size = pos := by simp only [World.iterPos, HI.out.1]
      obtain ⟨W2, hW2⟩ : ∃ W2, W2 = w1.iterAt w.heap.size s (pos + wd) := ⟨_, rfl⟩
      have HJ : Hid (W2.heap[w.heap.size]? = some (.stringIter s (pos + wd)) ∧ Z = acc ++ (chr1 s (pos, c) :: (crs s b' (pos + wd)).map (chr1 s)) ∧ s.size ≤ pos + wd + b' ∧ acc.length ≤ pos ∧ W2.ownsRowF (w.heap.size + 1) 145 4 (.slice ao acc.length cap) acc.length (chCs acc) ∧ Below w.heap.size w W2) := by
        obtain ⟨j1, j2, j3, j4, j5, j6, j7⟩ := HI.out
        rw [hW2]
        refine ⟨iterAt_heap _ _ _ _ _ j1, by rw [j2, hcr]; rfl, by omega, j5, ⟨j6.1, ?_⟩, below_iterAt j7 (Nat.le_refl _) _ _⟩
        rcases j6.2 with g | ⟨g, cap', cur, fz, h1, h2, h3, h4⟩
        · exact .inl g
        · exact .inr ⟨g, cap', cur, fz, h1, h2, (iterAt_other _ _ _ _ _ (by omega)).trans h3, h4⟩
      rw [← hW2] at hnx
      obtain ⟨L, hL⟩ : ∃ L, L = acc.length := ⟨_, rfl⟩
      have HL : Hid (L = acc.length) := hL
      have hLp : L ≤ 4000000 := by have := HI.out.2.2.2.2.1; omega
      rw [← hL] at HJ ⊢
      clear HI hc hw hcr hb' hvr hW2 hL hX
      by_cases h3 : c = 65533
      · have hw3 := HXr.out h3
        have hp3 := pre_three s pos (Nat.le_of_lt hp)
        rw [hw3] at hts
        by_cases hok : pos + 3 ≤ s.size ∧ s.extract pos (pos + 3) = rpB
        · rw [decide_eq_true hok] at hp3
          have HE : Hid (chr1 s (pos, c) = ⟨c, pos, pos + 3, false⟩) := by
            show chr1 s (pos, c) = _
            unfold chr1
            rw [if_neg (by rw [hp3]; simp), hw3]
          have hsl : ∀ W : World, (Instr.slice 9 (.string s) (some (.int .i64 (pos : Int))) (some (.int .i64 ((pos : Int) + 3))) none).run Tryz.prog W = .ok (.string ⟨#[239, 191, 189]⟩) W := fun W => by
            rw [show ((pos : Int) + 3) = ((pos + 3 : Nat) : Int) by omega, run_slice_string W 9 s _ _ _ _ Tryz.underlying9 (by omega) (by omega) (by omega)]
            show Result.ok (Value.string (s.extract pos (pos + 3))) W = _
            rw [hok.2]
            rfl
          have i1 : ¬ (s.size : Int) < (pos : Int) + 3 := by omega
          have hb3 : ((c : Int) == 65533) = true := by rw [h3]; rfl
          clear hp3 hok h3 HXr
          obtain ⟨hi, hz0, hz1, hz2, hz3⟩ := HI0.out
          have hm1 : L + 1 ≤ maxLen := by unfold maxLen; omega
          have hm2 : (L + 1) * 32 ≤ 140737488355328 := by omega
          have HM3 : Hid (∀ o, w.heap.size + 1 ≤ (W2.alloc o).heap.size) := fun o => by have := (Array.getElem?_eq_some_iff.1 HJ.out.1).1; simp; omega
          go_wp2_with (at_builtin; refine wpList_append_ownF _ rfl _ _ 142 rfl (w.heap.size + 1) 145 i0 z0 4 32 Tryz.underlying142 hi hz0 hz1 hz2 hz3 (by decide) _ L (chCs acc) rfl (HJ.out.2.2.2.2.1.alloc _) ⟨W2.heap.size, 0, none⟩ 1 1 [.int .i32 (c : Int), .int .i64 (pos : Int), .int .i64 ((pos : Int) + 3), .bool false] rfl rfl (new_cells _ _ _ _ _ _) (one4 _ _ _ _) hm1 hm2 (HM3.out _) ?_)
          intro v' w4 hown' hgrow _
          obtain ⟨ao', cap', rfl⟩ : ∃ ao' cap', v' = .slice ao' (L + 1) cap' := by
            rcases hown'.2 with ⟨_, h0⟩ | ⟨g, cap', cur, fz, hv, _⟩
            · omega
            · exact ⟨_, cap', hv⟩
          have hlt2 : w.heap.size < W2.heap.size := (Array.getElem?_eq_some_iff.1 HJ.out.1).1
          have hnb : ∀ k, (Value.slice ao L cap).ownBlock = some k → w.heap.size + 1 ≤ k := fun k hk => (HJ.out.2.2.2.2.1.lt k hk).1
          have e1 : L = acc.length := HL.out
          have e2 : (acc ++ [(⟨c, pos, pos + 3, false⟩ : Chr)]).length = L + 1 := by simp [e1]
          have HK : Hid (w4.heap[w.heap.size]? = some (.stringIter s (pos + wd)) ∧ Z = (acc ++ [(⟨c, pos, pos + 3, false⟩ : Chr)]) ++ (crs s b' (pos + wd)).map (chr1 s) ∧ s.size ≤ pos + wd + b' ∧ pos + wd ≤ s.size ∧ (acc ++ [(⟨c, pos, pos + 3, false⟩ : Chr)]).length ≤ pos + wd ∧ w4.ownsRowF (w.heap.size + 1) 145 4 (.slice ao' (acc ++ [(⟨c, pos, pos + 3, false⟩ : Chr)]).length cap') (acc ++ [(⟨c, pos, pos + 3, false⟩ : Chr)]).length (chCs (acc ++ [(⟨c, pos, pos + 3, false⟩ : Chr)])) ∧ Below w.heap.size w w4) := by
            refine ⟨?_, by rw [HJ.out.2.1, HE.out, List.append_assoc]; rfl, HJ.out.2.2.1, hwp, by rw [e2]; have := HJ.out.2.2.2.1; omega, ?_, ?_⟩
            · rw [hgrow.block w.heap.size (by simp; omega) (fun e => by have := hnb _ e.symm; omega), alloc_old W2 _ w.heap.size hlt2]
              exact HJ.out.1
            · rw [e2, chCs_snoc]
              exact hown'
            · exact (HJ.out.2.2.2.2.2.alloc (by omega) _).grown hgrow (by simp; omega) (fun k hk => by have := hnb k hk; omega)
          have HV : Hid ((Value.slice ao' (L + 1) cap') = .slice ao' (acc ++ [(⟨c, pos, pos + 3, false⟩ : Chr)]).length cap') := by rw [e2]; exact rfl
          clear hown' hgrow e2 e1 hnb hlt2 HJ HE
          go_wp2
          go_roundw
          case rel => exact ⟨pos + wd, b', acc ++ [(⟨c, pos, pos + 3, false⟩ : Chr)], ao', cap', HV.out, HK⟩
          case measure => have e1 : w4.iterPos w.heap.size = pos + wd := by simp only [World.iterPos, HK.out.1]
                          omega
        · rw [decide_eq_false hok] at hp3
          have HE : Hid (chr1 s (pos, c) = ⟨c, pos, pos + 1, true⟩) := by
            show chr1 s (pos, c) = _
            unfold chr1
            rw [if_pos ⟨h3, hp3⟩]
          by_cases hle : pos + 3 ≤ s.size
          · have hne : ¬ s.extract pos (pos + 3) = rpB := fun g => hok ⟨hle, g⟩
            obtain ⟨Y, hY⟩ : ∃ Y, Y = s.extract pos (pos + 3) := ⟨_, rfl⟩
            have hsl : ∀ W : World, (Instr.slice 9 (.string s) (some (.int .i64 (pos : Int))) (some (.int .i64 ((pos : Int) + 3))) none).run Tryz.prog W = .ok (.string Y) W := fun W => by
              rw [show ((pos : Int) + 3) = ((pos + 3 : Nat) : Int) by omega, run_slice_string W 9 s _ _ _ _ Tryz.underlying9 (by omega) (by omega) (by omega)]
              show Result.ok (Value.string (s.extract pos (pos + 3))) W = _
              rw [hY]
            rw [← hY] at hne
            have i1 : ¬ (s.size : Int) < (pos : Int) + 3 := by omega
            have hb3 : ((c : Int) == 65533) = true := by rw [h3]; rfl
            clear hp3 hok hY h3 HXr
            have hnl : (Y.toList == [239, 191, 189]) = false := by
              rw [Bool.eq_false_iff]
              intro g
              apply hne
              apply list_inj
              rw [show rpB.toList = [239, 191, 189] by rw [ByteArray.toList_eq]; rfl]
              simpa using g
            have hnl2 : ¬ Y.toList = [239, 191, 189] := by simpa using hnl
            clear hne
            obtain ⟨hi, hz0, hz1, hz2, hz3⟩ := HI0.out
            have hm1 : L + 1 ≤ maxLen := by unfold maxLen; omega
            have hm2 : (L + 1) * 32 ≤ 140737488355328 := by omega
            have HM3 : Hid (∀ o, w.heap.size + 1 ≤ (W2.alloc o).heap.size) := fun o => by have := (Array.getElem?_eq_some_iff.1 HJ.out.1).1; simp; omega
            go_wp2_with (at_builtin; refine wpList_append_ownF _ rfl _ _ 142 rfl (w.heap.size + 1) 145 i0 z0 4 32 Tryz.underlying142 hi hz0 hz1 hz2 hz3 (by decide) _ L (chCs acc) rfl (HJ.out.2.2.2.2.1.alloc _) ⟨W2.heap.size, 0, none⟩ 1 1 [.int .i32 (c : Int), .int .i64 (pos : Int), .int .i64 ((pos : Int) + 1), .bool true] rfl rfl (new_cells _ _ _ _ _ _) (one4 _ _ _ _) hm1 hm2 (HM3.out _) ?_)
            intro v' w4 hown' hgrow _
            obtain ⟨ao', cap', rfl⟩ : ∃ ao' cap', v' = .slice ao' (L + 1) cap' := by
              rcases hown'.2 with ⟨_, h0⟩ | ⟨g, cap', cur, fz, hv, _⟩
              · omega
              · exact ⟨_, cap', hv⟩
            have hlt2 : w.heap.size < W2.heap.size := (Array.getElem?_eq_some_iff.1 HJ.out.1).1
            have hnb : ∀ k, (Value.slice ao L cap).ownBlock = some k → w.heap.size + 1 ≤ k := fun k hk => (HJ.out.2.2.2.2.1.lt k hk).1
            have e1 : L = acc.length := HL.out
            have e2 : (acc ++ [(⟨c, pos, pos + 1, true⟩ : Chr)]).length = L + 1 := by simp [e1]
            have HK : Hid (w4.heap[w.heap.size]? = some (.stringIter s (pos + wd)) ∧ Z = (acc ++ [(⟨c, pos, pos + 1, true⟩ : Chr)]) ++ (crs s b' (pos + wd)).map (chr1 s) ∧ s.size ≤ pos + wd + b' ∧ pos + wd ≤ s.size ∧ (acc ++ [(⟨c, pos, pos + 1, true⟩ : Chr)]).length ≤ pos + wd ∧ w4.ownsRowF (w.heap.size + 1) 145 4 (.slice ao' (acc ++ [(⟨c, pos, pos + 1, true⟩ : Chr)]).length cap') (acc ++ [(⟨c, pos, pos + 1, true⟩ : Chr)]).length (chCs (acc ++ [(⟨c, pos, pos + 1, true⟩ : Chr)])) ∧ Below w.heap.size w w4) := by
              refine ⟨?_, by rw [HJ.out.2.1, HE.out, List.append_assoc]; rfl, HJ.out.2.2.1, hwp, by rw [e2]; have := HJ.out.2.2.2.1; omega, ?_, ?_⟩
              · rw [hgrow.block w.heap.size (by simp; omega) (fun e => by have := hnb _ e.symm; omega), alloc_old W2 _ w.heap.size hlt2]
                exact HJ.out.1
              · rw [e2, chCs_snoc]
                exact hown'
              · exact (HJ.out.2.2.2.2.2.alloc (by omega) _).grown hgrow (by simp; omega) (fun k hk => by have := hnb k hk; omega)
            have HV : Hid ((Value.slice ao' (L + 1) cap') = .slice ao' (acc ++ [(⟨c, pos, pos + 1, true⟩ : Chr)]).length cap') := by rw [e2]; exact rfl
            clear hown' hgrow e2 e1 hnb hlt2 HJ HE
            go_wp2
            go_roundw
            case rel => exact ⟨pos + wd, b', acc ++ [(⟨c, pos, pos + 1, true⟩ : Chr)], ao', cap', HV.out, HK⟩
            case measure => have e1 : w4.iterPos w.heap.size = pos + wd := by simp only [World.iterPos, HK.out.1]
                            omega
          · have i1 : (s.size : Int) < (pos : Int) + 3 := by omega
            have hb3 : ((c : Int) == 65533) = true := by rw [h3]; rfl
            clear hp3 hok h3 HXr
            obtain ⟨hi, hz0, hz1, hz2, hz3⟩ := HI0.out
            have hm1 : L + 1 ≤ maxLen := by unfold maxLen; omega
            have hm2 : (L + 1) * 32 ≤ 140737488355328 := by omega
            have HM3 : Hid (∀ o, w.heap.size + 1 ≤ (W2.alloc o).heap.size) := fun o => by have := (Array.getElem?_eq_some_iff.1 HJ.out.1).1; simp; omega
            go_wp2_with (at_builtin; refine wpList_append_ownF _ rfl _ _ 142 rfl (w.heap.size + 1) 145 i0 z0 4 32 Tryz.underlying142 hi hz0 hz1 hz2 hz3 (by decide) _ L (chCs acc) rfl (HJ.out.2.2.2.2.1.alloc _) ⟨W2.heap.size, 0, none⟩ 1 1 [.int .i32 (c : Int), .int .i64 (pos : Int), .int .i64 ((pos : Int) + 1), .bool true] rfl rfl (new_cells _ _ _ _ _ _) (one4 _ _ _ _) hm1 hm2 (HM3.out _) ?_)
            intro v' w4 hown' hgrow _
            obtain ⟨ao', cap', rfl⟩ : ∃ ao' cap', v' = .slice ao' (L + 1) cap' := by
              rcases hown'.2 with ⟨_, h0⟩ | ⟨g, cap', cur, fz, hv, _⟩
              · omega
              · exact ⟨_, cap', hv⟩
            have hlt2 : w.heap.size < W2.heap.size := (Array.getElem?_eq_some_iff.1 HJ.out.1).1
            have hnb : ∀ k, (Value.slice ao L cap).ownBlock = some k → w.heap.size + 1 ≤ k := fun k hk => (HJ.out.2.2.2.2.1.lt k hk).1
            have e1 : L = acc.length := HL.out
            have e2 : (acc ++ [(⟨c, pos, pos + 1, true⟩ : Chr)]).length = L + 1 := by simp [e1]
            have HK : Hid (w4.heap[w.heap.size]? = some (.stringIter s (pos + wd)) ∧ Z = (acc ++ [(⟨c, pos, pos + 1, true⟩ : Chr)]) ++ (crs s b' (pos + wd)).map (chr1 s) ∧ s.size ≤ pos + wd + b' ∧ pos + wd ≤ s.size ∧ (acc ++ [(⟨c, pos, pos + 1, true⟩ : Chr)]).length ≤ pos + wd ∧ w4.ownsRowF (w.heap.size + 1) 145 4 (.slice ao' (acc ++ [(⟨c, pos, pos + 1, true⟩ : Chr)]).length cap') (acc ++ [(⟨c, pos, pos + 1, true⟩ : Chr)]).length (chCs (acc ++ [(⟨c, pos, pos + 1, true⟩ : Chr)])) ∧ Below w.heap.size w w4) := by
              refine ⟨?_, by rw [HJ.out.2.1, HE.out, List.append_assoc]; rfl, HJ.out.2.2.1, hwp, by rw [e2]; have := HJ.out.2.2.2.1; omega, ?_, ?_⟩
              · rw [hgrow.block w.heap.size (by simp; omega) (fun e => by have := hnb _ e.symm; omega), alloc_old W2 _ w.heap.size hlt2]
                exact HJ.out.1
              · rw [e2, chCs_snoc]
                exact hown'
              · exact (HJ.out.2.2.2.2.2.alloc (by omega) _).grown hgrow (by simp; omega) (fun k hk => by have := hnb k hk; omega)
            have HV : Hid ((Value.slice ao' (L + 1) cap') = .slice ao' (acc ++ [(⟨c, pos, pos + 1, true⟩ : Chr)]).length cap') := by rw [e2]; exact rfl
            clear hown' hgrow e2 e1 hnb hlt2 HJ HE
            go_wp2
            go_roundw
            case rel => exact ⟨pos + wd, b', acc ++ [(⟨c, pos, pos + 1, true⟩ : Chr)], ao', cap', HV.out, HK⟩
            case measure => have e1 : w4.iterPos w.heap.size = pos + wd := by simp only [World.iterPos, HK.out.1]
                            omega
      · have HE : Hid (chr1 s (pos, c) = ⟨c, pos, pos + wr c, false⟩) := by
          show chr1 s (pos, c) = _
          unfold chr1
          rw [if_neg (fun g => h3 g.1)]
        have i3 : ¬ (c : Int) = 65533 := by omega
        obtain ⟨R, hR⟩ : ∃ R, R = wr c := ⟨_, rfl⟩
        rw [← hR] at hts HE hw4 hw1
        clear HXr h3 hR
        obtain ⟨hi, hz0, hz1, hz2, hz3⟩ := HI0.out
        have hm1 : L + 1 ≤ maxLen := by unfold maxLen; omega
        have hm2 : (L + 1) * 32 ≤ 140737488355328 := by omega
        have HM3 : Hid (∀ o, w.heap.size + 1 ≤ (W2.alloc o).heap.size) := fun o => by have := (Array.getElem?_eq_some_iff.1 HJ.out.1).1; simp; omega
        go_wp2_with (at_builtin; refine wpList_append_ownF _ rfl _ _ 142 rfl (w.heap.size + 1) 145 i0 z0 4 32 Tryz.underlying142 hi hz0 hz1 hz2 hz3 (by decide) _ L (chCs acc) rfl (HJ.out.2.2.2.2.1.alloc _) ⟨W2.heap.size, 0, none⟩ 1 1 [.int .i32 (c : Int), .int .i64 (pos : Int), .int .i64 ((pos : Int) + (R : Int)), .bool false] rfl rfl (new_cells _ _ _ _ _ _) (one4 _ _ _ _) hm1 hm2 (HM3.out _) ?_)
        intro v' w4 hown' hgrow _
        obtain ⟨ao', cap', rfl⟩ : ∃ ao' cap', v' = .slice ao' (L + 1) cap' := by
          rcases hown'.2 with ⟨_, h0⟩ | ⟨g, cap', cur, fz, hv, _⟩
          · omega
          · exact ⟨_, cap', hv⟩
        have hlt2 : w.heap.size < W2.heap.size := (Array.getElem?_eq_some_iff.1 HJ.out.1).1
        have hnb : ∀ k, (Value.slice ao L cap).ownBlock = some k → w.heap.size + 1 ≤ k := fun k hk => (HJ.out.2.2.2.2.1.lt k hk).1
        have e1 : L = acc.length := HL.out
        have e2 : (acc ++ [(⟨c, pos, pos + R, false⟩ : Chr)]).length = L + 1 := by simp [e1]
        have HK : Hid (w4.heap[w.heap.size]? = some (.stringIter s (pos + wd)) ∧ Z = (acc ++ [(⟨c, pos, pos + R, false⟩ : Chr)]) ++ (crs s b' (pos + wd)).map (chr1 s) ∧ s.size ≤ pos + wd + b' ∧ pos + wd ≤ s.size ∧ (acc ++ [(⟨c, pos, pos + R, false⟩ : Chr)]).length ≤ pos + wd ∧ w4.ownsRowF (w.heap.size + 1) 145 4 (.slice ao' (acc ++ [(⟨c, pos, pos + R, false⟩ : Chr)]).length cap') (acc ++ [(⟨c, pos, pos + R, false⟩ : Chr)]).length (chCs (acc ++ [(⟨c, pos, pos + R, false⟩ : Chr)])) ∧ Below w.heap.size w w4) := by
          refine ⟨?_, by rw [HJ.out.2.1, HE.out, List.append_assoc]; rfl, HJ.out.2.2.1, hwp, by rw [e2]; have := HJ.out.2.2.2.1; omega, ?_, ?_⟩
          · rw [hgrow.block w.heap.size (by simp; omega) (fun e => by have := hnb _ e.symm; omega), alloc_old W2 _ w.heap.size hlt2]
            exact HJ.out.1
          · rw [e2, chCs_snoc]
            exact hown'
          · exact (HJ.out.2.2.2.2.2.alloc (by omega) _).grown hgrow (by simp; omega) (fun k hk => by have := hnb k hk; omega)
        have HV : Hid ((Value.slice ao' (L + 1) cap') = .slice ao' (acc ++ [(⟨c, pos, pos + R, false⟩ : Chr)]).length cap') := by rw [e2]; exact rfl
        clear hown' hgrow e2 e1 hnb hlt2 HJ HE
        go_wp2
        go_roundw
        case rel => exact ⟨pos + wd, b', acc ++ [(⟨c, pos, pos + R, false⟩ : Chr)], ao', cap', HV.out, HK⟩
        case measure => have e1 : w4.iterPos w.heap.size = pos + wd := by simp only [World.iterPos, HK.out.1]
                        omega
    · have hnx : ∀ ty, (Instr.next (.pointer (some ⟨w.heap.size, 0, none⟩)) true ty).run Tryz.prog w1 = _ := fun ty => run_next_end_at w1 w.heap.size s pos ty HI.out.1 hp
      have HE : Hid (Z = acc) := by
        show Z = acc
        rw [HI.out.2.1, crs_end hp, List.map_nil, List.append_nil]
      have HF : Hid (w1.ownsRowF (w.heap.size + 1) 145 4 (.slice ao acc.length cap) acc.length (chCs acc) ∧ Below w.heap.size w w1) := ⟨HI.out.2.2.2.2.2.1, HI.out.2.2.2.2.2.2⟩
      clear HI
      go_wp2
      go_ret
      rw [show Z = acc from HE.out]
      exact ⟨_, rfl, ⟨⟨ao, cap, rfl⟩, owns_lower HF.out.1 (Nat.le_succ _)⟩, HF.out.2⟩
end Go.Proofs.YtfecmpebnianpaaGreatDoor
namespace Go.Proofs.YtfecmpebnianpaaGreatDoor
open Go.RowKit Go.Lib
set_option linter.unusedSimpArgs false
set_option linter.unusedVariables false
def badL : List Chr → Int
  | [] => -1
  | c :: l => if c.b = true then (c.a : Int) else badL l
theorem badL_st (s : ByteArray) : ∀ (l : List (Nat × Nat)), (∀ x ∈ l, x.1 < s.size) → badL (l.map (chr1 s)) = if stL s l < s.size then (stL s l : Int) else -1
  | [], _ => by simp [badL, stL]
  | (i, c) :: l, h => by
    have hi := h (i, c) (List.mem_cons_self ..)
    rw [List.map_cons, badL, stL]
    unfold chr1
    by_cases hb : c = 65533 ∧ preB (s.extract i s.size) rpB = false
    · rw [if_pos hb, if_pos rfl, if_pos hb, if_pos hi]
    · rw [if_neg hb, if_neg (by simp), if_neg hb]
      exact badL_st s l (fun x hx => h x (List.mem_cons_of_mem _ hx))
theorem crs_lt (s : ByteArray) : ∀ (b pos : Nat), ∀ x ∈ crs s b pos, x.1 < s.size
  | 0, pos, x, hx => by simp [crs] at hx
  | b + 1, pos, x, hx => by
    by_cases hp : pos < s.size
    · rw [show crs s (b + 1) pos = (pos, (Utf8.decode s pos).1) :: crs s b (pos + (Utf8.decode s pos).2) by simp [crs, hp]] at hx
      rcases List.mem_cons.1 hx with rfl | hx
      · exact hp
      · exact crs_lt s b _ x hx
    · rw [crs_end hp] at hx
      simp at hx
theorem crs_len (s : ByteArray) : ∀ (b pos : Nat), pos ≤ s.size → (crs s b pos).length ≤ s.size - pos
  | 0, pos, _ => by simp [crs]
  | b + 1, pos, h => by
    by_cases hp : pos < s.size
    · rw [show crs s (b + 1) pos = (pos, (Utf8.decode s pos).1) :: crs s b (pos + (Utf8.decode s pos).2) by simp [crs, hp], List.length_cons]
      have := wid_pos s pos hp
      have := decode_wd s pos hp
      have := crs_len s b (pos + (Utf8.decode s pos).2) (by omega)
      omega
    · rw [crs_end hp]
      simp
theorem chrL_len (s : ByteArray) : (chrL s).length ≤ s.size := by
  have := crs_len s s.size 0 (Nat.zero_le _)
  unfold chrL chs
  rw [List.length_map]
  omega
def badR (s : ByteArray) : Int := if stR s < s.size then (stR s : Int) else -1
theorem badR_eq (s : ByteArray) : badL (chrL s) = badR s := badL_st s _ (crs_lt s _ _)
theorem badL_drop {l : List Chr} {i : Nat} {t : Chr} (h : l[i]? = some t) : badL (l.drop i) = if t.b = true then (t.a : Int) else badL (l.drop (i + 1)) := by
  have hi := (List.getElem?_eq_some_iff.1 h).1
  have : l.drop i = t :: l.drop (i + 1) := by
    rw [← (List.getElem?_eq_some_iff.1 h).2]
    exact List.drop_eq_getElem_cons hi
  rw [this, badL]
set_option maxRecDepth 100000 in
set_option maxHeartbeats 1000000 in
theorem bad_any (s : ByteArray) (hs : s.size ≤ 4000000) (w : World) : Calls Tryz.prog 70 #[.string s] w fun e w' => e = .returned (.int .i64 (badR s)) ∧ Only (fun _ => False) w w' := by
  have HC : Hid (Calls Tryz.prog 67 #[.string s] w fun e w' => ∃ v, e = .returned v ∧ Hid (ChrAt w' w.heap.size v (chrL s) ∧ Below w.heap.size w w')) := chars_any s hs w
  have hlen := chrL_len s
  rw [← badR_eq]
  obtain ⟨l, hl⟩ : ∃ l, l = chrL s := ⟨_, rfl⟩
  rw [← hl] at HC hlen ⊢
  clear hl
  obtain ⟨Z, hZ⟩ : ∃ Z, Z = badL l := ⟨_, rfl⟩
  have HZ : Hid (Z = badL l) := hZ
  rw [← hZ]
  clear hZ
  go_enter Tryz.func70, Tryz.ntmps70
  go_wp2_with fail
  refine (show Calls Tryz.prog 67 _ _ _ from HC.out).mono ?_
  rintro e w1 ⟨v, rfl, g⟩
  have O1 : Hid (Only (fun _ => False) w w1) := below_only g.out.2
  have T1 : Hid (ChrAt w1 w.heap.size v l) := g.out.1
  obtain ⟨ao, cap, rfl⟩ := g.out.1.1
  clear HC g
  go_wp2
  go_loopw [4] (fun r4 wr => ∃ k : Nat, k ≤ l.length ∧ r4 = .int .i64 (k : Int) ∧ wr = w1 ∧ Hid (Z = badL (l.drop k))) (fun r4 _ => l.length - uOf r4)
  case atStart => exact ⟨0, Nat.zero_le _, rfl, rfl, HZ.out⟩
  case round =>
    obtain ⟨k, hk, rfl, rfl, HI⟩ := hrel
    clear HZ
    by_cases hlt : k < l.length
    · obtain ⟨t, ht⟩ : ∃ t, t = l[k]'hlt := ⟨_, rfl⟩
      have ht2 : l[k]? = some t := by rw [ht]; exact List.getElem?_eq_getElem _
      obtain ⟨g, cap', hv, _, _, c0, c1, c2, c3⟩ := chr_cells T1.out ht2
      injection hv with hv1 hv2 hv3
      subst hv1
      have hd := badL_drop ht2
      obtain ⟨tr, ta, tz, tb⟩ := t
      dsimp only at c0 c1 c2 c3 hd
      have k0 : (0 : Int) ≤ (k : Int) := Int.natCast_nonneg _
      obtain ⟨L, hL⟩ : ∃ L, L = l.length := ⟨_, rfl⟩
      rw [← hL]
      have k1 : (k : Int) < (L : Int) := by omega
      cases tb with
      | true =>
        have HE : Hid (Z = (ta : Int)) := by
          show Z = _
          rw [HI.out, hd, if_pos rfl]
        clear HI hd ht ht2 T1 hL hlen hv2 hv3
        go_wp2
        go_ret
        exact ⟨by rw [show Z = _ from HE.out]; rfl, O1.out⟩
      | false =>
        have HE : Hid (Z = badL (l.drop (k + 1))) := by
          show Z = _
          rw [HI.out, hd, if_neg (by simp)]
        have HLL : Hid (L = l.length) := hL
        have hl4 : L ≤ 4000000 := by omega
        clear HI hd ht ht2 hL hlen hv2 hv3
        go_wp2
        go_roundw
        case rel => exact ⟨k + 1, by omega, by go_num, by simp, HE⟩
        case measure => simp only [uOf]; omega
    · have HE : Hid (Z = -1) := by
        show Z = _
        rw [HI.out, List.drop_eq_nil_of_le (by omega)]
        rfl
      have k1 : ¬ (k : Int) < (l.length : Int) := by omega
      clear HI
      go_wp2
      go_ret
      exact ⟨by rw [show Z = _ from HE.out]; rfl, O1.out⟩
end Go.Proofs.YtfecmpebnianpaaGreatDoor
namespace Go.Proofs.YtfecmpebnianpaaGreatDoor
open Go.RowKit Go.Lib
set_option linter.unusedSimpArgs false
set_option linter.unusedVariables false
end Go.Proofs.YtfecmpebnianpaaGreatDoor
namespace Go.Proofs.YtfecmpebnianpaaGreatDoor
open Go.RowKit Go.Lib
set_option linter.unusedSimpArgs false
set_option linter.unusedVariables false
theorem SK_one {b : Nat} (h : blk b = true) (q : List Nat) : SK (b :: q) = SK q := SK_blank [b] q (by rw [List.dropWhile_cons, if_pos h]; rfl)
theorem red_word {s : ByteArray} {c : Nat} {q w r : List Nat} {a : Nat} (h : Sfx s (c :: q) a) (hc : c ≠ 34) (hw : (c :: q).takeWhile (fun c => !blk c) = w) : redR s a = wrdL w a (a + wl w) := by
  unfold redR
  rw [if_neg (fun x => hc ((quote_sfx h).1 x)), wrd_sfx h, hw]
theorem red_str {s : ByteArray} {q : List Nat} {a : Nat} (h : Sfx s (34 :: q) a) : redR s a = strG a s.size (pl 0 q) false [] := by
  unfold redR
  rw [if_pos ((quote_sfx h).2 rfl), str_sfx h]
end Go.Proofs.YtfecmpebnianpaaGreatDoor
namespace Go.Proofs.YtfecmpebnianpaaGreatDoor
open Go.RowKit Go.Lib
set_option linter.unusedSimpArgs false
set_option linter.unusedVariables false
end Go.Proofs.YtfecmpebnianpaaGreatDoor
namespace Go.Proofs.YtfecmpebnianpaaGreatDoor
open Go.RowKit Go.Lib
set_option linter.unusedSimpArgs false
set_option linter.unusedVariables false
/-- The nought of a digit's script, or 0. -/
def rs (c : Nat) : Nat := if 48 ≤ c ∧ c ≤ 57 then 48 else if 1632 ≤ c ∧ c ≤ 1641 then 1632 else if 65296 ≤ c ∧ c ≤ 65305 then 65296 else 0
set_option maxRecDepth 100000 in
set_option maxHeartbeats 1000000 in
theorem rscript_any (c : Nat) (w : World) : Calls Tryz.prog 103 #[.int .i32 (c : Int)] w fun e w' => e = .returned (.int .i32 (rs c : Int)) ∧ w' = w := by
  unfold rs
  by_cases h1 : 48 ≤ c ∧ c ≤ 57
  · rw [if_pos h1]
    have i1 : (48 : Int) ≤ (c : Int) := by omega
    have i2 : (c : Int) ≤ 57 := by omega
    go_enter Tryz.func103, Tryz.ntmps103
    go_wp2
    go_ret
    exact ⟨rfl, rfl⟩
  · rw [if_neg h1]
    have j1 : (decide ((48 : Int) ≤ (c : Int)) && decide ((c : Int) ≤ 57)) = false := by
      rw [Bool.eq_false_iff]; simp only [ne_eq, Bool.and_eq_true, decide_eq_true_eq]; omega
    by_cases h2 : 1632 ≤ c ∧ c ≤ 1641
    · rw [if_pos h2]
      have i1 : (1632 : Int) ≤ (c : Int) := by omega
      have i2 : (c : Int) ≤ 1641 := by omega
      have i3 : (48 : Int) ≤ (c : Int) := by omega
      have i4 : decide ((c : Int) ≤ 57) = false := decide_eq_false (by omega)
      clear j1 h1 h2
      go_enter Tryz.func103, Tryz.ntmps103
      go_wp2
      go_ret
      exact ⟨rfl, rfl⟩
    · rw [if_neg h2]
      by_cases h3 : 65296 ≤ c ∧ c ≤ 65305
      · rw [if_pos h3]
        have i1 : (65296 : Int) ≤ (c : Int) := by omega
        have i2 : (c : Int) ≤ 65305 := by omega
        have i3 : (48 : Int) ≤ (c : Int) := by omega
        have i4 : decide ((c : Int) ≤ 57) = false := decide_eq_false (by omega)
        have i5 : (1632 : Int) ≤ (c : Int) := by omega
        have i6 : decide ((c : Int) ≤ 1641) = false := decide_eq_false (by omega)
        clear j1 h1 h2 h3
        go_enter Tryz.func103, Tryz.ntmps103
        go_wp2
        go_ret
        exact ⟨rfl, rfl⟩
      · rw [if_neg h3]
        have key : ∀ x y : Int, ¬ (x ≤ (c : Int) ∧ (c : Int) ≤ y) → (decide (x ≤ (c : Int)) = false) ∨ (decide (x ≤ (c : Int)) = true ∧ decide ((c : Int) ≤ y) = false) := fun x y g => by
          by_cases hx : x ≤ (c : Int)
          · exact .inr ⟨decide_eq_true hx, decide_eq_false (fun hy => g ⟨hx, hy⟩)⟩
          · exact .inl (decide_eq_false hx)
        have k1 := key 48 57 (by omega)
        have k2 := key 1632 1641 (by omega)
        have k3 := key 65296 65305 (by omega)
        clear j1 h1 h2 h3 key
        rcases k1 with k1 | ⟨k1, k1'⟩ <;> rcases k2 with k2 | ⟨k2, k2'⟩ <;> rcases k3 with k3 | ⟨k3, k3'⟩
        all_goals
          go_enter Tryz.func103, Tryz.ntmps103
          go_wp2
          go_ret
          exact ⟨rfl, rfl⟩
/-- A row of characters that can be read. -/
def RdC (w : World) (v : Value) (l : List Chr) : Prop := ∃ ao cap, v = .slice ao l.length cap ∧ l.length ≤ cap ∧ ∀ i t, l[i]? = some t → ∃ g o, ao = some ⟨g, o, none⟩ ∧ g < w.heap.size ∧ w.cell? ⟨g, o + i * 4, none⟩ = some (.int .i32 (t.r : Int)) ∧ w.cell? ⟨g, o + i * 4 + 1, none⟩ = some (.int .i64 (t.a : Int)) ∧ w.cell? ⟨g, o + i * 4 + 2, none⟩ = some (.int .i64 (t.z : Int)) ∧ w.cell? ⟨g, o + i * 4 + 3, none⟩ = some (.bool t.b)
theorem RdC.only {w w' : World} {v : Value} {l : List Chr} (h : RdC w v l) (o : Only (fun _ => False) w w') : RdC w' v l := by
  obtain ⟨ao, cap, e, hc, h⟩ := h
  refine ⟨ao, cap, e, hc, fun i t ht => ?_⟩
  obtain ⟨g, oo, e1, hg, c0, c1, c2, c3⟩ := h i t ht
  exact ⟨g, oo, e1, Nat.lt_of_lt_of_le hg o.size, o.cell c0 (fun x => x), o.cell c1 (fun x => x), o.cell c2 (fun x => x), o.cell c3 (fun x => x)⟩
theorem rdc_chr {w : World} {B : Nat} {v : Value} {l : List Chr} (h : ChrAt w B v l) : RdC w v l := by
  obtain ⟨ao, cap, rfl⟩ := h.1
  have hc : l.length ≤ cap := by
    rcases h.2.2 with ⟨e, e2⟩ | ⟨g, cap', cur, fz, hv, _, _, _, hcap, _⟩
    · injection e with e1 e3 e4
      omega
    · injection hv with e1 e3 e4
      omega
  refine ⟨ao, cap, rfl, hc, fun i t ht => ?_⟩
  obtain ⟨g, cap', hv, _, hg, c0, c1, c2, c3⟩ := chr_cells h ht
  injection hv with e1 e2 e3
  exact ⟨g, 0, e1, hg, by rw [Nat.zero_add]; exact c0, by rw [Nat.zero_add]; exact c1, by rw [Nat.zero_add]; exact c2, by rw [Nat.zero_add]; exact c3⟩
/-- The digits of one script, from the first on. -/
def rnum (nt : Nat) : List Nat → Nat → Nat × Bool
  | [], n => (n, true)
  | c :: l, n => if rs c ≠ nt then (0, false) else rnum nt l (min (10 * n + (c - rs c)) 1152921504606846977)
def rminus (l : List Nat) : Bool := decide (l.head? = some 45 ∨ l.head? = some 8722)
def rrest (l : List Nat) : List Nat := if rminus l then l.tail else l
def rnumM (mn : Bool) : List Nat → Nat × Bool × Bool
  | [] => (0, mn, false)
  | c :: r => if rs c = 0 then (0, mn, false) else ((rnum (rs c) (c :: r) 0).1, mn, (rnum (rs c) (c :: r) 0).2)
def rnumL (l : List Nat) : Nat × Bool × Bool := rnumM (rminus l) (rrest l)
theorem rs_digit {c : Nat} (h : rs c ≠ 0) : rs c ≤ c ∧ c - rs c ≤ 9 := by
  unfold rs at h ⊢
  split
  · omega
  · split
    · omega
    · split
      · omega
      · rename_i h1 h2 h3
        simp [h1, h2, h3] at h
end Go.Proofs.YtfecmpebnianpaaGreatDoor
