/- The characters of a text, as the document has them: Chars and Bad. -/
import Derived.Test.YtbijiigobbjlcaaDoorLx28
namespace Go.Proofs.YtbijiigobbjlcaaDoor
open Go.RowKit Go.Lib
set_option linter.unusedSimpArgs false
set_option linter.unusedVariables false
/-- A character of a text: its number, its place, the place behind it, and whether the byte belongs to none. -/
structure Chr where
  r : Nat
  a : Nat
  z : Nat
  b : Bool
def chr1 (s : ByteArray) (x : Nat × Nat) : Chr := if x.2 = 65533 ∧ preB (s.extract x.1 s.size) rpB = false then ⟨x.2, x.1, x.1 + 1, true⟩ else ⟨x.2, x.1, x.1 + wr x.2, false⟩
def chrL (s : ByteArray) : List Chr := (chs s).map (chr1 s)
def chCs (l : List Chr) : List Value := l.flatMap fun c => [.int .i32 (c.r : Int), .int .i64 (c.a : Int), .int .i64 (c.z : Int), .bool c.b]
theorem chCs_snoc (l : List Chr) (c : Chr) : chCs (l ++ [c]) = chCs l ++ [.int .i32 (c.r : Int), .int .i64 (c.a : Int), .int .i64 (c.z : Int), .bool c.b] := by simp [chCs]
set_option maxRecDepth 100000 in
theorem chr_info : ∃ i z, Tryd.prog.info? 47 = some i ∧ i.zero = some z ∧ i.size = 4 ∧ i.bytes = 32 ∧ z.cells.size = 4 := ⟨_, _, rfl, rfl, rfl, rfl, rfl⟩
/-- A row of characters that was made since block B. -/
def ChrAt (w : World) (B : Nat) (v : Value) (l : List Chr) : Prop := (∃ ao cap, v = .slice ao l.length cap) ∧ w.ownsRowF B 47 4 v l.length (chCs l)
theorem chCs_get : ∀ (l : List Chr) (i : Nat) (t : Chr), l[i]? = some t → (chCs l)[i * 4]? = some (.int .i32 (t.r : Int)) ∧ (chCs l)[i * 4 + 1]? = some (.int .i64 (t.a : Int)) ∧ (chCs l)[i * 4 + 2]? = some (.int .i64 (t.z : Int)) ∧ (chCs l)[i * 4 + 3]? = some (.bool t.b)
  | [], i, t, h => by simp at h
  | x :: l, 0, t, h => by
    simp only [List.getElem?_cons_zero, Option.some.injEq] at h
    subst h
    simp [chCs]
  | x :: l, i + 1, t, h => by
    have := chCs_get l i t (by simpa using h)
    have e : ∀ k, (chCs (x :: l))[k + 4]? = (chCs l)[k]? := fun k => by simp [chCs]
    rw [show (i + 1) * 4 = i * 4 + 4 by omega, show i * 4 + 4 + 1 = i * 4 + 1 + 4 by omega, show i * 4 + 4 + 2 = i * 4 + 2 + 4 by omega, show i * 4 + 4 + 3 = i * 4 + 3 + 4 by omega, e, e, e, e]
    exact this
theorem chr_cells {w : World} {B : Nat} {v : Value} {l : List Chr} (h : ChrAt w B v l) {i : Nat} {t : Chr} (ht : l[i]? = some t) :
    ∃ g cap, v = .slice (some ⟨g, 0, none⟩) l.length cap ∧ B ≤ g ∧ g < w.heap.size ∧ w.cell? ⟨g, i * 4, none⟩ = some (.int .i32 (t.r : Int)) ∧ w.cell? ⟨g, i * 4 + 1, none⟩ = some (.int .i64 (t.a : Int)) ∧ w.cell? ⟨g, i * 4 + 2, none⟩ = some (.int .i64 (t.z : Int)) ∧ w.cell? ⟨g, i * 4 + 3, none⟩ = some (.bool t.b) := by
  obtain ⟨c0, c1, c2, c3⟩ := chCs_get l i t ht
  have hi : i < l.length := (List.getElem?_eq_some_iff.1 ht).1
  rcases h.2.2 with ⟨_, h0⟩ | ⟨g, cap, cur, fz, hv, hB, hg, _⟩
  · omega
  · subst hv
    exact ⟨g, cap, rfl, hB, (Array.getElem?_eq_some_iff.1 hg).1, (by have := h.2.cells (g := g) rfl _ _ c0; rwa [addr_add] at this), (by have := h.2.cells (g := g) rfl _ _ c1; rwa [addr_add] at this), (by have := h.2.cells (g := g) rfl _ _ c2; rwa [addr_add] at this), (by have := h.2.cells (g := g) rfl _ _ c3; rwa [addr_add] at this)⟩
/-- The language's own encoding of a character. -/
theorem encode_tx {c : Nat} (hc : Vr c) : Utf8.encode (c : Int) = tx [c] := by
  apply tx_inj
  rw [show enL [c] = encodeRune (c : Int) by simp [enL]]
  have hv : Utf8.valid (c : Int) = true := by
    unfold Vr at hc
    simp only [Utf8.valid, Bool.and_eq_true, Bool.or_eq_true, decide_eq_true_eq]
    omega
  unfold Utf8.encode
  simp only [hv, if_true, Int.toNat_natCast]
  unfold Vr at hc
  by_cases h1 : c ≤ 127
  · rw [enc1 h1, if_pos (by omega)]
  · by_cases h2 : c ≤ 2047
    · rw [enc2 (by omega) h2, if_neg (by omega), if_pos (by omega)]
    · by_cases h3 : c ≤ 65535
      · rw [enc3 (by omega), if_neg (by omega), if_neg (by omega), if_pos (by omega)]
      · rw [enc4 (by omega) (by omega), if_neg (by omega), if_neg (by omega), if_neg (by omega)]
theorem wr_le (c : Nat) : wr c ≤ 4 := by
  have := (runeCells_le (c : Int)).2
  rw [runeCells_length] at this
  exact this
theorem ext3 (s : ByteArray) (i : Nat) (h : i + 3 ≤ s.size) : (s.extract i s.size).extract 0 3 = s.extract i (i + 3) := by
  apply ByteArray.ext
  simp only [ByteArray.data_extract, Array.extract_extract, Nat.add_zero]
  rw [show min (i + 3) s.size = i + 3 by omega]
theorem list_inj {x y : ByteArray} (h : x.toList = y.toList) : x = y := by
  rw [ByteArray.toList_eq, ByteArray.toList_eq] at h
  exact ByteArray.ext (Array.toList_inj.1 h)
/-- The three bytes of the character FFFD stand at a place, or not. -/
theorem pre_three (s : ByteArray) (i : Nat) (hi : i ≤ s.size) : preB (s.extract i s.size) rpB = decide (i + 3 ≤ s.size ∧ s.extract i (i + 3) = rpB) := by
  have hz : (s.extract i s.size).size = s.size - i := by rw [ByteArray.size_extract]; omega
  unfold preB
  rw [show rpB.size = 3 from rfl, hz]
  by_cases h : i + 3 ≤ s.size
  · rw [ext3 s i h, decide_eq_true (by omega : 3 ≤ s.size - i), Bool.true_and]
    by_cases h2 : s.extract i (i + 3) = rpB
    · rw [decide_eq_true ⟨h, h2⟩, h2]
      simp
    · rw [decide_eq_false (fun g => h2 g.2), Bool.eq_false_iff]
      intro g
      exact h2 (list_inj (by simpa using g))
  · rw [decide_eq_false (by omega : ¬ 3 ≤ s.size - i), decide_eq_false (fun g => h g.1)]
    rfl
theorem new_cells (W : World) (t : TypeId) (a b c d : Value) : ∀ (j : Nat) (u : Value), [a, b, c, d][j]? = some u → (W.alloc (.cells #[a, b, c, d] t)).cell? ((⟨W.heap.size, 0, none⟩ : Addr).add j) = some u := by
  intro j u hj
  rw [addr_add, blk_cells (alloc_at W _ _ rfl)]
  simpa using hj
theorem one4 (x y z : Int) (b : Bool) : ∀ u ∈ [Value.int .i32 x, .int .i64 y, .int .i64 z, .bool b], u.oneCell' = true := by
  intro u hu
  simp only [List.mem_cons, List.not_mem_nil, or_false] at hu
  rcases hu with rfl | rfl | rfl | rfl <;> rfl
set_option maxRecDepth 100000 in
set_option maxHeartbeats 400000 in
theorem chars_any (s : ByteArray) (hs : s.size ≤ 4000000) (w : World) :
    Calls Tryd.prog 25 #[.string s] w fun e w' => ∃ v, e = .returned v ∧ Hid (ChrAt w' w.heap.size v (chrL s) ∧ Below w.heap.size w w') := by
  obtain ⟨Z, hZ⟩ : ∃ Z, Z = chrL s := ⟨_, rfl⟩
  have HZ : Hid (Z = [] ++ (crs s s.size 0).map (chr1 s)) := hZ
  rw [← hZ]
  clear hZ
  obtain ⟨i0, z0, hi, hz0, hz1, hz2, hz3⟩ := chr_info
  have HI0 : Hid (Tryd.prog.info? 47 = some i0 ∧ i0.zero = some z0 ∧ i0.size = 4 ∧ i0.bytes = 32 ∧ z0.cells.size = 4) := ⟨hi, hz0, hz1, hz2, hz3⟩
  clear hi hz0 hz1 hz2 hz3
  go_enter Tryd.func25, Tryd.ntmps25
  go_wp2
  go_loopw [3] (fun r3 wr_ => ∃ (pos b : Nat) (acc : List Chr) (ao : Option Addr) (cap : Nat), r3 = .slice ao acc.length cap ∧ Hid (wr_.heap[w.heap.size]? = some (.stringIter s pos) ∧ Z = acc ++ (crs s b pos).map (chr1 s) ∧ s.size ≤ pos + b ∧ pos ≤ s.size ∧ acc.length ≤ pos ∧ wr_.ownsRowF (w.heap.size + 1) 47 4 (.slice ao acc.length cap) acc.length (chCs acc) ∧ Below w.heap.size w wr_)) (fun _ wr_ => s.size - wr_.iterPos w.heap.size)
  case atStart => exact ⟨0, s.size, [], none, 0, rfl, alloc_at _ _ _ rfl, HZ.out, by omega, by omega, by simp, ⟨rfl, .inl ⟨rfl, rfl⟩⟩, (Below.refl _ w).alloc (Nat.le_refl _) _⟩
  case round =>
    obtain ⟨pos, b, acc, ao, cap, rfl, HI⟩ := hrel
    obtain ⟨w1, rfl⟩ : ∃ w1, w1 = wr := ⟨_, rfl⟩
    clear HZ
    by_cases hp : pos < s.size
    · have hnx : ∀ ty, (Instr.next (.pointer (some ⟨w.heap.size, 0, none⟩)) true ty).run Tryd.prog w1 = _ := fun ty => run_next_any_at w1 w.heap.size s pos ty HI.out.1 hp
      have hwd := wid_pos s pos hp
      have hwp := decode_wd s pos hp
      obtain ⟨b', hb', hcr⟩ := crs_go hp HI.out.2.2.1
      have hvr := decode_vr s pos
      have hdl := decode_le s pos
      obtain ⟨c, hc⟩ : ∃ c, c = (Utf8.decode s pos).1 := ⟨_, rfl⟩
      obtain ⟨wd, hw⟩ : ∃ c, c = (Utf8.decode s pos).2 := ⟨_, rfl⟩
      rw [← hc, ← hw] at hnx hcr
      rw [← hc] at hvr hdl
      rw [← hw] at hwd hwp
      have hcv : ∀ W : World, (convert 21 9 (.int .i32 (c : Int))).run Tryd.prog W = .ok (.string (tx [c])) W := fun W => by
        rw [← encode_tx hvr]
        exact run_convert_int_string W _ _ _ _ rfl Tryd.underlying9
      have hts : (tx [c]).size = wr c := by rw [tx_size, wl_cons, wl_nil, Nat.add_zero]
      have hw4 := wr_le c
      have hw1 := wr_pos c
      obtain ⟨X, hX⟩ : ∃ X, X = tx [c] := ⟨_, rfl⟩
      rw [← hX] at hcv hts
      have HXr : Hid (c = 65533 → wr c = 3) := fun g => by rw [g]; rfl
      have hmp : w1.iterPos w.heap.size = pos := by simp only [World.iterPos, HI.out.1]
      obtain ⟨W2, hW2⟩ : ∃ W2, W2 = w1.iterAt w.heap.size s (pos + wd) := ⟨_, rfl⟩
      have HJ : Hid (W2.heap[w.heap.size]? = some (.stringIter s (pos + wd)) ∧ Z = acc ++ (chr1 s (pos, c) :: (crs s b' (pos + wd)).map (chr1 s)) ∧ s.size ≤ pos + wd + b' ∧ acc.length ≤ pos ∧ W2.ownsRowF (w.heap.size + 1) 47 4 (.slice ao acc.length cap) acc.length (chCs acc) ∧ Below w.heap.size w W2) := by
        obtain ⟨j1, j2, j3, j4, j5, j6, j7⟩ := HI.out
        rw [hW2]
        refine ⟨iterAt_heap _ _ _ _ _ j1, by rw [j2, hcr]; rfl, by omega, j5, ⟨j6.1, ?_⟩, below_iterAt j7 (Nat.le_refl _) _ _⟩
        rcases j6.2 with g | ⟨g, cap', cur, fz, h1, h2, h3, h4⟩
        · exact .inl g
        · exact .inr ⟨g, cap', cur, fz, h1, h2, (iterAt_other _ _ _ _ _ (by omega)).trans h3, h4⟩
      rw [← hW2] at hnx
      obtain ⟨L, hL⟩ : ∃ L, L = acc.length := ⟨_, rfl⟩
      have HL : Hid (L = acc.length) := hL
      have hLp : L ≤ 4000000 := by have := HI.out.2.2.2.2.1; omega
      rw [← hL] at HJ ⊢
      clear HI hc hw hcr hb' hvr hW2 hL hX
      by_cases h3 : c = 65533
      · have hw3 := HXr.out h3
        have hp3 := pre_three s pos (Nat.le_of_lt hp)
        rw [hw3] at hts
        by_cases hok : pos + 3 ≤ s.size ∧ s.extract pos (pos + 3) = rpB
        · rw [decide_eq_true hok] at hp3
          have HE : Hid (chr1 s (pos, c) = ⟨c, pos, pos + 3, false⟩) := by
            show chr1 s (pos, c) = _
            unfold chr1
            rw [if_neg (by rw [hp3]; simp), hw3]
          have hsl : ∀ W : World, (Instr.slice 9 (.string s) (some (.int .i64 (pos : Int))) (some (.int .i64 ((pos : Int) + 3))) none).run Tryd.prog W = .ok (.string ⟨#[239, 191, 189]⟩) W := fun W => by
            rw [show ((pos : Int) + 3) = ((pos + 3 : Nat) : Int) by omega, run_slice_string W 9 s _ _ _ _ Tryd.underlying9 (by omega) (by omega) (by omega)]
            show Result.ok (Value.string (s.extract pos (pos + 3))) W = _
            rw [hok.2]
            rfl
          have i1 : ¬ (s.size : Int) < (pos : Int) + 3 := by omega
          have hb3 : ((c : Int) == 65533) = true := by rw [h3]; rfl
          clear hp3 hok h3 HXr
          obtain ⟨hi, hz0, hz1, hz2, hz3⟩ := HI0.out
          have hm1 : L + 1 ≤ maxLen := by unfold maxLen; omega
          have hm2 : (L + 1) * 32 ≤ 140737488355328 := by omega
          have HM3 : Hid (∀ o, w.heap.size + 1 ≤ (W2.alloc o).heap.size) := fun o => by have := (Array.getElem?_eq_some_iff.1 HJ.out.1).1; simp; omega
          go_wp2_with (at_builtin; refine wpList_append_ownF _ rfl _ _ 44 rfl (w.heap.size + 1) 47 i0 z0 4 32 Tryd.underlying44 hi hz0 hz1 hz2 hz3 (by decide) _ L (chCs acc) rfl (HJ.out.2.2.2.2.1.alloc _) ⟨W2.heap.size, 0, none⟩ 1 1 [.int .i32 (c : Int), .int .i64 (pos : Int), .int .i64 ((pos : Int) + 3), .bool false] rfl rfl (new_cells _ _ _ _ _ _) (one4 _ _ _ _) hm1 hm2 (HM3.out _) ?_)
          intro v' w4 hown' hgrow _
          obtain ⟨ao', cap', rfl⟩ : ∃ ao' cap', v' = .slice ao' (L + 1) cap' := by
            rcases hown'.2 with ⟨_, h0⟩ | ⟨g, cap', cur, fz, hv, _⟩
            · omega
            · exact ⟨_, cap', hv⟩
          have hlt2 : w.heap.size < W2.heap.size := (Array.getElem?_eq_some_iff.1 HJ.out.1).1
          have hnb : ∀ k, (Value.slice ao L cap).ownBlock = some k → w.heap.size + 1 ≤ k := fun k hk => (HJ.out.2.2.2.2.1.lt k hk).1
          have e1 : L = acc.length := HL.out
          have e2 : (acc ++ [(⟨c, pos, pos + 3, false⟩ : Chr)]).length = L + 1 := by simp [e1]
          have HK : Hid (w4.heap[w.heap.size]? = some (.stringIter s (pos + wd)) ∧ Z = (acc ++ [(⟨c, pos, pos + 3, false⟩ : Chr)]) ++ (crs s b' (pos + wd)).map (chr1 s) ∧ s.size ≤ pos + wd + b' ∧ pos + wd ≤ s.size ∧ (acc ++ [(⟨c, pos, pos + 3, false⟩ : Chr)]).length ≤ pos + wd ∧ w4.ownsRowF (w.heap.size + 1) 47 4 (.slice ao' (acc ++ [(⟨c, pos, pos + 3, false⟩ : Chr)]).length cap') (acc ++ [(⟨c, pos, pos + 3, false⟩ : Chr)]).length (chCs (acc ++ [(⟨c, pos, pos + 3, false⟩ : Chr)])) ∧ Below w.heap.size w w4) := by
            refine ⟨?_, by rw [HJ.out.2.1, HE.out, List.append_assoc]; rfl, HJ.out.2.2.1, hwp, by rw [e2]; have := HJ.out.2.2.2.1; omega, ?_, ?_⟩
            · rw [hgrow.block w.heap.size (by simp; omega) (fun e => by have := hnb _ e.symm; omega), alloc_old W2 _ w.heap.size hlt2]
              exact HJ.out.1
            · rw [e2, chCs_snoc]
              exact hown'
            · exact (HJ.out.2.2.2.2.2.alloc (by omega) _).grown hgrow (by simp; omega) (fun k hk => by have := hnb k hk; omega)
          have HV : Hid ((Value.slice ao' (L + 1) cap') = .slice ao' (acc ++ [(⟨c, pos, pos + 3, false⟩ : Chr)]).length cap') := by rw [e2]; exact rfl
          clear hown' hgrow e2 e1 hnb hlt2 HJ HE
          go_wp2
          go_roundw
          case rel => exact ⟨pos + wd, b', acc ++ [(⟨c, pos, pos + 3, false⟩ : Chr)], ao', cap', HV.out, HK⟩
          case measure => have e1 : w4.iterPos w.heap.size = pos + wd := by simp only [World.iterPos, HK.out.1]
                          omega
        · rw [decide_eq_false hok] at hp3
          have HE : Hid (chr1 s (pos, c) = ⟨c, pos, pos + 1, true⟩) := by
            show chr1 s (pos, c) = _
            unfold chr1
            rw [if_pos ⟨h3, hp3⟩]
          by_cases hle : pos + 3 ≤ s.size
          · have hne : ¬ s.extract pos (pos + 3) = rpB := fun g => hok ⟨hle, g⟩
            obtain ⟨Y, hY⟩ : ∃ Y, Y = s.extract pos (pos + 3) := ⟨_, rfl⟩
            have hsl : ∀ W : World, (Instr.slice 9 (.string s) (some (.int .i64 (pos : Int))) (some (.int .i64 ((pos : Int) + 3))) none).run Tryd.prog W = .ok (.string Y) W := fun W => by
              rw [show ((pos : Int) + 3) = ((pos + 3 : Nat) : Int) by omega, run_slice_string W 9 s _ _ _ _ Tryd.underlying9 (by omega) (by omega) (by omega)]
              show Result.ok (Value.string (s.extract pos (pos + 3))) W = _
              rw [hY]
            rw [← hY] at hne
            have i1 : ¬ (s.size : Int) < (pos : Int) + 3 := by omega
            have hb3 : ((c : Int) == 65533) = true := by rw [h3]; rfl
            clear hp3 hok hY h3 HXr
            have hnl : (Y.toList == [239, 191, 189]) = false := by
              rw [Bool.eq_false_iff]
              intro g
              apply hne
              apply list_inj
              rw [show rpB.toList = [239, 191, 189] by rw [ByteArray.toList_eq]; rfl]
              simpa using g
            have hnl2 : ¬ Y.toList = [239, 191, 189] := by simpa using hnl
            clear hne
            obtain ⟨hi, hz0, hz1, hz2, hz3⟩ := HI0.out
            have hm1 : L + 1 ≤ maxLen := by unfold maxLen; omega
            have hm2 : (L + 1) * 32 ≤ 140737488355328 := by omega
            have HM3 : Hid (∀ o, w.heap.size + 1 ≤ (W2.alloc o).heap.size) := fun o => by have := (Array.getElem?_eq_some_iff.1 HJ.out.1).1; simp; omega
            go_wp2_with (at_builtin; refine wpList_append_ownF _ rfl _ _ 44 rfl (w.heap.size + 1) 47 i0 z0 4 32 Tryd.underlying44 hi hz0 hz1 hz2 hz3 (by decide) _ L (chCs acc) rfl (HJ.out.2.2.2.2.1.alloc _) ⟨W2.heap.size, 0, none⟩ 1 1 [.int .i32 (c : Int), .int .i64 (pos : Int), .int .i64 ((pos : Int) + 1), .bool true] rfl rfl (new_cells _ _ _ _ _ _) (one4 _ _ _ _) hm1 hm2 (HM3.out _) ?_)
            intro v' w4 hown' hgrow _
            obtain ⟨ao', cap', rfl⟩ : ∃ ao' cap', v' = .slice ao' (L + 1) cap' := by
              rcases hown'.2 with ⟨_, h0⟩ | ⟨g, cap', cur, fz, hv, _⟩
              · omega
              · exact ⟨_, cap', hv⟩
            have hlt2 : w.heap.size < W2.heap.size := (Array.getElem?_eq_some_iff.1 HJ.out.1).1
            have hnb : ∀ k, (Value.slice ao L cap).ownBlock = some k → w.heap.size + 1 ≤ k := fun k hk => (HJ.out.2.2.2.2.1.lt k hk).1
            have e1 : L = acc.length := HL.out
            have e2 : (acc ++ [(⟨c, pos, pos + 1, true⟩ : Chr)]).length = L + 1 := by simp [e1]
            have HK : Hid (w4.heap[w.heap.size]? = some (.stringIter s (pos + wd)) ∧ Z = (acc ++ [(⟨c, pos, pos + 1, true⟩ : Chr)]) ++ (crs s b' (pos + wd)).map (chr1 s) ∧ s.size ≤ pos + wd + b' ∧ pos + wd ≤ s.size ∧ (acc ++ [(⟨c, pos, pos + 1, true⟩ : Chr)]).length ≤ pos + wd ∧ w4.ownsRowF (w.heap.size + 1) 47 4 (.slice ao' (acc ++ [(⟨c, pos, pos + 1, true⟩ : Chr)]).length cap') (acc ++ [(⟨c, pos, pos + 1, true⟩ : Chr)]).length (chCs (acc ++ [(⟨c, pos, pos + 1, true⟩ : Chr)])) ∧ Below w.heap.size w w4) := by
              refine ⟨?_, by rw [HJ.out.2.1, HE.out, List.append_assoc]; rfl, HJ.out.2.2.1, hwp, by rw [e2]; have := HJ.out.2.2.2.1; omega, ?_, ?_⟩
              · rw [hgrow.block w.heap.size (by simp; omega) (fun e => by have := hnb _ e.symm; omega), alloc_old W2 _ w.heap.size hlt2]
                exact HJ.out.1
              · rw [e2, chCs_snoc]
                exact hown'
              · exact (HJ.out.2.2.2.2.2.alloc (by omega) _).grown hgrow (by simp; omega) (fun k hk => by have := hnb k hk; omega)
            have HV : Hid ((Value.slice ao' (L + 1) cap') = .slice ao' (acc ++ [(⟨c, pos, pos + 1, true⟩ : Chr)]).length cap') := by rw [e2]; exact rfl
            clear hown' hgrow e2 e1 hnb hlt2 HJ HE
            go_wp2
            go_roundw
            case rel => exact ⟨pos + wd, b', acc ++ [(⟨c, pos, pos + 1, true⟩ : Chr)], ao', cap', HV.out, HK⟩
            case measure => have e1 : w4.iterPos w.heap.size = pos + wd := by simp only [World.iterPos, HK.out.1]
                            omega
          · have i1 : (s.size : Int) < (pos : Int) + 3 := by omega
            have hb3 : ((c : Int) == 65533) = true := by rw [h3]; rfl
            clear hp3 hok h3 HXr
            obtain ⟨hi, hz0, hz1, hz2, hz3⟩ := HI0.out
            have hm1 : L + 1 ≤ maxLen := by unfold maxLen; omega
            have hm2 : (L + 1) * 32 ≤ 140737488355328 := by omega
            have HM3 : Hid (∀ o, w.heap.size + 1 ≤ (W2.alloc o).heap.size) := fun o => by have := (Array.getElem?_eq_some_iff.1 HJ.out.1).1; simp; omega
            go_wp2_with (at_builtin; refine wpList_append_ownF _ rfl _ _ 44 rfl (w.heap.size + 1) 47 i0 z0 4 32 Tryd.underlying44 hi hz0 hz1 hz2 hz3 (by decide) _ L (chCs acc) rfl (HJ.out.2.2.2.2.1.alloc _) ⟨W2.heap.size, 0, none⟩ 1 1 [.int .i32 (c : Int), .int .i64 (pos : Int), .int .i64 ((pos : Int) + 1), .bool true] rfl rfl (new_cells _ _ _ _ _ _) (one4 _ _ _ _) hm1 hm2 (HM3.out _) ?_)
            intro v' w4 hown' hgrow _
            obtain ⟨ao', cap', rfl⟩ : ∃ ao' cap', v' = .slice ao' (L + 1) cap' := by
              rcases hown'.2 with ⟨_, h0⟩ | ⟨g, cap', cur, fz, hv, _⟩
              · omega
              · exact ⟨_, cap', hv⟩
            have hlt2 : w.heap.size < W2.heap.size := (Array.getElem?_eq_some_iff.1 HJ.out.1).1
            have hnb : ∀ k, (Value.slice ao L cap).ownBlock = some k → w.heap.size + 1 ≤ k := fun k hk => (HJ.out.2.2.2.2.1.lt k hk).1
            have e1 : L = acc.length := HL.out
            have e2 : (acc ++ [(⟨c, pos, pos + 1, true⟩ : Chr)]).length = L + 1 := by simp [e1]
            have HK : Hid (w4.heap[w.heap.size]? = some (.stringIter s (pos + wd)) ∧ Z = (acc ++ [(⟨c, pos, pos + 1, true⟩ : Chr)]) ++ (crs s b' (pos + wd)).map (chr1 s) ∧ s.size ≤ pos + wd + b' ∧ pos + wd ≤ s.size ∧ (acc ++ [(⟨c, pos, pos + 1, true⟩ : Chr)]).length ≤ pos + wd ∧ w4.ownsRowF (w.heap.size + 1) 47 4 (.slice ao' (acc ++ [(⟨c, pos, pos + 1, true⟩ : Chr)]).length cap') (acc ++ [(⟨c, pos, pos + 1, true⟩ : Chr)]).length (chCs (acc ++ [(⟨c, pos, pos + 1, true⟩ : Chr)])) ∧ Below w.heap.size w w4) := by
              refine ⟨?_, by rw [HJ.out.2.1, HE.out, List.append_assoc]; rfl, HJ.out.2.2.1, hwp, by rw [e2]; have := HJ.out.2.2.2.1; omega, ?_, ?_⟩
              · rw [hgrow.block w.heap.size (by simp; omega) (fun e => by have := hnb _ e.symm; omega), alloc_old W2 _ w.heap.size hlt2]
                exact HJ.out.1
              · rw [e2, chCs_snoc]
                exact hown'
              · exact (HJ.out.2.2.2.2.2.alloc (by omega) _).grown hgrow (by simp; omega) (fun k hk => by have := hnb k hk; omega)
            have HV : Hid ((Value.slice ao' (L + 1) cap') = .slice ao' (acc ++ [(⟨c, pos, pos + 1, true⟩ : Chr)]).length cap') := by rw [e2]; exact rfl
            clear hown' hgrow e2 e1 hnb hlt2 HJ HE
            go_wp2
            go_roundw
            case rel => exact ⟨pos + wd, b', acc ++ [(⟨c, pos, pos + 1, true⟩ : Chr)], ao', cap', HV.out, HK⟩
            case measure => have e1 : w4.iterPos w.heap.size = pos + wd := by simp only [World.iterPos, HK.out.1]
                            omega
      · have HE : Hid (chr1 s (pos, c) = ⟨c, pos, pos + wr c, false⟩) := by
          show chr1 s (pos, c) = _
          unfold chr1
          rw [if_neg (fun g => h3 g.1)]
        have i3 : ¬ (c : Int) = 65533 := by omega
        obtain ⟨R, hR⟩ : ∃ R, R = wr c := ⟨_, rfl⟩
        rw [← hR] at hts HE hw4 hw1
        clear HXr h3 hR
        obtain ⟨hi, hz0, hz1, hz2, hz3⟩ := HI0.out
        have hm1 : L + 1 ≤ maxLen := by unfold maxLen; omega
        have hm2 : (L + 1) * 32 ≤ 140737488355328 := by omega
        have HM3 : Hid (∀ o, w.heap.size + 1 ≤ (W2.alloc o).heap.size) := fun o => by have := (Array.getElem?_eq_some_iff.1 HJ.out.1).1; simp; omega
        go_wp2_with (at_builtin; refine wpList_append_ownF _ rfl _ _ 44 rfl (w.heap.size + 1) 47 i0 z0 4 32 Tryd.underlying44 hi hz0 hz1 hz2 hz3 (by decide) _ L (chCs acc) rfl (HJ.out.2.2.2.2.1.alloc _) ⟨W2.heap.size, 0, none⟩ 1 1 [.int .i32 (c : Int), .int .i64 (pos : Int), .int .i64 ((pos : Int) + (R : Int)), .bool false] rfl rfl (new_cells _ _ _ _ _ _) (one4 _ _ _ _) hm1 hm2 (HM3.out _) ?_)
        intro v' w4 hown' hgrow _
        obtain ⟨ao', cap', rfl⟩ : ∃ ao' cap', v' = .slice ao' (L + 1) cap' := by
          rcases hown'.2 with ⟨_, h0⟩ | ⟨g, cap', cur, fz, hv, _⟩
          · omega
          · exact ⟨_, cap', hv⟩
        have hlt2 : w.heap.size < W2.heap.size := (Array.getElem?_eq_some_iff.1 HJ.out.1).1
        have hnb : ∀ k, (Value.slice ao L cap).ownBlock = some k → w.heap.size + 1 ≤ k := fun k hk => (HJ.out.2.2.2.2.1.lt k hk).1
        have e1 : L = acc.length := HL.out
        have e2 : (acc ++ [(⟨c, pos, pos + R, false⟩ : Chr)]).length = L + 1 := by simp [e1]
        have HK : Hid (w4.heap[w.heap.size]? = some (.stringIter s (pos + wd)) ∧ Z = (acc ++ [(⟨c, pos, pos + R, false⟩ : Chr)]) ++ (crs s b' (pos + wd)).map (chr1 s) ∧ s.size ≤ pos + wd + b' ∧ pos + wd ≤ s.size ∧ (acc ++ [(⟨c, pos, pos + R, false⟩ : Chr)]).length ≤ pos + wd ∧ w4.ownsRowF (w.heap.size + 1) 47 4 (.slice ao' (acc ++ [(⟨c, pos, pos + R, false⟩ : Chr)]).length cap') (acc ++ [(⟨c, pos, pos + R, false⟩ : Chr)]).length (chCs (acc ++ [(⟨c, pos, pos + R, false⟩ : Chr)])) ∧ Below w.heap.size w w4) := by
          refine ⟨?_, by rw [HJ.out.2.1, HE.out, List.append_assoc]; rfl, HJ.out.2.2.1, hwp, by rw [e2]; have := HJ.out.2.2.2.1; omega, ?_, ?_⟩
          · rw [hgrow.block w.heap.size (by simp; omega) (fun e => by have := hnb _ e.symm; omega), alloc_old W2 _ w.heap.size hlt2]
            exact HJ.out.1
          · rw [e2, chCs_snoc]
            exact hown'
          · exact (HJ.out.2.2.2.2.2.alloc (by omega) _).grown hgrow (by simp; omega) (fun k hk => by have := hnb k hk; omega)
        have HV : Hid ((Value.slice ao' (L + 1) cap') = .slice ao' (acc ++ [(⟨c, pos, pos + R, false⟩ : Chr)]).length cap') := by rw [e2]; exact rfl
        clear hown' hgrow e2 e1 hnb hlt2 HJ HE
        go_wp2
        go_roundw
        case rel => exact ⟨pos + wd, b', acc ++ [(⟨c, pos, pos + R, false⟩ : Chr)], ao', cap', HV.out, HK⟩
        case measure => have e1 : w4.iterPos w.heap.size = pos + wd := by simp only [World.iterPos, HK.out.1]
                        omega
    · have hnx : ∀ ty, (Instr.next (.pointer (some ⟨w.heap.size, 0, none⟩)) true ty).run Tryd.prog w1 = _ := fun ty => run_next_end_at w1 w.heap.size s pos ty HI.out.1 hp
      have HE : Hid (Z = acc) := by
        show Z = acc
        rw [HI.out.2.1, crs_end hp, List.map_nil, List.append_nil]
      have HF : Hid (w1.ownsRowF (w.heap.size + 1) 47 4 (.slice ao acc.length cap) acc.length (chCs acc) ∧ Below w.heap.size w w1) := ⟨HI.out.2.2.2.2.2.1, HI.out.2.2.2.2.2.2⟩
      clear HI
      go_wp2
      go_ret
      rw [show Z = acc from HE.out]
      exact ⟨_, rfl, ⟨⟨ao, cap, rfl⟩, owns_lower HF.out.1 (Nat.le_succ _)⟩, HF.out.2⟩
end Go.Proofs.YtbijiigobbjlcaaDoor
