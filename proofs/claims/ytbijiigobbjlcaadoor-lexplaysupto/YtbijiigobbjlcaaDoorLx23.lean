/- Quoted: the token that stands for a text. -/
import Derived.Test.YtbijiigobbjlcaaDoorLx22
namespace Go.Proofs.YtbijiigobbjlcaaDoor
open Go.RowKit Go.Lib
set_option linter.unusedSimpArgs false
set_option linter.unusedVariables false
/-- What stands for a character. -/
def quC (c : Nat) : List Nat := if c = 10 then [92, 110] else if c = 34 ∨ c = 92 then [92, c] else [c]
def quo (l : List Nat) : List Nat := l.flatMap quC
def quoR (s : ByteArray) : ByteArray × Int := if stR s < s.size then (⟨#[]⟩, 8) else if 4096 < s.size then (⟨#[]⟩, 11) else (tx ([34] ++ quo (rns s) ++ [34]), 0)
theorem enL_app (a b : List Nat) : enL (a ++ b) = enL a ++ enL b := by simp [enL]
theorem enL_str : Lib.strCells ⟨#[92, 110]⟩ = Lib.byteCells (enL [92, 110]) := rfl
theorem decode_wd (s : ByteArray) (pos : Nat) (h : pos < s.size) : pos + (Utf8.decode s pos).2 ≤ s.size := by
  rw [decode_at]
  rcases decodeN_shape (s.size - pos) (s.get! pos).toNat (s.get! (pos + 1)).toNat (s.get! (pos + 2)).toNat (s.get! (pos + 3)).toNat with ⟨c, e⟩ | ⟨c1, c2, c3, cv, e⟩ | ⟨c1, c2, c3, c4, cv, cs, e⟩ | ⟨c1, c2, c3, c4, c5, cv, cw, e⟩ | e <;> rw [e] <;> dsimp only <;> omega
theorem quo_snoc (l : List Nat) (c : Nat) : quo (l ++ [c]) = quo l ++ quC c := by simp [quo]
theorem quC_len (c : Nat) : (enL (quC c)).length ≤ 8 := by
  have h : ∀ r : Nat, (encodeRune (r : Int)).length ≤ 4 := fun r => by rw [← runeCells_length]; exact (runeCells_le (r : Int)).2
  unfold quC
  split
  · decide
  · have h9 : (encodeRune 92).length ≤ 4 := h 92
    have := h c
    split <;> simp [enL] <;> omega
theorem quo_mid (l : List Nat) (c : Nat) (X : List Nat) : tx ([34] ++ quo (l ++ c :: X) ++ [34]) = tx ([34] ++ quo ((l ++ [c]) ++ X) ++ [34]) := by rw [List.append_assoc l [c] X]; rfl
set_option maxRecDepth 100000 in
set_option maxHeartbeats 400000 in
theorem quoted_any (s : ByteArray) (hs : s.size ≤ 1000000000000) (w : World) :
    Calls Tryd.prog 14 #[.string s] w fun e w' => e = .returned (.tuple #[.string (quoR s).1, .int .i64 (quoR s).2]) ∧ Hid (Below w.heap.size w w') := by
  have HS : Hid (∀ w1, Calls Tryd.prog 22 #[.string s] w1 fun e w' => e = .returned (.int .i64 (stR s : Nat)) ∧ Only (fun _ => False) w1 w') := fun w1 => stray_any s hs w1
  unfold quoR
  obtain ⟨z, hz⟩ : ∃ z, z = stR s := ⟨_, rfl⟩
  rw [← hz] at HS ⊢
  clear hz
  by_cases hb : z < s.size
  · rw [if_pos hb]
    have i2 : (z : Int) < (s.size : Int) := by omega
    go_enter Tryd.func14, Tryd.ntmps14
    go_wp2_with fail
    refine (show Calls Tryd.prog 22 _ _ _ from HS.out _).mono ?_
    rintro e w1 ⟨rfl, o1⟩
    have O1 : Hid (Below w.heap.size w w1) := only_below o1
    clear HS o1
    go_wp2
    go_ret2
    exact ⟨rfl, O1.out⟩
  · rw [if_neg hb]
    have i2 : ¬ (z : Int) < (s.size : Int) := by omega
    by_cases hl : 4096 < s.size
    · rw [if_pos hl]
      have i1 : (4096 : Int) < (s.size : Int) := by omega
      go_enter Tryd.func14, Tryd.ntmps14
      go_wp2_with fail
      refine (show Calls Tryd.prog 22 _ _ _ from HS.out _).mono ?_
      rintro e w1 ⟨rfl, o1⟩
      have O1 : Hid (Below w.heap.size w w1) := only_below o1
      clear HS o1
      go_wp2
      go_ret2
      exact ⟨rfl, O1.out⟩
    · rw [if_neg hl]
      have i1 : ¬ (4096 : Int) < (s.size : Int) := by omega
      have HX : Hid (∀ (B b : Nat) (out : List Nat) (r : Nat) (W : World), Vr r → Bu B b (Lib.byteCells (enL out)) W → (enL out).length ≤ 100000 → B ≤ W.heap.size → Calls Tryd.prog 30 #[.pointer (some ⟨b, 0, none⟩), .int .i32 (r : Int)] W fun e w' => ∃ q, e = .returned (.tuple #[q, .nilIface]) ∧ Bu B b (Lib.byteCells (enL (out ++ [r]))) w' ∧ Kept B b W w') := fun B b out r W hr hu hlen hB => by
        rw [enL_cells]
        exact writeRune_any B b _ r hr W hu (by rw [Lib.byteCells_length]; omega) hB
      have v34 : Hid (Vr 34) := .inl (by decide)
      have v92 : Hid (Vr 92) := .inl (by decide)
      obtain ⟨Z, hZ⟩ : ∃ Z, Z = tx ([34] ++ quo (rns s) ++ [34]) := ⟨_, rfl⟩
      have HZ : Hid (Z = tx ([34] ++ quo ((crs s s.size 0).map (·.2)) ++ [34])) := hZ
      rw [← hZ]
      clear hZ
      go_enter Tryd.func14, Tryd.ntmps14
      go_wp2_with fail
      refine (show Calls Tryd.prog 22 _ _ _ from HS.out _).mono ?_
      rintro e w1 ⟨rfl, o1⟩
      have O1 : Hid (Below w.heap.size w w1) := only_below o1
      clear HS o1
      obtain ⟨N, hN⟩ : ∃ N, N = w1.heap.size := ⟨_, rfl⟩
      have B1 : Hid (Bu w.heap.size N (Lib.byteCells (enL [])) (w1.alloc (.cells #[.pointer none, .slice none 0 0] 60)) ∧ Below w.heap.size w (w1.alloc (.cells #[.pointer none, .slice none 0 0] 60))) :=
        ⟨bu_new (by rw [hN]; exact O1.out.size) (alloc_at _ _ _ hN), O1.out.alloc O1.out.size _⟩
      go_wp2_with fail
      rw [← hN]
      clear hN
      refine (show Calls Tryd.prog 30 _ _ _ from HX.out w.heap.size N [] 34 _ v34.out B1.out.1 (by decide) B1.out.2.size).mono ?_
      rintro e w2 ⟨q, rfl, g1, g2, g3⟩
      have B2 : Hid (Bu w.heap.size N (Lib.byteCells (enL ([] ++ [34]))) w2 ∧ Below w.heap.size w w2) := ⟨g1, B1.out.2.trans g2⟩
      clear B1 O1 g1 g2 g3
      go_wp2
      obtain ⟨K, hK⟩ : ∃ K, K = w2.heap.size := ⟨_, rfl⟩
      have HNK : Hid (K ≠ N) := by
        have : N < w2.heap.size := by rcases B2.out.1 with h | h <;> exact h.lt
        show K ≠ N
        omega
      have B3 : Hid (Bu w.heap.size N (Lib.byteCells (enL ([34] ++ quo []))) (w2.iter s 0) ∧ (w2.iter s 0).heap[K]? = some (.stringIter s 0) ∧ Below w.heap.size w (w2.iter s 0)) := ⟨B2.out.1.alloc _, alloc_at _ _ _ hK, B2.out.2.alloc B2.out.2.size _⟩
      have HKw : Hid (w.heap.size ≤ K) := by show w.heap.size ≤ K; rw [hK]; exact B2.out.2.size
      rw [← hK]
      clear hK B2
      go_loopw [] (fun wr => ∃ (pos b : Nat) (l : List Nat), Hid (Bu w.heap.size N (Lib.byteCells (enL ([34] ++ quo l))) wr ∧ wr.heap[K]? = some (.stringIter s pos) ∧ Below w.heap.size w wr ∧ Z = tx ([34] ++ quo (l ++ (crs s b pos).map (·.2)) ++ [34]) ∧ s.size ≤ pos + b ∧ (enL ([34] ++ quo l)).length ≤ 1 + 8 * pos ∧ pos ≤ s.size)) (fun wr => s.size - wr.iterPos K)
      case atStart => exact ⟨0, s.size, [], B3.out.1, B3.out.2.1, B3.out.2.2, HZ.out, by omega, by decide, by omega⟩
      case round =>
        obtain ⟨pos, b, l, HI⟩ := hrel
        clear HZ B3
        by_cases hp : pos < s.size
        · have hnx : ∀ ty, (Instr.next (.pointer (some ⟨K, 0, none⟩)) true ty).run Tryd.prog wr = _ := fun ty => run_next_any_at wr K s pos ty HI.out.2.1 hp
          have hwd := wid_pos s pos hp
          have hwp := decode_wd s pos hp
          obtain ⟨b', hb', hcr⟩ := crs_go hp HI.out.2.2.2.2.1
          have hvr := decode_vr s pos
          have hdl := decode_le s pos
          obtain ⟨c, hc⟩ : ∃ c, c = (Utf8.decode s pos).1 := ⟨_, rfl⟩
          obtain ⟨wd, hw⟩ : ∃ c, c = (Utf8.decode s pos).2 := ⟨_, rfl⟩
          rw [← hc, ← hw] at hnx hcr
          rw [← hc] at hvr hdl
          rw [← hw] at hwd hwp
          have HV : Hid (Vr c) := hvr
          have hmp : wr.iterPos K = pos := by simp only [World.iterPos, HI.out.2.1]
          have HJ : Hid (Bu w.heap.size N (Lib.byteCells (enL ([34] ++ quo l))) (wr.iterAt K s (pos + wd)) ∧ (wr.iterAt K s (pos + wd)).heap[K]? = some (.stringIter s (pos + wd)) ∧ Below w.heap.size w (wr.iterAt K s (pos + wd)) ∧ Z = tx ([34] ++ quo (l ++ (c :: (crs s b' (pos + wd)).map (·.2))) ++ [34]) ∧ s.size ≤ pos + wd + b' ∧ (enL ([34] ++ quo l)).length ≤ 1 + 8 * pos) := by
            obtain ⟨j1, j2, j3, j4, j5, j6, j7⟩ := HI.out
            exact ⟨j1.iterAt j2 _, iterAt_heap _ _ _ _ _ j2, below_iterAt j3 HKw.out _ _, by rw [j4, hcr]; rfl, by omega, j6⟩
          have HT : Hid ((enL ([34] ++ quo (l ++ [c]))).length ≤ 1 + 8 * (pos + wd)) := by
            have j6 := HI.out.2.2.2.2.2.1
            have := quC_len c
            show _ ≤ _
            rw [quo_snoc, ← List.append_assoc, enL_app, List.length_append]
            omega
          have HT2 : Hid ((enL ([34] ++ quo l)).length ≤ 50000) := by
            have j6 := HI.out.2.2.2.2.2.1
            have j7 := HI.out.2.2.2.2.2.2
            show _ ≤ _
            omega
          clear HI hc hw hcr hb' hvr
          obtain ⟨W2, hW2⟩ : ∃ W2, W2 = wr.iterAt K s (pos + wd) := ⟨_, rfl⟩
          rw [← hW2] at hnx HJ
          clear hW2
          by_cases h10 : c = 10
          · have HQ : Hid (Lib.byteCells (enL ([34] ++ quo (l ++ [c]))) = Lib.byteCells (enL ([34] ++ quo l)) ++ Lib.strCells ⟨#[92, 110]⟩) := by
              show _ = _
              rw [quo_snoc, ← List.append_assoc, enL_app, Lib.byteCells_append, enL_str, h10]
              rfl
            have HR : Hid (Calls Tryd.prog 31 #[.pointer (some ⟨N, 0, none⟩), .string ⟨#[92, 110]⟩] W2 fun e w' => ∃ q, e = .returned (.tuple #[q, .nilIface]) ∧ Bu w.heap.size N (Lib.byteCells (enL ([34] ++ quo l)) ++ Lib.strCells ⟨#[92, 110]⟩) w' ∧ Kept w.heap.size N W2 w') := writeString_any w.heap.size N _ ⟨#[92, 110]⟩ W2 HJ.out.1 (by rw [Lib.byteCells_length]; have := HT2.out; show _ + 2 ≤ _; omega) HJ.out.2.2.1.size
            subst h10
            go_wp2_with fail
            refine (show Calls Tryd.prog 31 _ _ _ from HR.out).mono ?_
            rintro e W9 ⟨q9, rfl, g1, g2, g3⟩
            clear HR
            have HK : Hid (Bu w.heap.size N (Lib.byteCells (enL ([34] ++ quo (l ++ [10])))) W9 ∧ W9.heap[K]? = some (.stringIter s (pos + wd)) ∧ Below w.heap.size w W9 ∧ Z = tx ([34] ++ quo ((l ++ [10]) ++ (crs s b' (pos + wd)).map (·.2)) ++ [34]) ∧ s.size ≤ pos + wd + b' ∧ (enL ([34] ++ quo (l ++ [10]))).length ≤ 1 + 8 * (pos + wd) ∧ pos + wd ≤ s.size) :=
              ⟨by rw [HQ.out]; exact g1, g3.iter HJ.out.2.1 HNK.out, HJ.out.2.2.1.trans g2, HJ.out.2.2.2.1.trans (quo_mid l 10 _), HJ.out.2.2.2.2.1, HT.out, hwp⟩
            clear g1 g2 g3 HQ
            clear HJ
            go_wp2
            go_roundw
            case rel => exact ⟨pos + wd, b', l ++ [10], HK⟩
            case measure => have e1 : W9.iterPos K = pos + wd := by simp only [World.iterPos, HK.out.2.1]
                            omega
          · have i10 : ¬ (c : Int) = 10 := by omega
            by_cases h34 : c = 34 ∨ c = 92
            · have HQ : Hid (enL ([34] ++ quo (l ++ [c])) = enL ([34] ++ quo l ++ [92] ++ [c])) := by
                show _ = _
                rw [quo_snoc, quC, if_neg h10, if_pos h34]
                simp [List.append_assoc]
              have HC1 : Hid (Calls Tryd.prog 30 _ _ _) := HX.out w.heap.size N ([34] ++ quo l) 92 W2 v92.out HJ.out.1 (by have := HT2.out; show _ ≤ _; omega) HJ.out.2.2.1.size
              rcases h34 with h34 | h92
              · subst h34
                clear h10
                go_wp2_with fail
                refine (show Calls Tryd.prog 30 _ _ _ from HC1.out).mono ?_
                rintro e W8 ⟨q8, rfl, k1, k2, k3⟩
                have HB8 : Hid (Below w.heap.size w W8 ∧ W8.heap[K]? = some (.stringIter s (pos + wd))) := ⟨HJ.out.2.2.1.trans k2, k3.iter HJ.out.2.1 HNK.out⟩
                have HC2 : Hid (Calls Tryd.prog 30 _ _ _) := HX.out w.heap.size N ([34] ++ quo l ++ [92]) 34 W8 HV.out k1 (by have := HT2.out; have := enL_len ([34] ++ quo l) 92; show _ ≤ _; omega) HB8.out.1.size
                clear HC1 k1 k2 k3
                go_wp2_with fail
                refine (show Calls Tryd.prog 30 _ _ _ from HC2.out).mono ?_
                rintro e W9 ⟨q9, rfl, g1, g2, g3⟩
                have HK : Hid (Bu w.heap.size N (Lib.byteCells (enL ([34] ++ quo (l ++ [34])))) W9 ∧ W9.heap[K]? = some (.stringIter s (pos + wd)) ∧ Below w.heap.size w W9 ∧ Z = tx ([34] ++ quo ((l ++ [34]) ++ (crs s b' (pos + wd)).map (·.2)) ++ [34]) ∧ s.size ≤ pos + wd + b' ∧ (enL ([34] ++ quo (l ++ [34]))).length ≤ 1 + 8 * (pos + wd) ∧ pos + wd ≤ s.size) :=
                  ⟨by rw [HQ.out]; exact g1, g3.iter HB8.out.2 HNK.out, HB8.out.1.trans g2, HJ.out.2.2.2.1.trans (quo_mid l 34 _), HJ.out.2.2.2.2.1, HT.out, hwp⟩
                clear g1 g2 g3 HQ HC2 HB8
                clear HJ
                go_wp2
                go_roundw
                case rel => exact ⟨pos + wd, b', l ++ [34], HK⟩
                case measure => have e1 : W9.iterPos K = pos + wd := by simp only [World.iterPos, HK.out.2.1]
                                omega
              · subst h92
                clear h10
                go_wp2_with fail
                refine (show Calls Tryd.prog 30 _ _ _ from HC1.out).mono ?_
                rintro e W8 ⟨q8, rfl, k1, k2, k3⟩
                have HB8 : Hid (Below w.heap.size w W8 ∧ W8.heap[K]? = some (.stringIter s (pos + wd))) := ⟨HJ.out.2.2.1.trans k2, k3.iter HJ.out.2.1 HNK.out⟩
                have HC2 : Hid (Calls Tryd.prog 30 _ _ _) := HX.out w.heap.size N ([34] ++ quo l ++ [92]) 92 W8 HV.out k1 (by have := HT2.out; have := enL_len ([34] ++ quo l) 92; show _ ≤ _; omega) HB8.out.1.size
                clear HC1 k1 k2 k3
                go_wp2_with fail
                refine (show Calls Tryd.prog 30 _ _ _ from HC2.out).mono ?_
                rintro e W9 ⟨q9, rfl, g1, g2, g3⟩
                have HK : Hid (Bu w.heap.size N (Lib.byteCells (enL ([34] ++ quo (l ++ [92])))) W9 ∧ W9.heap[K]? = some (.stringIter s (pos + wd)) ∧ Below w.heap.size w W9 ∧ Z = tx ([34] ++ quo ((l ++ [92]) ++ (crs s b' (pos + wd)).map (·.2)) ++ [34]) ∧ s.size ≤ pos + wd + b' ∧ (enL ([34] ++ quo (l ++ [92]))).length ≤ 1 + 8 * (pos + wd) ∧ pos + wd ≤ s.size) :=
                  ⟨by rw [HQ.out]; exact g1, g3.iter HB8.out.2 HNK.out, HB8.out.1.trans g2, HJ.out.2.2.2.1.trans (quo_mid l 92 _), HJ.out.2.2.2.2.1, HT.out, hwp⟩
                clear g1 g2 g3 HQ HC2 HB8
                clear HJ
                go_wp2
                go_roundw
                case rel => exact ⟨pos + wd, b', l ++ [92], HK⟩
                case measure => have e1 : W9.iterPos K = pos + wd := by simp only [World.iterPos, HK.out.2.1]
                                omega
            · have h34' : ¬ (c : Int) = 34 := by omega
              have h92' : ¬ (c : Int) = 92 := by omega
              have HQ : Hid (enL ([34] ++ quo (l ++ [c])) = enL ([34] ++ quo l ++ [c])) := by
                show _ = _
                rw [quo_snoc, quC, if_neg h10, if_neg h34]
                simp [List.append_assoc]
              clear h34 h10
              go_wp2_with fail
              refine (show Calls Tryd.prog 30 _ _ _ from HX.out w.heap.size N ([34] ++ quo l) c _ HV.out HJ.out.1 (by have := HT2.out; show _ ≤ _; omega) HJ.out.2.2.1.size).mono ?_
              rintro e W9 ⟨q9, rfl, g1, g2, g3⟩
              have HK : Hid (Bu w.heap.size N (Lib.byteCells (enL ([34] ++ quo (l ++ [c])))) W9 ∧ W9.heap[K]? = some (.stringIter s (pos + wd)) ∧ Below w.heap.size w W9 ∧ Z = tx ([34] ++ quo ((l ++ [c]) ++ (crs s b' (pos + wd)).map (·.2)) ++ [34]) ∧ s.size ≤ pos + wd + b' ∧ (enL ([34] ++ quo (l ++ [c]))).length ≤ 1 + 8 * (pos + wd) ∧ pos + wd ≤ s.size) :=
                ⟨by rw [HQ.out]; exact g1, g3.iter HJ.out.2.1 HNK.out, HJ.out.2.2.1.trans g2, HJ.out.2.2.2.1.trans (quo_mid l c _), HJ.out.2.2.2.2.1, HT.out, hwp⟩
              clear g1 g2 g3 HQ
              clear HJ
              go_wp2
              go_roundw
              case rel => exact ⟨pos + wd, b', l ++ [c], HK⟩
              case measure => have e1 : W9.iterPos K = pos + wd := by simp only [World.iterPos, HK.out.2.1]
                              omega
        · have hnx : ∀ ty, (Instr.next (.pointer (some ⟨K, 0, none⟩)) true ty).run Tryd.prog wr = _ := fun ty => run_next_end_at wr K s pos ty HI.out.2.1 hp
          have HE : Hid (Z = tx ([34] ++ quo l ++ [34])) := by
            show Z = _
            rw [HI.out.2.2.2.1, crs_end hp, List.map_nil, List.append_nil]
          have HT2 : Hid ((enL ([34] ++ quo l)).length ≤ 50000) := by
            have j6 := HI.out.2.2.2.2.2.1
            have j7 := HI.out.2.2.2.2.2.2
            show _ ≤ _
            omega
          go_wp2_with fail
          refine (show Calls Tryd.prog 30 _ _ _ from HX.out w.heap.size N ([34] ++ quo l) 34 _ v34.out HI.out.1 (by have := HT2.out; show _ ≤ _; omega) HI.out.2.2.1.size).mono ?_
          rintro e W8 ⟨q9, rfl, g1, g2, g3⟩
          have HB : Hid (Below w.heap.size w W8) := HI.out.2.2.1.trans g2
          have HSt : Hid (Calls Tryd.prog 32 #[.pointer (some ⟨N, 0, none⟩)] W8 fun e w' => e = .returned (.string (tx ([34] ++ quo l ++ [34]))) ∧ (IsBuilderF 60 5 w.heap.size N (Lib.byteCells (enL ([34] ++ quo l ++ [34]))) w' ∧ Below w.heap.size W8 w' ∧ OthersKept 5 (some N) W8 w')) := Tryd.Builder_String_any_k w.heap.size N (enL ([34] ++ quo l ++ [34])) W8 g1 HB.out.size
          rw [← show Z = _ from HE.out] at HSt
          clear g1 g2 g3 HI
          go_wp2_with fail
          refine (show Calls Tryd.prog 32 _ _ _ from HSt.out).mono ?_
          rintro e W9 ⟨rfl, g1, g2, g3⟩
          have HB2 : Hid (Below w.heap.size w W9) := HB.out.trans g2
          clear HSt g1 g2 g3
          go_wp2
          go_ret2
          exact ⟨rfl, HB2.out⟩
end Go.Proofs.YtbijiigobbjlcaaDoor
