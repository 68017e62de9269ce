/- Quoted: the token that stands for a text. Where tokens stand: the pure facts of LexPlaces. A call of a function within a region that draws. LexPlaces: the walk. Texts as rows of characters: what is decoded, found and skipped. -/
import Derived.Test.YtmpfbjmaiddigaaGreatDoorGaj
import Derived.Test.YtmpfbjmaiddigaaGreatDoorGad
import Derived.Lib.RuneCountTail
import Derived.Test.YtmpfbjmaiddigaaGreatDoorGaa
import Derived.Deep.RegionHeld3
import Derived.BigQuiet
namespace Go.Proofs.YtmpfbjmaiddigaaGreatDoor
open Go.RowKit Go.Lib
set_option linter.unusedSimpArgs false
set_option linter.unusedVariables false
/-- What stands for a character. -/
def quC (c : Nat) : List Nat := if c = 10 then [92, 110] else if c = 34 ∨ c = 92 then [92, c] else [c]
def quo (l : List Nat) : List Nat := l.flatMap quC
def quoR (s : ByteArray) : ByteArray × Int := if stR s < s.size then (⟨#[]⟩, 8) else if 4096 < s.size then (⟨#[]⟩, 11) else (tx ([34] ++ quo (rns s) ++ [34]), 0)
theorem enL_app (a b : List Nat) : enL (a ++ b) = enL a ++ enL b := by simp [enL]
theorem enL_str : Lib.strCells ⟨#[92, 110]⟩ = Lib.byteCells (enL [92, 110]) := rfl
theorem decode_wd (s : ByteArray) (pos : Nat) (h : pos < s.size) : pos + (Utf8.decode s pos).2 ≤ s.size := by
  rw [decode_at]
  rcases decodeN_shape (s.size - pos) (s.get! pos).toNat (s.get! (pos + 1)).toNat (s.get! (pos + 2)).toNat (s.get! (pos + 3)).toNat with ⟨c, e⟩ | ⟨c1, c2, c3, cv, e⟩ | ⟨c1, c2, c3, c4, cv, cs, e⟩ | ⟨c1, c2, c3, c4, c5, cv, cw, e⟩ | e <;> rw [e] <;> dsimp only <;> omega
theorem quo_snoc (l : List Nat) (c : Nat) : quo (l ++ [c]) = quo l ++ quC c := by simp [quo]
theorem quC_len (c : Nat) : (enL (quC c)).length ≤ 8 := by
  have h : ∀ r : Nat, (encodeRune (r : Int)).length ≤ 4 := fun r => by rw [← runeCells_length]; exact (runeCells_le (r : Int)).2
  unfold quC
  split
  · decide
  · have h9 : (encodeRune 92).length ≤ 4 := h 92
    have := h c
    split <;> simp [enL] <;> omega
theorem quo_mid (l : List Nat) (c : Nat) (X : List Nat) : tx ([34] ++ quo (l ++ c :: X) ++ [34]) = tx ([34] ++ quo ((l ++ [c]) ++ X) ++ [34]) := by rw [List.append_assoc l [c] X]; rfl
set_option maxRecDepth 100000 in
set_option maxHeartbeats 400000 in
theorem quoted_any (s : ByteArray) (hs : s.size ≤ 1000000000000) (w : World) :
    Calls Tryz.prog 72 #[.string s] w fun e w' => e = .returned (.tuple #[.string (quoR s).1, .int .i64 (quoR s).2]) ∧ Hid (Below w.heap.size w w') := by
  have HS : Hid (∀ w1, Calls Tryz.prog 57 #[.string s] w1 fun e w' => e = .returned (.int .i64 (stR s : Nat)) ∧ Only (fun _ => False) w1 w') := fun w1 => stray_any s hs w1
  unfold quoR
  obtain ⟨z, hz⟩ : ∃ z, z = stR s := ⟨_, rfl⟩
  rw [← hz] at HS ⊢
  clear hz
  by_cases hb : z < s.size
  · rw [if_pos hb]
    have i2 : (z : Int) < (s.size : Int) := by omega
    go_enter Tryz.func72, Tryz.ntmps72
    go_wp2_with fail
    refine (show Calls Tryz.prog 57 _ _ _ from HS.out _).mono ?_
    rintro e w1 ⟨rfl, o1⟩
    have O1 : Hid (Below w.heap.size w w1) := only_below o1
    clear HS o1
    go_wp2
    go_ret2
    exact ⟨rfl, O1.out⟩
  · rw [if_neg hb]
    have i2 : ¬ (z : Int) < (s.size : Int) := by omega
    by_cases hl : 4096 < s.size
    · rw [if_pos hl]
      have i1 : (4096 : Int) < (s.size : Int) := by omega
      go_enter Tryz.func72, Tryz.ntmps72
      go_wp2_with fail
      refine (show Calls Tryz.prog 57 _ _ _ from HS.out _).mono ?_
      rintro e w1 ⟨rfl, o1⟩
      have O1 : Hid (Below w.heap.size w w1) := only_below o1
      clear HS o1
      go_wp2
      go_ret2
      exact ⟨rfl, O1.out⟩
    · rw [if_neg hl]
      have i1 : ¬ (4096 : Int) < (s.size : Int) := by omega
      have HX : Hid (∀ (B b : Nat) (out : List Nat) (r : Nat) (W : World), Vr r → Bu B b (Lib.byteCells (enL out)) W → (enL out).length ≤ 100000 → B ≤ W.heap.size → Calls Tryz.prog 88 #[.pointer (some ⟨b, 0, none⟩), .int .i32 (r : Int)] W fun e w' => ∃ q, e = .returned (.tuple #[q, .nilIface]) ∧ Bu B b (Lib.byteCells (enL (out ++ [r]))) w' ∧ Kept B b W w') := fun B b out r W hr hu hlen hB => by
        rw [enL_cells]
        exact writeRune_any B b _ r hr W hu (by rw [Lib.byteCells_length]; omega) hB
      have v34 : Hid (Vr 34) := .inl (by decide)
      have v92 : Hid (Vr 92) := .inl (by decide)
      obtain ⟨Z, hZ⟩ : ∃ Z, Z = tx ([34] ++ quo (rns s) ++ [34]) := ⟨_, rfl⟩
      have HZ : Hid (Z = tx ([34] ++ quo ((crs s s.size 0).map (·.2)) ++ [34])) := hZ
      rw [← hZ]
      clear hZ
      go_enter Tryz.func72, Tryz.ntmps72
      go_wp2_with fail
      refine (show Calls Tryz.prog 57 _ _ _ from HS.out _).mono ?_
      rintro e w1 ⟨rfl, o1⟩
      have O1 : Hid (Below w.heap.size w w1) := only_below o1
      clear HS o1
      obtain ⟨N, hN⟩ : ∃ N, N = w1.heap.size := ⟨_, rfl⟩
      have B1 : Hid (Bu w.heap.size N (Lib.byteCells (enL [])) (w1.alloc (.cells #[.pointer none, .slice none 0 0] 60)) ∧ Below w.heap.size w (w1.alloc (.cells #[.pointer none, .slice none 0 0] 60))) :=
        ⟨bu_new (by rw [hN]; exact O1.out.size) (alloc_at _ _ _ hN), O1.out.alloc O1.out.size _⟩
      go_wp2_with fail
      rw [← hN]
      clear hN
      refine (show Calls Tryz.prog 88 _ _ _ from HX.out w.heap.size N [] 34 _ v34.out B1.out.1 (by decide) B1.out.2.size).mono ?_
      rintro e w2 ⟨q, rfl, g1, g2, g3⟩
      have B2 : Hid (Bu w.heap.size N (Lib.byteCells (enL ([] ++ [34]))) w2 ∧ Below w.heap.size w w2) := ⟨g1, B1.out.2.trans g2⟩
      clear B1 O1 g1 g2 g3
      go_wp2
      obtain ⟨K, hK⟩ : ∃ K, K = w2.heap.size := ⟨_, rfl⟩
      have HNK : Hid (K ≠ N) := by
        have : N < w2.heap.size := by rcases B2.out.1 with h | h <;> exact h.lt
        show K ≠ N
        omega
      have B3 : Hid (Bu w.heap.size N (Lib.byteCells (enL ([34] ++ quo []))) (w2.iter s 0) ∧ (w2.iter s 0).heap[K]? = some (.stringIter s 0) ∧ Below w.heap.size w (w2.iter s 0)) := ⟨B2.out.1.alloc _, alloc_at _ _ _ hK, B2.out.2.alloc B2.out.2.size _⟩
      have HKw : Hid (w.heap.size ≤ K) := by show w.heap.size ≤ K; rw [hK]; exact B2.out.2.size
      rw [← hK]
      clear hK B2
      go_loopw [] (fun wr => ∃ (pos b : Nat) (l : List Nat), Hid (Bu w.heap.size N (Lib.byteCells (enL ([34] ++ quo l))) wr ∧ wr.heap[K]? = some (.stringIter s pos) ∧ Below w.heap.size w wr ∧ Z = tx ([34] ++ quo (l ++ (crs s b pos).map (·.2)) ++ [34]) ∧ s.size ≤ pos + b ∧ (enL ([34] ++ quo l)).length ≤ 1 + 8 * pos ∧ pos ≤ s.size)) (fun wr => s.size - wr.iterPos K)
      case atStart => exact ⟨0, s.size, [], B3.out.1, B3.out.2.1, B3.out.2.2, HZ.out, by omega, by decide, by omega⟩
      case round =>
        obtain ⟨pos, b, l, HI⟩ := hrel
        clear HZ B3
        by_cases hp : pos < s.size
        · have hnx : ∀ ty, (Instr.next (.pointer (some ⟨K, 0, none⟩)) true ty).run Tryz.prog wr = _ := fun ty => run_next_any_at wr K s pos ty HI.out.2.1 hp
          have hwd := wid_pos s pos hp
          have hwp := decode_wd s pos hp
          obtain ⟨b', hb', hcr⟩ := crs_go hp HI.out.2.2.2.2.1
          have hvr := decode_vr s pos
          have hdl := decode_le s pos
          obtain ⟨c, hc⟩ : ∃ c, c = (Utf8.decode s pos).1 := ⟨_, rfl⟩
          obtain ⟨wd, hw⟩ : ∃ c, c = (Utf8.decode s pos).2 := ⟨_, rfl⟩
          rw [← hc, ← hw] at hnx hcr
          rw [← hc] at hvr hdl
          rw [← hw] at hwd hwp
          have HV : Hid (Vr c) := hvr
          have hmp : wr.iterPos K = pos := by simp only [World.iterPos, HI.out.2.1]
          have HJ : Hid (Bu w.heap.size N (Lib.byteCells (enL ([34] ++ quo l))) (wr.iterAt K s (pos + wd)) ∧ (wr.iterAt K s (pos + wd)).heap[K]? = some (.stringIter s (pos + wd)) ∧ Below w.heap.size w (wr.iterAt K s (pos + wd)) ∧ Z = tx ([34] ++ quo (l ++ (c :: (crs s b' (pos + wd)).map (·.2))) ++ [34]) ∧ s.size ≤ pos + wd + b' ∧ (enL ([34] ++ quo l)).length ≤ 1 + 8 * pos) := by
            obtain ⟨j1, j2, j3, j4, j5, j6, j7⟩ := HI.out
            exact ⟨j1.iterAt j2 _, iterAt_heap _ _ _ _ _ j2, below_iterAt j3 HKw.out _ _, by rw [j4, hcr]; rfl, by omega, j6⟩
          have HT : Hid ((enL ([34] ++ quo (l ++ [c]))).length ≤ 1 + 8 * (pos + wd)) := by
            have j6 := HI.out.2.2.2.2.2.1
            have := quC_len c
            show _ ≤ _
            rw [quo_snoc, ← List.append_assoc, enL_app, List.length_append]
            omega
          have HT2 : Hid ((enL ([34] ++ quo l)).length ≤ 50000) := by
            have j6 := HI.out.2.2.2.2.2.1
            have j7 := HI.out.2.2.2.2.2.2
            show _ ≤ _
            omega
          clear HI hc hw hcr hb' hvr
          obtain ⟨W2, hW2⟩ : ∃ W2, W2 = wr.iterAt K s (pos + wd) := ⟨_, rfl⟩
          rw [← hW2] at hnx HJ
          clear hW2
          by_cases h10 : c = 10
          · have HQ : Hid (Lib.byteCells (enL ([34] ++ quo (l ++ [c]))) = Lib.byteCells (enL ([34] ++ quo l)) ++ Lib.strCells ⟨#[92, 110]⟩) := by
              show _ = _
              rw [quo_snoc, ← List.append_assoc, enL_app, Lib.byteCells_append, enL_str, h10]
              rfl
            have HR : Hid (Calls Tryz.prog 56 #[.pointer (some ⟨N, 0, none⟩), .string ⟨#[92, 110]⟩] W2 fun e w' => ∃ q, e = .returned (.tuple #[q, .nilIface]) ∧ Bu w.heap.size N (Lib.byteCells (enL ([34] ++ quo l)) ++ Lib.strCells ⟨#[92, 110]⟩) w' ∧ Kept w.heap.size N W2 w') := writeString_any w.heap.size N _ ⟨#[92, 110]⟩ W2 HJ.out.1 (by rw [Lib.byteCells_length]; have := HT2.out; show _ + 2 ≤ _; omega) HJ.out.2.2.1.size
            subst h10
            go_wp2_with fail
            refine (show Calls Tryz.prog 56 _ _ _ from HR.out).mono ?_
            rintro e W9 ⟨q9, rfl, g1, g2, g3⟩
            clear HR
            have HK : Hid (Bu w.heap.size N (Lib.byteCells (enL ([34] ++ quo (l ++ [10])))) W9 ∧ W9.heap[K]? = some (.stringIter s (pos + wd)) ∧ Below w.heap.size w W9 ∧ Z = tx ([34] ++ quo ((l ++ [10]) ++ (crs s b' (pos + wd)).map (·.2)) ++ [34]) ∧ s.size ≤ pos + wd + b' ∧ (enL ([34] ++ quo (l ++ [10]))).length ≤ 1 + 8 * (pos + wd) ∧ pos + wd ≤ s.size) :=
              ⟨by rw [HQ.out]; exact g1, g3.iter HJ.out.2.1 HNK.out, HJ.out.2.2.1.trans g2, HJ.out.2.2.2.1.trans (quo_mid l 10 _), HJ.out.2.2.2.2.1, HT.out, hwp⟩
            clear g1 g2 g3 HQ
            clear HJ
            go_wp2
            go_roundw
            case rel => exact ⟨pos + wd, b', l ++ [10], HK⟩
            case measure => have e1 : W9.iterPos K = pos + wd := by simp only [World.iterPos, HK.out.2.1]
                            omega
          · have i10 : ¬ (c : Int) = 10 := by omega
            by_cases h34 : c = 34 ∨ c = 92
            · have HQ : Hid (enL ([34] ++ quo (l ++ [c])) = enL ([34] ++ quo l ++ [92] ++ [c])) := by
                show _ = _
                rw [quo_snoc, quC, if_neg h10, if_pos h34]
                simp [List.append_assoc]
              have HC1 : Hid (Calls Tryz.prog 88 _ _ _) := HX.out w.heap.size N ([34] ++ quo l) 92 W2 v92.out HJ.out.1 (by have := HT2.out; show _ ≤ _; omega) HJ.out.2.2.1.size
              rcases h34 with h34 | h92
              · subst h34
                clear h10
                go_wp2_with fail
                refine (show Calls Tryz.prog 88 _ _ _ from HC1.out).mono ?_
                rintro e W8 ⟨q8, rfl, k1, k2, k3⟩
                have HB8 : Hid (Below w.heap.size w W8 ∧ W8.heap[K]? = some (.stringIter s (pos + wd))) := ⟨HJ.out.2.2.1.trans k2, k3.iter HJ.out.2.1 HNK.out⟩
                have HC2 : Hid (Calls Tryz.prog 88 _ _ _) := HX.out w.heap.size N ([34] ++ quo l ++ [92]) 34 W8 HV.out k1 (by have := HT2.out; have := enL_len ([34] ++ quo l) 92; show _ ≤ _; omega) HB8.out.1.size
                clear HC1 k1 k2 k3
                go_wp2_with fail
                refine (show Calls Tryz.prog 88 _ _ _ from HC2.out).mono ?_
                rintro e W9 ⟨q9, rfl, g1, g2, g3⟩
                have HK : Hid (Bu w.heap.size N (Lib.byteCells (enL ([34] ++ quo (l ++ [34])))) W9 ∧ W9.heap[K]? = some (.stringIter s (pos + wd)) ∧ Below w.heap.size w W9 ∧ Z = tx ([34] ++ quo ((l ++ [34]) ++ (crs s b' (pos + wd)).map (·.2)) ++ [34]) ∧ s.size ≤ pos + wd + b' ∧ (enL ([34] ++ quo (l ++ [34]))).length ≤ 1 + 8 * (pos + wd) ∧ pos + wd ≤ s.size) :=
                  ⟨by rw [HQ.out]; exact g1, g3.iter HB8.out.2 HNK.out, HB8.out.1.trans g2, HJ.out.2.2.2.1.trans (quo_mid l 34 _), HJ.out.2.2.2.2.1, HT.out, hwp⟩
                clear g1 g2 g3 HQ HC2 HB8
                clear HJ
                go_wp2
                go_roundw
                case rel => exact ⟨pos + wd, b', l ++ [34], HK⟩
                case measure => have e1 : W9.iterPos K = pos + wd := by simp only [World.iterPos, HK.out.2.1]
                                omega
              · subst h92
                clear h10
                go_wp2_with fail
                refine (show Calls Tryz.prog 88 _ _ _ from HC1.out).mono ?_
                rintro e W8 ⟨q8, rfl, k1, k2, k3⟩
                have HB8 : Hid (Below w.heap.size w W8 ∧ W8.heap[K]? = some (.stringIter s (pos + wd))) := ⟨HJ.out.2.2.1.trans k2, k3.iter HJ.out.2.1 HNK.out⟩
                have HC2 : Hid (Calls Tryz.prog 88 _ _ _) := HX.out w.heap.size N ([34] ++ quo l ++ [92]) 92 W8 HV.out k1 (by have := HT2.out; have := enL_len ([34] ++ quo l) 92; show _ ≤ _; omega) HB8.out.1.size
                clear HC1 k1 k2 k3
                go_wp2_with fail
                refine (show Calls Tryz.prog 88 _ _ _ from HC2.out).mono ?_
                rintro e W9 ⟨q9, rfl, g1, g2, g3⟩
                have HK : Hid (Bu w.heap.size N (Lib.byteCells (enL ([34] ++ quo (l ++ [92])))) W9 ∧ W9.heap[K]? = some (.stringIter s (pos + wd)) ∧ Below w.heap.size w W9 ∧ Z = tx ([34] ++ quo ((l ++ [92]) ++ (crs s b' (pos + wd)).map (·.2)) ++ [34]) ∧ s.size ≤ pos + wd + b' ∧ (enL ([34] ++ quo (l ++ [92]))).length ≤ 1 + 8 * (pos + wd) ∧ pos + wd ≤ s.size) :=
                  ⟨by rw [HQ.out]; exact g1, g3.iter HB8.out.2 HNK.out, HB8.out.1.trans g2, HJ.out.2.2.2.1.trans (quo_mid l 92 _), HJ.out.2.2.2.2.1, HT.out, hwp⟩
                clear g1 g2 g3 HQ HC2 HB8
                clear HJ
                go_wp2
                go_roundw
                case rel => exact ⟨pos + wd, b', l ++ [92], HK⟩
                case measure => have e1 : W9.iterPos K = pos + wd := by simp only [World.iterPos, HK.out.2.1]
                                omega
            · have h34' : ¬ (c : Int) = 34 := by omega
              have h92' : ¬ (c : Int) = 92 := by omega
              have HQ : Hid (enL ([34] ++ quo (l ++ [c])) = enL ([34] ++ quo l ++ [c])) := by
                show _ = _
                rw [quo_snoc, quC, if_neg h10, if_neg h34]
                simp [List.append_assoc]
              clear h34 h10
              go_wp2_with fail
              refine (show Calls Tryz.prog 88 _ _ _ from HX.out w.heap.size N ([34] ++ quo l) c _ HV.out HJ.out.1 (by have := HT2.out; show _ ≤ _; omega) HJ.out.2.2.1.size).mono ?_
              rintro e W9 ⟨q9, rfl, g1, g2, g3⟩
              have HK : Hid (Bu w.heap.size N (Lib.byteCells (enL ([34] ++ quo (l ++ [c])))) W9 ∧ W9.heap[K]? = some (.stringIter s (pos + wd)) ∧ Below w.heap.size w W9 ∧ Z = tx ([34] ++ quo ((l ++ [c]) ++ (crs s b' (pos + wd)).map (·.2)) ++ [34]) ∧ s.size ≤ pos + wd + b' ∧ (enL ([34] ++ quo (l ++ [c]))).length ≤ 1 + 8 * (pos + wd) ∧ pos + wd ≤ s.size) :=
                ⟨by rw [HQ.out]; exact g1, g3.iter HJ.out.2.1 HNK.out, HJ.out.2.2.1.trans g2, HJ.out.2.2.2.1.trans (quo_mid l c _), HJ.out.2.2.2.2.1, HT.out, hwp⟩
              clear g1 g2 g3 HQ
              clear HJ
              go_wp2
              go_roundw
              case rel => exact ⟨pos + wd, b', l ++ [c], HK⟩
              case measure => have e1 : W9.iterPos K = pos + wd := by simp only [World.iterPos, HK.out.2.1]
                              omega
        · have hnx : ∀ ty, (Instr.next (.pointer (some ⟨K, 0, none⟩)) true ty).run Tryz.prog wr = _ := fun ty => run_next_end_at wr K s pos ty HI.out.2.1 hp
          have HE : Hid (Z = tx ([34] ++ quo l ++ [34])) := by
            show Z = _
            rw [HI.out.2.2.2.1, crs_end hp, List.map_nil, List.append_nil]
          have HT2 : Hid ((enL ([34] ++ quo l)).length ≤ 50000) := by
            have j6 := HI.out.2.2.2.2.2.1
            have j7 := HI.out.2.2.2.2.2.2
            show _ ≤ _
            omega
          go_wp2_with fail
          refine (show Calls Tryz.prog 88 _ _ _ from HX.out w.heap.size N ([34] ++ quo l) 34 _ v34.out HI.out.1 (by have := HT2.out; show _ ≤ _; omega) HI.out.2.2.1.size).mono ?_
          rintro e W8 ⟨q9, rfl, g1, g2, g3⟩
          have HB : Hid (Below w.heap.size w W8) := HI.out.2.2.1.trans g2
          have HSt : Hid (Calls Tryz.prog 35 #[.pointer (some ⟨N, 0, none⟩)] W8 fun e w' => e = .returned (.string (tx ([34] ++ quo l ++ [34]))) ∧ (IsBuilderF 60 5 w.heap.size N (Lib.byteCells (enL ([34] ++ quo l ++ [34]))) w' ∧ Below w.heap.size W8 w' ∧ OthersKept 5 (some N) W8 w')) := Tryz.Builder_String_any_k w.heap.size N (enL ([34] ++ quo l ++ [34])) W8 g1 HB.out.size
          rw [← show Z = _ from HE.out] at HSt
          clear g1 g2 g3 HI
          go_wp2_with fail
          refine (show Calls Tryz.prog 35 _ _ _ from HSt.out).mono ?_
          rintro e W9 ⟨rfl, g1, g2, g3⟩
          have HB2 : Hid (Below w.heap.size w W9) := HB.out.trans g2
          clear HSt g1 g2 g3
          go_wp2
          go_ret2
          exact ⟨rfl, HB2.out⟩
end Go.Proofs.YtmpfbjmaiddigaaGreatDoor
namespace Go.Proofs.YtmpfbjmaiddigaaGreatDoor
open Go.RowKit Go.Lib
set_option linter.unusedSimpArgs false
set_option linter.unusedVariables false
theorem fndL_spec (p : Nat → Bool) (a n : Nat) (S : ByteArray) (hn : n = a + S.size) : ∀ (b pos : Nat), S.size ≤ pos + b → fndL p a n (crs S b pos) < n → p (Utf8.decode S (fndL p a n (crs S b pos) - a)).1 = true
  | 0, pos, _, h => by
    exfalso
    simp [crs, fndL] at h
  | b + 1, pos, hb, h => by
    by_cases hp : pos < S.size
    · rw [show crs S (b + 1) pos = (pos, (Utf8.decode S pos).1) :: crs S b (pos + (Utf8.decode S pos).2) by simp [crs, hp]] at h ⊢
      have hw := wid_pos S pos hp
      unfold fndL at h ⊢
      by_cases hq : p (Utf8.decode S pos).1 = true
      · rw [if_pos hq, Nat.add_sub_cancel_left]
        exact hq
      · rw [if_neg hq] at h ⊢
        exact fndL_spec p a n S hn b _ (by omega) h
    · rw [crs_end hp] at h
      exact absurd h (Nat.lt_irrefl _)
theorem fnd_spec (p : Nat → Bool) {s : ByteArray} {a : Nat} (ha : a ≤ s.size) (h : fnd p s a < s.size) : p (Utf8.decode s (fnd p s a)).1 = true := by
  have hz : (s.extract a s.size).size = s.size - a := by rw [ByteArray.size_extract]; omega
  have hl := fnd_le p s ha
  have := fndL_spec p a s.size (s.extract a s.size) (by omega) _ 0 (by omega) h
  rw [tail_decode] at this
  have e : a + (fnd p s a - a) = fnd p s a := by omega
  unfold fnd at e
  rw [e] at this
  exact this
theorem bgn_nb (s : ByteArray) (f : Nat) : ∀ (a : Nat), a ≤ s.size → s.size - a < f → bgn s f a < s.size → blk (Utf8.decode s (bgn s f a)).1 = false := by
  induction f with
  | zero => intro a h hf _; omega
  | succ f ih =>
    intro a h hf hb
    have h1 := fnd_le (fun c => !blk c) s h
    unfold bgn at hb ⊢
    by_cases hr : rmk s (fnd (fun c => !blk c) s a) = true
    · rw [if_pos hr] at hb ⊢
      have h2 := fnd_le (fun c => decide (c = 10)) s h1.2
      have h3 := rmk_go h1.2 hr
      exact ih _ h2.2 (by omega) hb
    · rw [if_neg hr] at hb ⊢
      have := fnd_spec (fun c => !blk c) h hb
      simpa using this
theorem bg_bd {s : ByteArray} {a : Nat} (ha : a ≤ s.size) : a ≤ bg s a ∧ bg s a ≤ s.size := bgn_bd s _ a ha
theorem bg_nb {s : ByteArray} {a : Nat} (ha : a ≤ s.size) (h : bg s a < s.size) : blk (Utf8.decode s (bg s a)).1 = false := bgn_nb s _ a ha (by omega) h
/-- A character is a quote just where its byte is. -/
theorem quote_byte {s : ByteArray} {a : Nat} (ha : a < s.size) : (byN s a = 34) ↔ ((Utf8.decode s a).1 = 34) := by
  unfold byN
  rw [← get_bang s a ha]
  by_cases h : (s[a]'ha).toNat < 128
  · rw [decode_ascii s a ha h]
  · have := (decode_high s a ha (by omega)).1
    constructor <;> intro g <;> omega
/-- What a token at a place is. -/
structure TkOk (s : ByteArray) (a : Nat) (t : Tok) : Prop where
  at_ : t.a = (a : Int)
  nb : blk (Utf8.decode s a).1 = false
  str : (t.k = 3) ↔ ((Utf8.decode s a).1 = 34)
  word : t.k = 1 → t.t.size ≤ s.size - a ∧ s.extract a (a + t.t.size) = t.t ∧ nameB t.t = true
def Chain (s : ByteArray) : Int → List Tok → Prop
  | _, [] => True
  | last, t :: r => ∃ a : Nat, last < (a : Int) ∧ a < s.size ∧ TkOk s a t ∧ Chain s (a : Int) r
theorem numR_three (b : ByteArray) : (numR b).2 = 0 ∨ (numR b).2 = 9 ∨ (numR b).2 = 11 := by
  unfold numR
  split
  · exact .inr (.inl rfl)
  · split
    · exact .inl rfl
    · split
      · exact .inl rfl
      · exact .inr (.inr rfl)
theorem strG_kind (a n : Nat) : ∀ (l : List (Nat × Nat)) (e : Bool) (out : List Nat), (strG a n l e out).2.2 = 0 → (strG a n l e out).1.k = 3 ∧ (strG a n l e out).1.a = (a : Int)
  | [], true, out => by intro h; simp [strG] at h
  | [], false, out => by intro h; simp [strG] at h
  | (i, c) :: r, true, out => by
    simp only [strG]
    cases une c with
    | none => intro h; simp at h
    | some m => exact strG_kind a n r _ _
  | (i, c) :: r, false, out => by
    simp only [strG]
    split
    · exact strG_kind a n r _ _
    · split
      · split
        · intro h; simp at h
        · intro _; exact ⟨rfl, rfl⟩
      · exact strG_kind a n r _ _
theorem red_ok {s : ByteArray} {a : Nat} (ha : a < s.size) (hb : blk (Utf8.decode s a).1 = false) (h : (redR s a).2.2 = 0) : TkOk s a (redR s a).1 := by
  have hq := quote_byte ha
  unfold redR at h ⊢
  by_cases h34 : byN s a = 34
  · rw [if_pos h34] at h ⊢
    have := strG_kind a s.size _ _ _ h
    exact ⟨this.2, hb, ⟨fun _ => hq.1 h34, fun _ => this.1⟩, fun g => by have g3 : (strR s a).1.k = 3 := this.1; omega⟩
  · rw [if_neg h34] at h ⊢
    have hf := fnd_le (fun c => blk c) s (Nat.le_of_lt ha)
    have n34 : ¬ (Utf8.decode s a).1 = 34 := fun g => h34 (hq.2 g)
    have h3 := numR_three (s.extract a (fnd (fun c => blk c) s a))
    unfold wrdR at h ⊢
    dsimp only at h ⊢
    by_cases k0 : (numR (s.extract a (fnd (fun c => blk c) s a))).2 = 0
    · rw [if_pos k0]
      exact ⟨rfl, hb, ⟨fun g => absurd g (by simp), fun g => absurd g n34⟩, fun g => absurd g (by simp)⟩
    · rw [if_neg k0] at h ⊢
      by_cases k1 : (numR (s.extract a (fnd (fun c => blk c) s a))).2 = 11
      · rw [if_pos k1] at h
        exact absurd h (by simp)
      · rw [if_neg k1] at h ⊢
        by_cases k2 : nmdB (s.extract a (fnd (fun c => blk c) s a)) = false
        · rw [if_pos k2] at h
          exact absurd h (by simp)
        · rw [if_neg k2]
          refine ⟨rfl, hb, ⟨fun g => absurd g (by simp), fun g => absurd g n34⟩, fun _ => ⟨?_, ?_, ?_⟩⟩
          · show (s.extract a (fnd (fun c => blk c) s a)).size ≤ s.size - a
            rw [ByteArray.size_extract]
            omega
          · show s.extract a (a + (s.extract a (fnd (fun c => blk c) s a)).size) = s.extract a (fnd (fun c => blk c) s a)
            rw [ByteArray.size_extract]
            congr 1
            omega
          · show nameB (s.extract a (fnd (fun c => blk c) s a)) = true
            unfold nameB
            simp only [Bool.and_eq_true, decide_eq_true_eq]
            exact ⟨by omega, by simpa using k2⟩
theorem tokG_chain (s : ByteArray) : ∀ (f a : Nat) (acc : List Tok), a ≤ s.size → (a < s.size → blk (Utf8.decode s a).1 = false) → (tokG s f a acc).2.2 = 0 → ∃ r, (tokG s f a acc).1 = acc ++ r ∧ ∀ last : Int, last < (a : Int) → Chain s last r
  | 0, a, acc, _, _, _ => ⟨[], by simp [tokG], fun _ _ => trivial⟩
  | f + 1, a, acc, ha, hb, h => by
    unfold tokG at h ⊢
    by_cases h1 : a < s.size
    · rw [if_pos h1] at h ⊢
      by_cases h2 : (redR s a).2.2 = 0
      · rw [if_pos h2] at h ⊢
        by_cases h3 : acc.length = 4096
        · rw [if_pos h3] at h
          exact absurd h (by simp)
        · rw [if_neg h3] at h ⊢
          have hg := red_go h1 h2
          have hbd := bg_bd hg.2
          obtain ⟨r, e, c⟩ := tokG_chain s f _ _ hbd.2 (fun g => bg_nb hg.2 g) h
          refine ⟨(redR s a).1 :: r, by rw [e]; simp, fun last hl => ⟨a, hl, h1, red_ok h1 (hb h1) h2, c _ ?_⟩⟩
          omega
      · rw [if_neg h2] at h
        exact absurd h h2
    · rw [if_neg h1]
      exact ⟨[], by simp, fun _ _ => trivial⟩
theorem tokR_chain {s : ByteArray} (h : (tokR s).2.2 = 0) : Chain s (-1) (tokR s).1 := by
  unfold tokR at h ⊢
  split at h
  · exact absurd h (by simp)
  · rw [if_neg (by assumption)]
    split at h
    · exact absurd h (by simp)
    · rw [if_neg (by assumption)]
      have hbd := bg_bd (s := s) (Nat.zero_le _)
      obtain ⟨r, e, c⟩ := tokG_chain s _ _ [] hbd.2 (fun g => bg_nb (Nat.zero_le _) g) h
      rw [show (tokG s (s.size + 1) (bg s 0) []).1 = r from e]
      exact c _ (by omega)
theorem stL_le (s : ByteArray) : ∀ (b pos : Nat), stL s (crs s b pos) ≤ s.size
  | 0, pos => by simp [crs, stL]
  | b + 1, pos => by
    by_cases hp : pos < s.size
    · rw [show crs s (b + 1) pos = (pos, (Utf8.decode s pos).1) :: crs s b (pos + (Utf8.decode s pos).2) by simp [crs, hp]]
      unfold stL
      split
      · exact Nat.le_of_lt hp
      · exact stL_le s b _
    · rw [crs_end hp]
      exact Nat.le_refl _
theorem strG_le (a n : Nat) (S : ByteArray) (hS : a + 1 + S.size ≤ n) : ∀ (b pos : Nat) (e : Bool) (out : List Nat), (strG a n (crs S b pos) e out).2.1 ≤ n
  | 0, pos, true, out => by simp only [crs, strG]; omega
  | 0, pos, false, out => by simp only [crs, strG]; omega
  | b + 1, pos, e, out => by
    by_cases hp : pos < S.size
    · rw [show crs S (b + 1) pos = (pos, (Utf8.decode S pos).1) :: crs S b (pos + (Utf8.decode S pos).2) by simp [crs, hp]]
      cases e with
      | true =>
        simp only [strG]
        cases une (Utf8.decode S pos).1 with
        | none => show a + pos ≤ n; omega
        | some m => exact strG_le a n S hS b _ _ _
      | false =>
        simp only [strG]
        split
        · exact strG_le a n S hS b _ _ _
        · split
          · split
            · show a ≤ n; omega
            · show a + pos + 2 ≤ n; omega
          · exact strG_le a n S hS b _ _ _
    · rw [crs_end hp]
      cases e <;> simp only [strG] <;> omega
theorem red_le {s : ByteArray} {a : Nat} (ha : a < s.size) : (redR s a).2.1 ≤ s.size := by
  unfold redR
  split
  · exact strG_le a s.size _ (by rw [ByteArray.size_extract]; omega) _ _ _ _
  · have hf := fnd_le (fun c => blk c) s (Nat.le_of_lt ha)
    unfold wrdR
    dsimp only
    split
    · exact hf.2
    · split
      · exact Nat.le_of_lt ha
      · split
        · exact Nat.le_of_lt ha
        · exact hf.2
theorem tokG_le (s : ByteArray) : ∀ (f a : Nat) (acc : List Tok), (tokG s f a acc).2.2 ≠ 0 → (tokG s f a acc).1 = [] ∧ (tokG s f a acc).2.1 ≤ s.size
  | 0, a, acc => fun h => absurd rfl h
  | f + 1, a, acc => by
    unfold tokG
    split
    · split
      · split
        · intro _; exact ⟨rfl, by show a ≤ s.size; omega⟩
        · exact tokG_le s f _ _
      · intro _; exact ⟨rfl, red_le (by assumption)⟩
    · intro h; exact absurd rfl h
theorem tokR_le {s : ByteArray} (h : (tokR s).2.2 ≠ 0) : (tokR s).1 = [] ∧ (tokR s).2.1 ≤ s.size := by
  unfold tokR at h ⊢
  split
  · exact ⟨rfl, Nat.zero_le _⟩
  · rw [if_neg (by assumption)] at h
    split
    · exact ⟨rfl, by show stR s ≤ s.size; omega⟩
    · rw [if_neg (by assumption)] at h
      exact tokG_le s _ _ _ h
/-- A token's cells among all. -/
theorem tkCs_get : ∀ (l : List Tok) (i : Nat) (t : Tok), l[i]? = some t → (tkCs l)[i * 4]? = some (.int .i64 t.k) ∧ (tkCs l)[i * 4 + 1]? = some (.string t.t) ∧ (tkCs l)[i * 4 + 2]? = some (.int .i64 t.n) ∧ (tkCs l)[i * 4 + 3]? = some (.int .i64 t.a)
  | [], i, t, h => by simp at h
  | x :: l, 0, t, h => by
    simp only [List.getElem?_cons_zero, Option.some.injEq] at h
    subst h
    simp [tkCs]
  | x :: l, i + 1, t, h => by
    have := tkCs_get l i t (by simpa using h)
    have e : ∀ k, (tkCs (x :: l))[k + 4]? = (tkCs l)[k]? := fun k => by simp [tkCs]
    rw [show (i + 1) * 4 = i * 4 + 4 by omega, show i * 4 + 4 + 1 = i * 4 + 1 + 4 by omega, show i * 4 + 4 + 2 = i * 4 + 2 + 4 by omega, show i * 4 + 4 + 3 = i * 4 + 3 + 4 by omega, e, e, e, e]
    exact this
end Go.Proofs.YtmpfbjmaiddigaaGreatDoor
namespace Go.Proofs.YtmpfbjmaiddigaaGreatDoor
open Go.RowKit
set_option linter.unusedSimpArgs false
set_option linter.unusedVariables false
theorem Only.drewN {bs : Nat → Prop} {a w : World} (h : Only bs a w) (n : Nat) : Only bs a (w.drewN n) := ⟨h.os, h.tape, h.output, h.size, h.block⟩
section
variable {P : Program} {n l : Nat} {ops : Array Oper} {op : Oper} {a : Act} {w w' : World} {K : Act → World → Prop} {Q : Exit → Act → World → Prop}
theorem wp_call_func {f : Nat} (args : Array Operand) (tys : Array TypeId) (ho : op.op = .call { callee := .value (.func f), args := args, argTypes := tys }) (vs : Array Value) (hvs : args.map a.eval = vs) (he : ∀ args w, (callFunc f args).run P w = .ok (.enter f args) w)
    {R : Ending → World → Prop} (hc : Calls P f vs w R) (hR : ∀ e w', R e w' → ∃ v, e = .returned v ∧ K (a.put op.dst v) w') : op.wp P a w K Q := by
  have hr : (execOp a.eval op).run P w = .ok (.enter f vs) w := by
    simp [execOp, ho, resolve, invoke, go_sem, he, hvs, Result.andThen]
  unfold Oper.wp
  rw [hr, Oper.upon_enter]
  refine hc.mono fun e w' h => ?_
  obtain ⟨v, rfl, hk⟩ := hR e w' h
  exact hk
end
end Go.Proofs.YtmpfbjmaiddigaaGreatDoor
namespace Go.Proofs.YtmpfbjmaiddigaaGreatDoor
open Go.RowKit Go.Lib
set_option linter.unusedSimpArgs false
set_option linter.unusedVariables false
theorem addr_add (g k : Nat) : (⟨g, 0, none⟩ : Addr).add k = ⟨g, k, none⟩ := by
  unfold Addr.add
  split
  · simp_all
  · simp
theorem owns_lower {w : World} {B C : Nat} {e : TypeId} {sz : Nat} {v : Value} {n : Nat} {xs : List Value} (h : w.ownsRowF B e sz v n xs) (hC : C ≤ B) : w.ownsRowF C e sz v n xs := by
  refine ⟨h.1, ?_⟩
  rcases h.2 with g | ⟨g, cap, cur, fz, h1, h2, h3⟩
  · exact .inl g
  · exact .inr ⟨g, cap, cur, fz, h1, by omega, h3⟩
/-- The cells of a row's token. -/
theorem toks_cells {w : World} {B : Nat} {v : Value} {l : List Tok} (h : ToksAt w B v l) {i : Nat} {t : Tok} (ht : l[i]? = some t) :
    ∃ g cap, v = .slice (some ⟨g, 0, none⟩) l.length cap ∧ B ≤ g ∧ g < w.heap.size ∧ w.cell? ⟨g, i * 4, none⟩ = some (.int .i64 t.k) ∧ w.cell? ⟨g, i * 4 + 1, none⟩ = some (.string t.t) ∧ w.cell? ⟨g, i * 4 + 2, none⟩ = some (.int .i64 t.n) ∧ w.cell? ⟨g, i * 4 + 3, none⟩ = some (.int .i64 t.a) := by
  obtain ⟨c0, c1, c2, c3⟩ := tkCs_get l i t ht
  have hi : i < l.length := (List.getElem?_eq_some_iff.1 ht).1
  rcases h.2.2 with ⟨_, h0⟩ | ⟨g, cap, cur, fz, hv, hB, hg, _⟩
  · omega
  · subst hv
    exact ⟨g, cap, rfl, hB, (Array.getElem?_eq_some_iff.1 hg).1, (by have := h.2.cells (g := g) rfl _ _ c0; rwa [addr_add] at this), (by have := h.2.cells (g := g) rfl _ _ c1; rwa [addr_add] at this), (by have := h.2.cells (g := g) rfl _ _ c2; rwa [addr_add] at this), (by have := h.2.cells (g := g) rfl _ _ c3; rwa [addr_add] at this)⟩
theorem toks_only {w w' : World} {B : Nat} {v : Value} {l : List Tok} (h : ToksAt w B v l) (o : Only (fun _ => False) w w') : ToksAt w' B v l := ⟨h.1, owns_only h.2 o⟩
theorem tokG_len (s : ByteArray) : ∀ (f a : Nat) (acc : List Tok), acc.length ≤ 4096 → (tokG s f a acc).1.length ≤ 4096
  | 0, a, acc, h => h
  | f + 1, a, acc, h => by
    unfold tokG
    split
    · split
      · split
        · exact Nat.zero_le _
        · exact tokG_len s f _ _ (by rw [List.length_append]; show acc.length + 1 ≤ 4096; omega)
      · exact Nat.zero_le _
    · exact h
theorem tokR_len (s : ByteArray) : (tokR s).1.length ≤ 4096 := by
  unfold tokR
  split
  · exact Nat.zero_le _
  · split
    · exact Nat.zero_le _
    · exact tokG_len s _ _ _ (Nat.zero_le _)
theorem tokR_size {s : ByteArray} (h : (tokR s).2.2 = 0) : s.size ≤ 65536 := by
  unfold tokR at h
  split at h
  · exact absurd h (by simp)
  · omega
theorem wrap_id {x : Int} (h0 : -9223372036854775808 ≤ x) (h1 : x ≤ 9223372036854775807) : IntKind.i64.wrap x = x := by
  rw [IntKind.wrap_i64]
  omega
theorem Chain.head {s : ByteArray} {last : Int} {l : List Tok} {i : Nat} {t : Tok} (h : Chain s last (l.drop i)) (ht : l[i]? = some t) : ∃ a : Nat, last < (a : Int) ∧ a < s.size ∧ TkOk s a t ∧ Chain s (a : Int) (l.drop (i + 1)) := by
  have hi := (List.getElem?_eq_some_iff.1 ht).1
  have : l.drop i = t :: l.drop (i + 1) := by
    rw [← (List.getElem?_eq_some_iff.1 ht).2]
    exact List.drop_eq_getElem_cons hi
  rw [this] at h
  exact h
end Go.Proofs.YtmpfbjmaiddigaaGreatDoor
namespace Go.Proofs.YtmpfbjmaiddigaaGreatDoor
open Go.RowKit Go.Lib
set_option linter.unusedSimpArgs false
set_option linter.unusedVariables false
def wr (c : Nat) : Nat := (encodeRune (c : Int)).length
def wl (l : List Nat) : Nat := (enL l).length
def VL (l : List Nat) : Prop := ∀ c ∈ l, Vr c
theorem wl_nil : wl [] = 0 := rfl
theorem wl_cons (c : Nat) (l : List Nat) : wl (c :: l) = wr c + wl l := by simp [wl, wr, enL]
theorem wl_app (a b : List Nat) : wl (a ++ b) = wl a + wl b := by simp [wl, enL]
theorem wr_pos (c : Nat) : 1 ≤ wr c := by
  have := (runeCells_le (c : Int)).1
  rw [runeCells_length] at this
  exact this
theorem tx_size (l : List Nat) : (tx l).size = wl l := by simp [tx, wl, ByteArray.size]
theorem tx_data (l : List Nat) : (tx l).data.toList = enL l := by simp [tx]
theorem tx_inj {s : ByteArray} {l : List Nat} (h : s.data.toList = enL l) : s = tx l := by
  apply ByteArray.ext
  apply Array.toList_inj.1
  rw [tx_data, h]
theorem byte_of {n : Nat} (h : n < 256) : n.toUInt8.toNat = n := by
  show (UInt8.ofNat n).toNat = n
  rw [UInt8.toNat_ofNat']
  omega
theorem enc1 {c : Nat} (h : c ≤ 127) : encodeRune (c : Int) = [c.toUInt8] := by
  unfold encodeRune
  rw [encodeRuneZ_one (by omega) (by omega)]
  simp
theorem enc2 {c : Nat} (h0 : 128 ≤ c) (h1 : c ≤ 2047) : encodeRune (c : Int) = [(192 + c / 64).toUInt8, (128 + c % 64).toUInt8] := by
  unfold encodeRune
  rw [encodeRuneZ_two (by omega) (by omega)]
  simp only [List.map_cons, List.map_nil]
  congr 2 <;> omega
theorem enc3 {c : Nat} (h : (2048 ≤ c ∧ c < 55296) ∨ (57343 < c ∧ c ≤ 65535)) : encodeRune (c : Int) = [(224 + c / 4096).toUInt8, (128 + c / 64 % 64).toUInt8, (128 + c % 64).toUInt8] := by
  unfold encodeRune
  rw [encodeRuneZ_three (by omega)]
  simp only [List.map_cons, List.map_nil]
  congr 2
theorem enc4 {c : Nat} (h0 : 65536 ≤ c) (h1 : c ≤ 1114111) : encodeRune (c : Int) = [(240 + c / 262144).toUInt8, (128 + c / 4096 % 64).toUInt8, (128 + c / 64 % 64).toUInt8, (128 + c % 64).toUInt8] := by
  unfold encodeRune
  rw [encodeRuneZ_four (by omega) (by omega)]
  simp only [List.map_cons, List.map_nil]
  congr 2
set_option maxRecDepth 10000 in
/-- What was encoded is decoded. -/
theorem decodeL_enc {c : Nat} (hc : Vr c) (t : List UInt8) : decodeL (encodeRune (c : Int) ++ t) = (c, wr c) := by
  unfold wr
  rw [decodeL_N]
  unfold Vr at hc
  by_cases h1 : c ≤ 127
  · rw [enc1 h1]
    simp only [List.cons_append, List.nil_append, List.getD_cons_zero, List.length_cons, List.length_nil]
    rw [byte_of (by omega)]
    unfold decodeN
    rw [if_pos (by omega)]
  · by_cases h2 : c ≤ 2047
    · rw [enc2 (by omega) h2]
      simp only [List.cons_append, List.nil_append, List.getD_cons_zero, List.getD_cons_succ, List.length_cons, List.length_nil]
      rw [byte_of (by omega), byte_of (by omega)]
      unfold decodeN
      rw [if_neg (by omega), if_pos ⟨by omega, by omega, by omega⟩, if_pos (by omega)]
      congr 1
      omega
    · by_cases h3 : c ≤ 65535
      · rw [enc3 (by omega)]
        simp only [List.cons_append, List.nil_append, List.getD_cons_zero, List.getD_cons_succ, List.length_cons, List.length_nil]
        rw [byte_of (by omega), byte_of (by omega), byte_of (by omega)]
        unfold decodeN
        have e : (224 + c / 4096) % 16 * 4096 + (128 + c / 64 % 64) % 64 * 64 + (128 + c % 64) % 64 = c := by omega
        rw [if_neg (by omega), if_neg (by omega), if_pos ⟨by omega, ⟨by omega, by omega⟩, by omega, by omega⟩, e, if_pos ⟨by omega, by omega⟩]
      · rw [enc4 (by omega) (by omega)]
        simp only [List.cons_append, List.nil_append, List.getD_cons_zero, List.getD_cons_succ, List.length_cons, List.length_nil]
        rw [byte_of (by omega), byte_of (by omega), byte_of (by omega), byte_of (by omega)]
        unfold decodeN
        have e : (240 + c / 262144) % 8 * 262144 + (128 + c / 4096 % 64) % 64 * 4096 + (128 + c / 64 % 64) % 64 * 64 + (128 + c % 64) % 64 = c := by omega
        rw [if_neg (by omega), if_neg (by omega), if_neg (by omega), if_pos ⟨by omega, ⟨by omega, by omega⟩, ⟨by omega, by omega⟩, by omega, by omega⟩, e, if_pos ⟨by omega, by omega⟩]
theorem decode_tx (p : List Nat) {c : Nat} (hc : Vr c) (q : List Nat) : Utf8.decode (tx (p ++ c :: q)) (wl p) = (c, wr c) := by
  rw [← decodeL_drop, tx_data, enL_app]
  unfold wl
  rw [List.drop_left, show c :: q = [c] ++ q from rfl, enL_app, show enL [c] = encodeRune (c : Int) by simp [enL]]
  exact decodeL_enc hc _
/-- Characters with their places. -/
def pl : Nat → List Nat → List (Nat × Nat)
  | _, [] => []
  | o, c :: r => (o, c) :: pl (o + wr c) r
theorem crs_tx : ∀ (q p : List Nat) (b : Nat), VL q → wl q ≤ b → crs (tx (p ++ q)) b (wl p) = pl (wl p) q
  | [], p, b, _, _ => by
    rw [crs_end (by rw [tx_size, List.append_nil]; exact Nat.lt_irrefl _)]
    rfl
  | c :: q, p, b, h, hb => by
    have hc := h c (List.mem_cons_self ..)
    have hw := wr_pos c
    rw [wl_cons] at hb
    have hp : wl p < (tx (p ++ c :: q)).size := by rw [tx_size, wl_app, wl_cons]; omega
    obtain ⟨b', rfl, e⟩ := crs_go (b := b) hp (by rw [tx_size, wl_app, wl_cons]; omega)
    rw [e, decode_tx p hc q]
    have := crs_tx q (p ++ [c]) b' (fun x hx => h x (List.mem_cons_of_mem _ hx)) (by omega)
    rw [wl_app, wl_cons, wl_nil, Nat.add_zero, List.append_assoc] at this
    rw [show p ++ c :: q = p ++ ([c] ++ q) from rfl, this]
    rfl
theorem crs_tx0 {q : List Nat} (h : VL q) : crs (tx q) (tx q).size 0 = pl 0 q := by
  have := crs_tx q [] (tx q).size h (by rw [tx_size]; exact Nat.le_refl _)
  exact this
theorem pl_runes : ∀ (o : Nat) (q : List Nat), (pl o q).map (·.2) = q
  | _, [] => rfl
  | o, c :: q => by rw [pl, List.map_cons, pl_runes]
theorem rns_tx {q : List Nat} (h : VL q) : rns (tx q) = q := by
  unfold rns chs
  rw [crs_tx0 h, pl_runes]
/-- A text that has the characters q from the place a on. -/
def Sfx (s : ByteArray) (q : List Nat) (a : Nat) : Prop := ∃ p, s = tx (p ++ q) ∧ a = wl p ∧ VL q
theorem sfx_all {q : List Nat} (h : VL q) : Sfx (tx q) q 0 := ⟨[], rfl, rfl, h⟩
theorem Sfx.size {s : ByteArray} {q : List Nat} {a : Nat} (h : Sfx s q a) : s.size = a + wl q := by
  obtain ⟨p, rfl, rfl, _⟩ := h
  rw [tx_size, wl_app]
theorem Sfx.drop {s : ByteArray} {m q : List Nat} {a : Nat} (h : Sfx s (m ++ q) a) : Sfx s q (a + wl m) := by
  obtain ⟨p, rfl, rfl, hv⟩ := h
  exact ⟨p ++ m, by rw [List.append_assoc], by rw [wl_app], fun c hc => hv c (List.mem_append_right _ hc)⟩
theorem Sfx.vl {s : ByteArray} {q : List Nat} {a : Nat} (h : Sfx s q a) : VL q := by obtain ⟨p, _, _, hv⟩ := h; exact hv
theorem Sfx.extract {s : ByteArray} {m q : List Nat} {a : Nat} (h : Sfx s (m ++ q) a) : s.extract a (a + wl m) = tx m := by
  obtain ⟨p, rfl, rfl, hv⟩ := h
  apply tx_inj
  rw [ByteArray.data_extract, Array.toList_extract, tx_data, enL_app, enL_app]
  simp [wl, List.extract, List.take_append, List.drop_append]
theorem Sfx.rest {s : ByteArray} {q : List Nat} {a : Nat} (h : Sfx s q a) : s.extract a s.size = tx q := by
  have : Sfx s (q ++ []) a := by rw [List.append_nil]; exact h
  rw [h.size]
  exact this.extract
theorem fndL_pl (P : Nat → Bool) (a n : Nat) : ∀ (q : List Nat) (o : Nat), n = a + o + wl q → fndL P a n (pl o q) = a + o + wl (q.takeWhile (fun c => !P c))
  | [], o, h => by rw [pl, fndL, List.takeWhile_nil]; exact h
  | c :: q, o, h => by
    rw [pl, fndL, List.takeWhile_cons]
    rw [wl_cons] at h
    by_cases hp : P c = true
    · rw [if_pos hp]
      simp [hp, wl_nil]
    · rw [if_neg hp, fndL_pl P a n q (o + wr c) (by omega)]
      simp only [Bool.not_eq_true] at hp
      simp only [hp, Bool.not_false, if_true]
      rw [wl_cons]
      omega
theorem fnd_sfx (P : Nat → Bool) {s : ByteArray} {q : List Nat} {a : Nat} (h : Sfx s q a) : fnd P s a = a + wl (q.takeWhile (fun c => !P c)) := by
  unfold fnd
  rw [h.rest, crs_tx0 h.vl]
  have := fndL_pl P a s.size q 0 (by rw [h.size]; omega)
  rw [Nat.add_zero] at this
  exact this
theorem split_while (P : Nat → Bool) (q : List Nat) : q = q.takeWhile P ++ q.dropWhile P := (List.takeWhile_append_dropWhile ..).symm
theorem fnd_drop (P : Nat → Bool) {s : ByteArray} {q : List Nat} {a : Nat} (h : Sfx s q a) : Sfx s (q.dropWhile (fun c => !P c)) (fnd P s a) := by
  rw [fnd_sfx P h]
  have : Sfx s (q.takeWhile (fun c => !P c) ++ q.dropWhile (fun c => !P c)) a := by rw [← split_while]; exact h
  exact this.drop
theorem tx_app (a b : List Nat) : tx a ++ tx b = tx (a ++ b) := by
  apply tx_inj
  rw [ByteArray.data_append, Array.toList_append, tx_data, tx_data, enL_app]
theorem wl_len : ∀ l : List Nat, l.length ≤ wl l
  | [] => Nat.le_refl _
  | c :: l => by
    have := wl_len l
    have := wr_pos c
    rw [wl_cons, List.length_cons]
    omega
theorem Sfx.pos {s : ByteArray} {q : List Nat} {a b : Nat} (h : Sfx s q a) (g : Sfx s q b) : a = b := by
  have := h.size
  have := g.size
  omega
theorem Sfx.decode {s : ByteArray} {c : Nat} {q : List Nat} {a : Nat} (h : Sfx s (c :: q) a) : Utf8.decode s a = (c, wr c) := by
  obtain ⟨p, rfl, rfl, hv⟩ := h
  exact decode_tx p (hv c (List.mem_cons_self ..)) q
theorem Sfx.tail {s : ByteArray} {c : Nat} {q : List Nat} {a : Nat} (h : Sfx s (c :: q) a) : Sfx s q (a + wr c) := by
  have : Sfx s ([c] ++ q) a := h
  have := this.drop
  rwa [wl_cons, wl_nil, Nat.add_zero] at this
theorem pre_one {c : Nat} {q : List Nat} (hv : VL (c :: q)) : preB (tx (c :: q)) exB = decide (c = 33) := by
  by_cases h : c = 33
  · subst h
    rw [decide_eq_true rfl]
    have e : (tx (33 :: q)).extract 0 1 = tx [33] := by
      have : Sfx (tx (33 :: q)) ([33] ++ q) 0 := sfx_all hv
      have := this.extract
      rwa [show 0 + wl [33] = 1 from rfl] at this
    unfold preB
    have e2 : exB.size = 1 := rfl
    rw [e2, e]
    have hz : 1 ≤ (tx (33 :: q)).size := by rw [tx_size, wl_cons]; have := wr_pos 33; omega
    rw [decide_eq_true hz, show tx [33] = exB from rfl]
    simp
  · rw [decide_eq_false h, Bool.eq_false_iff]
    intro g
    obtain ⟨hs, hb⟩ := pre_get (b := 33) rfl g
    have hd := decode_ascii (tx (c :: q)) 0 hs (by rw [hb]; decide)
    rw [hb] at hd
    have hd2 := (sfx_all hv).decode
    rw [hd] at hd2
    injection hd2 with e1
    exact h e1.symm
theorem pre_none : preB (tx []) exB = false := by
  unfold preB
  rw [decide_eq_false (by decide)]
  rfl
/-- A remark begins. -/
def rmL (q : List Nat) : Bool := decide (q.head? = some 33) && (q.tail.takeWhile (fun c => !blk c)).isEmpty
theorem rmk_sfx {s : ByteArray} {q : List Nat} {a : Nat} (h : Sfx s q a) : rmk s a = rmL q := by
  unfold rmk rmL
  rw [h.rest, fnd_sfx _ h]
  cases q with
  | nil => rw [pre_none]; rfl
  | cons c q =>
    rw [pre_one h.vl]
    by_cases hc : c = 33
    · subst hc
      have e : (33 :: q).takeWhile (fun c => !blk c) = 33 :: q.takeWhile (fun c => !blk c) := by rw [List.takeWhile_cons]; rfl
      rw [e, wl_cons, show wr 33 = 1 from rfl]
      simp only [List.head?_cons, List.tail_cons, decide_true, Bool.true_and]
      cases hq : q.takeWhile (fun c => !blk c) with
      | nil => simp [wl_nil]
      | cons d r =>
        rw [wl_cons]
        have := wr_pos d
        simp
        omega
    · simp [hc]
/-- What is left where the next token begins. -/
def skp : Nat → List Nat → List Nat
  | 0, q => q
  | f + 1, q => if rmL (q.dropWhile blk) = true then skp f ((q.dropWhile blk).dropWhile (fun c => !decide (c = 10))) else q.dropWhile blk
theorem bgn_sfx {s : ByteArray} : ∀ (f : Nat) {q : List Nat} {a : Nat}, Sfx s q a → Sfx s (skp f q) (bgn s f a) := by
  intro f
  induction f with
  | zero => intro q a h; exact h
  | succ f ih =>
    intro q a h
    have h1 := fnd_drop (fun c => !blk c) h
    simp only [Bool.not_not] at h1
    have h2 := rmk_sfx h1
    unfold bgn skp
    rw [h2]
    by_cases hr : rmL (q.dropWhile blk) = true
    · rw [if_pos hr, if_pos hr]
      exact ih (fnd_drop (fun c => decide (c = 10)) h1)
    · rw [if_neg hr, if_neg hr]
      exact h1
theorem dw_len (P : Nat → Bool) (q : List Nat) : (q.dropWhile P).length ≤ q.length := (List.dropWhile_sublist P).length_le
theorem rm_drop {q : List Nat} (h : rmL q = true) : (q.dropWhile (fun c => !decide (c = 10))).length < q.length := by
  cases q with
  | nil => simp [rmL] at h
  | cons c q =>
    unfold rmL at h
    simp only [List.head?_cons, Bool.and_eq_true, decide_eq_true_eq, Option.some.injEq] at h
    obtain ⟨rfl, _⟩ := h
    rw [List.dropWhile_cons]
    have := dw_len (fun c => !decide (c = 10)) q
    simp only [show (!decide (33 = 10)) = true from rfl, if_true, List.length_cons]
    omega
theorem skp_fuel : ∀ (f g : Nat) (q : List Nat), q.length < f → q.length < g → skp f q = skp g q := by
  intro f
  induction f with
  | zero => intro g q h _; omega
  | succ f ih =>
    intro g q hf hg
    obtain ⟨g, rfl⟩ : ∃ k, g = k + 1 := ⟨g - 1, by omega⟩
    unfold skp
    by_cases hr : rmL (q.dropWhile blk) = true
    · rw [if_pos hr, if_pos hr]
      have h1 := rm_drop hr
      have h2 := dw_len blk q
      exact ih g _ (by omega) (by omega)
    · rw [if_neg hr, if_neg hr]
def SK (q : List Nat) : List Nat := skp (q.length + 1) q
theorem SK_eq (q : List Nat) : SK q = if rmL (q.dropWhile blk) = true then SK ((q.dropWhile blk).dropWhile (fun c => !decide (c = 10))) else q.dropWhile blk := by
  conv => lhs; unfold SK; unfold skp
  by_cases hr : rmL (q.dropWhile blk) = true
  · rw [if_pos hr, if_pos hr]
    have h1 := rm_drop hr
    have h2 := dw_len blk q
    exact skp_fuel _ _ _ (by omega) (by omega)
  · rw [if_neg hr, if_neg hr]
theorem bg_sfx {s : ByteArray} {q : List Nat} {a : Nat} (h : Sfx s q a) : Sfx s (SK q) (bg s a) := by
  have := bgn_sfx (s.size + 1) h
  rw [skp_fuel (s.size + 1) (q.length + 1) q (by have := h.size; have := wl_len q; omega) (by omega)] at this
  exact this
theorem SK_len (q : List Nat) : (SK q).length ≤ q.length := by
  have : ∀ (f : Nat) (q : List Nat), (skp f q).length ≤ q.length := by
    intro f
    induction f with
    | zero => intro q; exact Nat.le_refl _
    | succ f ih =>
      intro q
      unfold skp
      have h2 := dw_len blk q
      split
      · have h3 := dw_len (fun c => !decide (c = 10)) (q.dropWhile blk)
        have := ih ((q.dropWhile blk).dropWhile (fun c => !decide (c = 10)))
        omega
      · exact h2
  exact this _ q
theorem SK_nil : SK [] = [] := rfl
/-- Blanks ahead make no difference. -/
theorem SK_blank (q y : List Nat) (h : q.dropWhile blk = []) : SK (q ++ y) = SK y := by
  rw [SK_eq (q ++ y), SK_eq y, List.dropWhile_append, h]
  rfl
theorem SK_ten (x : List Nat) : SK (10 :: x) = SK x := SK_blank [10] x rfl
/-- A text behind a line's end, or none. -/
def Ynl (y : List Nat) : Prop := y = [] ∨ ∃ x, y = 10 :: x
theorem tw_nl (P : Nat → Bool) (hP : P 10 = false) (q : List Nat) {y : List Nat} (hy : Ynl y) : (q ++ y).takeWhile P = q.takeWhile P := by
  rcases hy with rfl | ⟨x, rfl⟩
  · rw [List.append_nil]
  · induction q with
    | nil => simp [List.takeWhile_cons, hP]
    | cons c q ih =>
      rw [List.cons_append, List.takeWhile_cons, List.takeWhile_cons, ih]
theorem rmL_nl {q y : List Nat} (hy : Ynl y) (hq : q ≠ []) : rmL (q ++ y) = rmL q := by
  cases q with
  | nil => exact absurd rfl hq
  | cons c q =>
    unfold rmL
    rw [List.cons_append, List.head?_cons, List.head?_cons, List.tail_cons, List.tail_cons, tw_nl _ rfl q hy]
theorem SK_ext (y : List Nat) (hy : Ynl y) : ∀ (n : Nat) (q : List Nat), q.length ≤ n → SK (q ++ y) = if SK q = [] then SK y else SK q ++ y := by
  intro n
  induction n with
  | zero =>
    intro q hq
    obtain rfl : q = [] := List.eq_nil_of_length_eq_zero (by omega)
    rw [SK_nil, if_pos rfl]
    rfl
  | succ n ih =>
    intro q hq
    by_cases hr : q.dropWhile blk = []
    · have e : SK q = [] := by rw [SK_eq, hr]; rfl
      rw [if_pos e, SK_blank q y hr]
    · have ed : (q ++ y).dropWhile blk = q.dropWhile blk ++ y := by
        rw [List.dropWhile_append, if_neg (by simpa using hr)]
      rw [SK_eq (q ++ y), SK_eq q, ed, rmL_nl hy hr]
      by_cases hm : rmL (q.dropWhile blk) = true
      · rw [if_pos hm, if_pos hm]
        have h1 := rm_drop hm
        have h2 := dw_len blk q
        by_cases h3 : (q.dropWhile blk).dropWhile (fun c => !decide (c = 10)) = []
        · rw [List.dropWhile_append, h3, SK_nil, if_pos rfl]
          rcases hy with rfl | ⟨x, rfl⟩
          · rfl
          · rw [if_pos (by rfl), List.dropWhile_cons, if_neg (by decide)]
        · rw [List.dropWhile_append, if_neg (by simpa using h3)]
          exact ih _ (by omega)
      · rw [if_neg hm, if_neg hm, if_neg hr]
theorem pre_take {X p : ByteArray} (h : preB X p = true) : X.data.toList.take p.size = p.data.toList := by
  unfold preB at h
  simp only [Bool.and_eq_true, decide_eq_true_eq, beq_iff_eq] at h
  have := h.2
  rw [ByteArray.toList_eq, ByteArray.toList_eq, ByteArray.data_extract, Array.toList_extract] at this
  simpa using this
/-- A text without a byte that belongs to no character is a row of characters. -/
theorem valid_from (s : ByteArray) : ∀ (b pos : Nat), pos ≤ s.size → s.size ≤ pos + b → stL s (crs s b pos) = s.size → ∃ l, VL l ∧ s.data.toList.drop pos = enL l := by
  intro b
  induction b with
  | zero =>
    intro pos h1 h2 _
    refine ⟨[], fun c hc => by simp at hc, ?_⟩
    rw [List.drop_eq_nil_of_le (by rw [Array.length_toList]; exact h2)]
    rfl
  | succ b ih =>
    intro pos h1 h2 h3
    by_cases hp : pos < s.size
    · have hw := wid_pos s pos hp
      have hwp := decode_wd s pos hp
      rw [show crs s (b + 1) pos = (pos, (Utf8.decode s pos).1) :: crs s b (pos + (Utf8.decode s pos).2) by simp [crs, hp]] at h3
      unfold stL at h3
      have hne : s.data.toList.drop pos ≠ [] := by
        intro g
        have := congrArg List.length g
        rw [List.length_drop, Array.length_toList] at this
        have : s.data.size - pos = 0 := this
        have : s.data.size = s.size := rfl
        omega
      have hdl := decodeL_drop s pos
      by_cases hbad : (Utf8.decode s pos).1 = 65533 ∧ preB (s.extract pos s.size) rpB = false
      · rw [if_pos hbad] at h3
        omega
      · rw [if_neg hbad] at h3
        obtain ⟨l, hl, e⟩ := ih (pos + (Utf8.decode s pos).2) hwp (by omega) h3
        have hv : ¬ ((decodeL (s.data.toList.drop pos)).1 = 65533 ∧ (decodeL (s.data.toList.drop pos)).2 = 1) := by
          rw [hdl]
          intro g
          have hpre : preB (s.extract pos s.size) rpB = true := by
            cases hx : preB (s.extract pos s.size) rpB with
            | true => rfl
            | false => exact absurd ⟨g.1, hx⟩ hbad
          have ht := pre_take hpre
          have hx : (s.extract pos s.size).data.toList = s.data.toList.drop pos := by
            rw [ByteArray.data_extract, Array.toList_extract]
            show List.extract _ _ _ = _
            rw [List.extract, List.take_of_length_le]
            rw [List.length_drop, Array.length_toList]
            exact Nat.le_refl _
          rw [hx] at ht
          have e3 : s.data.toList.drop pos = encodeRune ((65533 : Nat) : Int) ++ (s.data.toList.drop pos).drop 3 := by
            have : encodeRune ((65533 : Nat) : Int) = rpB.data.toList := rfl
            rw [this, ← ht]
            exact (List.take_append_drop 3 _).symm
          rw [e3, decodeL_enc (by unfold Vr; omega)] at hdl
          rw [← hdl] at g
          exact absurd g.2 (by decide)
        have he := encode_decode _ hne hv
        rw [hdl] at he
        refine ⟨(Utf8.decode s pos).1 :: l, ?_, ?_⟩
        · intro c hc
          rcases List.mem_cons.1 hc with rfl | hc
          · exact decode_vr s pos
          · exact hl c hc
        · rw [show enL ((Utf8.decode s pos).1 :: l) = encodeRune ((Utf8.decode s pos).1 : Int) ++ enL l by simp [enL], he, ← e, ← List.drop_drop, List.take_append_drop]
    · refine ⟨[], fun c hc => by simp at hc, ?_⟩
      rw [List.drop_eq_nil_of_le (by rw [Array.length_toList]; show s.size ≤ pos; omega)]
      rfl
theorem valid_tx {s : ByteArray} (h : ¬ stR s < s.size) : ∃ l, VL l ∧ s = tx l := by
  have h2 := stL_le s s.size 0
  unfold stR at h
  obtain ⟨l, hl, e⟩ := valid_from s s.size 0 (Nat.zero_le _) (by omega) (by omega)
  rw [List.drop_zero] at e
  exact ⟨l, hl, tx_inj e⟩
end Go.Proofs.YtmpfbjmaiddigaaGreatDoor
