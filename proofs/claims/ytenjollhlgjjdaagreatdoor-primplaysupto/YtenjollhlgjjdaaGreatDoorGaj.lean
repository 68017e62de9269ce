import Derived.Test.YtenjollhlgjjdaaGreatDoorGaa
import Derived.Test.YtenjollhlgjjdaaGreatDoorGai
import Derived.Test.YtenjollhlgjjdaaGreatDoorGaf
import Derived.Test.YtenjollhlgjjdaaGreatDoorGae
import Derived.Lib.ValidLaws
/-    -/
set_option linter.unusedSimpArgs false
set_option linter.unusedVariables false
set_option maxRecDepth 100000
set_option maxHeartbeats 40000000
namespace Go.Proofs.YtenjollhlgjjdaaGreatDoor
open Go.RowKit Go.Lib
theorem enL_snoc (l : List Nat) (r : Nat) : enL (l ++ [r]) = enL l ++ encodeRune (r : Int) := by simp [enL]
theorem enL_cells (l : List Nat) (r : Nat) : Lib.byteCells (enL (l ++ [r])) = Lib.byteCells (enL l) ++ runeCells (r : Int) := by rw [enL_snoc, Lib.byteCells_append, Lib.byteCells_encodeRune]
theorem enL_len (l : List Nat) (r : Nat) : (enL (l ++ [r])).length ≤ (enL l).length + 4 := by
 have := (runeCells_le (r : Int)).2
 rw [enL_snoc, List.length_append, ← runeCells_length]
 omega
theorem bu_new {w : World} {B b : Nat} (hB : B ≤ b) (h : w.heap[b]? = some (.cells #[.pointer none, .slice none 0 0] 183)) : Bu B b (Lib.byteCells (enL [])) w := .inl ⟨hB, _, h, ⟨rfl, .inl ⟨rfl, rfl⟩⟩, by simp [Value.ownBlock]⟩
theorem only_below {w w' : World} (h : Oz w w') : Below w.heap.size w w' := ⟨h.os, h.tape, h.output, h.size, fun k hk => h.block k hk (fun g => g)⟩
def quC (c : Nat) : List Nat := if c = 10 then [92, 110] else if c = 34 ∨ c = 92 then [92, c] else [c]
def quo (l : List Nat) : List Nat := l.flatMap quC
def quoR (s : ByteArray) : ByteArray × Int := if stR s < s.size then (⟨#[]⟩, 8) else if 4096 < s.size then (⟨#[]⟩, 11) else (tx ([34] ++ quo (rns s) ++ [34]), 0)
theorem enL_str : Lib.strCells ⟨#[92, 110]⟩ = Lib.byteCells (enL [92, 110]) := rfl
theorem quo_snoc (l : List Nat) (c : Nat) : quo (l ++ [c]) = quo l ++ quC c := by simp [quo]
theorem quC_len (c : Nat) : (enL (quC c)).length ≤ 8 := by
 have h : ∀ r : Nat, (encodeRune (r : Int)).length ≤ 4 := fun r => by rw [← runeCells_length]; exact (runeCells_le (r : Int)).2
 unfold quC
 split
 ·decide
 ·have h9 : (encodeRune 92).length ≤ 4 := h 92
  have := h c
  split <;> simp [enL] <;> omega
theorem quo_mid (l : List Nat) (c : Nat) (X : List Nat) : tx ([34] ++ quo (l ++ c :: X) ++ [34]) = tx ([34] ++ quo ((l ++ [c]) ++ X) ++ [34]) := by rw [List.append_assoc l [c] X]; rfl
theorem quoted_any (s : ByteArray) (hs : s.size ≤ 1000000000000) (w : World) :
  Cz 165 #[.string s] w fun e w' => e = .returned (.tuple #[.string (quoR s).1, .int .i64 (quoR s).2]) ∧ Hid (Below w.heap.size w w') := by
 have HS : Hid (∀ w1, Cz 173 #[.string s] w1 fun e w' => e = .returned (.int .i64 (stR s : Nat)) ∧ Oz w1 w') := fun w1 => stray_any s hs w1
 unfold quoR
 obtain ⟨z, hz⟩ : ∃ z, z = stR s := ⟨_, rfl⟩
 rw [← hz] at HS ⊢
 clear hz
 by_cases hb : z < s.size
 ·rw [if_pos hb]
  have i2 : (z : Int) < (s.size : Int) := by omega
  go_enter Tryz.func165, Tryz.ntmps165
  go_wp2_with fail
  refine (show Cz 173 _ _ _ from HS.out _).mono ?_
  rintro e w1 ⟨rfl, o1⟩
  have O1 : Hid (Below w.heap.size w w1) := only_below o1
  clear HS o1
  go_wp2
  go_ret2
  exact ⟨rfl, O1.out⟩
 ·rw [if_neg hb]
  have i2 : ¬ (z : Int) < (s.size : Int) := by omega
  by_cases hl : 4096 < s.size
  ·rw [if_pos hl]
   have i1 : (4096 : Int) < (s.size : Int) := by omega
   go_enter Tryz.func165, Tryz.ntmps165
   go_wp2_with fail
   refine (show Cz 173 _ _ _ from HS.out _).mono ?_
   rintro e w1 ⟨rfl, o1⟩
   have O1 : Hid (Below w.heap.size w w1) := only_below o1
   clear HS o1
   go_wp2
   go_ret2
   exact ⟨rfl, O1.out⟩
  ·rw [if_neg hl]
   have i1 : ¬ (4096 : Int) < (s.size : Int) := by omega
   have HX : Hid (∀ (B b : Nat) (out : List Nat) (r : Nat) (W : World), Vr r → Bu B b (Lib.byteCells (enL out)) W → (enL out).length ≤ 100000 → B ≤ W.heap.size → Cz 174 #[.pointer (some ⟨b, 0, none⟩), .int .i32 (r : Int)] W fun e w' => ∃ q, e = .returned (.tuple #[q, .nilIface]) ∧ Bu B b (Lib.byteCells (enL (out ++ [r]))) w' ∧ Kept B b W w') := fun B b out r W hr hu hlen hB => by
    rw [enL_cells]
    exact writeRune_any B b _ r hr W hu (by rw [Lib.byteCells_length]; omega) hB
   have v34 : Hid (Vr 34) := .inl (by decide)
   have v92 : Hid (Vr 92) := .inl (by decide)
   obtain ⟨Z, hZ⟩ : ∃ Z, Z = tx ([34] ++ quo (rns s) ++ [34]) := ⟨_, rfl⟩
   have HZ : Hid (Z = tx ([34] ++ quo ((crs s s.size 0).map (·.2)) ++ [34])) := hZ
   rw [← hZ]
   clear hZ
   go_enter Tryz.func165, Tryz.ntmps165
   go_wp2_with fail
   refine (show Cz 173 _ _ _ from HS.out _).mono ?_
   rintro e w1 ⟨rfl, o1⟩
   have O1 : Hid (Below w.heap.size w w1) := only_below o1
   clear HS o1
   obtain ⟨N, hN⟩ : ∃ N, N = w1.heap.size := ⟨_, rfl⟩
   have B1 : Hid (Bu w.heap.size N (Lib.byteCells (enL [])) (w1.alloc (.cells #[.pointer none, .slice none 0 0] 183)) ∧ Below w.heap.size w (w1.alloc (.cells #[.pointer none, .slice none 0 0] 183))) :=
    ⟨bu_new (by rw [hN]; exact O1.out.size) (alloc_at _ _ _ hN), O1.out.alloc O1.out.size _⟩
   go_wp2_with fail
   rw [← hN]
   clear hN
   refine (show Cz 174 _ _ _ from HX.out w.heap.size N [] 34 _ v34.out B1.out.1 (by decide) B1.out.2.size).mono ?_
   rintro e w2 ⟨q, rfl, g1, g2, g3⟩
   have B2 : Hid (Bu w.heap.size N (Lib.byteCells (enL ([] ++ [34]))) w2 ∧ Below w.heap.size w w2) := ⟨g1, B1.out.2.trans g2⟩
   clear B1 O1 g1 g2 g3
   go_wp2
   obtain ⟨K, hK⟩ : ∃ K, K = w2.heap.size := ⟨_, rfl⟩
   have HNK : Hid (K ≠ N) := by
    have : N < w2.heap.size := by rcases B2.out.1 with h | h <;> exact h.lt
    show K ≠ N
    omega
   have B3 : Hid (Bu w.heap.size N (Lib.byteCells (enL ([34] ++ quo []))) (w2.iter s 0) ∧ (w2.iter s 0).heap[K]? = some (.stringIter s 0) ∧ Below w.heap.size w (w2.iter s 0)) := ⟨B2.out.1.alloc _, alloc_at _ _ _ hK, B2.out.2.alloc B2.out.2.size _⟩
   have HKw : Hid (w.heap.size ≤ K) := by show w.heap.size ≤ K; rw [hK]; exact B2.out.2.size
   rw [← hK]
   clear hK B2
   go_loopw [] (fun wr => ∃ (pos b : Nat) (l : List Nat), Hid (Bu w.heap.size N (Lib.byteCells (enL ([34] ++ quo l))) wr ∧ wr.heap[K]? = some (.stringIter s pos) ∧ Below w.heap.size w wr ∧ Z = tx ([34] ++ quo (l ++ (crs s b pos).map (·.2)) ++ [34]) ∧ s.size ≤ pos + b ∧ (enL ([34] ++ quo l)).length ≤ 1 + 8 * pos ∧ pos ≤ s.size)) (fun wr => s.size - wr.iterPos K)
   case atStart => exact ⟨0, s.size, [], B3.out.1, B3.out.2.1, B3.out.2.2, HZ.out, by omega, by decide, by omega⟩
   case round =>
    obtain ⟨pos, b, l, HI⟩ := hrel
    clear HZ B3
    by_cases hp : pos < s.size
    ·have hnx : ∀ ty, (Instr.next (.pointer (some ⟨K, 0, none⟩)) true ty).run Tryz.prog wr = _ := fun ty => run_next_any_at wr K s pos ty HI.out.2.1 hp
     have hwd := wid_pos s pos hp
     have hwp := decode_wd s pos hp
     obtain ⟨b', hb', hcr⟩ := crs_go hp HI.out.2.2.2.2.1
     have hvr := decode_vr s pos
     have hdl := decode_le s pos
     obtain ⟨c, hc⟩ : ∃ c, c = (Utf8.decode s pos).1 := ⟨_, rfl⟩
     obtain ⟨wd, hw⟩ : ∃ c, c = (Utf8.decode s pos).2 := ⟨_, rfl⟩
     rw [← hc, ← hw] at hnx hcr
     rw [← hc] at hvr hdl
     rw [← hw] at hwd hwp
     have HV : Hid (Vr c) := hvr
     have hmp : wr.iterPos K = pos := by simp only [World.iterPos, HI.out.2.1]
     have HJ : Hid (Bu w.heap.size N (Lib.byteCells (enL ([34] ++ quo l))) (wr.iterAt K s (pos + wd)) ∧ (wr.iterAt K s (pos + wd)).heap[K]? = some (.stringIter s (pos + wd)) ∧ Below w.heap.size w (wr.iterAt K s (pos + wd)) ∧ Z = tx ([34] ++ quo (l ++ (c :: (crs s b' (pos + wd)).map (·.2))) ++ [34]) ∧ s.size ≤ pos + wd + b' ∧ (enL ([34] ++ quo l)).length ≤ 1 + 8 * pos) := by
      obtain ⟨j1, j2, j3, j4, j5, j6, j7⟩ := HI.out
      exact ⟨j1.iterAt j2 _, iterAt_heap _ _ _ _ _ j2, below_iterAt j3 HKw.out _ _, by rw [j4, hcr]; rfl, by omega, j6⟩
     have HT : Hid ((enL ([34] ++ quo (l ++ [c]))).length ≤ 1 + 8 * (pos + wd)) := by
      have j6 := HI.out.2.2.2.2.2.1
      have := quC_len c
      show _ ≤ _
      rw [quo_snoc, ← List.append_assoc, enL_app, List.length_append]
      omega
     have HT2 : Hid ((enL ([34] ++ quo l)).length ≤ 50000) := by
      have j6 := HI.out.2.2.2.2.2.1
      have j7 := HI.out.2.2.2.2.2.2
      show _ ≤ _
      omega
     clear HI hc hw hcr hb' hvr
     obtain ⟨W2, hW2⟩ : ∃ W2, W2 = wr.iterAt K s (pos + wd) := ⟨_, rfl⟩
     rw [← hW2] at hnx HJ
     clear hW2
     by_cases h10 : c = 10
     ·have HQ : Hid (Lib.byteCells (enL ([34] ++ quo (l ++ [c]))) = Lib.byteCells (enL ([34] ++ quo l)) ++ Lib.strCells ⟨#[92, 110]⟩) := by
       show _ = _
       rw [quo_snoc, ← List.append_assoc, enL_app, Lib.byteCells_append, enL_str, h10]
       rfl
      have HR : Hid (Cz 116 #[.pointer (some ⟨N, 0, none⟩), .string ⟨#[92, 110]⟩] W2 fun e w' => ∃ q, e = .returned (.tuple #[q, .nilIface]) ∧ Bu w.heap.size N (Lib.byteCells (enL ([34] ++ quo l)) ++ Lib.strCells ⟨#[92, 110]⟩) w' ∧ Kept w.heap.size N W2 w') := writeString_any w.heap.size N _ ⟨#[92, 110]⟩ W2 HJ.out.1 (by rw [Lib.byteCells_length]; have := HT2.out; show _ + 2 ≤ _; omega) HJ.out.2.2.1.size
      subst h10
      go_wp2_with fail
      refine (show Cz 116 _ _ _ from HR.out).mono ?_
      rintro e W9 ⟨q9, rfl, g1, g2, g3⟩
      clear HR
      have HK : Hid (Bu w.heap.size N (Lib.byteCells (enL ([34] ++ quo (l ++ [10])))) W9 ∧ W9.heap[K]? = some (.stringIter s (pos + wd)) ∧ Below w.heap.size w W9 ∧ Z = tx ([34] ++ quo ((l ++ [10]) ++ (crs s b' (pos + wd)).map (·.2)) ++ [34]) ∧ s.size ≤ pos + wd + b' ∧ (enL ([34] ++ quo (l ++ [10]))).length ≤ 1 + 8 * (pos + wd) ∧ pos + wd ≤ s.size) :=
       ⟨by rw [HQ.out]; exact g1, g3.iter HJ.out.2.1 HNK.out, HJ.out.2.2.1.trans g2, HJ.out.2.2.2.1.trans (quo_mid l 10 _), HJ.out.2.2.2.2.1, HT.out, hwp⟩
      clear g1 g2 g3 HQ
      clear HJ
      go_wp2
      go_roundw
      case rel => exact ⟨pos + wd, b', l ++ [10], HK⟩
      case measure => have e1 : W9.iterPos K = pos + wd := by simp only [World.iterPos, HK.out.2.1]
                      omega
     ·have i10 : ¬ (c : Int) = 10 := by omega
      by_cases h34 : c = 34 ∨ c = 92
      ·have HQ : Hid (enL ([34] ++ quo (l ++ [c])) = enL ([34] ++ quo l ++ [92] ++ [c])) := by
        show _ = _
        rw [quo_snoc, quC, if_neg h10, if_pos h34]
        simp [List.append_assoc]
       have HC1 : Hid (Cz 174 _ _ _) := HX.out w.heap.size N ([34] ++ quo l) 92 W2 v92.out HJ.out.1 (by have := HT2.out; show _ ≤ _; omega) HJ.out.2.2.1.size
       rcases h34 with h34 | h92
       ·subst h34
        clear h10
        go_wp2_with fail
        refine (show Cz 174 _ _ _ from HC1.out).mono ?_
        rintro e W8 ⟨q8, rfl, k1, k2, k3⟩
        have HB8 : Hid (Below w.heap.size w W8 ∧ W8.heap[K]? = some (.stringIter s (pos + wd))) := ⟨HJ.out.2.2.1.trans k2, k3.iter HJ.out.2.1 HNK.out⟩
        have HC2 : Hid (Cz 174 _ _ _) := HX.out w.heap.size N ([34] ++ quo l ++ [92]) 34 W8 HV.out k1 (by have := HT2.out; have := enL_len ([34] ++ quo l) 92; show _ ≤ _; omega) HB8.out.1.size
        clear HC1 k1 k2 k3
        go_wp2_with fail
        refine (show Cz 174 _ _ _ from HC2.out).mono ?_
        rintro e W9 ⟨q9, rfl, g1, g2, g3⟩
        have HK : Hid (Bu w.heap.size N (Lib.byteCells (enL ([34] ++ quo (l ++ [34])))) W9 ∧ W9.heap[K]? = some (.stringIter s (pos + wd)) ∧ Below w.heap.size w W9 ∧ Z = tx ([34] ++ quo ((l ++ [34]) ++ (crs s b' (pos + wd)).map (·.2)) ++ [34]) ∧ s.size ≤ pos + wd + b' ∧ (enL ([34] ++ quo (l ++ [34]))).length ≤ 1 + 8 * (pos + wd) ∧ pos + wd ≤ s.size) :=
         ⟨by rw [HQ.out]; exact g1, g3.iter HB8.out.2 HNK.out, HB8.out.1.trans g2, HJ.out.2.2.2.1.trans (quo_mid l 34 _), HJ.out.2.2.2.2.1, HT.out, hwp⟩
        clear g1 g2 g3 HQ HC2 HB8
        clear HJ
        go_wp2
        go_roundw
        case rel => exact ⟨pos + wd, b', l ++ [34], HK⟩
        case measure => have e1 : W9.iterPos K = pos + wd := by simp only [World.iterPos, HK.out.2.1]
                        omega
       ·subst h92
        clear h10
        go_wp2_with fail
        refine (show Cz 174 _ _ _ from HC1.out).mono ?_
        rintro e W8 ⟨q8, rfl, k1, k2, k3⟩
        have HB8 : Hid (Below w.heap.size w W8 ∧ W8.heap[K]? = some (.stringIter s (pos + wd))) := ⟨HJ.out.2.2.1.trans k2, k3.iter HJ.out.2.1 HNK.out⟩
        have HC2 : Hid (Cz 174 _ _ _) := HX.out w.heap.size N ([34] ++ quo l ++ [92]) 92 W8 HV.out k1 (by have := HT2.out; have := enL_len ([34] ++ quo l) 92; show _ ≤ _; omega) HB8.out.1.size
        clear HC1 k1 k2 k3
        go_wp2_with fail
        refine (show Cz 174 _ _ _ from HC2.out).mono ?_
        rintro e W9 ⟨q9, rfl, g1, g2, g3⟩
        have HK : Hid (Bu w.heap.size N (Lib.byteCells (enL ([34] ++ quo (l ++ [92])))) W9 ∧ W9.heap[K]? = some (.stringIter s (pos + wd)) ∧ Below w.heap.size w W9 ∧ Z = tx ([34] ++ quo ((l ++ [92]) ++ (crs s b' (pos + wd)).map (·.2)) ++ [34]) ∧ s.size ≤ pos + wd + b' ∧ (enL ([34] ++ quo (l ++ [92]))).length ≤ 1 + 8 * (pos + wd) ∧ pos + wd ≤ s.size) :=
         ⟨by rw [HQ.out]; exact g1, g3.iter HB8.out.2 HNK.out, HB8.out.1.trans g2, HJ.out.2.2.2.1.trans (quo_mid l 92 _), HJ.out.2.2.2.2.1, HT.out, hwp⟩
        clear g1 g2 g3 HQ HC2 HB8
        clear HJ
        go_wp2
        go_roundw
        case rel => exact ⟨pos + wd, b', l ++ [92], HK⟩
        case measure => have e1 : W9.iterPos K = pos + wd := by simp only [World.iterPos, HK.out.2.1]
                        omega
      ·have h34' : ¬ (c : Int) = 34 := by omega
       have h92' : ¬ (c : Int) = 92 := by omega
       have HQ : Hid (enL ([34] ++ quo (l ++ [c])) = enL ([34] ++ quo l ++ [c])) := by
        show _ = _
        rw [quo_snoc, quC, if_neg h10, if_neg h34]
        simp [List.append_assoc]
       clear h34 h10
       go_wp2_with fail
       refine (show Cz 174 _ _ _ from HX.out w.heap.size N ([34] ++ quo l) c _ HV.out HJ.out.1 (by have := HT2.out; show _ ≤ _; omega) HJ.out.2.2.1.size).mono ?_
       rintro e W9 ⟨q9, rfl, g1, g2, g3⟩
       have HK : Hid (Bu w.heap.size N (Lib.byteCells (enL ([34] ++ quo (l ++ [c])))) W9 ∧ W9.heap[K]? = some (.stringIter s (pos + wd)) ∧ Below w.heap.size w W9 ∧ Z = tx ([34] ++ quo ((l ++ [c]) ++ (crs s b' (pos + wd)).map (·.2)) ++ [34]) ∧ s.size ≤ pos + wd + b' ∧ (enL ([34] ++ quo (l ++ [c]))).length ≤ 1 + 8 * (pos + wd) ∧ pos + wd ≤ s.size) :=
        ⟨by rw [HQ.out]; exact g1, g3.iter HJ.out.2.1 HNK.out, HJ.out.2.2.1.trans g2, HJ.out.2.2.2.1.trans (quo_mid l c _), HJ.out.2.2.2.2.1, HT.out, hwp⟩
       clear g1 g2 g3 HQ
       clear HJ
       go_wp2
       go_roundw
       case rel => exact ⟨pos + wd, b', l ++ [c], HK⟩
       case measure => have e1 : W9.iterPos K = pos + wd := by simp only [World.iterPos, HK.out.2.1]
                       omega
    ·have hnx : ∀ ty, (Instr.next (.pointer (some ⟨K, 0, none⟩)) true ty).run Tryz.prog wr = _ := fun ty => run_next_end_at wr K s pos ty HI.out.2.1 hp
     have HE : Hid (Z = tx ([34] ++ quo l ++ [34])) := by
      show Z = _
      rw [HI.out.2.2.2.1, crs_end hp, List.map_nil, List.append_nil]
     have HT2 : Hid ((enL ([34] ++ quo l)).length ≤ 50000) := by
      have j6 := HI.out.2.2.2.2.2.1
      have j7 := HI.out.2.2.2.2.2.2
      show _ ≤ _
      omega
     go_wp2_with fail
     refine (show Cz 174 _ _ _ from HX.out w.heap.size N ([34] ++ quo l) 34 _ v34.out HI.out.1 (by have := HT2.out; show _ ≤ _; omega) HI.out.2.2.1.size).mono ?_
     rintro e W8 ⟨q9, rfl, g1, g2, g3⟩
     have HB : Hid (Below w.heap.size w W8) := HI.out.2.2.1.trans g2
     have HSt : Hid (Cz 117 #[.pointer (some ⟨N, 0, none⟩)] W8 fun e w' => e = .returned (.string (tx ([34] ++ quo l ++ [34]))) ∧ (IsBuilderF 183 5 w.heap.size N (Lib.byteCells (enL ([34] ++ quo l ++ [34]))) w' ∧ Below w.heap.size W8 w' ∧ OthersKept 5 (some N) W8 w')) := Tryz.Builder_String_any_k w.heap.size N (enL ([34] ++ quo l ++ [34])) W8 g1 HB.out.size
     rw [← show Z = _ from HE.out] at HSt
     clear g1 g2 g3 HI
     go_wp2_with fail
     refine (show Cz 117 _ _ _ from HSt.out).mono ?_
     rintro e W9 ⟨rfl, g1, g2, g3⟩
     have HB2 : Hid (Below w.heap.size w W9) := HB.out.trans g2
     clear HSt g1 g2 g3
     go_wp2
     go_ret2
     exact ⟨rfl, HB2.out⟩
def saL (k na nb : Int) (sa sb : ByteArray) : Bool := if k = 1 ∨ k = 6 then na == nb else if k = 3 then (na != 0) == (nb != 0) else if k = 2 ∨ k = 7 then sa.toList == sb.toList else true
def saV : Nat → Vt → Vt → Bool
 | 0, _, _ => false
 | d + 1, a, b => decide (a.k = b.k) && decide (a.l.length = b.l.length) && saL a.k a.n b.n a.s b.s && smL (saV d) a.l b.l
def DaC (d : Nat) : Prop := ∀ (la lb : List Vt) (va vb : Value) (w : World) (S S' : Nat → Prop), VsAt w S d la va → VsAt w S' d lb vb → la.length ≤ 1048576 → lb.length ≤ 1048576 → (∀ x ∈ la, ∃ e, SmT e x) → (∀ x ∈ lb, ∃ e, SmT e x) → Cz 9 #[va, vb] w fun e w' => e = .returned (.bool (smL (saV (d - 1)) la lb)) ∧ Oz w w'
def DmC (d : Nat) : Prop := ∀ (a b : Vt) (va vb : Value) (w : World) (S S' : Nat → Prop), VsAt w S d a.l va → VsAt w S' d b.l vb → (∃ e, SmT e a) → (∃ e, SmT e b) → Cz 22 #[.agg #[.int .i64 a.k, .int .i64 a.n, .string a.s, va], .agg #[.int .i64 b.k, .int .i64 b.n, .string b.s, vb]] w fun e w' => e = .returned (.bool (saV d a b)) ∧ Oz w w'
theorem samed_ne (ka na kb nb : Int) (sa sb : ByteArray) (a1 a2 : Option Addr) (La Lb c1 c2 : Nat) (w : World) (h : ¬ ka = kb ∨ ¬ (La : Int) = (Lb : Int)) :
  Cz 22 #[.agg #[.int .i64 ka, .int .i64 na, .string sa, .slice a1 La c1], .agg #[.int .i64 kb, .int .i64 nb, .string sb, .slice a2 Lb c2]] w fun e w' => e = .returned (.bool false) ∧ Oz w w' := by
 have O0 : Hid (Oz w w) := Only.refl _ _
 by_cases hk : ka = kb
 ·have h2 : ¬ (La : Int) = (Lb : Int) := by
   rcases h with h | h
   ·exact absurd hk h
   ·exact h
  subst hk
  clear h
  go_enter Tryz.func22, Tryz.ntmps22
  go_wp2
  go_ret
  exact ⟨rfl, (O0.out.alloc _).alloc _⟩
 ·clear h
  go_enter Tryz.func22, Tryz.ntmps22
  go_wp2
  go_ret
  exact ⟨rfl, (O0.out.alloc _).alloc _⟩
theorem samed_1n (na nb : Int) (sa sb : ByteArray) (a1 a2 : Option Addr) (L c1 c2 : Nat) (R : Bool) (w : World) (HC0 : ∀ w1, Oz w w1 → Cz 9 #[.slice a1 L c1, .slice a2 L c2] w1 fun e w' => e = .returned (.bool R) ∧ Oz w1 w') (h : ¬ na = nb) :
  Cz 22 #[.agg #[.int .i64 1, .int .i64 na, .string sa, .slice a1 L c1], .agg #[.int .i64 1, .int .i64 nb, .string sb, .slice a2 L c2]] w fun e w' => e = .returned (.bool false) ∧ Oz w w' := by
 have O0 : Hid (Oz w w) := Only.refl _ _
 clear HC0
 go_enter Tryz.func22, Tryz.ntmps22
 go_wp2
 go_ret
 exact ⟨rfl, (O0.out.alloc _).alloc _⟩
theorem samed_1y (na : Int) (sa sb : ByteArray) (a1 a2 : Option Addr) (L c1 c2 : Nat) (R : Bool) (w : World) (HC0 : ∀ w1, Oz w w1 → Cz 9 #[.slice a1 L c1, .slice a2 L c2] w1 fun e w' => e = .returned (.bool R) ∧ Oz w1 w') :
  Cz 22 #[.agg #[.int .i64 1, .int .i64 na, .string sa, .slice a1 L c1], .agg #[.int .i64 1, .int .i64 na, .string sb, .slice a2 L c2]] w fun e w' => e = .returned (.bool R) ∧ Oz w w' := by
 have O0 : Hid (Oz w w) := Only.refl _ _
 have HC : Hid (∀ w1, Oz w w1 → Cz 9 #[.slice a1 L c1, .slice a2 L c2] w1 fun e w' => e = .returned (.bool R) ∧ Oz w1 w') := HC0
 clear HC0
 go_enter Tryz.func22, Tryz.ntmps22
 go_wp2_with fail
 refine (show Cz 9 _ _ _ from HC.out _ ((O0.out.alloc _).alloc _)).mono ?_
 rintro e w1 ⟨rfl, o1⟩
 have O1 : Hid (Oz w w1) := ((O0.out.alloc _).alloc _).trans o1 (fun _ _ g => g)
 clear HC o1
 go_wp2
 go_ret
 exact ⟨rfl, O1.out⟩
theorem samed_6n (na nb : Int) (sa sb : ByteArray) (a1 a2 : Option Addr) (L c1 c2 : Nat) (R : Bool) (w : World) (HC0 : ∀ w1, Oz w w1 → Cz 9 #[.slice a1 L c1, .slice a2 L c2] w1 fun e w' => e = .returned (.bool R) ∧ Oz w1 w') (h : ¬ na = nb) :
  Cz 22 #[.agg #[.int .i64 6, .int .i64 na, .string sa, .slice a1 L c1], .agg #[.int .i64 6, .int .i64 nb, .string sb, .slice a2 L c2]] w fun e w' => e = .returned (.bool false) ∧ Oz w w' := by
 have O0 : Hid (Oz w w) := Only.refl _ _
 clear HC0
 go_enter Tryz.func22, Tryz.ntmps22
 go_wp2
 go_ret
 exact ⟨rfl, (O0.out.alloc _).alloc _⟩
theorem samed_6y (na : Int) (sa sb : ByteArray) (a1 a2 : Option Addr) (L c1 c2 : Nat) (R : Bool) (w : World) (HC0 : ∀ w1, Oz w w1 → Cz 9 #[.slice a1 L c1, .slice a2 L c2] w1 fun e w' => e = .returned (.bool R) ∧ Oz w1 w') :
  Cz 22 #[.agg #[.int .i64 6, .int .i64 na, .string sa, .slice a1 L c1], .agg #[.int .i64 6, .int .i64 na, .string sb, .slice a2 L c2]] w fun e w' => e = .returned (.bool R) ∧ Oz w w' := by
 have O0 : Hid (Oz w w) := Only.refl _ _
 have HC : Hid (∀ w1, Oz w w1 → Cz 9 #[.slice a1 L c1, .slice a2 L c2] w1 fun e w' => e = .returned (.bool R) ∧ Oz w1 w') := HC0
 clear HC0
 go_enter Tryz.func22, Tryz.ntmps22
 go_wp2_with fail
 refine (show Cz 9 _ _ _ from HC.out _ ((O0.out.alloc _).alloc _)).mono ?_
 rintro e w1 ⟨rfl, o1⟩
 have O1 : Hid (Oz w w1) := ((O0.out.alloc _).alloc _).trans o1 (fun _ _ g => g)
 clear HC o1
 go_wp2
 go_ret
 exact ⟨rfl, O1.out⟩
theorem samed_2n (na nb : Int) (sa sb : ByteArray) (a1 a2 : Option Addr) (L c1 c2 : Nat) (R : Bool) (w : World) (HC0 : ∀ w1, Oz w w1 → Cz 9 #[.slice a1 L c1, .slice a2 L c2] w1 fun e w' => e = .returned (.bool R) ∧ Oz w1 w') (h : (sa.toList == sb.toList) = false) :
  Cz 22 #[.agg #[.int .i64 2, .int .i64 na, .string sa, .slice a1 L c1], .agg #[.int .i64 2, .int .i64 nb, .string sb, .slice a2 L c2]] w fun e w' => e = .returned (.bool false) ∧ Oz w w' := by
 have O0 : Hid (Oz w w) := Only.refl _ _
 clear HC0
 go_enter Tryz.func22, Tryz.ntmps22
 go_wp2
 go_ret
 exact ⟨rfl, (O0.out.alloc _).alloc _⟩
theorem samed_2y (na nb : Int) (sa sb : ByteArray) (a1 a2 : Option Addr) (L c1 c2 : Nat) (R : Bool) (w : World) (HC0 : ∀ w1, Oz w w1 → Cz 9 #[.slice a1 L c1, .slice a2 L c2] w1 fun e w' => e = .returned (.bool R) ∧ Oz w1 w') (h : (sa.toList == sb.toList) = true) :
  Cz 22 #[.agg #[.int .i64 2, .int .i64 na, .string sa, .slice a1 L c1], .agg #[.int .i64 2, .int .i64 nb, .string sb, .slice a2 L c2]] w fun e w' => e = .returned (.bool R) ∧ Oz w w' := by
 have O0 : Hid (Oz w w) := Only.refl _ _
 have HC : Hid (∀ w1, Oz w w1 → Cz 9 #[.slice a1 L c1, .slice a2 L c2] w1 fun e w' => e = .returned (.bool R) ∧ Oz w1 w') := HC0
 clear HC0
 go_enter Tryz.func22, Tryz.ntmps22
 go_wp2_with fail
 refine (show Cz 9 _ _ _ from HC.out _ ((O0.out.alloc _).alloc _)).mono ?_
 rintro e w1 ⟨rfl, o1⟩
 have O1 : Hid (Oz w w1) := ((O0.out.alloc _).alloc _).trans o1 (fun _ _ g => g)
 clear HC o1
 go_wp2
 go_ret
 exact ⟨rfl, O1.out⟩
theorem samed_7n (na nb : Int) (sa sb : ByteArray) (a1 a2 : Option Addr) (L c1 c2 : Nat) (R : Bool) (w : World) (HC0 : ∀ w1, Oz w w1 → Cz 9 #[.slice a1 L c1, .slice a2 L c2] w1 fun e w' => e = .returned (.bool R) ∧ Oz w1 w') (h : (sa.toList == sb.toList) = false) :
  Cz 22 #[.agg #[.int .i64 7, .int .i64 na, .string sa, .slice a1 L c1], .agg #[.int .i64 7, .int .i64 nb, .string sb, .slice a2 L c2]] w fun e w' => e = .returned (.bool false) ∧ Oz w w' := by
 have O0 : Hid (Oz w w) := Only.refl _ _
 clear HC0
 go_enter Tryz.func22, Tryz.ntmps22
 go_wp2
 go_ret
 exact ⟨rfl, (O0.out.alloc _).alloc _⟩
theorem samed_7y (na nb : Int) (sa sb : ByteArray) (a1 a2 : Option Addr) (L c1 c2 : Nat) (R : Bool) (w : World) (HC0 : ∀ w1, Oz w w1 → Cz 9 #[.slice a1 L c1, .slice a2 L c2] w1 fun e w' => e = .returned (.bool R) ∧ Oz w1 w') (h : (sa.toList == sb.toList) = true) :
  Cz 22 #[.agg #[.int .i64 7, .int .i64 na, .string sa, .slice a1 L c1], .agg #[.int .i64 7, .int .i64 nb, .string sb, .slice a2 L c2]] w fun e w' => e = .returned (.bool R) ∧ Oz w w' := by
 have O0 : Hid (Oz w w) := Only.refl _ _
 have HC : Hid (∀ w1, Oz w w1 → Cz 9 #[.slice a1 L c1, .slice a2 L c2] w1 fun e w' => e = .returned (.bool R) ∧ Oz w1 w') := HC0
 clear HC0
 go_enter Tryz.func22, Tryz.ntmps22
 go_wp2_with fail
 refine (show Cz 9 _ _ _ from HC.out _ ((O0.out.alloc _).alloc _)).mono ?_
 rintro e w1 ⟨rfl, o1⟩
 have O1 : Hid (Oz w w1) := ((O0.out.alloc _).alloc _).trans o1 (fun _ _ g => g)
 clear HC o1
 go_wp2
 go_ret
 exact ⟨rfl, O1.out⟩
theorem samed_3y (na nb : Int) (sa sb : ByteArray) (a1 a2 : Option Addr) (L c1 c2 : Nat) (R : Bool) (w : World) (HC0 : ∀ w1, Oz w w1 → Cz 9 #[.slice a1 L c1, .slice a2 L c2] w1 fun e w' => e = .returned (.bool R) ∧ Oz w1 w') (h : (!((na != 0) == (nb != 0))) = false) :
  Cz 22 #[.agg #[.int .i64 3, .int .i64 na, .string sa, .slice a1 L c1], .agg #[.int .i64 3, .int .i64 nb, .string sb, .slice a2 L c2]] w fun e w' => e = .returned (.bool R) ∧ Oz w w' := by
 have O0 : Hid (Oz w w) := Only.refl _ _
 have HC : Hid (∀ w1, Oz w w1 → Cz 9 #[.slice a1 L c1, .slice a2 L c2] w1 fun e w' => e = .returned (.bool R) ∧ Oz w1 w') := HC0
 clear HC0
 go_enter Tryz.func22, Tryz.ntmps22
 go_wp2_with fail
 refine (show Cz 9 _ _ _ from HC.out _ ((O0.out.alloc _).alloc _)).mono ?_
 rintro e w1 ⟨rfl, o1⟩
 have O1 : Hid (Oz w w1) := ((O0.out.alloc _).alloc _).trans o1 (fun _ _ g => g)
 clear HC o1
 go_wp2
 go_ret
 exact ⟨rfl, O1.out⟩
theorem samed_3n (na nb : Int) (sa sb : ByteArray) (a1 a2 : Option Addr) (L c1 c2 : Nat) (R : Bool) (w : World) (HC0 : ∀ w1, Oz w w1 → Cz 9 #[.slice a1 L c1, .slice a2 L c2] w1 fun e w' => e = .returned (.bool R) ∧ Oz w1 w') (h : (!((na != 0) == (nb != 0))) = true) :
  Cz 22 #[.agg #[.int .i64 3, .int .i64 na, .string sa, .slice a1 L c1], .agg #[.int .i64 3, .int .i64 nb, .string sb, .slice a2 L c2]] w fun e w' => e = .returned (.bool false) ∧ Oz w w' := by
 have O0 : Hid (Oz w w) := Only.refl _ _
 clear HC0
 go_enter Tryz.func22, Tryz.ntmps22
 go_wp2
 go_ret
 exact ⟨rfl, (O0.out.alloc _).alloc _⟩
theorem samed_o (k na nb : Int) (sa sb : ByteArray) (a1 a2 : Option Addr) (L c1 c2 : Nat) (R : Bool) (w : World) (HC0 : ∀ w1, Oz w w1 → Cz 9 #[.slice a1 L c1, .slice a2 L c2] w1 fun e w' => e = .returned (.bool R) ∧ Oz w1 w') (h1 : ¬ k = 1) (h2 : ¬ k = 2) (h3 : ¬ k = 3) (h6 : ¬ k = 6) (h7 : ¬ k = 7) :
  Cz 22 #[.agg #[.int .i64 k, .int .i64 na, .string sa, .slice a1 L c1], .agg #[.int .i64 k, .int .i64 nb, .string sb, .slice a2 L c2]] w fun e w' => e = .returned (.bool R) ∧ Oz w w' := by
 have O0 : Hid (Oz w w) := Only.refl _ _
 have HC : Hid (∀ w1, Oz w w1 → Cz 9 #[.slice a1 L c1, .slice a2 L c2] w1 fun e w' => e = .returned (.bool R) ∧ Oz w1 w') := HC0
 clear HC0
 go_enter Tryz.func22, Tryz.ntmps22
 go_wp2_with fail
 refine (show Cz 9 _ _ _ from HC.out _ ((O0.out.alloc _).alloc _)).mono ?_
 rintro e w1 ⟨rfl, o1⟩
 have O1 : Hid (Oz w w1) := ((O0.out.alloc _).alloc _).trans o1 (fun _ _ g => g)
 clear HC o1
 go_wp2
 go_ret
 exact ⟨rfl, O1.out⟩
theorem SmT.subs {e : Nat} {t : Vt} (h : SmT e t) : t.l.length ≤ 1048576 ∧ ∀ x ∈ t.l, ∃ e, SmT e x := by
 cases e with
 | zero => exact h.elim
 | succ e => exact ⟨h.2.1, fun x hx => ⟨e, h.2.2.2.2 x hx⟩⟩
theorem dsame_of (d : Nat) (H : DaC (d + 1)) : DmC (d + 1) := by
 intro a b va vb w S S' h1 h2 ⟨e1, g1⟩ ⟨e2, g2⟩
 obtain ⟨a1, c1, rfl⟩ := h1.form
 obtain ⟨a2, c2, rfl⟩ := h2.form
 unfold saV
 by_cases hk : a.k = b.k
 ·by_cases hl : a.l.length = b.l.length
  ·have hc : ∀ w1, Oz w w1 → Cz 9 #[.slice a1 a.l.length c1, .slice a2 a.l.length c2] w1 fun e w' => e = .returned (.bool (smL (saV d) a.l b.l)) ∧ Oz w1 w' := fun w1 o1 => by
    have := H a.l b.l _ _ w1 S S' (h1.only o1) (h2.only o1) g1.subs.1 g2.subs.1 g1.subs.2 g2.subs.2
    rw [← hl] at this
    exact this
   rw [← hk, ← hl, decide_eq_true rfl, decide_eq_true rfl, Bool.true_and, Bool.true_and]
   generalize smL (saV d) a.l b.l = R at hc ⊢
   generalize a.l.length = L at hc ⊢
   generalize a.k = k at *
   unfold saL
   by_cases k1 : k = 1
   ·subst k1
    rw [if_pos (.inl rfl)]
    by_cases hn : a.n = b.n
    ·rw [← hn, beq_self_eq_true, Bool.true_and]; exact samed_1y _ _ _ _ _ _ _ _ R w hc
    ·rw [beq_false_of_ne hn, Bool.false_and]; exact samed_1n _ _ _ _ _ _ _ _ _ R w hc hn
   by_cases k6 : k = 6
   ·subst k6
    rw [if_pos (.inr rfl)]
    by_cases hn : a.n = b.n
    ·rw [← hn, beq_self_eq_true, Bool.true_and]; exact samed_6y _ _ _ _ _ _ _ _ R w hc
    ·rw [beq_false_of_ne hn, Bool.false_and]; exact samed_6n _ _ _ _ _ _ _ _ _ R w hc hn
   rw [if_neg (fun g => g.elim k1 k6)]
   by_cases k3 : k = 3
   ·subst k3
    rw [if_pos rfl]
    cases hn : ((a.n != 0) == (b.n != 0)) with
    | true => rw [Bool.true_and]; exact samed_3y _ _ _ _ _ _ _ _ _ R w hc (by rw [hn]; rfl)
    | false => rw [Bool.false_and]; exact samed_3n _ _ _ _ _ _ _ _ _ R w hc (by rw [hn]; rfl)
   rw [if_neg k3]
   by_cases k2 : k = 2
   ·subst k2
    rw [if_pos (.inl rfl)]
    cases hn : (a.s.toList == b.s.toList) with
    | true => rw [Bool.true_and]; exact samed_2y _ _ _ _ _ _ _ _ _ R w hc hn
    | false => rw [Bool.false_and]; exact samed_2n _ _ _ _ _ _ _ _ _ R w hc hn
   by_cases k7 : k = 7
   ·subst k7
    rw [if_pos (.inr rfl)]
    cases hn : (a.s.toList == b.s.toList) with
    | true => rw [Bool.true_and]; exact samed_7y _ _ _ _ _ _ _ _ _ R w hc hn
    | false => rw [Bool.false_and]; exact samed_7n _ _ _ _ _ _ _ _ _ R w hc hn
   rw [if_neg (fun g => g.elim k2 k7), Bool.true_and]
   exact samed_o k _ _ _ _ _ _ _ _ _ R w hc k1 k2 k3 k6 k7
  ·rw [decide_eq_false hl, Bool.and_false, Bool.false_and, Bool.false_and]
   exact samed_ne _ _ _ _ _ _ _ _ _ _ _ _ w (.inr (by omega))
 ·rw [decide_eq_false hk, Bool.false_and, Bool.false_and, Bool.false_and]
  exact samed_ne _ _ _ _ _ _ _ _ _ _ _ _ w (.inl hk)
theorem validD_enL : ∀ (q : List Nat), VL q → validD (enL q) = true
 | [], _ => rfl
 | c :: q, h => by
   have hc : Vr c := h c (List.mem_cons_self ..)
   have e : enL (c :: q) = encodeRune (c : Int) ++ enL q := by simp [enL]
   have hd := decodeL_enc hc (enL q)
   have hw := wr_pos c
   have hne : enL (c :: q) ≠ [] := by
    rw [e]
    intro g
    have := congrArg List.length g
    rw [List.length_append, List.length_nil] at this
    unfold wr at hw
    omega
   rw [validD_step _ hne, e, hd]
   have h1 : ¬ (c = 65533 ∧ wr c = 1) := by
    rintro ⟨rfl, h⟩
    exact absurd h (by decide)
   rw [if_neg h1, show wr c = (encodeRune (c : Int)).length from rfl, List.drop_left]
   exact validD_enL q (fun x hx => h x (List.mem_cons_of_mem _ hx))
theorem validD_runes : ∀ (n : Nat) (l : List UInt8), l.length ≤ n → validD l = true → ∃ q, VL q ∧ l = enL q
 | 0, l, h, _ => ⟨[], fun c hc => by simp at hc, (List.length_eq_zero_iff.1 (Nat.le_zero.1 h)).trans rfl⟩
 | n + 1, l, h, hv => by
   by_cases hne : l = []
   ·exact ⟨[], fun c hc => by simp at hc, by rw [hne]; rfl⟩
   ·rw [validD_step _ hne] at hv
    by_cases hb : (decodeL l).1 = 65533 ∧ (decodeL l).2 = 1
    ·rw [if_pos hb] at hv
     exact absurd hv (by decide)
    ·rw [if_neg hb] at hv
     have he := encode_decode _ hne hb
     have hp : 1 ≤ (decodeL l).2 := by
      by_cases h0 : (decodeL l).2 = 0
      ·rw [h0, List.take_zero] at he
       have := wr_pos (decodeL l).1
       unfold wr at this
       rw [he] at this
       simp at this
      ·omega
     have hl : 0 < l.length := List.length_pos_iff.2 hne
     obtain ⟨q, hq, e⟩ := validD_runes n (l.drop (decodeL l).2) (by rw [List.length_drop]; omega) hv
     refine ⟨(decodeL l).1 :: q, fun c hc => ?_, ?_⟩
     ·rcases List.mem_cons.1 hc with rfl | hc
      ·exact decode_vr _ _
      ·exact hq c hc
     ·rw [show enL ((decodeL l).1 :: q) = encodeRune ((decodeL l).1 : Int) ++ enL q by simp [enL], he, ← e, List.take_append_drop]
theorem vl_st (s : ByteArray) : vlB s = true ↔ ¬ stR s < s.size := by
 unfold vlB
 constructor
 ·intro h
  obtain ⟨q, hq, e⟩ := validD_runes _ _ (Nat.le_refl _) h
  rw [tx_inj e]
  exact stR_tx hq
 ·intro h
  obtain ⟨q, hq, rfl⟩ := valid_tx h
  rw [tx_data]
  exact validD_enL q hq
def LfT : Nat → Vt → Prop
 | 0, _ => False
 | d + 1, t => (¬ (t.k = 4 ∨ t.k = 5) → t.l = []) ∧ ∀ x ∈ t.l, LfT d x
theorem nm_lf : ∀ (d : Nat) (i : Bool) (t : Vt), SmT d t → LfT d (nm d i t)
 | 0, _, _, h => h.elim
 | d + 1, i, t, h => by
   obtain ⟨k, n, s, l⟩ := t
   obtain ⟨h1, h2, h3, h4, h5⟩ := h
   dsimp only at h5
   unfold nm
   dsimp only
   split
   ·exact ⟨fun _ => rfl, fun x hx => by cases hx⟩
   split
   ·exact ⟨fun _ => rfl, fun x hx => by cases hx⟩
   split
   ·exact ⟨fun _ => rfl, fun x hx => by cases hx⟩
   split
   ·refine ⟨fun g => absurd (.inl rfl) g, fun x hx => ?_⟩
    obtain ⟨y, hy, rfl⟩ := List.mem_map.1 hx
    exact nm_lf d false y (h5 y hy)
   split
   ·refine ⟨fun g => absurd (.inr rfl) g, fun x hx => ?_⟩
    obtain ⟨y, hy, rfl⟩ := List.mem_map.1 hx
    exact nm_lf d true y (h5 y hy)
   split
   ·exact ⟨fun _ => rfl, fun x hx => by cases hx⟩
   split
   ·exact ⟨fun _ => rfl, fun x hx => by cases hx⟩
   ·exact ⟨fun _ => rfl, fun x hx => by cases hx⟩
def okD : Nat → Bool → Vt → Bool
 | 0, _, _ => false
 | d + 1, i, t => if t.k = 4 ∨ t.k = 5 then t.l.all (okD d (decide (t.k = 5))) else if i = true ∧ t.k = 7 then clB t.s else alB t
def szD : Nat → Vt → Nat
 | 0, _ => 1
 | d + 1, t => 1 + (t.l.map (szD d)).sum
def dpD : Nat → Vt → Nat
 | 0, _ => 0
 | d + 1, t => if t.k = 4 ∨ t.k = 5 then 1 + (t.l.map (dpD d)).foldl max 0 else 0
def hgD : Nat → Vt → Nat
 | 0, _ => 0
 | d + 1, t => (t.l.map fun x => 1 + hgD d x).foldl max 0
theorem al8 {t : Vt} (h : t.k = 8) : alB t = false := by simp [alB, h]
theorem al7 {t : Vt} (h : t.k = 7) : alB t = false := by simp [alB, h]
theorem ok_eq : ∀ (d : Nat) (t : Vt), LfT d t → ∀ (i : Bool) (F : Nat), 2 * d + 1 + (if i = true then 1 else 0) ≤ F → okV F i t = okD d i t ∧ sz F i t = szD d t ∧ dp F i t = dpD d t
 | 0, _, h, _, _, _ => h.elim
 | d + 1, t, h, i, F, hF => by
   have val : ∀ F', 2 * (d + 1) + 1 ≤ F' → okV F' false t = okD (d + 1) false t ∧ sz F' false t = szD (d + 1) t ∧ dp F' false t = dpD (d + 1) t := by
    intro F' hF'
    obtain ⟨G, rfl⟩ : ∃ G, F' = G + 1 := ⟨F' - 1, by omega⟩
    have ch : ∀ x ∈ t.l, ∀ j, okV G j x = okD d j x ∧ sz G j x = szD d x ∧ dp G j x = dpD d x := fun x hx j => ok_eq d x (h.2 x hx) j G (by split <;> omega)
    refine ⟨?_, ?_, ?_⟩
    ·unfold okV okD
     by_cases hk : t.k = 4 ∨ t.k = 5
     ·rw [if_pos hk, if_pos hk]
      rw [Bool.eq_iff_iff, List.all_eq_true, List.all_eq_true]
      exact ⟨fun g x hx => by rw [← (ch x hx _).1]; exact g x hx, fun g x hx => by rw [(ch x hx _).1]; exact g x hx⟩
     ·rw [if_neg hk, if_neg hk, if_neg (fun g => by cases g.1)]
    ·unfold sz szD
     rw [List.map_congr_left fun x hx => (ch x hx _).2.1]
    ·unfold dp dpD
     rw [List.map_congr_left fun x hx => (ch x hx _).2.2]
   cases i with
   | false => exact val F (by simpa using hF)
   | true =>
     obtain ⟨G, rfl⟩ : ∃ G, F = G + 1 := ⟨F - 1, by simp at hF; omega⟩
     by_cases h7 : t.k = 7
     ·have hl : t.l = [] := h.1 (by omega)
      refine ⟨?_, ?_, ?_⟩
      ·unfold okV okD
       rw [if_pos h7, if_neg (by omega), if_pos ⟨rfl, h7⟩]
      ·unfold sz szD
       rw [if_pos (.inl h7), hl]
       rfl
      ·unfold dp dpD
       rw [if_pos (.inl h7), if_neg (by omega)]
     by_cases h8 : t.k = 8
     ·have hl : t.l = [] := h.1 (by omega)
      refine ⟨?_, ?_, ?_⟩
      ·unfold okV okD
       rw [if_neg h7, if_pos h8, if_neg (by omega), if_neg (fun g => h7 g.2), al8 h8]
      ·unfold sz szD
       rw [if_pos (.inr h8), hl]
       rfl
      ·unfold dp dpD
       rw [if_pos (.inr h8), if_neg (by omega)]
     obtain ⟨v1, v2, v3⟩ := val G (by simp at hF; omega)
     refine ⟨?_, ?_, ?_⟩
     ·rw [show okV (G + 1) true t = okV G false t from (show (if t.k = 7 then clB t.s else if t.k = 8 then false else okV G false t) = okV G false t by rw [if_neg h7, if_neg h8]), v1]
      unfold okD
      rw [if_neg (fun g : false = true ∧ t.k = 7 => by cases g.1), if_neg (fun g : true = true ∧ t.k = 7 => h7 g.2)]
     ·rw [show sz (G + 1) true t = sz G false t from (show (if t.k = 7 ∨ t.k = 8 then 1 else sz G false t) = sz G false t by rw [if_neg (fun g => g.elim h7 h8)]), v2]
     ·rw [show dp (G + 1) true t = dp G false t from (show (if t.k = 7 ∨ t.k = 8 then 0 else dp G false t) = dp G false t by rw [if_neg (fun g => g.elim h7 h8)]), v3]
theorem okD_val {d : Nat} {t : Vt} : okD (d + 1) false t = (decide (t.k ≠ 7) && okD (d + 1) true t) := by
 unfold okD
 by_cases hk : t.k = 4 ∨ t.k = 5
 ·rw [if_pos hk, if_pos hk, decide_eq_true (p := t.k ≠ 7) (by omega), Bool.true_and]
 ·rw [if_neg hk, if_neg hk, if_neg (fun g => by cases g.1)]
  by_cases h7 : t.k = 7
  ·rw [al7 h7, decide_eq_false (p := _ ≠ 7) (fun g => g h7), Bool.false_and]
  ·rw [if_neg (fun g => h7 g.2), decide_eq_true h7, Bool.true_and]
theorem fold_le : ∀ (l : List Nat) (a b : Nat), l.foldl max a ≤ b ↔ a ≤ b ∧ ∀ x ∈ l, x ≤ b
 | [], a, b => by simp
 | x :: l, a, b => by
   rw [List.foldl_cons, fold_le l]
   simp only [List.mem_cons, forall_eq_or_imp]
   constructor
   ·rintro ⟨h1, h2⟩; exact ⟨by omega, by omega, h2⟩
   ·rintro ⟨h1, h2, h3⟩; exact ⟨by omega, h3⟩
theorem hg_dp : ∀ (d : Nat) (t : Vt), LfT d t → hgD d t ≤ dpD d t
 | 0, _, h => h.elim
 | d + 1, t, h => by
   unfold hgD dpD
   by_cases hk : t.k = 4 ∨ t.k = 5
   ·rw [if_pos hk, fold_le]
    refine ⟨Nat.zero_le _, fun x hx => ?_⟩
    obtain ⟨y, hy, rfl⟩ := List.mem_map.1 hx
    have h1 := hg_dp d y (h.2 y hy)
    have h2 := ((fold_le (t.l.map (dpD d)) 0 _).1 (Nat.le_refl _)).2 _ (List.mem_map.2 ⟨y, hy, rfl⟩)
    omega
   ·rw [h.1 hk]
    exact Nat.zero_le _
def mzL (f : Vt → Int → Int × Int × Bool) (k4 : Bool) (left : Int) : List Vt → Int → Int → Int × Int × Bool
 | [], z, p => (z, p + 1, decide (p < 32))
 | x :: r, z, p => if k4 = true ∧ x.k = 7 then (0, 0, false) else if (f x (left - z)).2.2 = true then mzL f k4 left r (z + (f x (left - z)).1) (max p (f x (left - z)).2.1) else (0, 0, false)
def mz : Nat → Vt → Int → Int → Int × Int × Bool
 | 0, _, _, _ => (0, 0, false)
 | d + 1, t, left, nest => if left < 1 ∨ 32 < nest then (0, 0, false) else if t.k = 4 ∨ t.k = 5 then mzL (fun x lf => mz d x lf (nest + 1)) (decide (t.k = 4)) left t.l 1 0
   else if 1 ≤ t.k ∧ t.k ≤ 7 then (1, 0, if t.k = 7 then clB t.s else alB t) else (0, 0, false)
theorem mzL_bd (f : Vt → Int → Int × Int × Bool) (k4 : Bool) (left : Int) (hf : ∀ x lf, (f x lf).2.2 = true → 1 ≤ (f x lf).1 ∧ (f x lf).1 ≤ lf ∧ 0 ≤ (f x lf).2.1 ∧ (f x lf).2.1 ≤ 32) : ∀ (l : List Vt) (z p : Int), 1 ≤ z → z ≤ left → 0 ≤ p → (mzL f k4 left l z p).2.2 = true → 1 ≤ (mzL f k4 left l z p).1 ∧ (mzL f k4 left l z p).1 ≤ left ∧ 0 ≤ (mzL f k4 left l z p).2.1 ∧ (mzL f k4 left l z p).2.1 ≤ 32
 | [], z, p, h1, h2, h3, h => by
   simp only [mzL, decide_eq_true_eq] at h ⊢
   omega
 | x :: r, z, p, h1, h2, h3, h => by
   unfold mzL at h ⊢
   by_cases c1 : k4 = true ∧ x.k = 7
   ·rw [if_pos c1] at h; exact absurd h (by decide)
   ·rw [if_neg c1] at h ⊢
    by_cases c2 : (f x (left - z)).2.2 = true
    ·rw [if_pos c2] at h ⊢
     have := hf x _ c2
     exact mzL_bd f k4 left hf r _ _ (by omega) (by omega) (by omega) h
    ·rw [if_neg c2] at h; exact absurd h (by decide)
theorem mz_bd : ∀ (d : Nat) (t : Vt) (left nest : Int), (mz d t left nest).2.2 = true → 1 ≤ (mz d t left nest).1 ∧ (mz d t left nest).1 ≤ left ∧ 0 ≤ (mz d t left nest).2.1 ∧ (mz d t left nest).2.1 ≤ 32
 | 0, _, _, _, h => absurd h (by simp [mz])
 | d + 1, t, left, nest, h => by
   unfold mz at h ⊢
   by_cases c1 : left < 1 ∨ 32 < nest
   ·rw [if_pos c1] at h; exact absurd h (by decide)
   rw [if_neg c1] at h ⊢
   by_cases c2 : t.k = 4 ∨ t.k = 5
   ·rw [if_pos c2] at h ⊢
    exact mzL_bd _ _ left (fun x lf g => mz_bd d x lf _ g) t.l 1 0 (by omega) (by omega) (by omega) h
   rw [if_neg c2] at h ⊢
   by_cases c3 : 1 ≤ t.k ∧ t.k ≤ 7
   ·rw [if_pos c3] at h ⊢
    refine ⟨?_, ?_, ?_, ?_⟩ <;> dsimp only <;> omega
   ·rw [if_neg c3] at h; exact absurd h (by decide)
def MzS (d : Nat) (x : Vt) (nest : Int) (r : Int → Int × Int × Bool) : Prop := ∀ left, ((r left).2.2 = true ↔ okD d true x = true ∧ (szD d x : Int) ≤ left ∧ dpD d x ≤ 32 ∧ nest + hgD d x ≤ 32) ∧ ((r left).2.2 = true → (r left).1 = szD d x ∧ (r left).2.1 = dpD d x)
theorem szD_pos : ∀ (d : Nat) (t : Vt), 1 ≤ szD d t
 | 0, _ => Nat.le_refl _
 | d + 1, t => by unfold szD; omega
theorem mzL_spec (d : Nat) (f : Vt → Int → Int × Int × Bool) (k4 : Bool) (left nest : Int) : ∀ (l : List Vt) (z p : Nat), (∀ x ∈ l, (∃ e, d = e + 1) ∧ MzS d x (nest + 1) (f x)) → (z : Int) ≤ left →
  ((mzL f k4 left l z p).2.2 = true ↔ l.all (okD d (!k4)) = true ∧ ((z + (l.map (szD d)).sum : Nat) : Int) ≤ left ∧ (l.map (dpD d)).foldl max p < 32 ∧ ∀ x ∈ l, nest + 1 + hgD d x ≤ 32) ∧ ((mzL f k4 left l z p).2.2 = true → (mzL f k4 left l z p).1 = ((z + (l.map (szD d)).sum : Nat) : Int) ∧ (mzL f k4 left l z p).2.1 = (((l.map (dpD d)).foldl max p : Nat) : Int) + 1)
 | [], z, p, _, hz => by
   simp only [mzL, List.all_nil, List.map_nil, List.sum_nil, List.foldl_nil, decide_eq_true_eq, List.not_mem_nil, false_implies, implies_true, and_true, true_and, Nat.add_zero]
   constructor
   ·intro h; exact ⟨hz, by omega⟩
   ·rintro ⟨_, h⟩; omega
 | x :: r, z, p, hf, hz => by
   obtain ⟨⟨e, rfl⟩, hx⟩ := hf x (List.mem_cons_self ..)
   obtain ⟨s1, s2⟩ := hx (left - z)
   have hp := szD_pos (e + 1) x
   unfold mzL
   by_cases c1 : k4 = true ∧ x.k = 7
   ·rw [if_pos c1]
    refine ⟨⟨fun g => absurd g (by decide), fun g => ?_⟩, fun g => absurd g (by decide)⟩
    have := g.1
    rw [List.all_cons, c1.1, Bool.not_true, okD_val, decide_eq_false (p := x.k ≠ 7) (fun g => g c1.2), Bool.false_and, Bool.false_and] at this
    exact absurd this (by decide)
   rw [if_neg c1]
   have okx : okD (e + 1) (!k4) x = okD (e + 1) true x := by
    cases k4 with
    | false => rfl
    | true => rw [Bool.not_true, okD_val, decide_eq_true (p := x.k ≠ 7) (fun g => c1 ⟨rfl, g⟩), Bool.true_and]
   by_cases c2 : (f x (left - z)).2.2 = true
   ·rw [if_pos c2]
    obtain ⟨q1, q2⟩ := s2 c2
    obtain ⟨o1, o2, o3, o4⟩ := s1.1 c2
    have ih := mzL_spec (e + 1) f k4 left nest r (z + szD (e + 1) x) (max p (dpD (e + 1) x)) (fun y hy => hf y (List.mem_cons_of_mem _ hy)) (by omega)
    have e1 : (z : Int) + (f x (left - z)).1 = ((z + szD (e + 1) x : Nat) : Int) := by rw [q1]; omega
    have e2 : max (p : Int) (f x (left - z)).2.1 = ((max p (dpD (e + 1) x) : Nat) : Int) := by rw [q2]; omega
    rw [e1, e2]
    simp only [List.all_cons, List.map_cons, List.sum_cons, List.foldl_cons, List.mem_cons, forall_eq_or_imp, Bool.and_eq_true, okx]
    rw [← Nat.add_assoc]
    refine ⟨?_, ih.2⟩
    rw [ih.1]
    exact ⟨fun ⟨a, b, c, g⟩ => ⟨⟨o1, a⟩, b, c, o4, g⟩, fun ⟨⟨_, a⟩, b, c, _, g⟩ => ⟨a, b, c, g⟩⟩
   ·rw [if_neg c2]
    refine ⟨⟨fun g => absurd g (by decide), fun g => ?_⟩, fun g => absurd g (by decide)⟩
    obtain ⟨a, b, c, g⟩ := g
    simp only [List.all_cons, List.map_cons, List.sum_cons, List.foldl_cons, List.mem_cons, forall_eq_or_imp, Bool.and_eq_true, okx] at a b c g
    refine absurd (s1.2 ⟨a.1, by omega, ?_, g.1⟩) c2
    have := (fold_le (r.map (dpD (e + 1))) (max p (dpD (e + 1) x)) 31).1 (by omega)
    omega
theorem mz_spec : ∀ (d : Nat) (t : Vt) (nest : Int), LfT d t → 0 ≤ nest → MzS d t nest (fun left => mz d t left nest)
 | 0, _, _, h, _ => h.elim
 | d + 1, t, nest, h, hn => by
   intro left
   dsimp only
   have hp := szD_pos (d + 1) t
   unfold mz
   by_cases c1 : left < 1 ∨ 32 < nest
   ·rw [if_pos c1]
    exact ⟨⟨fun g => absurd g (by decide), fun ⟨_, g1, _, g2⟩ => by omega⟩, fun g => absurd g (by decide)⟩
   rw [if_neg c1]
   by_cases c2 : t.k = 4 ∨ t.k = 5
   ·rw [if_pos c2]
    have key := mzL_spec d (fun x lf => mz d x lf (nest + 1)) (decide (t.k = 4)) left nest t.l 1 0 (fun x hx => ⟨by
     cases d with
     | zero => exact (h.2 x hx).elim
     | succ d => exact ⟨d, rfl⟩, mz_spec d x (nest + 1) (h.2 x hx) (by omega)⟩) (by omega)
    have e5 : (!decide (t.k = 4)) = decide (t.k = 5) := by
     rcases c2 with c | c
     ·rw [c]; rfl
     ·rw [c]; rfl
    rw [e5] at key
    have e0 : ((1 : Nat) : Int) = 1 := rfl
    have e00 : ((0 : Nat) : Int) = 0 := rfl
    rw [e0, e00] at key
    obtain ⟨k1, k2⟩ := key
    have hh : (nest + hgD (d + 1) t ≤ 32) ↔ ∀ x ∈ t.l, nest + 1 + hgD d x ≤ 32 := by
     rw [show hgD (d + 1) t = (t.l.map fun x => 1 + hgD d x).foldl max 0 from rfl]
     constructor
     ·intro g x hx
      have := ((fold_le (t.l.map fun x => 1 + hgD d x) 0 _).1 (Nat.le_refl _)).2 _ (List.mem_map.2 ⟨x, hx, rfl⟩)
      omega
     ·intro g
      obtain ⟨m, hm⟩ : ∃ m : Nat, nest + m = 32 := ⟨(32 - nest).toNat, by omega⟩
      have := (fold_le (t.l.map fun x => 1 + hgD d x) 0 m).2 ⟨Nat.zero_le _, fun y hy => by
       obtain ⟨x, hx, rfl⟩ := List.mem_map.1 hy
       have := g x hx
       omega⟩
      omega
    have ho : okD (d + 1) true t = t.l.all (okD d (decide (t.k = 5))) := by unfold okD; rw [if_pos c2]
    have hd : dpD (d + 1) t = 1 + (t.l.map (dpD d)).foldl max 0 := by unfold dpD; rw [if_pos c2]
    refine ⟨?_, fun g => ?_⟩
    ·rw [k1, hh, ho, hd]
     constructor
     ·rintro ⟨a, b, c, g⟩; exact ⟨a, b, by omega, g⟩
     ·rintro ⟨a, b, c, g⟩; exact ⟨a, b, by omega, g⟩
    ·obtain ⟨a, b⟩ := k2 g
     exact ⟨a, by rw [b, hd]; omega⟩
   rw [if_neg c2]
   have hl : t.l = [] := h.1 c2
   have hs : szD (d + 1) t = 1 := by unfold szD; rw [hl]; rfl
   have hd : dpD (d + 1) t = 0 := by unfold dpD; rw [if_neg c2]
   have hg : hgD (d + 1) t = 0 := by unfold hgD; rw [hl]; rfl
   have ho : okD (d + 1) true t = if t.k = 7 then clB t.s else alB t := by
    unfold okD
    rw [if_neg c2]
    by_cases h7 : t.k = 7
    ·rw [if_pos h7, if_pos ⟨rfl, h7⟩]
    ·rw [if_neg h7, if_neg (fun g => h7 g.2)]
   by_cases c3 : 1 ≤ t.k ∧ t.k ≤ 7
   ·rw [if_pos c3]
    dsimp only
    rw [hs, hd, hg, ho]
    exact ⟨⟨fun g => ⟨g, by omega, by omega, by omega⟩, fun g => g.1⟩, fun _ => ⟨rfl, rfl⟩⟩
   ·rw [if_neg c3]
    refine ⟨⟨fun g => absurd g (by decide), fun g => ?_⟩, fun g => absurd g (by decide)⟩
    have g1 := g.1
    rw [ho, if_neg (by omega)] at g1
    unfold alB at g1
    rw [if_neg (by omega), if_neg (by omega), if_neg (by omega), decide_eq_true_eq] at g1
    omega
def dsB (d : Nat) (t : Vt) : Bool := (mz d t 1024 0).2.2 && decide (t.k ≠ 7)
theorem ds_sd {d D : Nat} {t : Vt} (h : LfT d t) (hD : 2 * d + 1 ≤ D) : sdB D t = dsB d t := by
 have h1 := ok_eq d t h false D (by simpa using hD)
 have h2 := (mz_spec d t 0 h (Int.le_refl _) 1024).1
 have h3 := hg_dp d t h
 unfold sdB msB dsB
 rw [h1.1, h1.2.1, h1.2.2]
 cases d with
 | zero => exact h.elim
 | succ d =>
   rw [okD_val, Bool.eq_iff_iff]
   simp only [Bool.and_eq_true, decide_eq_true_eq, Nat.zero_add]
   dsimp only at h2
   rw [h2]
   constructor
   ·rintro ⟨⟨⟨a, b⟩, c⟩, g⟩; exact ⟨⟨b, by omega, g, by omega⟩, a⟩
   ·rintro ⟨⟨a, b, c, _⟩, g⟩; exact ⟨⟨⟨g, a⟩, by omega⟩, c⟩
theorem smL_congr {f g : Vt → Vt → Bool} : ∀ (a b : List Vt), (∀ x ∈ a, ∀ y ∈ b, f x y = g x y) → smL f a b = smL g a b
 | [], [], _ => rfl
 | [], _ :: _, _ => rfl
 | _ :: _, [], _ => rfl
 | x :: a, y :: b, h => by
   show (f x y && smL f a b) = (g x y && smL g a b)
   rw [h x (List.mem_cons_self ..) y (List.mem_cons_self ..), smL_congr a b (fun x hx y hy => h x (List.mem_cons_of_mem _ hx) y (List.mem_cons_of_mem _ hy))]
theorem sm_sa : ∀ (d : Nat) (a b : Vt), LfT d a → LfT d b → ∀ (i : Bool) (F : Nat), 2 * d + 1 + (if i = true then 1 else 0) ≤ F → okD d i a = true → smV F i a b = saV d a b
 | 0, _, _, h, _, _, _, _, _ => h.elim
 | d + 1, a, b, ha, hb, i, F, hF, hok => by
   have val : ∀ F', 2 * (d + 1) + 1 ≤ F' → a.k ≠ 7 → smV F' false a b = saV (d + 1) a b := by
    intro F' hF' h7
    obtain ⟨G, rfl⟩ : ∃ G, F' = G + 1 := ⟨F' - 1, by omega⟩
    unfold smV saV
    by_cases hk : a.k = b.k
    ·rw [← hk, decide_eq_true rfl, Bool.true_and, Bool.true_and]
     by_cases hl : a.k = 4 ∨ a.k = 5
     ·rw [if_neg (by omega), if_neg (by omega), if_neg (by omega)]
      have hs : saL a.k a.n b.n a.s b.s = true := by
       unfold saL
       rw [if_neg (by omega), if_neg (by omega), if_neg (by omega)]
      rw [hs, Bool.and_true]
      have hall : ∀ x ∈ a.l, okD d (decide (a.k = 5)) x = true := by
       unfold okD at hok
       rw [if_pos hl, List.all_eq_true] at hok
       exact hok
      rw [smL_congr a.l b.l (fun x hx y hy => sm_sa d x y (ha.2 x hx) (hb.2 y hy) (decide (a.k = 5)) G (by split <;> omega) (hall x hx))]
      by_cases hlen : a.l.length = b.l.length
      ·rw [decide_eq_true hlen, Bool.true_and]
      ·rw [smL_len _ _ _ hlen, Bool.and_false]
     ·have la := ha.1 hl
      have lb := hb.1 (by omega)
      rw [la, lb]
      show _ = (decide (0 = 0) && saL a.k a.n b.n a.s b.s && true)
      rw [decide_eq_true rfl, Bool.true_and, Bool.and_true]
      unfold saL
      by_cases h1 : a.k = 1 ∨ a.k = 6
      ·rw [if_pos h1, if_pos h1]
      rw [if_neg h1, if_neg h1]
      by_cases h2 : a.k = 2
      ·rw [if_pos h2, if_neg (by omega), if_pos (.inl h2)]
      rw [if_neg h2]
      by_cases h3 : a.k = 3
      ·rw [if_pos h3, if_pos h3]
      rw [if_neg h3, if_neg h3, if_neg (by omega)]
      rfl
    ·rw [decide_eq_false hk, Bool.false_and, Bool.false_and, Bool.false_and, Bool.false_and]
   cases i with
   | false =>
     refine val F (by simpa using hF) (fun h7 => ?_)
     rw [okD_val, decide_eq_false (p := _ ≠ 7) (fun g => g h7), Bool.false_and] at hok
     exact absurd hok (by decide)
   | true =>
     obtain ⟨G, rfl⟩ : ∃ G, F = G + 1 := ⟨F - 1, by simp at hF; omega⟩
     by_cases h7 : a.k = 7 ∨ b.k = 7
     ·rw [show smV (G + 1) true a b = (decide (a.k = 7) && decide (b.k = 7) && (a.s.toList == b.s.toList)) from (show (if a.k = 7 ∨ b.k = 7 then decide (a.k = 7) && decide (b.k = 7) && (a.s.toList == b.s.toList) else smV G false a b) = _ by rw [if_pos h7])]
      unfold saV
      by_cases hk : a.k = b.k
      ·have a7 : a.k = 7 := by omega
       have b7 : b.k = 7 := by omega
       rw [ha.1 (by omega), hb.1 (by omega), a7, b7]
       show _ = (decide ((7 : Int) = 7) && decide (0 = 0) && saL 7 a.n b.n a.s b.s && true)
       rw [show saL 7 a.n b.n a.s b.s = (a.s.toList == b.s.toList) from by unfold saL; rw [if_neg (by omega), if_neg (by omega), if_pos (.inr rfl)]]
       simp
      ·rw [decide_eq_false hk, Bool.false_and, Bool.false_and, Bool.false_and]
       rcases h7 with h7 | h7
       ·rw [decide_eq_false (p := b.k = 7) (by omega), Bool.and_false, Bool.false_and]
       ·rw [decide_eq_false (p := a.k = 7) (by omega), Bool.false_and, Bool.false_and]
     ·rw [show smV (G + 1) true a b = smV G false a b from (show (if a.k = 7 ∨ b.k = 7 then decide (a.k = 7) && decide (b.k = 7) && (a.s.toList == b.s.toList) else smV G false a b) = smV G false a b by rw [if_neg h7])]
      exact val G (by simp at hF; omega) (fun g => h7 (.inl g))
end Go.Proofs.YtenjollhlgjjdaaGreatDoor
