/- readString: a string's token, character by character. -/
import Derived.Test.YtbijiigobbjlcaaDoorLx19
import Derived.Lib.MapLaws
namespace Go.Proofs.YtbijiigobbjlcaaDoor
open Go.RowKit Go.Lib
set_option linter.unusedSimpArgs false
set_option linter.unusedVariables false
/-- What is decoded is a character. -/
theorem decode_vr (s : ByteArray) (pos : Nat) : Vr (Utf8.decode s pos).1 := by
  rw [decode_at]
  have k0 := (s.get! pos).toNat_lt
  have k1 := (s.get! (pos + 1)).toNat_lt
  have k2 := (s.get! (pos + 2)).toNat_lt
  have k3 := (s.get! (pos + 3)).toNat_lt
  unfold Vr
  rcases decodeN_shape (s.size - pos) (s.get! pos).toNat (s.get! (pos + 1)).toNat (s.get! (pos + 2)).toNat (s.get! (pos + 3)).toNat with ⟨c, e⟩ | ⟨c1, c2, c3, cv, e⟩ | ⟨c1, c2, c3, c4, cv, cs, e⟩ | ⟨c1, c2, c3, c4, c5, cv, cw, e⟩ | e <;> rw [e] <;> dsimp only <;> omega
theorem une_vr {c m : Nat} (h : une c = some m) : Vr m := by
  unfold une at h
  unfold Vr
  split at h
  · simp only [Option.some.injEq] at h; omega
  · split at h
    · simp only [Option.some.injEq] at h; omega
    · simp at h
/-- The bytes of characters. -/
def enL (l : List Nat) : List UInt8 := l.flatMap fun (r : Nat) => encodeRune (r : Int)
def tx (l : List Nat) : ByteArray := ⟨(enL l).toArray⟩
theorem enL_snoc (l : List Nat) (r : Nat) : enL (l ++ [r]) = enL l ++ encodeRune (r : Int) := by simp [enL]
theorem enL_cells (l : List Nat) (r : Nat) : Lib.byteCells (enL (l ++ [r])) = Lib.byteCells (enL l) ++ runeCells (r : Int) := by rw [enL_snoc, Lib.byteCells_append, Lib.byteCells_encodeRune]
theorem enL_len (l : List Nat) (r : Nat) : (enL (l ++ [r])).length ≤ (enL l).length + 4 := by
  have := (runeCells_le (r : Int)).2
  rw [enL_snoc, List.length_append, ← runeCells_length]
  omega
def zT : Tok := ⟨0, ⟨#[]⟩, 0, 0⟩
/-- The string whose quote stands at a: its characters from a + 1 on; n: the text's length. -/
def strG (a n : Nat) : List (Nat × Nat) → Bool → List Nat → Tok × Nat × Int
  | [], true, _ => (zT, n - 1, 9)
  | [], false, _ => (zT, a, 9)
  | (i, c) :: r, true, out => match une c with
    | none => (zT, a + i, 9)
    | some m => strG a n r false (out ++ [m])
  | (i, c) :: r, false, out =>
    if c = 92 then strG a n r true out
    else if c = 34 then (if 4096 < (enL out).length then (zT, a, 11) else (⟨3, tx out, 0, a⟩, a + i + 2, 0))
    else strG a n r false (out ++ [c])
def strR (s : ByteArray) (a : Nat) : Tok × Nat × Int := strG a s.size (crs (s.extract (a + 1) s.size) (s.extract (a + 1) s.size).size 0) false []
/-- The token's cells. -/
def TkC (w : World) (N : Nat) : Prop := w.heap[N]? = some (.cells #[.int .i64 0, .string ⟨#[]⟩, .int .i64 0, .int .i64 0] 36)
theorem TkC.keep {w w' : World} {N b : Nat} (h : TkC w N) (k : OthersKept 5 (some b) w w') (hb : N ≠ b) : TkC w' N :=
  k N _ h (fun e => hb (Option.some.inj e)) (fun c fz e => by simp at e)
theorem TkC.iterAt {w : World} {N k : Nat} {s : ByteArray} {pos : Nat} (h : TkC w N) (hk : N ≠ k) : TkC (w.iterAt k s pos) N := (iterAt_other w k N s pos hk).trans h
theorem alloc_at (W : World) (o : Obj) (n : Nat) (h : n = W.heap.size) : (W.alloc o).heap[n]? = some o := by
  subst h
  exact Array.getElem?_push_size ..
theorem bu_new {w : World} {B b : Nat} (hB : B ≤ b) (h : w.heap[b]? = some (.cells #[.pointer none, .slice none 0 0] 60)) : Bu B b (Lib.byteCells (enL [])) w := .inl ⟨hB, _, h, ⟨rfl, .inl ⟨rfl, rfl⟩⟩, by simp [Value.ownBlock]⟩
set_option maxRecDepth 100000 in
set_option maxHeartbeats 8000000 in
theorem readString_any (s : ByteArray) (a : Nat) (ha : a < s.size) (hs : s.size ≤ 1000000) (w : World) :
    Calls Tryd.prog 40 #[.string s, .int .i64 (a : Int)] w fun e w' => e = .returned (rdV (strR s a)) ∧ Below w.heap.size w w' := by
  obtain ⟨S, hS⟩ : ∃ S, S = s.extract (a + 1) s.size := ⟨_, rfl⟩
  have hsl : ∀ W : World, (Instr.slice 9 (.string s) (some (.int .i64 ((a : Int) + 1))) none none).run Tryd.prog W = .ok (.string S) W := fun W => by
    rw [show ((a : Int) + 1) = ((a + 1 : Nat) : Int) by omega, run_slice_string_l W 9 s Tryd.underlying9 _ _ (by omega) (by omega), hS]
    rfl
  have hSz : S.size = s.size - (a + 1) := by rw [hS, ByteArray.size_extract]; omega
  obtain ⟨Z, hZ⟩ : ∃ Z, Z = strR s a := ⟨_, rfl⟩
  have HZ : Hid (Z = strG a s.size (crs S S.size 0) false []) := by rw [hS]; exact hZ
  rw [← hZ]
  clear hZ hS
  obtain ⟨N, hN⟩ : ∃ N, N = w.heap.size := ⟨_, rfl⟩
  have HN : Hid (N = w.heap.size) := hN
  go_enter Tryd.func40, Tryd.ntmps40
  go_wp2
  go_loopw [8] (fun r wr => ∃ (pos b : Nat) (e : Bool) (out : List Nat), r = .bool e ∧ Hid (Bu w.heap.size (w.heap.size + 1) (Lib.byteCells (enL out)) wr ∧ wr.heap[w.heap.size + 2]? = some (.stringIter S pos) ∧ TkC wr w.heap.size ∧ Below w.heap.size w wr ∧ Z = strG a s.size (crs S b pos) e out ∧ S.size ≤ pos + b ∧ (enL out).length ≤ 4 * pos)) (fun _ wr => S.size - wr.iterPos (w.heap.size + 2))
  case atStart =>
    refine ⟨0, S.size, false, [], rfl, bu_new (by omega) ?_, ?_, ?_, ?_, HZ.out, by omega, by simp [enL]⟩
    · exact (alloc_old (World.alloc _ _) _ (w.heap.size + 1) (by simp)).trans (alloc_at _ _ _ (by simp))
    · have := World.iter_heap ((w.alloc (.cells #[.int .i64 0, .string ⟨#[]⟩, .int .i64 0, .int .i64 0] 36)).alloc (.cells #[.pointer none, .slice none 0 0] 60)) S 0
      simpa using this
    · exact (alloc_old (World.alloc (World.alloc w _) _) _ w.heap.size (by simp; omega)).trans ((alloc_old (World.alloc w _) _ w.heap.size (by simp)).trans (alloc_at _ _ _ rfl))
    · exact ((((Below.refl _ w).alloc (Nat.le_refl _) _).alloc (by simp) _).alloc (by simp; omega) _)
  case round =>
    obtain ⟨pos, b, e, out, rfl, HI⟩ := hrel
    clear HZ
    by_cases hp : pos < S.size
    · have hnx : ∀ ty, (Instr.next (.pointer (some ⟨w.heap.size + 2, 0, none⟩)) true ty).run Tryd.prog wr = _ := fun ty => run_next_any_at wr (w.heap.size + 2) S pos ty HI.out.2.1 hp
      have hwd := wid_pos S pos hp
      obtain ⟨b', hb', hcr⟩ := crs_go hp HI.out.2.2.2.2.2.1
      have hvr := decode_vr S pos
      have hdl := decode_le S pos
      obtain ⟨c, hc⟩ : ∃ c, c = (Utf8.decode S pos).1 := ⟨_, rfl⟩
      obtain ⟨wd, hw⟩ : ∃ c, c = (Utf8.decode S pos).2 := ⟨_, rfl⟩
      rw [← hc, ← hw] at hnx hcr
      rw [← hc] at hvr hdl
      rw [← hw] at hwd
      have HV : Hid (Vr c) := hvr
      have hmp : wr.iterPos (w.heap.size + 2) = pos := by simp only [World.iterPos, HI.out.2.1]
      have HJ : Hid (Bu w.heap.size (w.heap.size + 1) (Lib.byteCells (enL out)) (wr.iterAt (w.heap.size + 2) S (pos + wd)) ∧ (wr.iterAt (w.heap.size + 2) S (pos + wd)).heap[w.heap.size + 2]? = some (.stringIter S (pos + wd)) ∧ TkC (wr.iterAt (w.heap.size + 2) S (pos + wd)) w.heap.size ∧ Below w.heap.size w (wr.iterAt (w.heap.size + 2) S (pos + wd)) ∧ Z = strG a s.size ((pos, c) :: crs S b' (pos + wd)) e out ∧ S.size ≤ pos + wd + b' ∧ (enL out).length ≤ 4 * pos) := by
        obtain ⟨i1, i2, i3, i4, i5, i6, i7⟩ := HI.out
        exact ⟨i1.iterAt i2 _, iterAt_heap _ _ _ _ _ i2, i3.iterAt (by omega), below_iterAt i4 (by omega) _ _, by rw [i5, hcr], by omega, i7⟩
      clear HI hc hw hcr hb' hvr
      obtain ⟨W2, hW2⟩ : ∃ W2, W2 = wr.iterAt (w.heap.size + 2) S (pos + wd) := ⟨_, rfl⟩
      rw [← hW2] at hnx HJ
      clear hW2
      cases e with
      | true =>
        have HU : Hid (Calls Tryd.prog 51 #[.int .i32 (c : Int)] W2 fun e w' => e = .returned (uneV (une c)) ∧ w' = W2) := unescape_any c W2
        cases hu : une c with
        | none =>
          rw [hu] at HU
          have HE : Hid (Z = (zT, a + pos, 9)) := by
            show Z = _
            rw [HJ.out.2.2.2.2.1]
            simp only [strG, hu]
          clear hu
          go_wp2_with fail
          refine (show Calls Tryd.prog 51 _ _ _ from HU.out).mono ?_
          rintro e wz ⟨rfl, hwz⟩; subst wz
          clear HU
          simp only [uneV]
          have R3 := HJ.out.2.2.1
          unfold TkC at R3
          have c0 := blk_cells R3 0
          have c1 := blk_cells R3 1
          have c2 := blk_cells R3 2
          have c3 := blk_cells R3 3
          have z0 := blk_froz R3 0
          have z1 := blk_froz R3 1
          have z2 := blk_froz R3 2
          have z3 := blk_froz R3 3
          simp only [List.getElem?_toArray, List.getElem?_cons_zero, List.getElem?_cons_succ] at c0 c1 c2 c3
          have hap : (a : Int) + 1 + (pos : Int) - 1 = ((a + pos : Nat) : Int) := by omega
          go_wp2
          obtain ⟨q0, q1, q2, q3⟩ := set4 R3 rfl (.int .i64 0) (.string ⟨#[]⟩) (.int .i64 0) (.int .i64 0)
          refine bodyPost_ret (results_tok rfl _ _ w.heap.size q0 q1 q2 q3 rfl) rfl ?_
          exact ⟨by rw [show Z = _ from HE.out]; rfl, (((HJ.out.2.2.2.1.setCell (p := ⟨w.heap.size, 0, none⟩) (Nat.le_refl _) _).setCell (p := ⟨w.heap.size, 1, none⟩) (Nat.le_refl _) _).setCell (p := ⟨w.heap.size, 2, none⟩) (Nat.le_refl _) _).setCell (p := ⟨w.heap.size, 3, none⟩) (Nat.le_refl _) _⟩
        | some m =>
          rw [hu] at HU
          have HE : Hid (Z = strG a s.size (crs S b' (pos + wd)) false (out ++ [m])) := by
            show Z = _
            rw [HJ.out.2.2.2.2.1]
            simp only [strG, hu]
          have HV : Hid (Vr m) := une_vr hu
          clear hu
          go_wp2_with fail
          refine (show Calls Tryd.prog 51 _ _ _ from HU.out).mono ?_
          rintro e wz ⟨rfl, hwz⟩; subst wz
          clear HU
          simp only [uneV]
          have hz2 : w.heap.size ≤ W2.heap.size := HJ.out.2.2.2.1.size
          have HR : Hid (Calls Tryd.prog 30 #[.pointer (some ⟨w.heap.size + 1, 0, none⟩), .int .i32 (m : Int)] W2 fun e w' => ∃ q, e = .returned (.tuple #[q, .nilIface]) ∧ Bu w.heap.size (w.heap.size + 1) (Lib.byteCells (enL out) ++ runeCells m) w' ∧ Kept w.heap.size (w.heap.size + 1) W2 w') := writeRune_any w.heap.size (w.heap.size + 1) _ m HV.out W2 HJ.out.1 (by rw [Lib.byteCells_length]; have := HJ.out.2.2.2.2.2.2; omega) hz2
          go_wp2_with fail
          refine (show Calls Tryd.prog 30 _ _ _ from HR.out).mono ?_
          rintro e W3 ⟨q, rfl, g1, g2, g3⟩
          clear HR
          have HK : Hid (Bu w.heap.size (w.heap.size + 1) (Lib.byteCells (enL (out ++ [m]))) W3 ∧ W3.heap[w.heap.size + 2]? = some (.stringIter S (pos + wd)) ∧ TkC W3 w.heap.size ∧ Below w.heap.size w W3 ∧ Z = strG a s.size (crs S b' (pos + wd)) false (out ++ [m]) ∧ S.size ≤ pos + wd + b' ∧ (enL (out ++ [m])).length ≤ 4 * (pos + wd)) :=
            ⟨by rw [enL_cells]; exact g1, g3.iter HJ.out.2.1 (by omega), HJ.out.2.2.1.keep g3 (by omega), HJ.out.2.2.2.1.trans g2, HE.out, HJ.out.2.2.2.2.2.1, by have := enL_len out m; have := HJ.out.2.2.2.2.2.2; omega⟩
          clear g1 g2 g3 HJ HE
          go_wp2
          go_roundw
          case rel => exact ⟨pos + wd, b', false, out ++ [m], rfl, HK.out⟩
          case measure => have e1 : W3.iterPos (w.heap.size + 2) = pos + wd := by simp only [World.iterPos, HK.out.2.1]
                          omega
      | false =>
        by_cases h92 : c = 92
        · have HE : Hid (Z = strG a s.size (crs S b' (pos + wd)) true out) := by
            show Z = _
            rw [HJ.out.2.2.2.2.1]
            simp only [strG, if_pos h92]
          subst h92
          have HK : Hid (Bu w.heap.size (w.heap.size + 1) (Lib.byteCells (enL out)) W2 ∧ W2.heap[w.heap.size + 2]? = some (.stringIter S (pos + wd)) ∧ TkC W2 w.heap.size ∧ Below w.heap.size w W2 ∧ Z = strG a s.size (crs S b' (pos + wd)) true out ∧ S.size ≤ pos + wd + b' ∧ (enL out).length ≤ 4 * (pos + wd)) :=
            ⟨HJ.out.1, HJ.out.2.1, HJ.out.2.2.1, HJ.out.2.2.2.1, HE.out, HJ.out.2.2.2.2.2.1, by have := HJ.out.2.2.2.2.2.2; omega⟩
          clear HJ HE
          go_wp2
          go_roundw
          case rel => exact ⟨pos + wd, b', true, out, rfl, HK.out⟩
          case measure => have e1 : W2.iterPos (w.heap.size + 2) = pos + wd := by simp only [World.iterPos, HK.out.2.1]
                          omega
        · by_cases h34 : c = 34
          · have HL : Hid (Calls Tryd.prog 52 #[.pointer (some ⟨w.heap.size + 1, 0, none⟩)] W2 fun e w' => e = .returned (.int .i64 (enL out).length) ∧ w' = W2) := by
              have := Tryd.Builder_Len_f w.heap.size (w.heap.size + 1) _ W2 HJ.out.1
              rw [Lib.byteCells_length] at this
              exact this
            by_cases hl : 4096 < (enL out).length
            · have HE : Hid (Z = (zT, a, 11)) := by
                show Z = _
                rw [HJ.out.2.2.2.2.1]
                simp only [strG, if_neg h92, if_pos h34, if_pos hl]
              subst h34
              have hl2 : (4096 : Int) < ((enL out).length : Int) := by omega
              obtain ⟨L, hL⟩ : ∃ L, L = (enL out).length := ⟨_, rfl⟩
              rw [← hL] at HL hl2
              clear hL hl h92
              have R3 := HJ.out.2.2.1
              unfold TkC at R3
              have c0 := blk_cells R3 0
              have c1 := blk_cells R3 1
              have c2 := blk_cells R3 2
              have c3 := blk_cells R3 3
              have z0 := blk_froz R3 0
              have z1 := blk_froz R3 1
              have z2 := blk_froz R3 2
              have z3 := blk_froz R3 3
              simp only [List.getElem?_toArray, List.getElem?_cons_zero, List.getElem?_cons_succ] at c0 c1 c2 c3
              go_wp2_with fail
              refine (show Calls Tryd.prog 52 _ _ _ from HL.out).mono ?_
              rintro e wz ⟨rfl, hwz⟩; subst wz
              clear HL
              go_wp2
              obtain ⟨q0, q1, q2, q3⟩ := set4 R3 rfl (.int .i64 0) (.string ⟨#[]⟩) (.int .i64 0) (.int .i64 0)
              refine bodyPost_ret (results_tok rfl _ _ w.heap.size q0 q1 q2 q3 rfl) rfl ?_
              exact ⟨by rw [show Z = _ from HE.out]; rfl, (((HJ.out.2.2.2.1.setCell (p := ⟨w.heap.size, 0, none⟩) (Nat.le_refl _) _).setCell (p := ⟨w.heap.size, 1, none⟩) (Nat.le_refl _) _).setCell (p := ⟨w.heap.size, 2, none⟩) (Nat.le_refl _) _).setCell (p := ⟨w.heap.size, 3, none⟩) (Nat.le_refl _) _⟩
            · have HE : Hid (Z = (⟨3, tx out, 0, a⟩, a + pos + 2, 0)) := by
                show Z = _
                rw [HJ.out.2.2.2.2.1]
                simp only [strG, if_neg h92, if_pos h34, if_neg hl]
              subst h34
              have hl2 : ¬ (4096 : Int) < ((enL out).length : Int) := by omega
              have hz2 : w.heap.size ≤ W2.heap.size := HJ.out.2.2.2.1.size
              have HS : Hid (Calls Tryd.prog 32 #[.pointer (some ⟨w.heap.size + 1, 0, none⟩)] W2 fun e w' => e = .returned (.string (tx out)) ∧ (IsBuilderF 60 5 w.heap.size (w.heap.size + 1) (Lib.byteCells (enL out)) w' ∧ Below w.heap.size W2 w' ∧ OthersKept 5 (some (w.heap.size + 1)) W2 w')) := Tryd.Builder_String_any_k w.heap.size (w.heap.size + 1) (enL out) W2 HJ.out.1 hz2
              obtain ⟨L, hL⟩ : ∃ L, L = (enL out).length := ⟨_, rfl⟩
              rw [← hL] at HL hl2
              clear hL hl h92
              go_wp2_with fail
              refine (show Calls Tryd.prog 52 _ _ _ from HL.out).mono ?_
              rintro e wz ⟨rfl, hwz⟩; subst wz
              clear HL
              go_wp2_with fail
              refine (show Calls Tryd.prog 32 _ _ _ from HS.out).mono ?_
              rintro e W3 ⟨rfl, g1, g2, g3⟩
              clear HS
              have R3 := HJ.out.2.2.1.keep g3 (by omega)
              have HB := HJ.out.2.2.2.1.trans g2
              unfold TkC at R3
              have c0 := blk_cells R3 0
              have c1 := blk_cells R3 1
              have c2 := blk_cells R3 2
              have c3 := blk_cells R3 3
              have z0 := blk_froz R3 0
              have z1 := blk_froz R3 1
              have z2 := blk_froz R3 2
              have z3 := blk_froz R3 3
              simp only [List.getElem?_toArray, List.getElem?_cons_zero, List.getElem?_cons_succ] at c0 c1 c2 c3
              have hap : (a : Int) + 1 + (pos : Int) + 1 = ((a + pos + 2 : Nat) : Int) := by omega
              go_wp2
              obtain ⟨q0, q1, q2, q3⟩ := set4 R3 rfl (.int .i64 3) (.string (tx out)) (.int .i64 0) (.int .i64 (a : Int))
              refine bodyPost_ret (results_tok rfl _ _ w.heap.size q0 q1 q2 q3 rfl) rfl ?_
              exact ⟨by rw [show Z = _ from HE.out]; rfl, (((HB.setCell (p := ⟨w.heap.size, 0, none⟩) (Nat.le_refl _) _).setCell (p := ⟨w.heap.size, 1, none⟩) (Nat.le_refl _) _).setCell (p := ⟨w.heap.size, 2, none⟩) (Nat.le_refl _) _).setCell (p := ⟨w.heap.size, 3, none⟩) (Nat.le_refl _) _⟩
          · have HE : Hid (Z = strG a s.size (crs S b' (pos + wd)) false (out ++ [c])) := by
              show Z = _
              rw [HJ.out.2.2.2.2.1]
              simp only [strG, if_neg h92, if_neg h34]
            have i1 : ¬ (c : Int) = 92 := by omega
            have i2 : ¬ (c : Int) = 34 := by omega
            have hz2 : w.heap.size ≤ W2.heap.size := HJ.out.2.2.2.1.size
            have HR : Hid (Calls Tryd.prog 30 #[.pointer (some ⟨w.heap.size + 1, 0, none⟩), .int .i32 (c : Int)] W2 fun e w' => ∃ q, e = .returned (.tuple #[q, .nilIface]) ∧ Bu w.heap.size (w.heap.size + 1) (Lib.byteCells (enL out) ++ runeCells c) w' ∧ Kept w.heap.size (w.heap.size + 1) W2 w') := writeRune_any w.heap.size (w.heap.size + 1) _ c HV.out W2 HJ.out.1 (by rw [Lib.byteCells_length]; have := HJ.out.2.2.2.2.2.2; omega) hz2
            go_wp2_with fail
            refine (show Calls Tryd.prog 30 _ _ _ from HR.out).mono ?_
            rintro e W3 ⟨q, rfl, g1, g2, g3⟩
            clear HR
            have HK : Hid (Bu w.heap.size (w.heap.size + 1) (Lib.byteCells (enL (out ++ [c]))) W3 ∧ W3.heap[w.heap.size + 2]? = some (.stringIter S (pos + wd)) ∧ TkC W3 w.heap.size ∧ Below w.heap.size w W3 ∧ Z = strG a s.size (crs S b' (pos + wd)) false (out ++ [c]) ∧ S.size ≤ pos + wd + b' ∧ (enL (out ++ [c])).length ≤ 4 * (pos + wd)) :=
              ⟨by rw [enL_cells]; exact g1, g3.iter HJ.out.2.1 (by omega), HJ.out.2.2.1.keep g3 (by omega), HJ.out.2.2.2.1.trans g2, HE.out, HJ.out.2.2.2.2.2.1, by have := enL_len out c; have := HJ.out.2.2.2.2.2.2; omega⟩
            clear g1 g2 g3 HJ HE
            go_wp2
            go_roundw
            case rel => exact ⟨pos + wd, b', false, out ++ [c], rfl, HK.out⟩
            case measure => have e1 : W3.iterPos (w.heap.size + 2) = pos + wd := by simp only [World.iterPos, HK.out.2.1]
                            omega
    · have hnx : ∀ ty, (Instr.next (.pointer (some ⟨w.heap.size + 2, 0, none⟩)) true ty).run Tryd.prog wr = _ := fun ty => run_next_end_at wr (w.heap.size + 2) S pos ty HI.out.2.1 hp
      have R3 := HI.out.2.2.1
      unfold TkC at R3
      have c0 := blk_cells R3 0
      have c1 := blk_cells R3 1
      have c2 := blk_cells R3 2
      have c3 := blk_cells R3 3
      have z0 := blk_froz R3 0
      have z1 := blk_froz R3 1
      have z2 := blk_froz R3 2
      have z3 := blk_froz R3 3
      simp only [List.getElem?_toArray, List.getElem?_cons_zero, List.getElem?_cons_succ] at c0 c1 c2 c3
      have HB := HI.out.2.2.2.1
      cases e with
      | true =>
        have HE : Hid (Z = (zT, s.size - 1, 9)) := by
          show Z = _
          rw [HI.out.2.2.2.2.1, crs_end hp]
          rfl
        have hap : (s.size : Int) - 1 = ((s.size - 1 : Nat) : Int) := by omega
        clear HI
        go_wp2
        obtain ⟨q0, q1, q2, q3⟩ := set4 R3 rfl (.int .i64 0) (.string ⟨#[]⟩) (.int .i64 0) (.int .i64 0)
        refine bodyPost_ret (results_tok rfl _ _ w.heap.size q0 q1 q2 q3 rfl) rfl ?_
        exact ⟨by rw [show Z = _ from HE.out]; rfl, (((HB.setCell (p := ⟨w.heap.size, 0, none⟩) (Nat.le_refl _) _).setCell (p := ⟨w.heap.size, 1, none⟩) (Nat.le_refl _) _).setCell (p := ⟨w.heap.size, 2, none⟩) (Nat.le_refl _) _).setCell (p := ⟨w.heap.size, 3, none⟩) (Nat.le_refl _) _⟩
      | false =>
        have HE : Hid (Z = (zT, a, 9)) := by
          show Z = _
          rw [HI.out.2.2.2.2.1, crs_end hp]
          rfl
        clear HI
        go_wp2
        obtain ⟨q0, q1, q2, q3⟩ := set4 R3 rfl (.int .i64 0) (.string ⟨#[]⟩) (.int .i64 0) (.int .i64 0)
        refine bodyPost_ret (results_tok rfl _ _ w.heap.size q0 q1 q2 q3 rfl) rfl ?_
        exact ⟨by rw [show Z = _ from HE.out]; rfl, (((HB.setCell (p := ⟨w.heap.size, 0, none⟩) (Nat.le_refl _) _).setCell (p := ⟨w.heap.size, 1, none⟩) (Nat.le_refl _) _).setCell (p := ⟨w.heap.size, 2, none⟩) (Nat.le_refl _) _).setCell (p := ⟨w.heap.size, 3, none⟩) (Nat.le_refl _) _⟩
end Go.Proofs.YtbijiigobbjlcaaDoor
