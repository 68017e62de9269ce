/- LexComments: the walk. -/
import Derived.Test.YtbijiigobbjlcaaDoorLx30
namespace Go.Proofs.YtbijiigobbjlcaaDoor
open Go.RowKit Go.Lib
set_option linter.unusedSimpArgs false
set_option linter.unusedVariables false
theorem VL.app {a b : List Nat} (h : VL a) (g : VL b) : VL (a ++ b) := fun c hc => by
  rcases List.mem_append.1 hc with hc | hc
  · exact h c hc
  · exact g c hc
theorem no_ten {t : ByteArray} {x : List Nat} (e : t = tx x) (h : ∀ i, i < t.size → byN t i ≠ 10) : ∀ c ∈ x, c ≠ 10 := by
  intro c hc h10
  subst h10
  have h1 : (10 : UInt8) ∈ enL x := by
    unfold enL
    exact List.mem_flatMap.2 ⟨10, hc, by decide⟩
  obtain ⟨i, hi, e1⟩ := List.getElem_of_mem h1
  have hd : t.data.toList = enL x := by rw [e, tx_data]
  have hz : i < t.size := by
    have : t.data.toList.length = t.size := Array.length_toList
    rw [hd] at this
    omega
  refine h i hz ?_
  unfold byN
  rw [← get_bang t i hz]
  have : t[i]'hz = (10 : UInt8) := by
    rw [← e1]
    have : t.data.toList[i]'(by rw [hd]; exact hi) = (enL x)[i] := by simp only [hd]
    rw [← this]
    rfl
  rw [this]
  rfl
theorem dw_ten {x : List Nat} (h : ∀ c ∈ x, c ≠ 10) (y : List Nat) (hy : Ynl y) : (x ++ y).dropWhile (fun c => !decide (c = 10)) = y := by
  induction x with
  | nil =>
    rcases hy with rfl | ⟨z, rfl⟩
    · rfl
    · rw [List.nil_append, List.dropWhile_cons, if_neg (by decide)]
  | cons c x ih =>
    have hc := h c (List.mem_cons_self ..)
    rw [List.cons_append, List.dropWhile_cons, if_pos (by simp [hc])]
    exact ih (fun d hd => h d (List.mem_cons_of_mem _ hd))
theorem SK_remark {x : List Nat} (h : ∀ c ∈ x, c ≠ 10) (y : List Nat) (hy : Ynl y) : SK (33 :: 32 :: (x ++ y)) = SK y := by
  rw [SK_eq]
  have e : (33 :: 32 :: (x ++ y)).dropWhile blk = 33 :: 32 :: (x ++ y) := by rw [List.dropWhile_cons, if_neg (by decide)]
  have r : rmL (33 :: 32 :: (x ++ y)) = true := by
    unfold rmL
    rw [List.head?_cons, List.tail_cons, List.takeWhile_cons, if_neg (by decide)]
    rfl
  rw [e, if_pos r]
  have h2 : ∀ c ∈ (33 :: 32 :: x), c ≠ 10 := by
    intro c hc
    rcases List.mem_cons.1 hc with rfl | hc
    · decide
    · rcases List.mem_cons.1 hc with rfl | hc
      · decide
      · exact h c hc
  have := dw_ten h2 y hy
  rw [show 33 :: 32 :: x ++ y = 33 :: 32 :: (x ++ y) from rfl] at this
  rw [this]
theorem comments_pure {s t : ByteArray} (h1 : (tokR s).2.2 = 0) (hz : s.size + t.size + 4 ≤ 65536) (hb : ¬ stR t < t.size) (hn : ∀ i, i < t.size → byN t i ≠ 10) :
    tokR (s ++ ⟨#[10, 33, 32]⟩ ++ t) = ((tokR s).1, 0, 0) ∧ tokR (s ++ ⟨#[10, 33, 32]⟩ ++ t ++ ⟨#[10]⟩) = ((tokR s).1, 0, 0) := by
  obtain ⟨_, l, hl, e1⟩ := tokR_ok h1
  obtain ⟨x, hx, e2⟩ := valid_tx hb
  have hn2 := no_ten e2 hn
  have key : ∀ y : List Nat, Ynl y → VL y → SK y = [] → wl y ≤ 1 → tokR (tx (l ++ 10 :: (33 :: 32 :: (x ++ y)))) = ((tokR s).1, 0, 0) := by
    intro y hy hvy hsk hw
    have hvx : VL (33 :: 32 :: (x ++ y)) := by
      have h0 : VL [33, 32] := by
        intro c hc
        simp only [List.mem_cons, List.not_mem_nil, or_false] at hc
        rcases hc with rfl | rfl <;> exact .inl (by decide)
      exact VL.app h0 (VL.app hx hvy)
    have hs : s.size = wl l := by rw [e1, tx_size]
    have ht : t.size = wl x := by rw [e2, tx_size]
    have hw2 : wl (33 :: 32 :: (x ++ y)) = 2 + (wl x + wl y) := by rw [wl_cons, wl_cons, wl_app, show wr 33 = 1 from rfl, show wr 32 = 1 from rfl]; omega
    have hm := tok_more hl hvx e1 h1 (by omega)
    rw [hm]
    have hv : VL (l ++ 10 :: (33 :: 32 :: (x ++ y))) := VL.app hl (VL.app (a := [10]) (by intro c hc; simp at hc; subst hc; exact .inl (by decide)) hvx)
    have gx : Sfx (tx (l ++ 10 :: (33 :: 32 :: (x ++ y)))) (33 :: 32 :: (x ++ y)) (s.size + 1) := by
      have := (sfx_all hv).drop.tail
      rwa [Nat.zero_add, show wr 10 = 1 from rfl, ← hs] at this
    have gb := bg_sfx gx
    rw [SK_remark hn2 y hy, hsk] at gb
    have := gb.size
    rw [wl_nil] at this
    exact tokH_end _ (by omega)
  constructor
  · have := key [] (.inl rfl) (fun c hc => by simp at hc) rfl (by decide)
    rw [← this, e1, e2, show (⟨#[10, 33, 32]⟩ : ByteArray) = tx [10, 33, 32] from rfl, tx_app, tx_app, List.append_nil, List.append_assoc]
    rfl
  · have := key [10] (.inr ⟨[], rfl⟩) (fun c hc => by simp at hc; subst hc; exact .inl (by decide)) rfl (by decide)
    rw [← this, e1, e2, show (⟨#[10, 33, 32]⟩ : ByteArray) = tx [10, 33, 32] from rfl, show (⟨#[10]⟩ : ByteArray) = tx [10] from rfl, tx_app, tx_app, tx_app, List.append_assoc, List.append_assoc]
    rfl
set_option maxRecDepth 100000 in
set_option maxHeartbeats 1000000 in
theorem comments_walk (s t : ByteArray) (ht : t.size ≤ 140737488355328) (w : World) (h : Nog w) : Calls Tryd.prog 8 #[.string s, .string t] w fun e w' => e = .returned (.bool true) ∧ Below w.heap.size w w' := by
  have HA : Hid (Calls Tryd.prog 9 #[] w fun e w' => e = .returned (.bool true) ∧ Only (fun _ => False) w w') := awake_any w h
  have HT : Hid (∀ x w1, Only (fun _ => False) w w1 → Calls Tryd.prog 10 #[.string x] w1 fun e w' => ∃ v, e = .returned (.tuple #[v, .int .i64 ((tokR x).2.1 : Nat), .int .i64 (tokR x).2.2]) ∧ Hid (ToksAt w' w1.heap.size v (tokR x).1 ∧ Below w1.heap.size w1 w')) := fun x w1 o => tokens_any x w1 (h.frame o)
  have HJ : Hid ((tokR s).2.2 = 0 → s.size + t.size + 4 ≤ 65536 → ¬ stR t < t.size → (∀ i, i < t.size → byN t i ≠ 10) → tokR (s ++ ⟨#[10, 33, 32]⟩ ++ t) = ((tokR s).1, 0, 0) ∧ tokR (s ++ ⟨#[10, 33, 32]⟩ ++ t ++ ⟨#[10]⟩) = ((tokR s).1, 0, 0)) := comments_pure
  have HZ1 : Hid ((tokR s).2.2 = 0 → s.size ≤ 65536) := tokR_size
  have HL1 : Hid ((tokR s).1.length ≤ 4096) := tokR_len s
  have HT1 := HT.out s
  obtain ⟨⟨A, p1, e1⟩, hr1⟩ : ∃ r, r = tokR s := ⟨_, rfl⟩
  rw [← hr1] at HT1 HJ HZ1 HL1
  dsimp only at HT1 HJ HZ1 HL1
  have HC1 : Hid (∀ w1, Only (fun _ => False) w w1 → Calls Tryd.prog 10 #[.string s] w1 _) := HT1
  clear hr1 h HT1
  go_enter Tryd.func8, Tryd.ntmps8
  go_wp2_with fail
  refine (show Calls Tryd.prog 9 _ _ _ from HA.out).mono ?_
  rintro ea w1 ⟨rfl, o1⟩
  have O1 : Hid (Only (fun _ => False) w w1) := o1
  clear HA o1
  go_wp2_with fail
  refine (show Calls Tryd.prog 10 _ _ _ from HC1.out _ O1.out).mono ?_
  rintro eb w2 ⟨v1, rfl, g1⟩
  have O2 : Hid (Only (fun _ => False) w w2) := O1.out.trans (below_only g1.out.2) (fun _ _ x => x)
  have T2 : Hid (ToksAt w2 w.heap.size v1 A) := ⟨g1.out.1.1, owns_lower g1.out.1.2 O1.out.size⟩
  clear HC1 O1 g1
  obtain ⟨ao1, cap1, rfl⟩ := T2.out.1
  by_cases he1 : e1 = 0
  · subst he1
    have z1 := HZ1.out rfl
    by_cases hz : s.size + t.size + 4 ≤ 65536
    · have b1 : decide ((65536 : Int) < (s.size : Int) + (t.size : Int) + 4) = false := decide_eq_false (by omega)
      have HB : Hid (Calls Tryd.prog 19 #[.string t] w2 fun e w' => e = .returned (.int .i64 (badR t)) ∧ Only (fun _ => False) w2 w') := bad_any t (by omega) w2
      have hbr : badR t = if stR t < t.size then (stR t : Int) else -1 := rfl
      by_cases hb : stR t < t.size
      · rw [if_pos hb] at hbr
        rw [hbr] at HB
        have b2 : (0 : Int) ≤ (stR t : Int) := Int.natCast_nonneg _
        go_wp2_with fail
        refine (show Calls Tryd.prog 19 _ _ _ from HB.out).mono ?_
        rintro ec w3 ⟨rfl, o3⟩
        go_wp2
        go_ret
        exact ⟨rfl, only_below (O2.out.trans o3 (fun _ _ x => x))⟩
      · rw [if_neg hb] at hbr
        rw [hbr] at HB
        go_wp2_with fail
        refine (show Calls Tryd.prog 19 _ _ _ from HB.out).mono ?_
        rintro ec w3 ⟨rfl, o3⟩
        have O3 : Hid (Only (fun _ => False) w w3) := O2.out.trans o3 (fun _ _ x => x)
        have T3 : Hid (ToksAt w3 w.heap.size (.slice ao1 A.length cap1) A) := toks_only T2.out o3
        clear HB o3 T2 O2
        go_wp2
        go_loopw [8] (fun r8 wr => ∃ k : Nat, k ≤ t.size ∧ r8 = .int .i64 (k : Int) ∧ wr = w3 ∧ Hid (∀ i, i < k → byN t i ≠ 10)) (fun r8 _ => t.size - uOf r8)
        case atStart => exact ⟨0, Nat.zero_le _, rfl, rfl, fun i hi => by omega⟩
        case round =>
          obtain ⟨k, hk, rfl, rfl, HI⟩ := hrel
          by_cases hlt : k < t.size
          · have hix : ∀ W : World, (Instr.index 9 (.string t) (.int .i64 (k : Int))).run Tryd.prog W = .ok (.int .u8 (byN t k : Int)) W := fun W => by
              rw [run_index_string W 9 _ _ _ Tryd.underlying9, dif_pos ⟨by omega, by omega⟩]
              simp only [Int.toNat_natCast]
              rw [get_bang]
              rfl
            have k1 : (k : Int) < (t.size : Int) := by omega
            by_cases h10 : byN t k = 10
            · have h10' : ((byN t k : Int) == 10) = true := by rw [h10]; rfl
              go_wp2
              go_ret
              exact ⟨rfl, only_below O3.out⟩
            · have h10' : ((byN t k : Int) == 10) = false := by simp; omega
              have HK : Hid (∀ i, i < k + 1 → byN t i ≠ 10) := fun i hi => by
                rcases Nat.lt_or_ge i k with g | g
                · exact HI.out i g
                · obtain rfl : i = k := by omega
                  exact h10
              clear HI h10
              go_wp2
              go_roundw
              case rel => exact ⟨k + 1, by omega, by go_num, by simp, HK⟩
              case measure => simp only [uOf]; omega
          · have k1 : ¬ (k : Int) < (t.size : Int) := by omega
            obtain ⟨hj1, hj2⟩ := HJ.out (by simp) hz hb (fun i hi => HI.out i (by omega))
            have HC2 := HT.out (s ++ ⟨#[10, 33, 32]⟩ ++ t)
            have HC3 := HT.out (s ++ ⟨#[10, 33, 32]⟩ ++ t ++ ⟨#[10]⟩)
            rw [hj1] at HC2
            rw [hj2] at HC3
            dsimp only at HC2 HC3
            have n1 : (⟨#[10]⟩ : ByteArray).size = 1 := rfl
            have n3 : (⟨#[10, 33, 32]⟩ : ByteArray).size = 3 := rfl
            obtain ⟨S1, hS1⟩ : ∃ S1, S1 = s ++ ⟨#[10, 33, 32]⟩ := ⟨_, rfl⟩
            have hz1 : S1.size = s.size + 3 := by rw [hS1, ByteArray.size_append]; rfl
            have a1 : ∀ W : World, (Op.stringOp .add s ⟨#[10, 33, 32]⟩).run Tryd.prog W = .ok (.string S1) W := fun W => add_str _ W hS1.symm (by omega) (by omega)
            obtain ⟨S2, hS2⟩ : ∃ S2, S2 = S1 ++ t := ⟨_, rfl⟩
            have hz2 : S2.size = s.size + 3 + t.size := by rw [hS2, ByteArray.size_append, hz1]
            have a2 : ∀ W : World, (Op.stringOp .add S1 t).run Tryd.prog W = .ok (.string S2) W := fun W => add_str _ W hS2.symm (by omega) (by omega)
            obtain ⟨S3, hS3⟩ : ∃ S3, S3 = S2 ++ ⟨#[10]⟩ := ⟨_, rfl⟩
            have a3 : ∀ W : World, (Op.stringOp .add S2 ⟨#[10]⟩).run Tryd.prog W = .ok (.string S3) W := fun W => add_str _ W hS3.symm (by omega) (by omega)
            rw [← hS1, ← hS2] at HC2 HC3
            rw [← hS3] at HC3
            have HD2 : Hid (∀ w1, Only (fun _ => False) w w1 → Calls Tryd.prog 10 #[.string S2] w1 _) := HC2
            have HD3 : Hid (∀ w1, Only (fun _ => False) w w1 → Calls Tryd.prog 10 #[.string S3] w1 _) := HC3
            clear HC2 HC3 hj1 hj2 HJ HI HT hS1 hS2 hS3 n1 n3 hz1 hz2 hz hb hbr b1
            go_wp2_with fail
            refine (show Calls Tryd.prog 10 _ _ _ from HD2.out _ O3.out).mono ?_
            rintro ed w4 ⟨v2, rfl, g2⟩
            have O4 : Hid (Only (fun _ => False) w w4) := O3.out.trans (below_only g2.out.2) (fun _ _ x => x)
            have A4 : Hid (ToksAt w4 w.heap.size (.slice ao1 A.length cap1) A) := toks_only T3.out (below_only g2.out.2)
            have B4 : Hid (ToksAt w4 w.heap.size v2 A) := ⟨g2.out.1.1, owns_lower g2.out.1.2 O3.out.size⟩
            clear HD2 g2 T3 O3
            go_wp2_with fail
            refine (show Calls Tryd.prog 10 _ _ _ from HD3.out _ O4.out).mono ?_
            rintro ee w5 ⟨v3, rfl, g3⟩
            have O5 : Hid (Only (fun _ => False) w w5) := O4.out.trans (below_only g3.out.2) (fun _ _ x => x)
            have A5 : Hid (ToksAt w5 w.heap.size (.slice ao1 A.length cap1) A) := toks_only A4.out (below_only g3.out.2)
            have B5 : Hid (ToksAt w5 w.heap.size v2 A) := toks_only B4.out (below_only g3.out.2)
            have C5 : Hid (ToksAt w5 w.heap.size v3 A) := ⟨g3.out.1.1, owns_lower g3.out.1.2 O4.out.size⟩
            clear HD3 g3 A4 B4 O4
            have HS1 : Hid (Calls Tryd.prog 16 #[v2, .slice ao1 A.length cap1] w5 fun e w' => e = .returned (.bool true) ∧ Only (fun _ => False) w5 w') := same_any A HL1.out _ _ w5 (rdt_toks B5.out) (rdt_toks A5.out)
            have HS2 : Hid (∀ w', Only (fun _ => False) w5 w' → Calls Tryd.prog 16 #[v3, .slice ao1 A.length cap1] w' fun e w'' => e = .returned (.bool true) ∧ Only (fun _ => False) w' w'') := fun w' o => same_any A HL1.out _ _ w' ((rdt_toks C5.out).only o) ((rdt_toks A5.out).only o)
            obtain ⟨ao2, cap2, rfl⟩ := B5.out.1
            obtain ⟨ao3, cap3, rfl⟩ := C5.out.1
            go_wp2_with fail
            refine (show Calls Tryd.prog 16 _ _ _ from HS1.out).mono ?_
            rintro ef w6 ⟨rfl, o6⟩
            have O6 : Hid (Only (fun _ => False) w w6) := O5.out.trans o6 (fun _ _ x => x)
            have HS3 : Hid (Calls Tryd.prog 16 _ _ _) := HS2.out _ o6
            clear HS1 HS2 o6
            go_wp2_with fail
            refine (show Calls Tryd.prog 16 _ _ _ from HS3.out).mono ?_
            rintro eg w7 ⟨rfl, o7⟩
            have O7 : Hid (Only (fun _ => False) w w7) := O6.out.trans o7 (fun _ _ x => x)
            clear HS3 o7
            go_wp2
            go_ret
            exact ⟨rfl, only_below O7.out⟩
    · have b1 : decide ((65536 : Int) < (s.size : Int) + (t.size : Int) + 4) = true := decide_eq_true (by omega)
      go_wp2
      go_ret
      exact ⟨rfl, only_below O2.out⟩
  · go_wp2
    go_ret
    exact ⟨rfl, only_below O2.out⟩
end Go.Proofs.YtbijiigobbjlcaaDoor
