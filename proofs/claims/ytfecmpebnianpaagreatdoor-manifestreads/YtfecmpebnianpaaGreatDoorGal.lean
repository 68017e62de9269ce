/- The lines of a text, one at each call: lines, and what it answers. The names behind a word, and the definition that a line is. The definition that a line is. FormTrees: the walk. Trees that are the same: Same, SameAll. Forms that are the same: SameDef, SameForms. -/
import Derived.Test.YtfecmpebnianpaaGreatDoorGak
import Derived.Test.YtfecmpebnianpaaGreatDoorGaa
import Derived.Test.YtfecmpebnianpaaGreatDoorGab
namespace Go.Proofs.YtfecmpebnianpaaGreatDoor
open Go.RowKit
set_option linter.unusedSimpArgs false
set_option linter.unusedVariables false
/-- the closure's two blocks: how many lines were read, and what is left; q: the lines to come -/
def LnS (w : World) (N P : Nat) (q : List (Nat × List UInt8)) (z : Nat) (b : Bool) : Prop := N ≠ P ∧ ∃ n r, w.heap[N]? = some (.cells #[.int .i64 ((n : Nat) : Int)] 3) ∧ w.heap[P]? = some (.cells #[.string (bt r)] 9) ∧ linS r [] n = (q, z, b) ∧ n + r.length ≤ 131072
theorem LnS.only {w w' : World} {N P : Nat} {q : List (Nat × List UInt8)} {z : Nat} {b : Bool} {bs : Nat → Prop} (h : LnS w N P q z b) (o : Only bs w w') (h1 : ¬ bs N) (h2 : ¬ bs P) : LnS w' N P q z b := by
  obtain ⟨hn, n, r, cN, cP, hl⟩ := h
  exact ⟨hn, n, r, (o.block N (Array.getElem?_eq_some_iff.1 cN).1 h1).trans cN, (o.block P (Array.getElem?_eq_some_iff.1 cP).1 h2).trans cP, hl⟩
theorem LnS.lt {w : World} {N P : Nat} {q : List (Nat × List UInt8)} {z : Nat} {b : Bool} (h : LnS w N P q z b) : N < w.heap.size ∧ P < w.heap.size := by
  obtain ⟨_, n, r, cN, cP, _⟩ := h
  exact ⟨(Array.getElem?_eq_some_iff.1 cN).1, (Array.getElem?_eq_some_iff.1 cP).1⟩
/-- how much is left -/
def lnM (w : World) (P : Nat) : Nat := match w.cell? ⟨P, 0, none⟩ with | some (.string s) => s.size | _ => 0
theorem results_line {fn : Func} {u : Tmp} (h : fn.results = #[.cell u 58]) (tmps : Array Value) (w : World) (B : Nat) {x0 x1 x2 : Value} (hb : w.heap[B]? = some (.cells #[x0, x1, x2] 58)) (ha : tmps.getD u undef = .pointer (some ⟨B, 0, none⟩)) :
    (results fn tmps).run Tryz.prog w = .ok (.agg #[x0, x1, x2]) w := by
  have ha' : tmps[u]?.getD undef = .pointer (some ⟨B, 0, none⟩) := by simpa using ha
  have c0 := blk_cells hb 0
  have c1 := blk_cells hb 1
  have c2 := blk_cells hb 2
  simp only [List.getElem?_toArray, List.getElem?_cons_zero, List.getElem?_cons_succ] at c0 c1 c2
  simp [results, h, ha', asAddr, go_sem, loadVar, isAgg, Tryz.underlying58, c0, c1, c2]
theorem lset3 {w : World} {B : Nat} {a b c : Value} {t : TypeId} (h : w.heap[B]? = some (.cells #[a, b, c] t)) (x0 x1 x2 : Value) :
    (((w.setCell ⟨B, 0, none⟩ x0).setCell ⟨B, 1, none⟩ x1).setCell ⟨B, 2, none⟩ x2).heap[B]? = some (.cells #[x0, x1, x2] t) := by
  have g1 := heap_setCell_same _ B 0 _ _ x0 h
  have g2 := heap_setCell_same _ B 1 _ _ x1 g1
  have g3 := heap_setCell_same _ B 2 _ _ x2 g2
  exact g3
theorem lonly3 {w : World} {B : Nat} (x0 x1 x2 : Value) : Only (fun b => b = B) w (((w.setCell ⟨B, 0, none⟩ x0).setCell ⟨B, 1, none⟩ x1).setCell ⟨B, 2, none⟩ x2) :=
  (((Only.refl (fun b => b = B) w).setCell ⟨B, 0, none⟩ _ (fun _ => rfl)).setCell ⟨B, 1, none⟩ _ (fun _ => rfl)).setCell ⟨B, 2, none⟩ _ (fun _ => rfl)
/-- what a call answers -/
def NxP (N P : Nat) (q : List (Nat × List UInt8)) (z : Nat) (b : Bool) (w : World) (e : Ending) (w' : World) : Prop :=
  match q with
  | [] => e = .returned (.agg #[.int .i64 (z : Int), .string ⟨#[]⟩, .bool b]) ∧ Hid (Only (fun x => x = N ∨ x = P) w w')
  | (k, t) :: q' => e = .returned (.agg #[.int .i64 (k : Int), .string (bt t), .bool false]) ∧ Hid (LnS w' N P q' z b ∧ Only (fun x => x = N ∨ x = P) w w')
set_option maxRecDepth 100000 in
set_option maxHeartbeats 4000000 in
theorem next_any {N P : Nat} {q : List (Nat × List UInt8)} {z : Nat} {b : Bool} {w : World} (h : LnS w N P q z b) (hM : Mxl w) (hNM : N ≠ 0 ∧ P ≠ 0) : Calls Tryz.prog 28 #[.pointer (some ⟨N, 0, none⟩), .pointer (some ⟨P, 0, none⟩)] w (NxP N P q z b w) := by
  obtain ⟨hne, n0, r0, cN0, cP0, hl0, hb0⟩ := h
  obtain ⟨C, hC⟩ : ∃ C, C = w.heap.size := ⟨_, rfl⟩
  obtain ⟨W, hW⟩ : ∃ W, W = w.alloc (.cells #[.int .i64 0, .string ⟨#[]⟩, .bool false] 58) := ⟨_, rfl⟩
  have hNlt := (Array.getElem?_eq_some_iff.1 cN0).1
  have hPlt := (Array.getElem?_eq_some_iff.1 cP0).1
  have oW : Only (fun _ => False) w W := by rw [hW]; exact (Only.refl _ w).alloc _
  have bC : W.heap[C]? = some (.cells #[.int .i64 0, .string ⟨#[]⟩, .bool false] 58) := by rw [hW]; exact alloc_at _ _ _ hC
  have HS : Hid (∃ n r, W.heap[N]? = some (.cells #[.int .i64 ((n : Nat) : Int)] 3) ∧ W.heap[P]? = some (.cells #[.string (bt r)] 9) ∧ linS r [] n = (q, z, b) ∧ n + r.length ≤ 131072) := ⟨n0, r0, (oW.block N hNlt (fun g => g)).trans cN0, (oW.block P hPlt (fun g => g)).trans cP0, hl0, hb0⟩
  have HW : Hid (Only (fun x => x = N ∨ x = P) w W) := oW.mono (fun _ _ g => g.elim)
  have HX : Hid (∀ w1, Only (fun x => x = N ∨ x = P) W w1 → w1.heap[C]? = some (.cells #[.int .i64 0, .string ⟨#[]⟩, .bool false] 58)) := fun w1 o1 => (o1.block C (Array.getElem?_eq_some_iff.1 bC).1 (fun g => by omega)).trans bC
  have HD : Hid (N ≠ P ∧ C ≠ N ∧ C ≠ P ∧ w.heap.size = C) := ⟨hne, by omega, by omega, hC.symm⟩
  have HM : Hid (∀ w1, Only (fun x => x = N ∨ x = P) W w1 → Mxl w1) := fun w1 o1 => by
    obtain ⟨m, hm⟩ := hM.frame oW
    exact ⟨m, o1.cell hm (fun g => by simp only at g; omega)⟩
  clear hne cN0 cP0 hl0 hb0 hNlt hPlt oW bC hM hNM n0 r0
  go_enter Tryz.func28, Tryz.ntmps28
  go_wp2
  rw [← hW, ← hC]
  clear hW hC
  go_loopw [3] (fun r3 wr => Hid ((∃ n r, wr.heap[N]? = some (.cells #[.int .i64 ((n : Nat) : Int)] 3) ∧ wr.heap[P]? = some (.cells #[.string (bt r)] 9) ∧ linS r [] n = (q, z, b) ∧ n + r.length ≤ 131072) ∧ Only (fun x => x = N ∨ x = P) W wr)) (fun r3 wr => lnM wr P)
  case atStart => exact ⟨HS.out, Only.refl _ _⟩
  case round =>
    have HI := hrel
    clear hrel
    obtain ⟨w1, hw1⟩ : ∃ w1, w1 = wr := ⟨_, rfl⟩
    rw [← hw1] at HI ⊢
    clear hw1
    obtain ⟨⟨n, r, cN, cP, hl, hb⟩, o1⟩ := HI.out
    have d0 : w1.cell? ⟨N, 0, none⟩ = some (.int .i64 (n : Int)) := blk_cells cN 0
    have f0 := blk_froz cN 0
    obtain ⟨w2, hw2⟩ : ∃ w2, w2 = w1.setCell ⟨N, 0, none⟩ (.int .i64 ((n : Int) + 1)) := ⟨_, rfl⟩
    have o12 : Only (fun x => x = N) w1 w2 := by rw [hw2]; exact (Only.refl _ w1).setCell _ _ (fun _ => rfl)
    have cN2 : w2.heap[N]? = some (.cells #[.int .i64 ((n : Int) + 1)] 3) := by rw [hw2]; exact (heap_setCell_same _ _ _ _ _ _ cN).trans rfl
    have cP2 : w2.heap[P]? = some (.cells #[.string (bt r)] 9) := (o12.block P (Array.getElem?_eq_some_iff.1 cP).1 (fun g => HD.out.1 g.symm)).trans cP
    have d1 : w2.cell? ⟨P, 0, none⟩ = some (.string (bt r)) := blk_cells cP2 0
    have oW2 : Only (fun x => x = N ∨ x = P) W w2 := o1.trans (o12.mono (bs' := fun x => x = N ∨ x = P) (fun _ _ g => .inl g)) (fun _ _ g => g)
    have HC : Hid _ := cut_any (bt r) ⟨#[10]⟩ w2 (by rw [bt_size]; omega) (HM.out w2 oW2)
    rw [bt_list, show (⟨#[10]⟩ : ByteArray).data.toList = [10] from rfl] at HC
    have HK : Hid (w2.heap[N]? = some (.cells #[.int .i64 ((n : Int) + 1)] 3) ∧ w2.heap[P]? = some (.cells #[.string (bt r)] 9) ∧ Only (fun x => x = N ∨ x = P) W w2) := ⟨cN2, cP2, oW2⟩
    have hc := linS_cut r [] n
    rw [hl] at hc
    have i0 : (0 : Int) ≤ (n : Int) := by omega
    have i1 : (n : Int) ≤ 131072 := by omega
    have HB : Hid (n + r.length ≤ 131072) := hb
    have HMz : Hid (lnM w1 P = r.length) := by show lnM w1 P = r.length; unfold lnM; rw [show w1.cell? ⟨P, 0, none⟩ = some (.string (bt r)) from blk_cells cP 0]; exact bt_size r
    cases hf : (Lib.cut r [10]).2.2 with
    | false =>
      have hmiss := cut_miss r hf
      rw [hf] at hc
      simp only [Bool.false_eq_true, if_false, List.nil_append, Prod.mk.injEq] at hc
      obtain ⟨rfl, rfl, hbb⟩ := hc
      rw [hmiss] at HC
      simp only at HC
      have hE : (bt r).toList.isEmpty = b := by
        rw [hbb]
        cases r <;> simp [bt, ByteArray.toList_eq]
      obtain ⟨R, hR⟩ : ∃ R, R = bt r := ⟨_, rfl⟩
      have hR2 : (⟨r.toArray⟩ : ByteArray) = R := hR.symm
      rw [← hR] at hE HK d1
      rw [hR2] at HC
      rw [← hR] at HC
      rw [hw2] at d1
      clear hl hb hmiss hf hbb cN cP cN2 cP2 o1 o12 oW2 HI HMz hR hR2
      go_wp2_with fail
      rw [← hw2]
      refine (show Calls Tryz.prog 29 _ _ _ from HC.out).mono ?_
      rintro e w3 ⟨rfl, o3⟩
      have cC := HX.out w3 (HK.out.2.2.trans (o3.mono (bs' := fun x => x = N ∨ x = P) (fun _ _ g => g.elim)) (fun _ _ g => g))
      have d3 : w3.cell? ⟨N, 0, none⟩ = some (.int .i64 ((n : Int) + 1)) := o3.cell (blk_cells HK.out.1 0) (fun g => g)
      have e0 : w3.cell? ⟨C, 0, none⟩ = some (.int .i64 0) := blk_cells cC 0
      have e1 : w3.cell? ⟨C, 1, none⟩ = some (.string ⟨#[]⟩) := blk_cells cC 1
      have e2 : w3.cell? ⟨C, 2, none⟩ = some (.bool false) := blk_cells cC 2
      have fC0 := blk_froz cC 0
      have fC1 := blk_froz cC 1
      have fC2 := blk_froz cC 2
      have HO : Hid (Only (fun x => x = N ∨ x = P) w w3 ∧ w3.heap[C]? = some (.cells #[.int .i64 0, .string ⟨#[]⟩, .bool false] 58)) := ⟨(HW.out.trans HK.out.2.2 (fun _ _ g => g)).trans (o3.mono (bs' := fun x => x = N ∨ x = P) (fun _ _ g => g.elim)) (fun _ _ g => g), cC⟩
      clear HC HM HX HS d0 d1 f0 hw2 o3 HK HW
      go_wp2
      refine bodyPost_ret (results_line rfl _ _ C (lset3 HO.out.2 _ _ _) rfl) rfl ?_
      refine ⟨by simp, ?_⟩
      exact HO.out.1.trans (lonly3 _ _ _) (fun k hk g => by have := HD.out.2.2.2; omega)
    | true =>
      have hlen := cut_len r hf
      rw [hf] at hc
      simp only [if_true, List.nil_append] at hc
      obtain ⟨A, hA⟩ : ∃ A, A = (Lib.cut r [10]).1 := ⟨_, rfl⟩
      obtain ⟨B, hB⟩ : ∃ B, B = (Lib.cut r [10]).2.1 := ⟨_, rfl⟩
      rw [← hA, ← hB] at hc hlen HC
      rw [hf] at HC
      by_cases hz : A = []
      · rw [if_pos hz] at hc
        subst hz
        have HN : Hid (linS B [] (n + 1) = (q, z, b) ∧ B.length < r.length) := ⟨hc.symm, by simp at hlen; omega⟩
        obtain ⟨S, hS⟩ : ∃ S, S = bt B := ⟨_, rfl⟩
        have HSB : Hid (S = bt B) := hS
        rw [show (⟨B.toArray⟩ : ByteArray) = S from hS.symm] at HC
        obtain ⟨R, hR⟩ : ∃ R, R = bt r := ⟨_, rfl⟩
        rw [← hR] at HK d1 HC
        rw [hw2] at d1
        clear hl hb hf cN cP cN2 cP2 o1 o12 oW2 HI hR hS hA hB hlen hc
        go_wp2_with fail
        rw [← hw2]
        refine (show Calls Tryz.prog 29 _ _ _ from HC.out).mono ?_
        rintro e w3 ⟨rfl, o3⟩
        have k0 := (o3.block N (Array.getElem?_eq_some_iff.1 HK.out.1).1 (fun g => g)).trans HK.out.1
        have k1 := (o3.block P (Array.getElem?_eq_some_iff.1 HK.out.2.1).1 (fun g => g)).trans HK.out.2.1
        have oP : Only (fun x => x = P) w3 (w3.setCell ⟨P, 0, none⟩ (.string S)) := (Only.refl _ w3).setCell _ _ (fun _ => rfl)
        have e0 : w3.cell? ⟨P, 0, none⟩ = some (.string R) := blk_cells k1 0
        have fP := blk_froz k1 0
        have HO : Hid ((∃ n' r', (w3.setCell ⟨P, 0, none⟩ (.string S)).heap[N]? = some (.cells #[.int .i64 ((n' : Nat) : Int)] 3) ∧ (w3.setCell ⟨P, 0, none⟩ (.string S)).heap[P]? = some (.cells #[.string (bt r')] 9) ∧ linS r' [] n' = (q, z, b) ∧ n' + r'.length ≤ 131072) ∧ Only (fun x => x = N ∨ x = P) W (w3.setCell ⟨P, 0, none⟩ (.string S))) := by
          refine ⟨⟨n + 1, B, ?_, ?_, HN.out.1, ?_⟩, ?_⟩
          · rw [oP.block N (Array.getElem?_eq_some_iff.1 k0).1 HD.out.1, k0]
            rfl
          · rw [← HSB.out]
            exact (heap_setCell_same _ _ _ _ _ _ k1).trans rfl
          · have := HN.out.2; have : n + r.length ≤ 131072 := HB.out; omega
          · exact (HK.out.2.2.trans (o3.mono (bs' := fun x => x = N ∨ x = P) (fun _ _ g => g.elim)) (fun _ _ g => g)).trans (oP.mono (bs' := fun x => x = N ∨ x = P) (fun _ _ g => .inr g)) (fun _ _ g => g)
        have HQ : Hid (lnM (w3.setCell ⟨P, 0, none⟩ (.string S)) P < lnM w1 P) := by
          show _ < _
          rw [show lnM w1 P = r.length from HMz.out]
          have h9 : (w3.setCell ⟨P, 0, none⟩ (.string S)).cell? ⟨P, 0, none⟩ = some (.string S) := blk_cells ((heap_setCell_same _ P 0 _ _ (.string S) k1).trans rfl) 0
          unfold lnM
          rw [h9]
          show S.size < _
          rw [show S = bt B from HSB.out, bt_size]
          exact HN.out.2
        clear HC d1 f0 hw2 o3 HK k0 k1 oP
        go_wp2
        go_roundw
        case rel => exact HO
        case measure => exact HQ.out
      · rw [if_neg hz] at hc
        simp only [Prod.mk.injEq] at hc
        obtain ⟨rfl, hzz⟩ := hc
        obtain ⟨a0, A1, rfl⟩ : ∃ a0 A1, A = a0 :: A1 := by
          cases A with
          | nil => exact absurd rfl hz
          | cons x y => exact ⟨x, y, rfl⟩
        have hE : (bt (a0 :: A1)).toList.isEmpty = false := by simp [bt, ByteArray.toList_eq]
        obtain ⟨T, hT⟩ : ∃ T, T = bt (a0 :: A1) := ⟨_, rfl⟩
        have HTT : Hid (T = bt (a0 :: A1)) := hT
        rw [← hT] at hE
        rw [show (⟨(a0 :: A1).toArray⟩ : ByteArray) = T from hT.symm] at HC
        have HN : Hid (linS B [] (n + 1) = ((linS B [] (n + 1)).1, z, b) ∧ B.length < r.length) := ⟨by rw [hzz], by omega⟩
        obtain ⟨S, hS⟩ : ∃ S, S = bt B := ⟨_, rfl⟩
        have HSB : Hid (S = bt B) := hS
        rw [show (⟨B.toArray⟩ : ByteArray) = S from hS.symm] at HC
        obtain ⟨R, hR⟩ : ∃ R, R = bt r := ⟨_, rfl⟩
        rw [← hR] at HK d1 HC
        rw [hw2] at d1
        clear hl hb hf cN cP cN2 cP2 o1 o12 oW2 HI hR hS hA hB hlen hzz hz hT
        go_wp2_with fail
        rw [← hw2]
        refine (show Calls Tryz.prog 29 _ _ _ from HC.out).mono ?_
        rintro e w3 ⟨rfl, o3⟩
        have k0 := (o3.block N (Array.getElem?_eq_some_iff.1 HK.out.1).1 (fun g => g)).trans HK.out.1
        have k1 := (o3.block P (Array.getElem?_eq_some_iff.1 HK.out.2.1).1 (fun g => g)).trans HK.out.2.1
        have oP : Only (fun x => x = P) w3 (w3.setCell ⟨P, 0, none⟩ (.string S)) := (Only.refl _ w3).setCell _ _ (fun _ => rfl)
        have e0 : w3.cell? ⟨P, 0, none⟩ = some (.string R) := blk_cells k1 0
        have fP := blk_froz k1 0
        have kN := (oP.block N (Array.getElem?_eq_some_iff.1 k0).1 HD.out.1).trans k0
        have kP := (heap_setCell_same _ P 0 _ _ (.string S) k1).trans rfl
        have o4 : Only (fun x => x = N ∨ x = P) W (w3.setCell ⟨P, 0, none⟩ (.string S)) := (HK.out.2.2.trans (o3.mono (bs' := fun x => x = N ∨ x = P) (fun _ _ g => g.elim)) (fun _ _ g => g)).trans (oP.mono (bs' := fun x => x = N ∨ x = P) (fun _ _ g => .inr g)) (fun _ _ g => g)
        have cC := HX.out _ o4
        have d3 : (w3.setCell ⟨P, 0, none⟩ (.string S)).cell? ⟨N, 0, none⟩ = some (.int .i64 ((n : Int) + 1)) := blk_cells kN 0
        have e1 : (w3.setCell ⟨P, 0, none⟩ (.string S)).cell? ⟨C, 0, none⟩ = some (.int .i64 0) := blk_cells cC 0
        have e2 : (w3.setCell ⟨P, 0, none⟩ (.string S)).cell? ⟨C, 1, none⟩ = some (.string ⟨#[]⟩) := blk_cells cC 1
        have e3 : (w3.setCell ⟨P, 0, none⟩ (.string S)).cell? ⟨C, 2, none⟩ = some (.bool false) := blk_cells cC 2
        have fC0 := blk_froz cC 0
        have fC1 := blk_froz cC 1
        have fC2 := blk_froz cC 2
        have HO : Hid (Only (fun x => x = N ∨ x = P) w (w3.setCell ⟨P, 0, none⟩ (.string S)) ∧ (w3.setCell ⟨P, 0, none⟩ (.string S)).heap[C]? = some (.cells #[.int .i64 0, .string ⟨#[]⟩, .bool false] 58) ∧ LnS (w3.setCell ⟨P, 0, none⟩ (.string S)) N P (linS B [] (n + 1)).1 z b) := by
          refine ⟨HW.out.trans o4 (fun _ _ g => g), cC, HD.out.1, n + 1, B, ?_, ?_, HN.out.1, ?_⟩
          · rw [kN]; rfl
          · rw [← show S = bt B from HSB.out]; exact kP
          · have := HN.out.2; have : n + r.length ≤ 131072 := HB.out; omega
        clear HC HM HX HS d1 f0 hw2 o3 HK HW k0 k1 oP kN kP o4 cC
        go_wp2
        refine bodyPost_ret (results_line rfl _ _ C (lset3 HO.out.2.1 _ _ _) rfl) rfl ?_
        refine ⟨by rw [← show T = bt (a0 :: A1) from HTT.out]; simp, ?_⟩
        have h5 := lonly3 (w := w3.setCell ⟨P, 0, none⟩ (.string S)) (B := C) (.int .i64 ((n : Int) + 1)) (.string T) (.bool false)
        exact ⟨HO.out.2.2.only h5 (fun g => HD.out.2.1 g.symm) (fun g => HD.out.2.2.1 g.symm), HO.out.1.trans h5 (fun k hk g => by have := HD.out.2.2.2; omega)⟩
end Go.Proofs.YtfecmpebnianpaaGreatDoor
namespace Go.Proofs.YtfecmpebnianpaaGreatDoor
open Go.RowKit
set_option linter.unusedSimpArgs false
set_option linter.unusedVariables false
/-- what namesOf answers -/
def NmP (o : Option (List ByteArray)) (w : World) (e : Ending) (w' : World) : Prop :=
  match o with
  | none => e = .returned (.tuple #[.slice none 0 0, .bool false]) ∧ Hid (Only (fun _ => False) w w')
  | some us => ∃ g, e = .returned (.tuple #[.slice (some ⟨g, 0, none⟩) us.length us.length, .bool true]) ∧ Hid (w.heap.size ≤ g ∧ w'.heap[g]? = some (.cells (us.map Value.string).toArray 9) ∧ Only (fun _ => False) w w')
def mnU : Value → Nat
  | .int _ n => n.toNat
  | _ => 0
theorem pcs_pos (s : ByteArray) : 0 < (pcs s).length := by rw [pcs_len]; omega
set_option maxRecDepth 100000 in
set_option maxHeartbeats 4000000 in
theorem namesOf_any (T p0 p : ByteArray) (w : World) (hp : p = p0 ++ ⟨#[32]⟩) (hp0 : p0.size ≤ 1000) (hT : T.size ≤ 131072) (hM : Mxl w) (hN : Nog w) : Calls Tryz.prog 30 #[.string T, .string p0] w (NmP (nmO T p) w) := by
  have a1 : ∀ W : World, (Op.stringOp .add p0 ⟨#[32]⟩).run Tryz.prog W = .ok (.string p) W := fun W => add_str _ W hp.symm (by omega) (by show 1 ≤ 1000000; omega)
  have HC : Hid (Calls Tryz.prog 42 #[.string T, .string p] w fun e w' => e = .returned (cutV T p) ∧ w' = w) := cutprefix_any T p w
  unfold cutV at HC
  unfold nmO
  have O0 : Hid (Only (fun _ => False) w w) := Only.refl _ _
  cases hb : preB T p with
  | false =>
    rw [hb] at HC
    rw [if_neg (by decide)]
    rw [if_neg (by decide)] at HC
    clear hb hp hp0 hT hM hN
    go_enter Tryz.func30, Tryz.ntmps30
    go_wp2_with fail
    refine (show Calls Tryz.prog 42 _ _ _ from HC.out).mono ?_
    rintro e w1 ⟨rfl, hw⟩
    obtain rfl : w = w1 := hw.symm
    clear HC hw
    go_wp2
    go_ret2
    exact ⟨rfl, O0⟩
  | true =>
    rw [hb] at HC
    rw [if_pos rfl]
    rw [if_pos rfl] at HC
    obtain ⟨R, hR⟩ : ∃ R, R = T.extract p.size T.size := ⟨_, rfl⟩
    have hRs : R.size ≤ 131072 := by rw [hR, ByteArray.size_extract]; omega
    rw [← hR] at HC ⊢
    have HL : Hid (Calls Tryz.prog 44 #[.string R] w fun e w' => e = .returned (.string R) ∧ Below w.heap.size w w') := clone_any R w (by omega)
    have HS : Hid (∀ w1, Only (fun _ => False) w w1 → Calls Tryz.prog 43 #[.string R, .string ⟨#[32]⟩] w1 fun e w' => e = .returned (.slice (some ⟨w1.heap.size, 0, none⟩) (pcs R).length (pcs R).length) ∧ w' = w1.alloc (.cells ((pcs R).map Value.string).toArray 9)) := fun w1 o1 => split_any R w1 (by omega) (hM.frame o1)
    obtain ⟨us, hus⟩ : ∃ us, us = pcs R := ⟨_, rfl⟩
    rw [← hus] at HS ⊢
    obtain ⟨L, hL⟩ : ∃ L, L = us.length := ⟨_, rfl⟩
    have hLb : L ≤ 131073 := by
      have h1 := pcs_len R
      have h2 : Lib.countB R ⟨#[32]⟩ ≤ R.size := Lib.countB_le ⟨#[32]⟩ (by decide) R.size R (Nat.le_refl _)
      rw [hL, hus]
      omega
    have HLL : Hid (L = us.length ∧ L ≤ 131073) := ⟨hL, hLb⟩
    have HN : Hid (∀ s w1, Only (fun _ => False) w w1 → Calls Tryz.prog 45 #[.string s] w1 fun e w' => e = .returned (.bool (nameB s)) ∧ Only (fun _ => False) w1 w') := fun s w1 o1 => name_any s w1 (hN.frame o1)
    obtain ⟨Z, hZ⟩ : ∃ Z, Z = us.all nameB := ⟨_, rfl⟩
    have HZ : Hid (Z = us.all nameB) := hZ
    rw [← hZ]
    obtain ⟨o, ho⟩ : ∃ o, o = if Z then some us else none := ⟨_, rfl⟩
    have HP1 : Hid (Z = false → ∀ w', Only (fun _ => False) w w' → NmP o w (.returned (.tuple #[.slice none 0 0, .bool false])) w') := fun h1 w' h2 => by
      rw [ho, h1]
      exact ⟨rfl, h2⟩
    have HP2 : Hid (Z = true → ∀ g w', w.heap.size ≤ g → w'.heap[g]? = some (.cells (us.map Value.string).toArray 9) → Only (fun _ => False) w w' → NmP o w (.returned (.tuple #[.slice (some ⟨g, 0, none⟩) L L, .bool true])) w') := fun h0 g w' h1 h2 h3 => by
      rw [ho, h0]
      exact ⟨g, by rw [hL], h1, h2, h3⟩
    rw [← ho]
    clear ho
    rw [← hL] at HS
    clear hb hp hp0 hT hM hN hR hRs hus hLb hZ hL
    go_enter Tryz.func30, Tryz.ntmps30
    go_wp2_with fail
    refine (show Calls Tryz.prog 42 _ _ _ from HC.out).mono ?_
    rintro e w1 ⟨rfl, hw⟩
    obtain rfl : w = w1 := hw.symm
    clear HC hw
    go_wp2_with fail
    refine (show Calls Tryz.prog 44 _ _ _ from HL.out).mono ?_
    rintro e w2 ⟨rfl, b2⟩
    have HCC : Hid _ := HS.out w2 (below_only b2)
    have O2 : Hid (Only (fun _ => False) w w2) := below_only b2
    clear HL HS b2
    go_wp2_with fail
    refine (show Calls Tryz.prog 43 _ _ _ from HCC.out).mono ?_
    rintro e w3 ⟨rfl, hw3⟩
    obtain ⟨g, hg⟩ : ∃ g, g = w2.heap.size := ⟨_, rfl⟩
    have O3 : Hid (Only (fun _ => False) w w3 ∧ w.heap.size ≤ g ∧ w3.heap[g]? = some (.cells (us.map Value.string).toArray 9)) := by
      refine ⟨?_, by rw [hg]; exact O2.out.size, by rw [hw3]; exact alloc_at _ _ _ hg⟩
      rw [hw3]
      exact O2.out.alloc _
    rw [← hg]
    clear HCC hw3 hg O2
    go_wp2
    go_loopw [25] (fun r wr => ∃ j : Nat, r = .int .i64 (j : Int) ∧ j ≤ L ∧ Hid (Z = (us.drop j).all nameB ∧ Only (fun _ => False) w3 wr)) (fun r _ => L - mnU r)
    case atStart => exact ⟨0, rfl, Nat.zero_le _, by simpa using HZ.out, Only.refl _ _⟩
    case round =>
      obtain ⟨j, rfl, hj, HI⟩ := hrel
      obtain ⟨w4, hw4⟩ : ∃ w4, w4 = wr := ⟨_, rfl⟩
      rw [← hw4] at HI ⊢
      clear hw4
      have hle := HLL.out.1
      have hlb := HLL.out.2
      by_cases hjL : j < L
      · obtain ⟨x, hx⟩ : ∃ x, us[j]? = some x := ⟨us[j]'(by omega), List.getElem?_eq_getElem (by omega)⟩
        have cx : w4.cell? ⟨g, j, none⟩ = some (.string x) := by
          have h1 : w3.cell? ⟨g, j, none⟩ = some (.string x) := by rw [blk_cells O3.out.2.2 j]; simp [hx]
          exact HI.out.2.cell h1 (fun g => g)
        have hdr : us.drop j = x :: us.drop (j + 1) := by
          have hlt : j < us.length := by omega
          rw [List.drop_eq_getElem_cons hlt]
          have := List.getElem?_eq_getElem hlt
          rw [hx] at this
          injection this with this
          rw [← this]
        have HC : Hid _ := HN.out x w4 (O3.out.1.trans HI.out.2 (fun _ _ g => g))
        obtain ⟨b, hb⟩ : ∃ b, b = nameB x := ⟨_, rfl⟩
        have HX : Hid (Z = (b && (us.drop (j + 1)).all nameB) ∧ Only (fun _ => False) w3 w4 ∧ j < L) := ⟨by rw [HI.out.1, hdr, hb]; rfl, HI.out.2, hjL⟩
        rw [← hb] at HC
        have i1 : (j : Int) < (L : Int) := by omega
        have i0 : (0 : Int) ≤ (j : Int) := by omega
        have i4 : j ≤ 131073 := by omega
        clear hx hdr hb HI hjL hj hle hlb
        go_wp2_with fail
        refine (show Calls Tryz.prog 45 _ _ _ from HC.out).mono ?_
        rintro e w5 ⟨rfl, o5⟩
        have O5 : Hid (Only (fun _ => False) w3 w5) := HX.out.2.1.trans o5 (fun _ _ g => g)
        clear HC o5 cx
        cases b with
        | false =>
          have hz : Hid (Z = false) := by rw [HX.out.1]; rfl
          go_wp2
          go_ret2
          exact HP1.out hz.out w5 (O3.out.1.trans O5.out (fun _ _ g => g))
        | true =>
          have HF : Hid (Z = (us.drop (j + 1)).all nameB ∧ Only (fun _ => False) w3 w5) := ⟨by rw [HX.out.1]; rfl, O5.out⟩
          have HJ : Hid (j < L) := HX.out.2.2
          clear HX O5
          go_wp2
          go_roundw
          case rel => exact ⟨j + 1, by go_num, by have := HJ.out; omega, HF⟩
          case measure => simp only [mnU]; have := HJ.out; omega
      · obtain rfl : j = L := by omega
        have i1 : ¬ (j : Int) < (j : Int) := by omega
        have hz : Hid (Z = true) := by
          have := HI.out.1
          rw [hle, List.drop_length] at this
          exact this
        have HO : Hid (Only (fun _ => False) w3 w4) := HI.out.2
        clear hle hlb HI hjL hj
        go_wp2
        go_ret2
        exact HP2.out hz.out g w4 O3.out.2.1 ((HO.out.block g (Array.getElem?_eq_some_iff.1 O3.out.2.2).1 (fun g => g)).trans O3.out.2.2) (O3.out.1.trans HO.out (fun _ _ g => g))
end Go.Proofs.YtfecmpebnianpaaGreatDoor
namespace Go.Proofs.YtfecmpebnianpaaGreatDoor
open Go.RowKit
set_option linter.unusedSimpArgs false
set_option linter.unusedVariables false
/-- what definitionOf answers -/
def DeP (o : Option Fm) (w : World) (e : Ending) (w' : World) : Prop :=
  match o with
  | none => e = .returned (.tuple #[.agg #[.string ⟨#[]⟩, .int .i64 0, .int .i64 0, .slice none 0 0], .bool false]) ∧ Hid (Only (fun _ => False) w w')
  | some fm => ∃ ao cap, e = .returned (.tuple #[.agg #[.string fm.nm, .int .i64 (fm.i : Int), .int .i64 (fm.j : Int), .slice ao fm.b.length cap], .bool true]) ∧ Hid ((∃ S, SqAt w' S 12400 true (.slice ao fm.b.length cap) fm.b ∧ ∀ b, S b → w.heap.size ≤ b ∧ Liv w' b) ∧ Only (fun _ => False) w w')
theorem results_mdef {fn : Func} {u t : Tmp} (h : fn.results = #[.cell u 49, .tmp t]) (tmps : Array Value) (w : World) (B : Nat) {x0 x1 x2 x3 : Value} (hb : w.heap[B]? = some (.cells #[x0, x1, x2, x3] 49)) (ha : tmps.getD u undef = .pointer (some ⟨B, 0, none⟩)) :
    (results fn tmps).run Tryz.prog w = .ok (.tuple #[.agg #[x0, x1, x2, x3], tmps.getD t undef]) w := by
  have ha' : tmps[u]?.getD undef = .pointer (some ⟨B, 0, none⟩) := by simpa using ha
  have c0 := blk_cells hb 0
  have c1 := blk_cells hb 1
  have c2 := blk_cells hb 2
  have c3 := blk_cells hb 3
  simp only [List.getElem?_toArray, List.getElem?_cons_zero, List.getElem?_cons_succ] at c0 c1 c2 c3
  simp [results, h, ha', asAddr, go_sem, loadVar, isAgg, Tryz.underlying49, c0, c1, c2, c3]
theorem lset4 {w : World} {B : Nat} {a b c d : Value} {t : TypeId} (h : w.heap[B]? = some (.cells #[a, b, c, d] t)) (x0 x1 x2 x3 : Value) :
    ((((w.setCell ⟨B, 0, none⟩ x0).setCell ⟨B, 1, none⟩ x1).setCell ⟨B, 2, none⟩ x2).setCell ⟨B, 3, none⟩ x3).heap[B]? = some (.cells #[x0, x1, x2, x3] t) := by
  have g1 := heap_setCell_same _ B 0 _ _ x0 h
  have g2 := heap_setCell_same _ B 1 _ _ x1 g1
  have g3 := heap_setCell_same _ B 2 _ _ x2 g2
  have g4 := heap_setCell_same _ B 3 _ _ x3 g3
  exact g4
theorem lonly4 {w : World} {B : Nat} (x0 x1 x2 x3 : Value) : Only (fun b => b = B) w ((((w.setCell ⟨B, 0, none⟩ x0).setCell ⟨B, 1, none⟩ x1).setCell ⟨B, 2, none⟩ x2).setCell ⟨B, 3, none⟩ x3) :=
  ((((Only.refl (fun b => b = B) w).setCell ⟨B, 0, none⟩ _ (fun _ => rfl)).setCell ⟨B, 1, none⟩ _ (fun _ => rfl)).setCell ⟨B, 2, none⟩ _ (fun _ => rfl)).setCell ⟨B, 3, none⟩ _ (fun _ => rfl)
theorem defO_wf {T : ByteArray} {fm : Fm} (h : defO T = some fm) : Wff fm := by
  unfold defO at h
  split at h
  · split at h
    · rename_i hl
      split at h
      · injection h with h
        rw [← h]
        exact (@parR_wf T).2 _ (by rw [hl]; exact List.mem_singleton_self _)
      · cases h
    · cases h
  · cases h
set_option maxRecDepth 100000 in
set_option maxHeartbeats 4000000 in
theorem definitionOf_any (T : ByteArray) (w : World) (hN : Nog w) : Calls Tryz.prog 31 #[.string T] w (DeP (defO T) w) := by
  obtain ⟨C, hC⟩ : ∃ C, C = w.heap.size := ⟨_, rfl⟩
  obtain ⟨W, hW⟩ : ∃ W, W = w.alloc (.cells #[.string ⟨#[]⟩, .int .i64 0, .int .i64 0, .slice none 0 0] 49) := ⟨_, rfl⟩
  have oW : Only (fun _ => False) w W := by rw [hW]; exact (Only.refl _ w).alloc _
  have bC : W.heap[C]? = some (.cells #[.string ⟨#[]⟩, .int .i64 0, .int .i64 0, .slice none 0 0] 49) := by rw [hW]; exact alloc_at _ _ _ hC
  have hP := parse_any T W (hN.frame oW)
  obtain ⟨l, hl⟩ : ∃ l, l = (parR T).1 := ⟨_, rfl⟩
  obtain ⟨E, hE⟩ : ∃ E, E = (parR T).2.2 := ⟨_, rfl⟩
  have HP : Hid (Calls Tryz.prog 46 #[.string T] W fun x w' => ∃ ao cap p, x = .returned (.tuple #[.slice ao l.length cap, .int .i64 p, .int .i64 E]) ∧ Hid (FsAt w' W.heap.size 12400 (.slice ao l.length cap) l ∧ Only (fun _ => False) W w')) := hP.mono fun x w' g => by
    obtain ⟨v, he, g⟩ := g
    obtain ⟨ao, cap, hv⟩ := g.out.1.form
    subst hv
    rw [← hl, ← hE] at he
    have g1 := g.out.1
    rw [← hl] at g1
    exact ⟨ao, cap, _, he, g1, below_only g.out.2⟩
  have hd : defO T = if E = 0 then (match l with | [fm] => if fm.d then some fm else none | _ => none) else none := by rw [hl, hE]; rfl
  rw [hd]
  have HW : Hid (Only (fun _ => False) w W ∧ W.heap[C]? = some (.cells #[.string ⟨#[]⟩, .int .i64 0, .int .i64 0, .slice none 0 0] 49)) := ⟨oW, bC⟩
  have HCW : Hid (C = w.heap.size) := hC
  clear hP hl hE hd hN oW bC
  have HX : Hid (∀ w1, Only (fun _ => False) W w1 → (w1.heap[C]? = some (.cells #[.string ⟨#[]⟩, .int .i64 0, .int .i64 0, .slice none 0 0] 49) ∧ Only (fun _ => False) w w1 ∧ ∀ x0 x1 x2 x3, Only (fun _ => False) w ((((w1.setCell ⟨C, 0, none⟩ x0).setCell ⟨C, 1, none⟩ x1).setCell ⟨C, 2, none⟩ x2).setCell ⟨C, 3, none⟩ x3))) := fun w1 o1 => by
    have o2 := HW.out.1.trans o1 (fun _ _ g => g)
    exact ⟨(o1.block C (Array.getElem?_eq_some_iff.1 HW.out.2).1 (fun g => g)).trans HW.out.2, o2, fun x0 x1 x2 x3 => o2.trans (lonly4 _ _ _ _) (fun k hk g => by have := HCW.out; omega)⟩
  by_cases h0 : E = 0
  · subst h0
    rw [if_pos rfl]
    match l with
    | [] =>
      obtain ⟨o, ho⟩ : ∃ o : Option Fm, o = none := ⟨_, rfl⟩
      show Calls _ _ _ _ (DeP none w)
      go_enter Tryz.func31, Tryz.ntmps31
      go_wp2_with fail
      rw [← hW, ← hC]
      refine (show Calls Tryz.prog 46 _ _ _ from HP.out).mono ?_
      rintro e w1 ⟨ao, cap, p, rfl, g1⟩
      obtain ⟨b1, o1, on⟩ := HX.out w1 g1.out.2
      have HB : Hid (w1.heap[C]? = some (.cells #[.string ⟨#[]⟩, .int .i64 0, .int .i64 0, .slice none 0 0] 49)) := b1
      have c0 : w1.cell? ⟨C, 0, none⟩ = some (.string ⟨#[]⟩) := blk_cells b1 0
      have c1 : w1.cell? ⟨C, 1, none⟩ = some (.int .i64 0) := blk_cells b1 1
      have c2 : w1.cell? ⟨C, 2, none⟩ = some (.int .i64 0) := blk_cells b1 2
      have c3 : w1.cell? ⟨C, 3, none⟩ = some (.slice none 0 0) := blk_cells b1 3
      have f0 := blk_froz b1 0
      have f1 := blk_froz b1 1
      have f2 := blk_froz b1 2
      have f3 := blk_froz b1 3
      have ON : Hid (∀ x0 x1 x2 x3, Only (fun _ => False) w ((((w1.setCell ⟨C, 0, none⟩ x0).setCell ⟨C, 1, none⟩ x1).setCell ⟨C, 2, none⟩ x2).setCell ⟨C, 3, none⟩ x3)) := on
      clear HP g1 b1 o1 on HX HW hW hC
      go_wp2
      refine bodyPost_ret (results_mdef rfl _ _ C (lset4 HB.out _ _ _ _) rfl) rfl ?_
      exact ⟨rfl, ON.out _ _ _ _⟩
    | a :: b :: r =>
      show Calls _ _ _ _ (DeP none w)
      obtain ⟨L, hL⟩ : ∃ L, L = (a :: b :: r).length := ⟨_, rfl⟩
      rw [← hL] at HP
      have hL1 : (L : Int) ≠ 1 := by rw [hL]; simp; omega
      have hL2 : ((L : Int) != 1) = true := by simpa using hL1
      clear hL hL1
      go_enter Tryz.func31, Tryz.ntmps31
      go_wp2_with fail
      rw [← hW, ← hC]
      refine (show Calls Tryz.prog 46 _ _ _ from HP.out).mono ?_
      rintro e w1 ⟨ao, cap, p, rfl, g1⟩
      obtain ⟨b1, o1, on⟩ := HX.out w1 g1.out.2
      have HB : Hid (w1.heap[C]? = some (.cells #[.string ⟨#[]⟩, .int .i64 0, .int .i64 0, .slice none 0 0] 49)) := b1
      have c0 : w1.cell? ⟨C, 0, none⟩ = some (.string ⟨#[]⟩) := blk_cells b1 0
      have c1 : w1.cell? ⟨C, 1, none⟩ = some (.int .i64 0) := blk_cells b1 1
      have c2 : w1.cell? ⟨C, 2, none⟩ = some (.int .i64 0) := blk_cells b1 2
      have c3 : w1.cell? ⟨C, 3, none⟩ = some (.slice none 0 0) := blk_cells b1 3
      have f0 := blk_froz b1 0
      have f1 := blk_froz b1 1
      have f2 := blk_froz b1 2
      have f3 := blk_froz b1 3
      have ON : Hid (∀ x0 x1 x2 x3, Only (fun _ => False) w ((((w1.setCell ⟨C, 0, none⟩ x0).setCell ⟨C, 1, none⟩ x1).setCell ⟨C, 2, none⟩ x2).setCell ⟨C, 3, none⟩ x3)) := on
      clear HP g1 b1 o1 on HX HW hW hC
      go_wp2
      refine bodyPost_ret (results_mdef rfl _ _ C (lset4 HB.out _ _ _ _) rfl) rfl ?_
      exact ⟨rfl, ON.out _ _ _ _⟩
    | [fm] =>
      show Calls _ _ _ _ (DeP (if fm.d then some fm else none) w)
      cases hfd : fm.d with
      | false =>
        show Calls _ _ _ _ (DeP none w)
        go_enter Tryz.func31, Tryz.ntmps31
        go_wp2_with fail
        rw [← hW, ← hC]
        refine (show Calls Tryz.prog 46 _ _ _ from HP.out).mono ?_
        rintro e w1 ⟨ao, cap, p, rfl, g1⟩
        obtain ⟨b1, o1, on⟩ := HX.out w1 g1.out.2
        obtain ⟨S, ao', cap', hv, hr⟩ := g1.out.1.read
        obtain ⟨g, bv, iv, hao, ⟨x0, _⟩, _⟩ := hr 0 fm rfl
        injection hv with v1 v2 v3
        subst v1
        subst hao
        rw [hfd] at x0
        have HB : Hid (w1.heap[C]? = some (.cells #[.string ⟨#[]⟩, .int .i64 0, .int .i64 0, .slice none 0 0] 49)) := b1
        have y0 : w1.cell? ⟨g, 0, none⟩ = some (.bool false) := x0
        have c0 : w1.cell? ⟨C, 0, none⟩ = some (.string ⟨#[]⟩) := blk_cells b1 0
        have c1 : w1.cell? ⟨C, 1, none⟩ = some (.int .i64 0) := blk_cells b1 1
        have c2 : w1.cell? ⟨C, 2, none⟩ = some (.int .i64 0) := blk_cells b1 2
        have c3 : w1.cell? ⟨C, 3, none⟩ = some (.slice none 0 0) := blk_cells b1 3
        have f0 := blk_froz b1 0
        have f1 := blk_froz b1 1
        have f2 := blk_froz b1 2
        have f3 := blk_froz b1 3
        have ON : Hid (∀ x0 x1 x2 x3, Only (fun _ => False) w ((((w1.setCell ⟨C, 0, none⟩ x0).setCell ⟨C, 1, none⟩ x1).setCell ⟨C, 2, none⟩ x2).setCell ⟨C, 3, none⟩ x3)) := on
        clear HP g1 b1 o1 on HX HW hW hC hr v2 v3 x0 hfd
        go_wp2
        refine bodyPost_ret (results_mdef rfl _ _ C (lset4 HB.out _ _ _ _) rfl) rfl ?_
        exact ⟨rfl, ON.out _ _ _ _⟩
      | true =>
        show Calls _ _ _ _ (DeP (some fm) w)
        go_enter Tryz.func31, Tryz.ntmps31
        go_wp2_with fail
        rw [← hW, ← hC]
        refine (show Calls Tryz.prog 46 _ _ _ from HP.out).mono ?_
        rintro e w1 ⟨ao, cap, p, rfl, g1⟩
        obtain ⟨b1, o1, on⟩ := HX.out w1 g1.out.2
        obtain ⟨us, S, hown, ht, hS⟩ := g1.out.1
        obtain ⟨bv, iv, ⟨u0, u1, u2, u3, u4, _⟩, hfm⟩ := ht 0 fm rfl
        obtain ⟨g, cap', cur, hv, hB, hg, hn, hcm, hcs, htk⟩ : ∃ g cap' cur, Value.slice ao [fm].length cap = .slice (some ⟨g, 0, none⟩) [fm].length cap' ∧ W.heap.size ≤ g ∧ w1.heap[g]? = some (.cells cur 117) ∧ [fm].length ≤ cap' ∧ cap' ≤ maxLen ∧ cur.size = cap' * 6 ∧ cur.toList.take ([fm].length * 6) = us := by
          rcases hown.2 with ⟨_, h2⟩ | ⟨g, cap', cur, hv, hB, hg, hn, hcm, hcs, htk⟩
          · simp at h2
          · exact ⟨g, cap', cur, hv, hB, hg, hn, hcm, hcs, htk⟩
        have hc : ∀ j u, us[j]? = some u → w1.cell? ⟨g, j, none⟩ = some u := fun j u hu => by
          have := hown.cells (g := g) (by rw [hv]; rfl) j u hu
          rwa [addr_ad] at this
        injection hv with v1 v2 v3
        subst v1
        rw [hfd] at u0
        have y0 : w1.cell? ⟨g, 0, none⟩ = some (.bool true) := hc 0 _ u0
        have y1 : w1.cell? ⟨g, 1, none⟩ = some (.string fm.nm) := hc 1 _ u1
        have y2 : w1.cell? ⟨g, 2, none⟩ = some (.int .i64 (fm.i : Int)) := hc 2 _ u2
        have y3 : w1.cell? ⟨g, 3, none⟩ = some (.int .i64 (fm.j : Int)) := hc 3 _ u3
        have y4 : w1.cell? ⟨g, 4, none⟩ = some bv := hc 4 _ u4
        obtain ⟨bo, bc, rfl, hbc, hbl⟩ : ∃ bo bc, bv = .slice bo fm.b.length bc ∧ fm.b.length ≤ bc ∧ ∀ (j : Nat) (x : Tre), fm.b[j]? = some x → ∃ g k u, bo = some ⟨g, k, none⟩ ∧ S g ∧ w1.cell? ⟨g, k + j, none⟩ = some u ∧ TrAt w1 S 12400 true x u := by
          rcases hfm with ⟨_, _, ⟨bo, bc, h1, h2, h3⟩, _⟩ | ⟨h, _⟩
          · exact ⟨bo, bc, h1, h2, h3⟩
          · rw [hfd] at h; cases h
        have HQ : Hid (SqAt w1 S 12400 true (.slice bo fm.b.length bc) fm.b ∧ (∀ b, S b → w.heap.size ≤ b ∧ b ≠ C ∧ Liv w1 b) ∧ C < w1.heap.size) := by
          refine ⟨⟨bo, bc, rfl, hbc, hbl⟩, fun b hb => ?_, (Array.getElem?_eq_some_iff.1 b1).1⟩
          have h1 := hS b hb
          have h2 := HW.out.1.size
          have h3 := (Array.getElem?_eq_some_iff.1 HW.out.2).1
          exact ⟨by omega, by omega, h1.2.1⟩
        have HB : Hid (w1.heap[C]? = some (.cells #[.string ⟨#[]⟩, .int .i64 0, .int .i64 0, .slice none 0 0] 49)) := b1
        have c0 : w1.cell? ⟨C, 0, none⟩ = some (.string ⟨#[]⟩) := blk_cells b1 0
        have c1 : w1.cell? ⟨C, 1, none⟩ = some (.int .i64 0) := blk_cells b1 1
        have c2 : w1.cell? ⟨C, 2, none⟩ = some (.int .i64 0) := blk_cells b1 2
        have c3 : w1.cell? ⟨C, 3, none⟩ = some (.slice none 0 0) := blk_cells b1 3
        have f0 := blk_froz b1 0
        have f1 := blk_froz b1 1
        have f2 := blk_froz b1 2
        have f3 := blk_froz b1 3
        have ON : Hid (∀ x0 x1 x2 x3, Only (fun _ => False) w ((((w1.setCell ⟨C, 0, none⟩ x0).setCell ⟨C, 1, none⟩ x1).setCell ⟨C, 2, none⟩ x2).setCell ⟨C, 3, none⟩ x3)) := on
        clear HP g1 b1 o1 on HX HW hW hC v2 v3 hfd hbl hbc hfm u0 u1 u2 u3 u4 hc hown ht hS hg hcm hcs htk hn hB
        go_wp2
        refine bodyPost_ret (results_mdef rfl _ _ C (lset4 HB.out _ _ _ _) rfl) rfl ?_
        have h4 := lonly4 (w := w1) (B := C) (.string fm.nm) (.int .i64 (fm.i : Int)) (.int .i64 (fm.j : Int)) (.slice bo fm.b.length bc)
        refine ⟨bo, bc, rfl, ⟨S, ?_, fun b hb => ⟨(HQ.out.2.1 b hb).1, (HQ.out.2.1 b hb).2.2.only h4 (HQ.out.2.1 b hb).2.1⟩⟩, ON.out _ _ _ _⟩
        exact HQ.out.1.step (fun _ g => g) (fun a u hs hc => h4.cell hc (HQ.out.2.1 _ hs).2.1) (Nat.le_refl _)
  · rw [if_neg h0]
    have hE2 : (E != 0) = true := by simpa using h0
    clear h0
    go_enter Tryz.func31, Tryz.ntmps31
    go_wp2_with fail
    rw [← hW, ← hC]
    refine (show Calls Tryz.prog 46 _ _ _ from HP.out).mono ?_
    rintro e w1 ⟨ao, cap, p, rfl, g1⟩
    obtain ⟨b1, o1, on⟩ := HX.out w1 g1.out.2
    have HB : Hid (w1.heap[C]? = some (.cells #[.string ⟨#[]⟩, .int .i64 0, .int .i64 0, .slice none 0 0] 49)) := b1
    have c0 : w1.cell? ⟨C, 0, none⟩ = some (.string ⟨#[]⟩) := blk_cells b1 0
    have c1 : w1.cell? ⟨C, 1, none⟩ = some (.int .i64 0) := blk_cells b1 1
    have c2 : w1.cell? ⟨C, 2, none⟩ = some (.int .i64 0) := blk_cells b1 2
    have c3 : w1.cell? ⟨C, 3, none⟩ = some (.slice none 0 0) := blk_cells b1 3
    have f0 := blk_froz b1 0
    have f1 := blk_froz b1 1
    have f2 := blk_froz b1 2
    have f3 := blk_froz b1 3
    have ON : Hid (∀ x0 x1 x2 x3, Only (fun _ => False) w ((((w1.setCell ⟨C, 0, none⟩ x0).setCell ⟨C, 1, none⟩ x1).setCell ⟨C, 2, none⟩ x2).setCell ⟨C, 3, none⟩ x3)) := on
    clear HP g1 b1 o1 on HX HW hW hC
    go_wp2
    refine bodyPost_ret (results_mdef rfl _ _ C (lset4 HB.out _ _ _ _) rfl) rfl ?_
    exact ⟨rfl, ON.out _ _ _ _⟩
end Go.Proofs.YtfecmpebnianpaaGreatDoor
namespace Go.Proofs.YtfecmpebnianpaaGreatDoor
open Go.RowKit
set_option linter.unusedSimpArgs false
set_option linter.unusedVariables false
set_option maxRecDepth 100000 in
theorem rf_info : ∃ i z, Tryz.prog.info? 102 = some i ∧ i.zero = some z ∧ i.size = 9 ∧ i.bytes = 120 ∧ z.cells.size = 9 := ⟨_, _, rfl, rfl, rfl, rfl, rfl⟩
theorem wp_region_post {P : Program} {id : Nat} {ops : Array Oper} {b : Bool} {Q : Exit → Act → World → Prop} {a : Act} {w : World} (R : Act → World → Prop) (h1 : (Code.region id ops b).wp P (fun e a' w' => e = .normal ∧ R a' w') a w) (h2 : ∀ a' w', R a' w' → Q .normal a' w') : (Code.region id ops b).wp P Q a w := by
  intro b' k cs
  obtain ⟨e, a', w', ⟨rfl, hr⟩, harr⟩ := h1 b' k cs
  exact ⟨_, a', w', h2 _ _ hr, harr⟩
/-- a form of the document is put behind a row -/
theorem app_rf {w : World} {B C d : Nat} {v : Value} {acc : List Fm} {fm : Fm} {bl il : Value} (hf : VfAt w B d v acc) (hn : NvAt w C d (bdT fm) bl) (hn2 : NvAt w C d fm.it il) (hC : B ≤ C) (hv : ∀ k, v.ownBlock = some k → k < C) (hB : B ≤ w.heap.size) (hl : acc.length ≤ 4096) :
    ∃ v' w', (∀ ty, (Builtin.append_ #[96, 96] ty #[v, .slice (some ⟨w.heap.size, 0, none⟩) 1 1]).run Tryz.prog (w.alloc (.cells #[.bool fm.d, .string fm.nm, .int .i64 (fm.i : Int), .int .i64 (fm.j : Int), bl, .int .i64 (fm.it.k : Int), .int .i64 (vn fm.it), .string (vs fm.it), il] 102)) = .ok v' w') ∧ VfAt w' B d v' (acc ++ [fm]) ∧ Only (fun k => B ≤ k) w w' := by
  obtain ⟨i0, z0, hi, hz0, hz1, hz2, hz3⟩ := rf_info
  obtain ⟨W, hW⟩ : ∃ W, W = w.alloc (.cells #[.bool fm.d, .string fm.nm, .int .i64 (fm.i : Int), .int .i64 (fm.j : Int), bl, .int .i64 (fm.it.k : Int), .int .i64 (vn fm.it), .string (vs fm.it), il] 102) := ⟨_, rfl⟩
  have oo : Only (fun _ => False) w W := by rw [hW]; exact (Only.refl _ w).alloc _
  have hf2 := hf.only oo (fun _ _ h => h)
  have hn3 := hn.only oo (fun _ _ h => h)
  have hn4 := hn2.only oo (fun _ _ h => h)
  have hblk : W.heap[w.heap.size]? = some (.cells #[.bool fm.d, .string fm.nm, .int .i64 (fm.i : Int), .int .i64 (fm.j : Int), bl, .int .i64 (fm.it.k : Int), .int .i64 (vn fm.it), .string (vs fm.it), il] 102) := by rw [hW]; exact alloc_at _ _ _ rfl
  obtain ⟨us, S, ho, ht, hS⟩ := hf2
  obtain ⟨a1, c1, e1⟩ := hn.form
  obtain ⟨a2, c2, e2⟩ := hn2.form
  have key := fun ty => run_append_own_at (P := Tryz.prog) W B 96 ty 102 i0 z0 9 120 Tryz.underlying96 hi hz0 hz1 hz2 hz3 (by omega) v acc.length us ho ⟨w.heap.size, 0, none⟩ 1 1 (fC fm bl il) rfl (by
      intro j u hj
      rw [addr_ad, blk_cells hblk]
      simpa [fC] using hj) (by
      intro u hu
      simp only [fC, List.mem_cons, List.not_mem_nil, or_false] at hu
      rcases hu with rfl | rfl | rfl | rfl | rfl | rfl | rfl | rfl | rfl
      · rfl
      · rfl
      · rfl
      · rfl
      · rw [e1]; rfl
      · rfl
      · rfl
      · rfl
      · rw [e2]; rfl) (by unfold maxLen; omega) (by omega) (by have := oo.size; omega)
  obtain ⟨v', w', hr, own', hg, _, hat⟩ := key 0
  refine ⟨v', w', fun ty => ?_, VfAt.snoc hg ho ht hS hn3 hn4 hC hv own' hat, oo.mono (bs' := fun k => B ≤ k) (fun _ _ h => h.elim) |>.trans ((Only.refl (fun k => v.ownBlock = some k) W).grown hg (fun k e _ => e)) (fun k hk e => (ho.lt k e).1)⟩
  rw [← hW, ← hr]
  rfl
theorem wpList_append_run {P : Program} {op : Oper} {a : Act} {w w' : World} {Q : Exit → Act → World → Prop} {ops : Array Oper} {rest : List Oper} (hgd : op.guard = none) (s x : Operand) (t : TypeId) (ho : op.op = .call { callee := .builtin .append, args := #[s, x], argTypes := #[t, t] }) (v1 v2 v' : Value) (hs : a.eval s = v1) (hx : a.eval x = v2)
    (hr : ∀ ty, (Builtin.append_ #[t, t] ty #[v1, v2]).run P w = .ok v' w') (h : wpList P ops Q rest (a.put op.dst v') w') : wpList P ops Q (op :: rest) a w :=
  wpList_plain hgd fun _ hK => wp_append_run s x t ho v1 v2 v' hs hx (hr _) (hK _ _ h)
end Go.Proofs.YtfecmpebnianpaaGreatDoor
namespace Go.Proofs.YtfecmpebnianpaaGreatDoor
open Go.RowKit
set_option linter.unusedSimpArgs false
set_option linter.unusedVariables false
/-- the parts of one tree, twice -/
def SaC (d : Nat) : Prop := ∀ (t : Tre) (la lb : Value) (w : World) (S S' : Nat → Prop), VtAt w S d t la → VtAt w S' d t lb → (∃ e, WfT e t) → Calls Tryz.prog 35 #[la, lb] w fun e w' => e = .returned (.bool true) ∧ Only (fun _ => False) w w'
/-- one tree, twice -/
def SmC (d : Nat) : Prop := ∀ (t : Tre) (la lb : Value) (w : World) (S S' : Nat → Prop), VtAt w S d t la → VtAt w S' d t lb → (∃ e, WfT e t) → Calls Tryz.prog 54 #[.agg #[.int .i64 (t.k : Int), .int .i64 (vn t), .string (vs t), la], .agg #[.int .i64 (t.k : Int), .int .i64 (vn t), .string (vs t), lb]] w fun e w' => e = .returned (.bool true) ∧ Only (fun _ => False) w w'
theorem VtAt.form {w : World} {S : Nat → Prop} {d : Nat} {t : Tre} {lv : Value} (h : VtAt w S d t lv) : ∃ ao cap, lv = .slice ao t.l.length cap := by
  cases d with
  | zero => exact h.elim
  | succ d => obtain ⟨ao, cap, hv, _⟩ := h; exact ⟨ao, cap, hv⟩
set_option maxRecDepth 100000 in
set_option maxHeartbeats 4000000 in
theorem same_walk (x0 x1 : Int) (x2 : ByteArray) (a1 a2 : Option Addr) (L c1 c2 : Nat) (w : World) (HC0 : ∀ w1, Only (fun _ => False) w w1 → Calls Tryz.prog 35 #[.slice a1 L c1, .slice a2 L c2] w1 fun e w' => e = .returned (.bool true) ∧ Only (fun _ => False) w1 w') :
    Calls Tryz.prog 54 #[.agg #[.int .i64 x0, .int .i64 x1, .string x2, .slice a1 L c1], .agg #[.int .i64 x0, .int .i64 x1, .string x2, .slice a2 L c2]] w fun e w' => e = .returned (.bool true) ∧ Only (fun _ => False) w w' := by
  have HC : Hid (∀ w1, Only (fun _ => False) w w1 → Calls Tryz.prog 35 #[.slice a1 L c1, .slice a2 L c2] w1 fun e w' => e = .returned (.bool true) ∧ Only (fun _ => False) w1 w') := HC0
  have O0 : Hid (Only (fun _ => False) w w) := Only.refl _ _
  clear HC0
  go_enter Tryz.func54, Tryz.ntmps54
  go_wp2_with fail
  all_goals
    refine (show Calls Tryz.prog 35 _ _ _ from HC.out _ ((O0.out.alloc _).alloc _)).mono ?_
    rintro e w1 ⟨rfl, o1⟩
    have O1 : Hid (Only (fun _ => False) w w1) := ((O0.out.alloc _).alloc _).trans o1 (fun _ _ g => g)
    clear HC o1
    go_wp2
    go_ret
    exact ⟨rfl, O1.out⟩
theorem same_of (d : Nat) (H : SaC d) : SmC d := by
  intro t la lb w S S' h1 h2 hw
  obtain ⟨a1, c1, rfl⟩ := h1.form
  obtain ⟨a2, c2, rfl⟩ := h2.form
  exact same_walk _ _ _ a1 a2 t.l.length c1 c2 w fun w1 o1 => H t _ _ w1 S S' (h1.step (fun _ g => g) (fun a u _ hc => o1.cell hc (fun g => g)) (Nat.le_refl _)) (h2.step (fun _ g => g) (fun a u _ hc => o1.cell hc (fun g => g)) (Nat.le_refl _)) hw
set_option maxRecDepth 100000 in
set_option maxHeartbeats 40000000 in
theorem sameall_of (d : Nat) (H : SmC d) : SaC (d + 1) := by
  intro t la lb w S S' h1 h2 hw
  obtain ⟨aa, ca, rfl, hca, ha⟩ := h1
  obtain ⟨ab, cb, rfl, hcb, hb⟩ := h2
  obtain ⟨e, hw⟩ := hw
  cases e with
  | zero => exact hw.elim
  | succ e =>
    have HE : Hid (∀ (j : Nat) (x : Tre), t.l[j]? = some x → ∃ g k lx g' k' lx', aa = some ⟨g, k, none⟩ ∧ ab = some ⟨g', k', none⟩ ∧ (w.cell? ⟨g, k + j * 4, none⟩ = some (.int .i64 (x.k : Int)) ∧ w.cell? ⟨g, k + j * 4 + 1, none⟩ = some (.int .i64 (vn x)) ∧ w.cell? ⟨g, k + j * 4 + 2, none⟩ = some (.string (vs x)) ∧ w.cell? ⟨g, k + j * 4 + 3, none⟩ = some lx) ∧ (w.cell? ⟨g', k' + j * 4, none⟩ = some (.int .i64 (x.k : Int)) ∧ w.cell? ⟨g', k' + j * 4 + 1, none⟩ = some (.int .i64 (vn x)) ∧ w.cell? ⟨g', k' + j * 4 + 2, none⟩ = some (.string (vs x)) ∧ w.cell? ⟨g', k' + j * 4 + 3, none⟩ = some lx') ∧ ∀ w1, Only (fun _ => False) w w1 → Calls Tryz.prog 54 #[.agg #[.int .i64 (x.k : Int), .int .i64 (vn x), .string (vs x), lx], .agg #[.int .i64 (x.k : Int), .int .i64 (vn x), .string (vs x), lx']] w1 fun e w' => e = .returned (.bool true) ∧ Only (fun _ => False) w1 w') := by
      intro j x hx
      obtain ⟨g, k, lx, p1, p2, p3, p4⟩ := ha j x hx
      obtain ⟨g', k', lx', q1, q2, q3, q4⟩ := hb j x hx
      exact ⟨g, k, lx, g', k', lx', p1, q1, p3, q3, fun w1 o1 => H x lx lx' w1 S S' (p4.step (fun _ g => g) (fun a u _ hc => o1.cell hc (fun g => g)) (Nat.le_refl _)) (q4.step (fun _ g => g) (fun a u _ hc => o1.cell hc (fun g => g)) (Nat.le_refl _)) ⟨e, hw.2 x (List.mem_of_getElem? hx)⟩⟩
    have HLB : Hid (t.l.length ≤ 4096) := hw.1
    clear ha hb hw H hca hcb
    obtain ⟨N, hN⟩ : ∃ N, N = t.l.length := ⟨_, rfl⟩
    have HNN : Hid (N = t.l.length) := hN
    rw [← hN]
    clear hN
    go_enter Tryz.func35, Tryz.ntmps35
    go_wp2
    go_loopw [5] (fun r5 wr => ∃ i : Nat, r5 = .int .i64 (i : Int) ∧ i ≤ N ∧ Hid (Only (fun _ => False) w wr)) (fun r5 _ => N - uOf r5)
    case atStart => exact ⟨0, rfl, Nat.zero_le _, Only.refl _ _⟩
    case round =>
      obtain ⟨i, rfl, hi, HI⟩ := hrel
      obtain ⟨w1, rfl⟩ : ∃ w1, w1 = wr := ⟨_, rfl⟩
      have hNl : N = t.l.length := HNN.out
      have hN4 : t.l.length ≤ 4096 := HLB.out
      by_cases hiN : i < N
      · obtain ⟨x, hx⟩ : ∃ x, t.l[i]? = some x := ⟨t.l[i]'(by omega), List.getElem?_eq_getElem (by omega)⟩
        obtain ⟨g, k, lx, g', k', lx', rfl, rfl, ⟨h0, h1, h2, h3⟩, ⟨h4, h5, h6, h7⟩, hcall⟩ := HE.out i x hx
        have o1 := HI.out
        have HS : Hid (∀ w', Only (fun _ => False) w1 w' → (w'.cell? ⟨g, k + i * 4, none⟩ = some (.int .i64 (x.k : Int)) ∧ w'.cell? ⟨g, k + i * 4 + 1, none⟩ = some (.int .i64 (vn x)) ∧ w'.cell? ⟨g, k + i * 4 + 2, none⟩ = some (.string (vs x)) ∧ w'.cell? ⟨g, k + i * 4 + 3, none⟩ = some lx) ∧ (w'.cell? ⟨g', k' + i * 4, none⟩ = some (.int .i64 (x.k : Int)) ∧ w'.cell? ⟨g', k' + i * 4 + 1, none⟩ = some (.int .i64 (vn x)) ∧ w'.cell? ⟨g', k' + i * 4 + 2, none⟩ = some (.string (vs x)) ∧ w'.cell? ⟨g', k' + i * 4 + 3, none⟩ = some lx')) := fun w' o => by
          have oo := o1.trans o (fun _ _ g => g)
          exact ⟨⟨oo.cell h0 (fun g => g), oo.cell h1 (fun g => g), oo.cell h2 (fun g => g), oo.cell h3 (fun g => g)⟩, ⟨oo.cell h4 (fun g => g), oo.cell h5 (fun g => g), oo.cell h6 (fun g => g), oo.cell h7 (fun g => g)⟩⟩
        have HCC : Hid (∀ w1, Only (fun _ => False) w w1 → Calls Tryz.prog 54 #[.agg #[.int .i64 (x.k : Int), .int .i64 (vn x), .string (vs x), lx], .agg #[.int .i64 (x.k : Int), .int .i64 (vn x), .string (vs x), lx']] w1 fun e w' => e = .returned (.bool true) ∧ Only (fun _ => False) w1 w') := hcall
        obtain ⟨⟨c0, c1, c2, c3⟩, ⟨c4, c5, c6, c7⟩⟩ := HS.out w1 (Only.refl _ _)
        have HB : Hid (i < N ∧ N ≤ 4096) := ⟨hiN, by omega⟩
        have i1 : (i : Int) < (N : Int) := by omega
        have i0 : (0 : Int) ≤ (i : Int) := by omega
        have hi4 : i ≤ 4096 := by omega
        obtain ⟨x0, hx0⟩ : ∃ x0, x0 = (x.k : Int) := ⟨_, rfl⟩
        obtain ⟨x1, hx1⟩ : ∃ x1, x1 = vn x := ⟨_, rfl⟩
        obtain ⟨x2, hx2⟩ : ∃ x2, x2 = vs x := ⟨_, rfl⟩
        rw [← hx0, ← hx1, ← hx2] at HCC HS
        rw [← hx0] at c0 c4
        rw [← hx1] at c1 c5
        rw [← hx2] at c2 c6
        clear hx0 hx1 hx2 HE h0 h1 h2 h3 h4 h5 h6 h7 hcall o1 hx hNl hN4 hi hiN
        go_wp2_with fail
        have OR : Hid (Only (fun _ => False) w1 w1) := Only.refl _ _
        go_region_held3 (fun w' => (w'.cell? ⟨g, k + i * 4, none⟩ = some (.int .i64 x0) ∧ w'.cell? ⟨g, k + i * 4 + 1, none⟩ = some (.int .i64 x1) ∧ w'.cell? ⟨g, k + i * 4 + 2, none⟩ = some (.string x2) ∧ w'.cell? ⟨g, k + i * 4 + 3, none⟩ = some lx) ∧ (w'.cell? ⟨g', k' + i * 4, none⟩ = some (.int .i64 x0) ∧ w'.cell? ⟨g', k' + i * 4 + 1, none⟩ = some (.int .i64 x1) ∧ w'.cell? ⟨g', k' + i * 4 + 2, none⟩ = some (.string x2) ∧ w'.cell? ⟨g', k' + i * 4 + 3, none⟩ = some lx'))
          (first
            | with_reducible exact HS.out _ OR.out.drew
            | with_reducible exact HS.out _ O2.out)
          (first | (go_at_call 54; refine (show Calls Tryz.prog 54 _ _ _ from HCC.out _ HI.out.drew).mono ?_; rintro ex w2 ⟨rfl, o2⟩; have O2 : Hid (Only (fun _ => False) w1 w2) := OR.out.drew.trans o2 (fun _ _ g => g)))
        have HK : Hid (Only (fun _ => False) w w2) := HI.out.trans O2.out (fun _ _ g => g)
        clear HI O2 OR HS HCC c0 c1 c2 c3 c4 c5 c6 c7 o2
        go_wp2
        go_roundw
        case rel => exact ⟨i + 1, by go_num, by have := HB.out; omega, HK⟩
        case measure => simp only [uOf]; have := HB.out; omega
      · obtain rfl : i = N := by omega
        have i1 : ¬ (i : Int) < (i : Int) := by omega
        clear HE hNl hN4 hi hiN
        go_wp2
        go_ret
        exact ⟨rfl, HI.out⟩
theorem sameT_any : ∀ (d : Nat), SaC d ∧ SmC d
  | 0 => ⟨fun t la lb w S S' h => h.elim, fun t la lb w S S' h => h.elim⟩
  | d + 1 => ⟨sameall_of d (sameT_any d).2, same_of (d + 1) (sameall_of d (sameT_any d).2)⟩
end Go.Proofs.YtfecmpebnianpaaGreatDoor
namespace Go.Proofs.YtfecmpebnianpaaGreatDoor
open Go.RowKit
set_option linter.unusedSimpArgs false
set_option linter.unusedVariables false
set_option maxRecDepth 100000 in
set_option maxHeartbeats 4000000 in
theorem samedef_walk (nm : ByteArray) (x y : Int) (a1 a2 : Option Addr) (L c1 c2 : Nat) (w : World) (HC0 : ∀ w1, Only (fun _ => False) w w1 → Calls Tryz.prog 35 #[.slice a1 L c1, .slice a2 L c2] w1 fun e w' => e = .returned (.bool true) ∧ Only (fun _ => False) w1 w') :
    Calls Tryz.prog 18 #[.agg #[.string nm, .int .i64 x, .int .i64 y, .slice a1 L c1], .agg #[.string nm, .int .i64 x, .int .i64 y, .slice a2 L c2]] w fun e w' => e = .returned (.bool true) ∧ Only (fun _ => False) w w' := by
  have HC : Hid (∀ w1, Only (fun _ => False) w w1 → Calls Tryz.prog 35 #[.slice a1 L c1, .slice a2 L c2] w1 fun e w' => e = .returned (.bool true) ∧ Only (fun _ => False) w1 w') := HC0
  have O0 : Hid (Only (fun _ => False) w w) := Only.refl _ _
  clear HC0
  go_enter Tryz.func18, Tryz.ntmps18
  go_wp2_with fail
  refine (show Calls Tryz.prog 35 _ _ _ from HC.out _ ((O0.out.alloc _).alloc _)).mono ?_
  rintro e w1 ⟨rfl, o1⟩
  have O1 : Hid (Only (fun _ => False) w w1) := ((O0.out.alloc _).alloc _).trans o1 (fun _ _ g => g)
  clear HC o1
  go_wp2
  go_ret
  exact ⟨rfl, O1.out⟩
/-- a slice of the document's forms that can be read -/
def VfQ (w : World) (S : Nat → Prop) (d : Nat) (v : Value) (l : List Fm) : Prop :=
  ∃ ao cap, v = .slice ao l.length cap ∧ ∀ (j : Nat) (fm : Fm), l[j]? = some fm → ∃ g k bl il, ao = some ⟨g, k, none⟩ ∧ (∀ i u, (fC fm bl il)[i]? = some u → w.cell? ⟨g, k + j * 9 + i, none⟩ = some u) ∧ VtAt w S d (bdT fm) bl ∧ VtAt w S d fm.it il
theorem VfAt.read {w : World} {B d : Nat} {v : Value} {l : List Fm} (h : VfAt w B d v l) : ∃ S, VfQ w S d v l := by
  obtain ⟨us, S, ho, ht, hS⟩ := h
  refine ⟨S, ?_⟩
  rcases ho.2 with ⟨rfl, h2⟩ | ⟨g, cap, cur, hv, hB, hg, hn, hcm, hcs, htk⟩
  · have : l = [] := List.eq_nil_of_length_eq_zero h2
    subst this
    exact ⟨none, 0, rfl, fun j fm hj => by simp at hj⟩
  · refine ⟨some ⟨g, 0, none⟩, cap, hv, fun j fm hj => ?_⟩
    obtain ⟨bl, il, h0, h1, h2⟩ := ht j fm hj
    refine ⟨g, 0, bl, il, rfl, fun i u hu => ?_, h1, h2⟩
    have := ho.cells (g := g) (by rw [hv]; rfl) _ u (h0 i u hu)
    rw [addr_ad] at this
    rw [Nat.zero_add]
    exact this
theorem VfQ.only {w w' : World} {S : Nat → Prop} {d : Nat} {v : Value} {l : List Fm} (h : VfQ w S d v l) (o : Only (fun _ => False) w w') : VfQ w' S d v l := by
  obtain ⟨ao, cap, hv, hl⟩ := h
  refine ⟨ao, cap, hv, fun j fm hj => ?_⟩
  obtain ⟨g, k, bl, il, ha, h0, h1, h2⟩ := hl j fm hj
  exact ⟨g, k, bl, il, ha, fun i u hu => o.cell (h0 i u hu) (fun g => g), h1.step (fun _ g => g) (fun a u _ hc => o.cell hc (fun g => g)) (Nat.le_refl _), h2.step (fun _ g => g) (fun a u _ hc => o.cell hc (fun g => g)) (Nat.le_refl _)⟩
end Go.Proofs.YtfecmpebnianpaaGreatDoor
