/- One vocabulary of a text: read. -/
import Derived.Test.YtfecmpebnianpaaGreatDoorGam
namespace Go.Proofs.YtfecmpebnianpaaGreatDoor
open Go.RowKit
set_option linter.unusedSimpArgs false
set_option linter.unusedVariables false
theorem defO_nil : defO (bt []) = none := by kernel_rfl
theorem nmO_nil : nmO (bt []) useB = none := by kernel_rfl
theorem nmO_nilV : nmO (bt []) vocB = none := by kernel_rfl
/-- the line that comes next, and those behind -/
def curO (z : Nat) : List (Nat × List UInt8) → (Nat × List UInt8) × List (Nat × List UInt8)
  | [] => ((z, []), [])
  | c :: q => (c, q)
theorem mpD_cur (z : Nat) (q : List (Nat × List UInt8)) (acc : List Fm) : mpD z q acc = mpD z ((curO z q).1 :: (curO z q).2) acc := by
  cases q with
  | nil =>
    show Except.error z = (if bt [] = endB then _ else _)
    rw [if_neg (by decide), defO_nil]
  | cons c q => rfl
theorem mpU_cur (z : Nat) (q : List (Nat × List UInt8)) : mpU z q = mpU z ((curO z q).1 :: (curO z q).2) := by
  cases q with
  | nil =>
    show Except.error z = mpU z [(z, [])]
    unfold mpU
    simp only [nmO_nil]
    rw [show mpD z [(z, [])] [] = .error z from (mpD_cur z [] []).symm]
    rfl
  | cons c q => rfl
theorem linS_len : ∀ (r a : List UInt8) (n : Nat), ∀ x ∈ (linS r a n).1, x.2.length ≤ a.length + r.length
  | [], a, n, x, h => by simp [linS] at h
  | c :: r, a, n, x, h => by
    unfold linS at h
    split at h
    · split at h
      · have := linS_len r [] (n + 1) x h
        simp at this ⊢
        omega
      · rcases List.mem_cons.1 h with rfl | h
        · simp
        · have := linS_len r [] (n + 1) x h
          simp at this ⊢
          omega
    · have := linS_len r (a ++ [c]) n x h
      simp at this ⊢
      omega
theorem LnS.len {w : World} {N P : Nat} {q : List (Nat × List UInt8)} {z : Nat} {b : Bool} (h : LnS w N P q z b) : ∀ x ∈ q, x.2.length ≤ 131072 := fun x hx => by
  obtain ⟨_, n, r, _, _, hl, hb⟩ := h
  have := linS_len r [] n x (by rw [hl]; exact hx)
  simp at this
  omega
/-- what a call of the closure answers, whatever there is -/
def NcP (N P : Nat) (q : List (Nat × List UInt8)) (z : Nat) (b : Bool) (w : World) (e : Ending) (w' : World) : Prop :=
  ∃ k t q' bb, e = .returned (.agg #[.int .i64 ((k : Nat) : Int), .string (bt t), .bool bb]) ∧ Hid (curO z q = ((k, t), q') ∧ t.length ≤ 131072 ∧ (t = [] ∨ LnS w' N P q' z b) ∧ Only (fun x => x = N ∨ x = P) w w')
theorem next_cur {N P : Nat} {q : List (Nat × List UInt8)} {z : Nat} {b : Bool} {w : World} (h : LnS w N P q z b) (hM : Mxl w) (hNM : N ≠ 0 ∧ P ≠ 0) : Calls Tryz.prog 28 #[.pointer (some ⟨N, 0, none⟩), .pointer (some ⟨P, 0, none⟩)] w (NcP N P q z b w) := by
  refine (next_any h hM hNM).mono fun e w' g => ?_
  cases q with
  | nil =>
    obtain ⟨he, g⟩ := g
    exact ⟨z, [], [], b, he, rfl, Nat.zero_le _, .inl rfl, g.out⟩
  | cons c q =>
    obtain ⟨k, t⟩ := c
    obtain ⟨he, g⟩ := g
    exact ⟨k, t, q, false, he, rfl, h.len (k, t) (List.mem_cons_self ..), .inr g.out.1, g.out.2⟩
theorem linS_cnt : ∀ (r a : List UInt8) (n : Nat), (linS r a n).1.length ≤ r.length
  | [], a, n => by simp [linS]
  | c :: r, a, n => by
    unfold linS
    split
    · have := linS_cnt r [] (n + 1)
      split
      · simp; omega
      · simp; omega
    · have := linS_cnt r (a ++ [c]) n
      simp; omega
theorem LnS.cnt {w : World} {N P : Nat} {q : List (Nat × List UInt8)} {z : Nat} {b : Bool} (h : LnS w N P q z b) : q.length ≤ 131072 := by
  obtain ⟨_, n, r, _, _, hl, hb⟩ := h
  have := linS_cnt r [] n
  rw [hl] at this
  simp only at this
  omega
theorem bt_toList (t : List UInt8) : (bt t).toList = t := by simp [bt, ByteArray.toList_eq]
/-- how many lines are to come -/
def lnQ (w : World) (N P : Nat) : Nat := match w.cell? ⟨N, 0, none⟩, w.cell? ⟨P, 0, none⟩ with
  | some (.int _ n), some (.string s) => (linS s.data.toList [] n.toNat).1.length
  | _, _ => 0
theorem LnS.q {w : World} {N P : Nat} {q : List (Nat × List UInt8)} {z : Nat} {b : Bool} (h : LnS w N P q z b) : lnQ w N P = q.length := by
  obtain ⟨_, n, r, cN, cP, hl, _⟩ := h
  unfold lnQ
  rw [show w.cell? ⟨N, 0, none⟩ = some (.int .i64 (n : Int)) from blk_cells cN 0, show w.cell? ⟨P, 0, none⟩ = some (.string (bt r)) from blk_cells cP 0]
  show (linS (bt r).data.toList [] ((n : Int)).toNat).1.length = _
  rw [bt_list, Int.toNat_natCast, hl]
def lnE (w : World) (L : Nat) : Nat := match w.cell? ⟨L, 1, none⟩ with
  | some (.string s) => s.size
  | _ => 0
def lnW (N P L : Nat) (w : World) : Nat := if lnE w L = 0 then 0 else lnQ w N P + 1
theorem results_man {fn : Func} {u t : Tmp} (h : fn.results = #[.cell u 44, .tmp t]) (tmps : Array Value) (w : World) (B : Nat) {x0 x1 x2 : Value} (hb : w.heap[B]? = some (.cells #[x0, x1, x2] 44)) (ha : tmps.getD u undef = .pointer (some ⟨B, 0, none⟩)) :
    (results fn tmps).run Tryz.prog w = .ok (.tuple #[.agg #[x0, x1, x2], tmps.getD t undef]) w := by
  have ha' : tmps[u]?.getD undef = .pointer (some ⟨B, 0, none⟩) := by simpa using ha
  have c0 := blk_cells hb 0
  have c1 := blk_cells hb 1
  have c2 := blk_cells hb 2
  simp only [List.getElem?_toArray, List.getElem?_cons_zero, List.getElem?_cons_succ] at c0 c1 c2
  simp [results, h, ha', asAddr, go_sem, loadVar, isAgg, Tryz.underlying44, c0, c1, c2]
/-- what read answers -/
def RdP (N P z : Nat) (b : Bool) (o : Except Nat (Mf × List (Nat × List UInt8))) (w : World) (e : Ending) (w' : World) : Prop :=
  match o with
  | .error k => e = .returned (.tuple #[.agg #[.string ⟨#[]⟩, .slice none 0 0, .slice none 0 0], .int .i64 (k : Int)]) ∧ Hid (Only (fun x => x = N ∨ x = P) w w')
  | .ok (m, q') => ∃ uv dv, e = .returned (.tuple #[.agg #[.string m.nm, uv, dv], .int .i64 0]) ∧ Hid (GnAt Liv McP w' w.heap.size m [.string m.nm, uv, dv] ∧ LnS w' N P q' z b ∧ Only (fun x => x = N ∨ x = P) w w')
/-- the names that a vocabulary uses, as they lie -/
def UwV (w : World) (B : Nat) (v : Value) (us : List ByteArray) : Prop := (us = [] ∧ v = .slice none 0 0) ∨ ∃ g, v = .slice (some ⟨g, 0, none⟩) us.length us.length ∧ B ≤ g ∧ w.heap[g]? = some (.cells (us.map Value.string).toArray 9)
theorem UwV.only {w w' : World} {B : Nat} {v : Value} {us : List ByteArray} {bs : Nat → Prop} (h : UwV w B v us) (o : Only bs w w') (hb : ∀ b, B ≤ b → b < w.heap.size → ¬ bs b) : UwV w' B v us := by
  rcases h with h | ⟨g, h1, h2, h3⟩
  · exact .inl h
  · have hlt := (Array.getElem?_eq_some_iff.1 h3).1
    exact .inr ⟨g, h1, h2, (o.block g hlt (hb g h2 hlt)).trans h3⟩
theorem UwV.us {w : World} {B : Nat} {v : Value} {us : List ByteArray} (h : UwV w B v us) : ∃ S, UsV w S v us ∧ ∀ b, S b → B ≤ b ∧ Liv w b := by
  rcases h with ⟨rfl, rfl⟩ | ⟨g, rfl, h2, h3⟩
  · exact ⟨fun _ => False, .inl ⟨rfl, rfl⟩, fun b h => h.elim⟩
  · refine ⟨fun b => b = g, .inr ⟨g, 0, us.length, rfl, Nat.le_refl _, rfl, fun j x hx => ?_⟩, fun b hb => ?_⟩
    · rw [Nat.zero_add, blk_cells h3 j]
      simp [hx]
    · subst hb
      exact ⟨h2, Liv.of h3⟩
theorem UwV.form {w : World} {B : Nat} {v : Value} {us : List ByteArray} (h : UwV w B v us) : ∃ ao, v = .slice ao us.length us.length := by
  rcases h with ⟨rfl, rfl⟩ | ⟨g, rfl, _⟩
  · exact ⟨none, rfl⟩
  · exact ⟨_, rfl⟩
/-- the tables that are read -/
def Evd (w : World) : Prop := Nog w ∧ Mxl w
theorem Evd.keep {w w' : World} {bs : Nat → Prop} (h : Evd w) (o : Only bs w w') (h1 : ¬ bs 1) (h2 : ¬ bs 0) : Evd w' := by
  obtain ⟨⟨a, b, c⟩, m, hm⟩ := h
  exact ⟨⟨o.cell a h1, o.cell b h1, o.cell c h1⟩, m, o.cell hm h2⟩
set_option maxRecDepth 100000 in
set_option maxHeartbeats 8000000 in
theorem mread_any {N P n z : Nat} {t : List UInt8} {q : List (Nat × List UInt8)} {b bb : Bool} {w : World} (hNP : N < w.heap.size ∧ P < w.heap.size) (h : t = [] ∨ LnS w N P q z b) (ht : t.length ≤ 131072) (hE : Evd w) (hG : 0 < N ∧ 0 < P ∧ 1 < N ∧ 1 < P) : Calls Tryz.prog 15 #[.agg #[.int .i64 (n : Int), .string (bt t), .bool bb], .func (.func 28) #[] #[.pointer (some ⟨N, 0, none⟩), .pointer (some ⟨P, 0, none⟩)]] w (RdP N P z b (mpR z n t q) w) := by
  obtain ⟨F, hF⟩ : ∃ F, F = w.heap.size := ⟨_, rfl⟩
  obtain ⟨T, hT⟩ : ∃ T, T = bt t := ⟨_, rfl⟩
  obtain ⟨V, hV⟩ : ∃ V, V = w.alloc (.cells #[.int .i64 (n : Int), .string T, .bool bb] 58) := ⟨_, rfl⟩
  obtain ⟨W, hW⟩ : ∃ W, W = V.alloc (.cells #[.string ⟨#[]⟩, .slice none 0 0, .slice none 0 0] 44) := ⟨_, rfl⟩
  obtain ⟨M, hM⟩ : ∃ M, M = F + 1 := ⟨_, rfl⟩
  have hVs : V.heap.size = M := by rw [hV, hM, hF]; simp
  have bF : V.heap[F]? = some (.cells #[.int .i64 (n : Int), .string T, .bool bb] 58) := by rw [hV]; exact alloc_at _ _ _ hF
  have oV : Only (fun _ => False) w V := by rw [hV]; exact (Only.refl _ w).alloc _
  have oVW : Only (fun _ => False) V W := by rw [hW]; exact (Only.refl _ V).alloc _
  have bM : W.heap[M]? = some (.cells #[.string ⟨#[]⟩, .slice none 0 0, .slice none 0 0] 44) := by rw [hW]; exact alloc_at _ _ _ hVs.symm
  have bFW := (oVW.block F (Array.getElem?_eq_some_iff.1 bF).1 (fun g => g)).trans bF
  have oW : Only (fun _ => False) w W := oV.trans oVW (fun _ _ g => g)
  have hsW : W.heap.size = M + 1 := by rw [hW]; simp; exact hVs
  have hLW : t = [] ∨ LnS W N P q z b := by
    rcases h with h | h
    · exact .inl h
    · exact .inr (h.only oW (fun g => g) (fun g => g))
  have hEW := hE.keep oW (fun g => g) (fun g => g)
  have HN : Hid (∀ (T' p0 p : ByteArray) (w1 : World), p = p0 ++ ⟨#[32]⟩ → p0.size ≤ 1000 → T'.size ≤ 131072 → Evd w1 → Calls Tryz.prog 30 #[.string T', .string p0] w1 (NmP (nmO T' p) w1)) := fun T' p0 p w1 h1 h2 h3 h4 => namesOf_any T' p0 p w1 h1 h2 (by omega) h4.2 h4.1
  have HV1 : Hid _ := HN.out T ⟨#[118, 111, 99, 97, 98]⟩ vocB W (by kernel_rfl) (by decide) (by rw [hT, bt_size]; exact ht) hEW
  have HB : Hid (F = w.heap.size ∧ M = F + 1 ∧ W.heap.size = M + 1 ∧ N < F ∧ P < F) := ⟨hF, hM, hsW, by omega, by omega⟩
  have HS : Hid (Only (fun _ => False) w W ∧ (t = [] ∨ LnS W N P q z b) ∧ Evd W ∧ W.heap[F]? = some (.cells #[.int .i64 (n : Int), .string T, .bool bb] 58) ∧ W.heap[M]? = some (.cells #[.string ⟨#[]⟩, .slice none 0 0, .slice none 0 0] 44)) := ⟨oW, hLW, hEW, bFW, bM⟩
  have HGG : Hid (0 < N ∧ 0 < P ∧ 1 < N ∧ 1 < P) := hG
  have cF0 : W.cell? ⟨F, 0, none⟩ = some (.int .i64 (n : Int)) := blk_cells bFW 0
  have cF1 : W.cell? ⟨F, 1, none⟩ = some (.string T) := blk_cells bFW 1
  have hmr : mpR z n t q = (match nmO T vocB with | some [nm] => mkM nm (mpU z q) | _ => .error n) := by rw [hT]; rfl
  have hpos : ∀ us, nmO T vocB = some us → us ≠ [] := fun us hu => by
    unfold nmO at hu
    split at hu
    · split at hu
      · injection hu with hu
        rw [← hu]
        intro e
        have := pcs_pos (T.extract vocB.size T.size)
        rw [e] at this
        cases this
      · cases hu
    · cases hu
  have htn : ∀ us, nmO T vocB = some us → t ≠ [] := fun us hu e => by
    rw [hT, e, nmO_nilV] at hu
    cases hu
  have hFM : F + 1 = M := hM.symm
  rw [← hT]
  clear h ht hE hG hVs bF oV oVW bM bFW oW hsW hNP hLW hEW hT hM
  cases ho : nmO T vocB with
  | none =>
    rw [ho] at hmr HV1
    rw [hmr]
    have HX : Hid (∀ w1, Only (fun _ => False) W w1 → w1.heap[M]? = some (.cells #[.string ⟨#[]⟩, .slice none 0 0, .slice none 0 0] 44) ∧ w1.heap[F]? = some (.cells #[.int .i64 (n : Int), .string T, .bool bb] 58)) := fun w1 o1 => ⟨(o1.block M (Array.getElem?_eq_some_iff.1 HS.out.2.2.2.2).1 (fun g => g)).trans HS.out.2.2.2.2, (o1.block F (Array.getElem?_eq_some_iff.1 HS.out.2.2.2.1).1 (fun g => g)).trans HS.out.2.2.2.1⟩
    clear ho hmr hpos HN htn
    go_enter Tryz.func15, Tryz.ntmps15
    go_wp2_with fail
    rw [← hV, ← hW]
    refine (show Calls Tryz.prog 30 _ _ _ from HV1.out).mono ?_
    rintro e w1 ⟨rfl, g1⟩
    obtain ⟨bM1, bF1⟩ := HX.out w1 g1.out
    have cF : w1.cell? ⟨F, 0, none⟩ = some (.int .i64 (n : Int)) := blk_cells bF1 0
    have cM0 : w1.cell? ⟨M, 0, none⟩ = some (.string ⟨#[]⟩) := blk_cells bM1 0
    have cM1 : w1.cell? ⟨M, 1, none⟩ = some (.slice none 0 0) := blk_cells bM1 1
    have cM2 : w1.cell? ⟨M, 2, none⟩ = some (.slice none 0 0) := blk_cells bM1 2
    have fM0 := blk_froz bM1 0
    have fM1 := blk_froz bM1 1
    have fM2 := blk_froz bM1 2
    have HBM : Hid (w1.heap[M]? = some (.cells #[.string ⟨#[]⟩, .slice none 0 0, .slice none 0 0] 44) ∧ Only (fun _ => False) w w1) := ⟨bM1, HS.out.1.trans g1.out (fun _ _ g => g)⟩
    clear bM1 bF1 HX HV1 cF0 cF1 hV hW g1
    rw [← hF, hFM]
    clear hF hFM
    have ne1 : ¬ F = M := by have := HB.out.2.1; omega
    have ne2 : ¬ M = F := by have := HB.out.2.1; omega
    go_wp2
    go_region
    go_wp2
    refine bodyPost_ret (results_man rfl _ _ M (lset3 HBM.out.1 _ _ _) rfl) rfl ?_
    refine ⟨rfl, ?_⟩
    have o5 := lonly3 (w := w1) (B := M) (.string ⟨#[]⟩) (.slice none 0 0) (.slice none 0 0)
    exact ((HBM.out.2.mono (bs' := fun x => x = N ∨ x = P) (fun _ _ g => g.elim)).trans o5 (fun k hk g => by have := HB.out.1; have := HB.out.2.1; omega)).drew
  | some us =>
    rw [ho] at hmr HV1
    have hpo := hpos us ho
    have HTN : Hid (t ≠ []) := htn us ho
    clear htn
    have HX : Hid (∀ w1, Only (fun _ => False) W w1 → w1.heap[M]? = some (.cells #[.string ⟨#[]⟩, .slice none 0 0, .slice none 0 0] 44) ∧ w1.heap[F]? = some (.cells #[.int .i64 (n : Int), .string T, .bool bb] 58)) := fun w1 o1 => ⟨(o1.block M (Array.getElem?_eq_some_iff.1 HS.out.2.2.2.2).1 (fun g => g)).trans HS.out.2.2.2.2, (o1.block F (Array.getElem?_eq_some_iff.1 HS.out.2.2.2.1).1 (fun g => g)).trans HS.out.2.2.2.1⟩
    clear ho hpos
    match us with
    | [] => exact absurd rfl hpo
    | a1 :: a2 :: ar =>
      have hmr2 : mpR z n t q = .error n := hmr
      rw [hmr2]
      obtain ⟨LL, hLL⟩ : ∃ LL, LL = (a1 :: a2 :: ar).length := ⟨_, rfl⟩
      have i1 : (1 : Int) < (LL : Int) := by rw [hLL]; simp; omega
      have HV2 : Hid (Calls Tryz.prog 30 #[.string T, .string ⟨#[118, 111, 99, 97, 98]⟩] W fun e w' => ∃ g, e = .returned (.tuple #[.slice (some ⟨g, 0, none⟩) LL LL, .bool true]) ∧ Only (fun _ => False) W w') := (show Calls Tryz.prog 30 _ _ _ from HV1.out).mono fun e w' g => by
        obtain ⟨g0, he, g⟩ := g
        exact ⟨g0, by rw [he, hLL], g.out.2.2⟩
      clear hmr hmr2 HN HV1 hLL hpo
      go_enter Tryz.func15, Tryz.ntmps15
      go_wp2_with fail
      rw [← hV, ← hW]
      refine (show Calls Tryz.prog 30 _ _ _ from HV2.out).mono ?_
      rintro e w1 ⟨g0, rfl, g1⟩
      obtain ⟨bM1, bF1⟩ := HX.out w1 g1
      have cF : w1.cell? ⟨F, 0, none⟩ = some (.int .i64 (n : Int)) := blk_cells bF1 0
      have cM0 : w1.cell? ⟨M, 0, none⟩ = some (.string ⟨#[]⟩) := blk_cells bM1 0
      have cM1 : w1.cell? ⟨M, 1, none⟩ = some (.slice none 0 0) := blk_cells bM1 1
      have cM2 : w1.cell? ⟨M, 2, none⟩ = some (.slice none 0 0) := blk_cells bM1 2
      have fM0 := blk_froz bM1 0
      have fM1 := blk_froz bM1 1
      have fM2 := blk_froz bM1 2
      have HBM : Hid (w1.heap[M]? = some (.cells #[.string ⟨#[]⟩, .slice none 0 0, .slice none 0 0] 44) ∧ Only (fun _ => False) w w1) := ⟨bM1, HS.out.1.trans g1 (fun _ _ g => g)⟩
      clear bM1 bF1 HX HV2 cF0 cF1 hV hW g1
      rw [← hF, hFM]
      clear hF hFM
      have ne1 : ¬ F = M := by have := HB.out.2.1; omega
      have ne2 : ¬ M = F := by have := HB.out.2.1; omega
      go_wp2
      go_region
      go_wp2
      refine bodyPost_ret (results_man rfl _ _ M (lset3 HBM.out.1 _ _ _) rfl) rfl ?_
      refine ⟨rfl, ?_⟩
      have o5 := lonly3 (w := w1) (B := M) (.string ⟨#[]⟩) (.slice none 0 0) (.slice none 0 0)
      exact ((HBM.out.2.mono (bs' := fun x => x = N ∨ x = P) (fun _ _ g => g.elim)).trans o5 (fun k hk g => by have := HB.out.1; have := HB.out.2.1; omega)).drew
    | [nm] =>
      have hmr2 : mpR z n t q = mkM nm (mpU z q) := hmr
      rw [hmr2]
      have HV2 : Hid (Calls Tryz.prog 30 #[.string T, .string ⟨#[118, 111, 99, 97, 98]⟩] W fun e w' => ∃ g, e = .returned (.tuple #[.slice (some ⟨g, 0, none⟩) 1 1, .bool true]) ∧ Hid (w'.cell? ⟨g, 0, none⟩ = some (.string nm) ∧ Only (fun _ => False) W w')) := (show Calls Tryz.prog 30 _ _ _ from HV1.out).mono fun e w' g => by
        obtain ⟨g0, he, g⟩ := g
        exact ⟨g0, he, by rw [blk_cells g.out.2.1 0]; rfl, g.out.2.2⟩
      have HNX : Hid (∀ w1 q1, LnS w1 N P q1 z b → Evd w1 → Calls Tryz.prog 28 #[.pointer (some ⟨N, 0, none⟩), .pointer (some ⟨P, 0, none⟩)] w1 (NcP N P q1 z b w1)) := fun w1 q1 h1 h2 => next_cur h1 h2.2 ⟨by have := HGG.out; omega, by have := HGG.out; omega⟩
      have HMU : Hid (mpU z q = mpU z ((curO z q).1 :: (curO z q).2)) := mpU_cur z q
      obtain ⟨YU, hYU⟩ : ∃ YU, YU = mpU z q := ⟨_, rfl⟩
      have HYU : Hid (YU = mpU z q) := hYU
      rw [← hYU]
      obtain ⟨Y, hY⟩ : ∃ Y, Y = mkM nm YU := ⟨_, rfl⟩
      have HY : Hid (Y = mkM nm YU) := hY
      rw [← hY]
      clear hmr hmr2 HV1 hpo hYU hY
      go_enter Tryz.func15, Tryz.ntmps15
      go_wp2_with fail
      rw [← hV, ← hW]
      refine (show Calls Tryz.prog 30 _ _ _ from HV2.out).mono ?_
      rintro e w1 ⟨g0, rfl, g1⟩
      obtain ⟨bM1, bF1⟩ := HX.out w1 g1.out.2
      have cg : w1.cell? ⟨g0, 0, none⟩ = some (.string nm) := g1.out.1
      have cM0 : w1.cell? ⟨M, 0, none⟩ = some (.string ⟨#[]⟩) := blk_cells bM1 0
      have fM0 := blk_froz bM1 0
      have o2 : Only (fun x => x = M) w1 (w1.setCell ⟨M, 0, none⟩ (.string nm)) := (Only.refl _ w1).setCell _ _ (fun _ => rfl)
      have bM2 : (w1.setCell ⟨M, 0, none⟩ (.string nm)).heap[M]? = some (.cells #[.string nm, .slice none 0 0, .slice none 0 0] 44) := (heap_setCell_same _ _ _ _ _ _ bM1).trans rfl
      have oW2 : Only (fun x => x = M) W (w1.setCell ⟨M, 0, none⟩ (.string nm)) := (g1.out.2.mono (bs' := fun x => x = M) (fun _ _ g => g.elim)).trans o2 (fun _ _ g => g)
      have hl2 : LnS (w1.setCell ⟨M, 0, none⟩ (.string nm)) N P q z b := by
        rcases HS.out.2.1 with g | g
        · exact absurd g HTN.out
        · exact g.only oW2 (by have := HB.out; omega) (by have := HB.out; omega)
      have he2 : Evd (w1.setCell ⟨M, 0, none⟩ (.string nm)) := HS.out.2.2.1.keep oW2 (by have := HB.out; have := HGG.out; omega) (by have := HB.out; have := HGG.out; omega)
      have HC : Hid _ := HNX.out _ q hl2 he2
      have H2 : Hid ((w1.setCell ⟨M, 0, none⟩ (.string nm)).heap[M]? = some (.cells #[.string nm, .slice none 0 0, .slice none 0 0] 44) ∧ Only (fun x => x = M) W (w1.setCell ⟨M, 0, none⟩ (.string nm)) ∧ Evd (w1.setCell ⟨M, 0, none⟩ (.string nm))) := ⟨bM2, oW2, he2⟩
      clear bM1 bF1 HX HV2 cF0 cF1 hV hW g1 o2 bM2 oW2 hl2 he2
      rw [← hF, hFM]
      clear hF hFM
      go_wp2_with fail
      refine (show Calls Tryz.prog 28 _ _ _ from HC.out).mono ?_
      rintro e w3 ⟨k, tc, qc, b3, rfl, g3⟩
      obtain ⟨Lb, hLb⟩ : ∃ Lb, Lb = w3.heap.size := ⟨_, rfl⟩
      obtain ⟨T1, hT1⟩ : ∃ T1, T1 = bt tc := ⟨_, rfl⟩
      rw [← hT1]
      obtain ⟨w4, hw4⟩ : ∃ w4, w4 = w3.alloc (.cells #[.int .i64 (k : Int), .string T1, .bool b3] 58) := ⟨_, rfl⟩
      obtain ⟨g31, g32, g33, g34⟩ := g3.out
      have o34 : Only (fun _ => False) w3 w4 := by rw [hw4]; exact (Only.refl _ w3).alloc _
      have bL4 : w4.heap[Lb]? = some (.cells #[.int .i64 (k : Int), .string T1, .bool b3] 58) := by rw [hw4]; exact alloc_at _ _ _ hLb
      have bM3 := (g34.block M (Array.getElem?_eq_some_iff.1 H2.out.1).1 (fun g => by have := HB.out; omega)).trans H2.out.1
      have bM4 := (o34.block M (Array.getElem?_eq_some_iff.1 bM3).1 (fun g => g)).trans bM3
      have hML : M < Lb := by rw [hLb]; exact (Array.getElem?_eq_some_iff.1 bM3).1
      have oW4 : Only (fun x => x = N ∨ x = P ∨ x = M) W w4 := ((H2.out.2.1.mono (bs' := fun x => x = N ∨ x = P ∨ x = M) (fun _ _ g => .inr (.inr g))).trans g34 (fun k hk g => by rcases g with g | g <;> simp [g])).trans (o34.mono (bs' := fun x => x = N ∨ x = P ∨ x = M) (fun _ _ g => g.elim)) (fun _ _ g => g)
      have he4 : Evd w4 := (H2.out.2.2.keep g34 (by have := HGG.out; omega) (by have := HGG.out; omega)).keep o34 (fun g => g) (fun g => g)
      have hl4 : tc = [] ∨ LnS w4 N P qc z b := by
        rcases g33 with g | g
        · exact .inl g
        · exact .inr (g.only o34 (fun g => g) (fun g => g))
      have HV3 : Hid _ := HN.out T1 ⟨#[117, 115, 101, 115]⟩ useB w4 (by kernel_rfl) (by decide) (by rw [hT1, bt_size]; exact g32) he4
      have hyu : YU = mpU z ((k, tc) :: qc) := by rw [HYU.out, HMU.out, g31]
      have hL4s : Lb + 1 = w4.heap.size := by rw [hw4]; simp; omega
      have H4 : Hid (w4.heap[Lb]? = some (.cells #[.int .i64 (k : Int), .string T1, .bool b3] 58) ∧ w4.heap[M]? = some (.cells #[.string nm, .slice none 0 0, .slice none 0 0] 44) ∧ Only (fun x => x = N ∨ x = P ∨ x = M) W w4 ∧ Evd w4 ∧ (tc = [] ∨ LnS w4 N P qc z b) ∧ YU = mpU z ((k, tc) :: qc) ∧ tc.length ≤ 131072 ∧ T1 = bt tc ∧ M < Lb ∧ Lb + 1 = w4.heap.size) := ⟨bL4, bM4, oW4, he4, hl4, hyu, g32, hT1, hML, hL4s⟩
      have cL1 : w4.cell? ⟨Lb, 1, none⟩ = some (.string T1) := blk_cells bL4 1
      have cL1' : (w3.alloc (.cells #[.int .i64 (k : Int), .string T1, .bool b3] 58)).cell? ⟨w3.heap.size, 1, none⟩ = some (.string T1) := by rw [← hw4, ← hLb]; exact cL1
      clear HC g3 g31 g32 g33 g34 o34 bL4 bM3 bM4 oW4 he4 hl4 hyu hML hL4s hT1 H2 cM0 fM0 cg HMU HYU
      go_wp2_with fail
      rw [← hLb, ← hw4]
      clear cL1' hLb hw4
      refine (show Calls Tryz.prog 30 _ _ _ from HV3.out).mono ?_
      rintro e w5 g5
      have hnu : mpU z ((k, tc) :: qc) = (match nmO T1 useB with | some us => mkU us (mpD z qc []) | none => mkU [] (mpD z ((k, tc) :: qc) [])) := by rw [H4.out.2.2.2.2.2.2.2.1]; rfl
      cases ho2 : nmO T1 useB with
      | none =>
        rw [ho2] at g5 hnu
        obtain ⟨rfl, G5⟩ := g5
        have b1 := (G5.out.block M (Array.getElem?_eq_some_iff.1 H4.out.2.1).1 (fun g => g)).trans H4.out.2.1
        have b2 := (G5.out.block Lb (Array.getElem?_eq_some_iff.1 H4.out.1).1 (fun g => g)).trans H4.out.1
        have c1 : w5.cell? ⟨M, 1, none⟩ = some (.slice none 0 0) := blk_cells b1 1
        have f1 := blk_froz b1 1
        obtain ⟨w0, hw0⟩ : ∃ w0, w0 = w5.setCell ⟨M, 1, none⟩ (.slice none 0 0) := ⟨_, rfl⟩
        have o50 : Only (fun x => x = M) w5 w0 := by rw [hw0]; exact (Only.refl _ w5).setCell _ _ (fun _ => rfl)
        have b10 : w0.heap[M]? = some (.cells #[.string nm, .slice none 0 0, .slice none 0 0] 44) := by rw [hw0]; exact (heap_setCell_same _ _ _ _ _ _ b1).trans rfl
        have b20 := (o50.block Lb (Array.getElem?_eq_some_iff.1 b2).1 (fun g => by have := H4.out.2.2.2.2.2.2.2.2.1; omega)).trans b2
        obtain ⟨us, hus⟩ : ∃ us : List ByteArray, us = [] := ⟨_, rfl⟩
        obtain ⟨ua, hua⟩ : ∃ ua : Option Addr, ua = none := ⟨_, rfl⟩
        obtain ⟨k0, hk0⟩ : ∃ k0, k0 = k := ⟨_, rfl⟩
        obtain ⟨t0, ht0⟩ : ∃ t0, t0 = tc := ⟨_, rfl⟩
        obtain ⟨q0, hq0⟩ : ∃ q0, q0 = qc := ⟨_, rfl⟩
        obtain ⟨b0, hb0⟩ : ∃ b0, b0 = b3 := ⟨_, rfl⟩
        have HL0 : Hid (Only (fun x => x = N ∨ x = P) w w0 ∧ w0.heap[M]? = some (.cells #[.string nm, .slice ua us.length us.length, .slice none 0 0] 44) ∧ w0.heap[Lb]? = some (.cells #[.int .i64 ((k0 : Nat) : Int), .string (bt t0), .bool b0] 58) ∧ UwV w0 (Lb + 1) (.slice ua us.length us.length) us ∧ (t0 = [] ∨ LnS w0 N P q0 z b) ∧ t0.length ≤ 131072 ∧ Evd w0 ∧ Y = mkM nm (mkU us (mpD z ((k0, t0) :: q0) [])) ∧ (M < Lb ∧ Lb < w0.heap.size)) := by
          obtain ⟨h1, h2, h3, h4, h5, h6, h7, h8, h9, h10⟩ := H4.out
          subst hus hua hk0 ht0 hq0 hb0
          refine ⟨?_, b10, by rw [← h8]; exact b20, .inl ⟨rfl, rfl⟩, ?_, h7, ?_, ?_, h9, ?_⟩
          · exact ((HS.out.1.mono (bs' := fun x => x = N ∨ x = P) (fun _ _ g => g.elim)).trans h3 (fun k hk g => by have := HB.out; rcases g with g | g | g <;> simp [g] <;> omega)).trans ((G5.out.mono (bs' := fun x => x = M) (fun _ _ g => g.elim)).trans o50 (fun _ _ g => g)) (fun k hk g => by have := HB.out; omega)
          · rcases h5 with g | g
            · exact .inl g
            · exact .inr ((g.only G5.out (fun g => g) (fun g => g)).only o50 (by have := HB.out; omega) (by have := HB.out; omega))
          · exact (h4.keep G5.out (fun g => g) (fun g => g)).keep o50 (by have := HB.out; have := HGG.out; omega) (by have := HB.out; have := HGG.out; omega)
          · rw [HY.out, h6, hnu]
          · exact (Array.getElem?_eq_some_iff.1 b20).1
        have q9' := HL0.out.2.2.2.2.2.2.2.2
        clear H4 HV3 G5 b1 b2 o50 b10 b20 hnu ho2 hus hua hk0 ht0 hq0 hb0 cL1 HS HY
        go_wp2
        rw [← hw0]
        clear hw0 c1 f1
        go_loopw [10] (fun r10 wr => Hid (∃ k t q acc ao cap bc, wr.heap[M]? = some (.cells #[.string nm, .slice ua us.length us.length, .slice ao acc.length cap] 44) ∧ wr.heap[Lb]? = some (.cells #[.int .i64 ((k : Nat) : Int), .string (bt t), .bool bc] 58) ∧ GrAt Liv 49 4 DcP wr w0.heap.size (.slice ao acc.length cap) acc ∧ (t = [] ∨ LnS wr N P q z b) ∧ t.length ≤ 131072 ∧ Y = mkM nm (mkU us (mpD z ((k, t) :: q) acc)) ∧ (t ≠ [] → acc.length + q.length ≤ 131073) ∧ Only (fun x => x = N ∨ x = P ∨ x = M ∨ x = Lb) w0 wr)) (fun r10 wr => lnW N P Lb wr)
        case atStart =>
          obtain ⟨p1, p2, p3, p4, p5, p6, p7, p8, p9⟩ := HL0.out
          exact ⟨k0, t0, q0, [], none, 0, b0, p2, p3, gr_nil _ _ _ _ _ _, p5, p6, p8, fun hne => by
            rcases p5 with p5 | p5
            · exact absurd p5 hne
            · have := p5.cnt
              simp
              omega, Only.refl _ _⟩
        case round =>
          have HI := hrel
          clear hrel
          obtain ⟨v1, hv1⟩ : ∃ v1, v1 = wr := ⟨_, rfl⟩
          rw [← hv1] at HI ⊢
          clear hv1
          obtain ⟨k, t, q, acc, ao, cap, bc, cM, cL, hG, hln, htl, hYY, hcnt, o1⟩ := HI.out
          obtain ⟨q1, q2, q3, q4, q5, q6, q7, q8, q9⟩ := HL0.out
          have hkeep : ∀ b, Lb + 1 ≤ b → b < w0.heap.size → ¬ (b = N ∨ b = P ∨ b = M ∨ b = Lb) := fun b h1 h2 g => by have := HB.out; omega
          have hUw : UwV v1 (Lb + 1) (.slice ua us.length us.length) us := q4.only o1 hkeep
          have hEv : Evd v1 := q7.keep o1 (by have := HB.out; have := HGG.out; omega) (by have := HB.out; have := HGG.out; omega)
          have m0 : v1.cell? ⟨M, 0, none⟩ = some (.string nm) := blk_cells cM 0
          have m1 : v1.cell? ⟨M, 1, none⟩ = some (.slice ua us.length us.length) := blk_cells cM 1
          have m2 : v1.cell? ⟨M, 2, none⟩ = some (.slice ao acc.length cap) := blk_cells cM 2
          have fm0 := blk_froz cM 0
          have fm1 := blk_froz cM 1
          have fm2 := blk_froz cM 2
          have hb0 := o1.size
          by_cases hend : bt t = endB
          · have htne : t ≠ [] := fun e => by rw [e] at hend; exact absurd hend (by decide)
            have hl1 : LnS v1 N P q z b := by
              rcases hln with e | e
              · exact absurd e htne
              · exact e
            have hYo : Y = .ok (⟨nm, us, acc⟩, q) := by
              rw [hYY]
              unfold mpD
              rw [if_pos hend]
              rfl
            have d0 : v1.cell? ⟨Lb, 1, none⟩ = some (.string ⟨#[101, 110, 100]⟩) := by rw [blk_cells cL 1]; show some (Value.string (bt t)) = _; rw [hend]; rfl
            obtain ⟨Su, hu1, hu2⟩ := hUw.us
            obtain ⟨Sd, hd1, hd2⟩ := hG.read bk_liv el_dc
            have HF : Hid (Y = .ok (⟨nm, us, acc⟩, q) ∧ v1.heap[M]? = some (.cells #[.string nm, .slice ua us.length us.length, .slice ao acc.length cap] 44) ∧ LnS v1 N P q z b ∧ Only (fun x => x = N ∨ x = P) w v1 ∧ (UsV v1 Su (.slice ua us.length us.length) us ∧ ∀ b, Su b → Lb + 1 ≤ b ∧ Liv v1 b) ∧ (GvAt 4 DcP v1 Sd (.slice ao acc.length cap) acc ∧ ∀ b, Sd b → w0.heap.size ≤ b ∧ Liv v1 b)) := ⟨hYo, cM, hl1, q1.trans o1 (fun k hk g => by have := HB.out; omega), ⟨hu1, hu2⟩, ⟨hd1, hd2⟩⟩
            obtain ⟨UL, hUL⟩ : ∃ UL, UL = us.length := ⟨_, rfl⟩
            obtain ⟨AL, hAL⟩ : ∃ AL, AL = acc.length := ⟨_, rfl⟩
            rw [← hUL] at m1 HF
            rw [← hAL] at m2 HF
            clear cM cL hG hln htl hYY hcnt o1 q1 q2 q3 q4 q5 q6 q7 q8 hkeep hUw hEv hend htne hl1 hYo hu1 hu2 hd1 hd2 HI HN HNX hUL hAL
            go_wp2
            refine bodyPost_ret (results_man rfl _ _ M (lset3 HF.out.2.1 _ _ _) rfl) rfl ?_
            obtain ⟨f1, f2, f3, f4, ⟨f5, f6⟩, ⟨f7, f8⟩⟩ := HF.out
            have o9 := lonly3 (w := v1) (B := M) (.string nm) (.slice ua UL UL) (.slice ao AL cap)
            rw [f1]
            refine ⟨.slice ua UL UL, .slice ao AL cap, rfl, ⟨fun b => Su b ∨ Sd b, ⟨_, _, rfl, ?_, ?_⟩, fun b hb => ?_⟩, f3.only o9 (by have := HB.out; omega) (by have := HB.out; omega), f4.trans o9 (fun k hk g => by have := HB.out; omega)⟩
            · exact f5.step (fun _ g => .inl g) (fun a u hs hc => o9.cell hc (fun g => by have := (f6 _ hs).1; omega))
            · exact f7.step el_dc (fun _ g => .inr g) (fun a u hs hc => o9.cell hc (fun g => by have := (f8 _ hs).1; omega))
            · rcases hb with hb | hb
              · exact ⟨by have := (f6 b hb).1; have := HB.out; omega, (f6 b hb).2.only o9 (fun g => by have := (f6 b hb).1; omega)⟩
              · exact ⟨by have := (f8 b hb).1; have := HB.out; omega, (f8 b hb).2.only o9 (fun g => by have := (f8 b hb).1; omega)⟩
          · have hne : ((bt t).toList == [101, 110, 100]) = false := by
              rw [beq_eq_false_iff_ne, bt_toList]
              intro e
              exact hend (by rw [e]; rfl)
            obtain ⟨R, hR⟩ : ∃ R, R = bt t := ⟨_, rfl⟩
            have d0 : v1.cell? ⟨Lb, 1, none⟩ = some (.string R) := by rw [hR]; exact blk_cells cL 1
            have hD : Hid _ := definitionOf_any R v1 hEv.1
            rw [← hR] at hne
            have hne2 : (R.toList != [101, 110, 100]) = true := by rw [bne, hne]; rfl
            cases hdo : defO R with
            | none =>
              rw [hdo] at hD
              have hYe : Y = .error k := by
                rw [hYY]
                unfold mpD
                rw [if_neg hend, ← hR, hdo]
                rfl
              have HF : Hid (Y = .error k ∧ v1.heap[M]? = some (.cells #[.string nm, .slice ua us.length us.length, .slice ao acc.length cap] 44) ∧ v1.heap[Lb]? = some (.cells #[.int .i64 ((k : Nat) : Int), .string (bt t), .bool bc] 58) ∧ Only (fun x => x = N ∨ x = P) w v1) := ⟨hYe, cM, cL, q1.trans o1 (fun k hk g => by have := HB.out; omega)⟩
              have ne1 : ¬ Lb = M := by omega
              have ne2 : ¬ M = Lb := by omega
              clear cM cL hG hln htl hYY hcnt o1 q1 q2 q3 q4 q5 q6 q7 q8 hkeep hUw hEv hend hYe hR hdo HI HN HNX m0 m1 m2 fm0 fm1 fm2
              go_wp2_with fail
              refine (show Calls Tryz.prog 31 _ _ _ from hD.out).mono ?_
              rintro e v2 ⟨rfl, G2⟩
              have oX : Only (fun _ => False) v1 (v2.alloc (.cells #[.string ⟨#[]⟩, .int .i64 0, .int .i64 0, .slice none 0 0] 49)) := G2.out.alloc _
              have bM2 := (oX.block M (Array.getElem?_eq_some_iff.1 HF.out.2.1).1 (fun g => g)).trans HF.out.2.1
              have bL2 := (oX.block Lb (Array.getElem?_eq_some_iff.1 HF.out.2.2.1).1 (fun g => g)).trans HF.out.2.2.1
              have m0 : (v2.alloc (.cells #[.string ⟨#[]⟩, .int .i64 0, .int .i64 0, .slice none 0 0] 49)).cell? ⟨M, 0, none⟩ = some (.string nm) := blk_cells bM2 0
              have m1 : (v2.alloc (.cells #[.string ⟨#[]⟩, .int .i64 0, .int .i64 0, .slice none 0 0] 49)).cell? ⟨M, 1, none⟩ = some (.slice ua us.length us.length) := blk_cells bM2 1
              have m2 : (v2.alloc (.cells #[.string ⟨#[]⟩, .int .i64 0, .int .i64 0, .slice none 0 0] 49)).cell? ⟨M, 2, none⟩ = some (.slice ao acc.length cap) := blk_cells bM2 2
              have l0 : (v2.alloc (.cells #[.string ⟨#[]⟩, .int .i64 0, .int .i64 0, .slice none 0 0] 49)).cell? ⟨Lb, 0, none⟩ = some (.int .i64 (k : Int)) := blk_cells bL2 0
              have fm0 := blk_froz bM2 0
              have fm1 := blk_froz bM2 1
              have fm2 := blk_froz bM2 2
              have HZ : Hid ((v2.alloc (.cells #[.string ⟨#[]⟩, .int .i64 0, .int .i64 0, .slice none 0 0] 49)).heap[M]? = some (.cells #[.string nm, .slice ua us.length us.length, .slice ao acc.length cap] 44) ∧ Only (fun x => x = N ∨ x = P) w (v2.alloc (.cells #[.string ⟨#[]⟩, .int .i64 0, .int .i64 0, .slice none 0 0] 49))) := ⟨bM2, HF.out.2.2.2.trans (oX.mono (bs' := fun x => x = N ∨ x = P) (fun _ _ g => g.elim)) (fun _ _ g => g)⟩
              clear hD d0 hne hne2 G2 oX bM2 bL2
              go_wp2
              go_region
              go_wp2
              refine bodyPost_ret (results_man rfl _ _ M (lset3 HZ.out.1 _ _ _) rfl) rfl ?_
              rw [HF.out.1]
              refine ⟨rfl, ?_⟩
              have o9 := lonly3 (w := v2.alloc (.cells #[.string ⟨#[]⟩, .int .i64 0, .int .i64 0, .slice none 0 0] 49)) (B := M) (.string ⟨#[]⟩) (.slice none 0 0) (.slice none 0 0)
              exact (HZ.out.2.trans o9 (fun k hk g => by have := HB.out; omega)).drew
            | some d =>
              rw [hdo] at hD
              have htne : t ≠ [] := fun e => by rw [hR, e, defO_nil] at hdo; cases hdo
              have hl1 : LnS v1 N P q z b := by
                rcases hln with e | e
                · exact absurd e htne
                · exact e
              have hYd : Y = mkM nm (mkU us (mpD z ((curO z q).1 :: (curO z q).2) (acc ++ [d]))) := by
                rw [← mpD_cur, hYY]
                conv => lhs; unfold mpD
                rw [if_neg hend, ← hR, hdo]
              have hmeas : lnW N P Lb v1 = q.length + 1 := by
                unfold lnW lnE
                rw [d0]
                show (if R.size = 0 then _ else _) = _
                rw [if_neg (by rw [hR, bt_size]; intro e; exact htne (List.length_eq_zero_iff.1 e)), hl1.q]
              have hac := hcnt htne
              have HF : Hid (Y = mkM nm (mkU us (mpD z ((curO z q).1 :: (curO z q).2) (acc ++ [d]))) ∧ lnW N P Lb v1 = q.length + 1 ∧ acc.length + q.length ≤ 131073 ∧ v1.heap[M]? = some (.cells #[.string nm, .slice ua us.length us.length, .slice ao acc.length cap] 44) ∧ v1.heap[Lb]? = some (.cells #[.int .i64 ((k : Nat) : Int), .string (bt t), .bool bc] 58) ∧ LnS v1 N P q z b ∧ Evd v1 ∧ GrAt Liv 49 4 DcP v1 w0.heap.size (.slice ao acc.length cap) acc ∧ Only (fun x => x = N ∨ x = P ∨ x = M ∨ x = Lb) w0 v1) := ⟨hYd, hmeas, hac, cM, cL, hl1, hEv, hG, o1⟩
              clear cM cL hG hln htl hYY hcnt o1 q1 q2 q3 q4 q5 q6 q7 q8 hkeep hUw hEv hend hYd hR hdo HI HN m0 m1 m2 fm0 fm1 fm2 htne hl1 hmeas hac
              go_wp2_with fail
              refine (show Calls Tryz.prog 31 _ _ _ from hD.out).mono ?_
              rintro e v2 ⟨bo, bcp, rfl, G2⟩
              obtain ⟨v3, hv3⟩ : ∃ v3, v3 = v2.alloc (.cells #[.string d.nm, .int .i64 (d.i : Int), .int .i64 (d.j : Int), .slice bo d.b.length bcp] 49) := ⟨_, rfl⟩
              have o23 : Only (fun _ => False) v2 v3 := by rw [hv3]; exact (Only.refl _ v2).alloc _
              have o13 : Only (fun _ => False) v1 v3 := G2.out.2.trans o23 (fun _ _ g => g)
              have bM3 := (o13.block M (Array.getElem?_eq_some_iff.1 HF.out.2.2.2.1).1 (fun g => g)).trans HF.out.2.2.2.1
              have bL3 := (o13.block Lb (Array.getElem?_eq_some_iff.1 HF.out.2.2.2.2.1).1 (fun g => g)).trans HF.out.2.2.2.2.1
              have hG3 := HF.out.2.2.2.2.2.2.2.1.only bk_liv el_dc o13 (fun _ _ _ g => g)
              have hn3 : GnAt Liv DcP v3 v1.heap.size d [.string d.nm, .int .i64 (d.i : Int), .int .i64 (d.j : Int), .slice bo d.b.length bcp] := by
                obtain ⟨S, h1, h2⟩ := G2.out.1
                have hn2 : GnAt Liv DcP v2 v1.heap.size d [.string d.nm, .int .i64 (d.i : Int), .int .i64 (d.j : Int), .slice bo d.b.length bcp] := ⟨S, ⟨bo, bcp, rfl, h1⟩, h2⟩
                exact hn2.only bk_liv el_dc o23 (fun _ _ _ g => g)
              obtain ⟨v', w4', hr, hG4, o34', hv4⟩ := gr_app bk_liv el_dc dc_info Tryz.underlying42 (by decide) (by decide) hG3 hn3 (HF.out.2.2.2.2.2.2.2.2.size) (fun k hk => (HF.out.2.2.2.2.2.2.2.1.lt k hk).2) (Nat.le_trans HF.out.2.2.2.2.2.2.2.2.size o13.size) (by have := HF.out.2.2.1; omega)
              obtain ⟨ao4, cap4, hvf⟩ := hG4.form
              subst hvf
              have o34 : Only (fun x => (Value.slice ao acc.length cap).ownBlock = some x) v3 w4' := o34'
              have hrow := fun k hk => (hG3.lt k hk).1
              have bM4 : w4'.heap[M]? = _ := (o34.block M (Array.getElem?_eq_some_iff.1 bM3).1 (fun g => by have := hrow M g; have := q9; omega)).trans bM3
              have bL4 : w4'.heap[Lb]? = _ := (o34.block Lb (Array.getElem?_eq_some_iff.1 bL3).1 (fun g => by have := hrow Lb g; have := q9; omega)).trans bL3
              have c2 : v3.cell? ⟨M, 2, none⟩ = some (.slice ao acc.length cap) := blk_cells bM3 2
              have m2 : w4'.cell? ⟨M, 2, none⟩ = some (.slice ao acc.length cap) := blk_cells bM4 2
              have fm2 := blk_froz bM4 2
              obtain ⟨w5, hw5⟩ : ∃ w5, w5 = w4'.setCell ⟨M, 2, none⟩ (.slice ao4 (acc ++ [d]).length cap4) := ⟨_, rfl⟩
              have o45 : Only (fun x => x = M) w4' w5 := by rw [hw5]; exact (Only.refl _ w4').setCell _ _ (fun _ => rfl)
              have bM5 : w5.heap[M]? = some (.cells #[.string nm, .slice ua us.length us.length, .slice ao4 (acc ++ [d]).length cap4] 44) := by rw [hw5]; exact (heap_setCell_same _ _ _ _ _ _ bM4).trans rfl
              have bL5 := (o45.block Lb (Array.getElem?_eq_some_iff.1 bL4).1 (fun g => by have := q9; omega)).trans bL4
              have hG5 := hG4.only bk_liv el_dc o45 (fun b h1 h2 g => by have := q9; have := HB.out; omega)
              have hl3 := HF.out.2.2.2.2.2.1.only o13 (fun g => g) (fun g => g)
              have hl4 := hl3.only o34 (fun g => by have := hrow N g; have := q9; have := HB.out; omega) (fun g => by have := hrow P g; have := q9; have := HB.out; omega)
              have hl5 := hl4.only o45 (fun g => by have := HB.out; omega) (fun g => by have := HB.out; omega)
              have he3 := HF.out.2.2.2.2.2.2.1.keep o13 (fun g => g) (fun g => g)
              have he4 := he3.keep o34 (fun g => by have := hrow _ g; have := q9; have := HB.out; have := HGG.out; omega) (fun g => by have := hrow _ g; have := q9; have := HB.out; have := HGG.out; omega)
              have he5 := he4.keep o45 (fun g => by have := HB.out; have := HGG.out; omega) (fun g => by have := HB.out; have := HGG.out; omega)
              have HC : Hid _ := HNX.out w5 q hl5 he5
              have o05 : Only (fun x => x = N ∨ x = P ∨ x = M ∨ x = Lb) w0 w5 := ((HF.out.2.2.2.2.2.2.2.2.trans (o13.mono (bs' := fun x => x = N ∨ x = P ∨ x = M ∨ x = Lb) (fun _ _ g => g.elim)) (fun _ _ g => g)).trans o34 (fun k hk g => by have := hrow k g; omega)).trans o45 (fun k hk g => .inr (.inr (.inl g)))
              have H5 : Hid (w5.heap[M]? = some (.cells #[.string nm, .slice ua us.length us.length, .slice ao4 (acc ++ [d]).length cap4] 44) ∧ w5.heap[Lb]? = some (.cells #[.int .i64 ((k : Nat) : Int), .string (bt t), .bool bc] 58) ∧ GrAt Liv 49 4 DcP w5 w0.heap.size (.slice ao4 (acc ++ [d]).length cap4) (acc ++ [d]) ∧ Only (fun x => x = N ∨ x = P ∨ x = M ∨ x = Lb) w0 w5) := ⟨bM5, bL5, hG5, o05⟩
              have hs3 : v3.heap.size = v2.heap.size + 1 := by rw [hv3]; simp
              rw [hs3] at hr
              rw [hv3] at hr c2
              obtain ⟨AL2, hAL2⟩ : ∃ AL2, AL2 = (acc ++ [d]).length := ⟨_, rfl⟩
              have HAL : Hid (AL2 = (acc ++ [d]).length) := hAL2
              rw [← hAL2] at hr hw5
              clear hD d0 hne hne2 G2 o23 o13 bM3 bL3 hG3 hn3 hG4 o34' o34 hv4 hrow bM4 bL4 o45 bM5 bL5 hG5 hl3 hl4 hl5 he3 he4 he5 o05 hv3 hAL2
              go_wp2_with (at_builtin; refine wpList_append_run (by rfl) _ _ 42 (by rfl) _ _ (.slice ao4 AL2 cap4) (by rfl) (by rfl) hr ?_)
              clear hr c2
              rw [← hw5]
              refine (show Calls Tryz.prog 28 _ _ _ from HC.out).mono ?_
              rintro e w6 ⟨k6, t6, q6, b6, rfl, G6⟩
              obtain ⟨g61, g62, g63, g64⟩ := G6.out
              have bL6 := (g64.block Lb (Array.getElem?_eq_some_iff.1 H5.out.2.1).1 (fun g => by have := q9; have := HB.out; omega)).trans H5.out.2.1
              have bM6 := (g64.block M (Array.getElem?_eq_some_iff.1 H5.out.1).1 (fun g => by have := q9; have := HB.out; omega)).trans H5.out.1
              have l0 : w6.cell? ⟨Lb, 0, none⟩ = some (.int .i64 (k : Int)) := blk_cells bL6 0
              have l1 : w6.cell? ⟨Lb, 1, none⟩ = some (.string (bt t)) := blk_cells bL6 1
              have l2 : w6.cell? ⟨Lb, 2, none⟩ = some (.bool bc) := blk_cells bL6 2
              have fl0 := blk_froz bL6 0
              have fl1 := blk_froz bL6 1
              have fl2 := blk_froz bL6 2
              have o67 := lonly3 (w := w6) (B := Lb) (.int .i64 (k6 : Int)) (.string (bt t6)) (.bool b6)
              have bL7 := lset3 bL6 (.int .i64 (k6 : Int)) (.string (bt t6)) (.bool b6)
              obtain ⟨w7, hw7⟩ : ∃ w7, w7 = ((w6.setCell ⟨Lb, 0, none⟩ (.int .i64 (k6 : Int))).setCell ⟨Lb, 1, none⟩ (.string (bt t6))).setCell ⟨Lb, 2, none⟩ (.bool b6) := ⟨_, rfl⟩
              rw [← hw7] at o67 bL7
              have bM7 := (o67.block M (Array.getElem?_eq_some_iff.1 bM6).1 (fun g => by have := q9; omega)).trans bM6
              have hG7 := (H5.out.2.2.1.only bk_liv el_dc g64 (fun b h1 h2 g => by have := q9; have := HB.out; omega)).only bk_liv el_dc o67 (fun b h1 h2 g => by have := q9; omega)
              have hl7 : t6 = [] ∨ LnS w7 N P q6 z b := by
                rcases g63 with g | g
                · exact .inl g
                · exact .inr (g.only o67 (fun g => by have := HB.out; have := q9; omega) (fun g => by have := HB.out; have := q9; omega))
              have hY7 : Y = mkM nm (mkU us (mpD z ((k6, t6) :: q6) (acc ++ [d]))) := by rw [HF.out.1, g61]
              have hq6 : t6 ≠ [] → q6.length + 1 ≤ q.length := fun hne6 => by
                cases q with
                | nil => exact absurd (by have := g61; simp only [curO, Prod.mk.injEq] at this; exact this.1.2.symm) hne6
                | cons c qq =>
                  have := g61
                  simp only [curO, Prod.mk.injEq] at this
                  rw [← this.2]
                  simp
              have H7 : Hid (∃ k t q acc ao cap bc, w7.heap[M]? = some (.cells #[.string nm, .slice ua us.length us.length, .slice ao acc.length cap] 44) ∧ w7.heap[Lb]? = some (.cells #[.int .i64 ((k : Nat) : Int), .string (bt t), .bool bc] 58) ∧ GrAt Liv 49 4 DcP w7 w0.heap.size (.slice ao acc.length cap) acc ∧ (t = [] ∨ LnS w7 N P q z b) ∧ t.length ≤ 131072 ∧ Y = mkM nm (mkU us (mpD z ((k, t) :: q) acc)) ∧ (t ≠ [] → acc.length + q.length ≤ 131073) ∧ Only (fun x => x = N ∨ x = P ∨ x = M ∨ x = Lb) w0 w7) :=
                ⟨k6, t6, q6, acc ++ [d], ao4, cap4, b6, bM7, bL7, hG7, hl7, g62, hY7, fun h => by have := hq6 h; have := HF.out.2.2.1; simp; omega, (H5.out.2.2.2.trans g64 (fun k hk g => by rcases g with g | g <;> simp [g])).trans o67 (fun k hk g => .inr (.inr (.inr g)))⟩
              have HMM : Hid (lnW N P Lb w7 < lnW N P Lb v1) := by
                show _ < _
                rw [HF.out.2.1]
                unfold lnW
                by_cases h6 : t6 = []
                · rw [if_pos (by unfold lnE; rw [show w7.cell? ⟨Lb, 1, none⟩ = some (.string (bt t6)) from blk_cells bL7 1, h6]; rfl)]
                  omega
                · have h8 : LnS w7 N P q6 z b := by
                    rcases hl7 with e | e
                    · exact absurd e h6
                    · exact e
                  rw [h8.q]
                  have := hq6 h6
                  split <;> omega
              rw [hw7] at H7 HMM
              clear HC G6 g61 g62 g63 g64 bL6 bM6 o67 bL7 bM7 hG7 hl7 hY7 hq6 hw7 hw5 m2 fm2
              go_wp2
              go_roundw
              case rel => exact H7
              case measure => exact HMM.out
      | some us =>
        rw [ho2] at g5 hnu
        obtain ⟨g1, rfl, G5⟩ := g5
        obtain ⟨G51, G52, G53⟩ := G5.out
        have htn : tc ≠ [] := fun e => by rw [H4.out.2.2.2.2.2.2.2.1, e, nmO_nil] at ho2; cases ho2
        have hl4 : LnS w4 N P qc z b := by
          rcases H4.out.2.2.2.2.1 with g | g
          · exact absurd g htn
          · exact g
        have b1 := (G53.block M (Array.getElem?_eq_some_iff.1 H4.out.2.1).1 (fun g => g)).trans H4.out.2.1
        have b2 := (G53.block Lb (Array.getElem?_eq_some_iff.1 H4.out.1).1 (fun g => g)).trans H4.out.1
        have c1 : w5.cell? ⟨M, 1, none⟩ = some (.slice none 0 0) := blk_cells b1 1
        have f1 := blk_froz b1 1
        obtain ⟨UL, hUL⟩ : ∃ UL, UL = us.length := ⟨_, rfl⟩
        obtain ⟨w6, hw6⟩ : ∃ w6, w6 = w5.setCell ⟨M, 1, none⟩ (.slice (some ⟨g1, 0, none⟩) UL UL) := ⟨_, rfl⟩
        have o56 : Only (fun x => x = M) w5 w6 := by rw [hw6]; exact (Only.refl _ w5).setCell _ _ (fun _ => rfl)
        have b16 : w6.heap[M]? = some (.cells #[.string nm, .slice (some ⟨g1, 0, none⟩) UL UL, .slice none 0 0] 44) := by rw [hw6]; exact (heap_setCell_same _ _ _ _ _ _ b1).trans rfl
        have b26 := (o56.block Lb (Array.getElem?_eq_some_iff.1 b2).1 (fun g => by have := H4.out.2.2.2.2.2.2.2.2.1; omega)).trans b2
        have b36 := (o56.block g1 (Array.getElem?_eq_some_iff.1 G52).1 (fun g => by have := H4.out.2.2.2.2.2.2.2.2; omega)).trans G52
        have hl6 := (hl4.only G53 (fun g => g) (fun g => g)).only o56 (by have := HB.out; omega) (by have := HB.out; omega)
        have he6 := (H4.out.2.2.2.1.keep G53 (fun g => g) (fun g => g)).keep o56 (by have := HB.out; have := HGG.out; omega) (by have := HB.out; have := HGG.out; omega)
        have HC : Hid _ := HNX.out w6 qc hl6 he6
        have ow6 : Only (fun x => x = N ∨ x = P) w w6 := ((HS.out.1.mono (bs' := fun x => x = N ∨ x = P) (fun _ _ g => g.elim)).trans H4.out.2.2.1 (fun k hk g => by have := HB.out; rcases g with g | g | g <;> simp [g] <;> omega)).trans ((G53.mono (bs' := fun x => x = M) (fun _ _ g => g.elim)).trans o56 (fun _ _ g => g)) (fun k hk g => by have := HB.out; omega)
        have H6 : Hid (w6.heap[M]? = some (.cells #[.string nm, .slice (some ⟨g1, 0, none⟩) UL UL, .slice none 0 0] 44) ∧ w6.heap[Lb]? = some (.cells #[.int .i64 (k : Int), .string T1, .bool b3] 58) ∧ w6.heap[g1]? = some (.cells (us.map Value.string).toArray 9) ∧ Evd w6 ∧ Only (fun x => x = N ∨ x = P) w w6 ∧ YU = mkU us (mpD z ((curO z qc).1 :: (curO z qc).2) []) ∧ (M < Lb ∧ Lb + 1 ≤ g1) ∧ UL = us.length) := ⟨b16, b26, b36, he6, ow6, by rw [H4.out.2.2.2.2.2.1, hnu, ← mpD_cur], ⟨H4.out.2.2.2.2.2.2.2.2.1, by have := H4.out.2.2.2.2.2.2.2.2.2; omega⟩, hUL⟩
        rw [← hUL]
        clear H4 HV3 G5 G51 G52 G53 b1 b2 o56 b16 b26 b36 hl6 he6 ow6 hnu ho2 hl4 htn cL1 HS hUL
        go_wp2_with fail
        rw [← hw6]
        clear hw6 c1 f1
        refine (show Calls Tryz.prog 28 _ _ _ from HC.out).mono ?_
        rintro e w7 ⟨k0, t0, q0, b0, rfl, G7⟩
        obtain ⟨g71, g72, g73, g74⟩ := G7.out
        have bL7 := (g74.block Lb (Array.getElem?_eq_some_iff.1 H6.out.2.1).1 (fun g => by have := H6.out.2.2.2.2.2.2.1; have := HB.out; omega)).trans H6.out.2.1
        have bM7 := (g74.block M (Array.getElem?_eq_some_iff.1 H6.out.1).1 (fun g => by have := HB.out; omega)).trans H6.out.1
        have bG7 := (g74.block g1 (Array.getElem?_eq_some_iff.1 H6.out.2.2.1).1 (fun g => by have := H6.out.2.2.2.2.2.2.1; have := HB.out; omega)).trans H6.out.2.2.1
        have l0 : w7.cell? ⟨Lb, 0, none⟩ = some (.int .i64 (k : Int)) := blk_cells bL7 0
        have l1 : w7.cell? ⟨Lb, 1, none⟩ = some (.string T1) := blk_cells bL7 1
        have l2 : w7.cell? ⟨Lb, 2, none⟩ = some (.bool b3) := blk_cells bL7 2
        have fl0 := blk_froz bL7 0
        have fl1 := blk_froz bL7 1
        have fl2 := blk_froz bL7 2
        have o70 := lonly3 (w := w7) (B := Lb) (.int .i64 (k0 : Int)) (.string (bt t0)) (.bool b0)
        have bL0 := lset3 bL7 (.int .i64 (k0 : Int)) (.string (bt t0)) (.bool b0)
        obtain ⟨w0, hw0⟩ : ∃ w0, w0 = ((w7.setCell ⟨Lb, 0, none⟩ (.int .i64 (k0 : Int))).setCell ⟨Lb, 1, none⟩ (.string (bt t0))).setCell ⟨Lb, 2, none⟩ (.bool b0) := ⟨_, rfl⟩
        rw [← hw0] at o70 bL0
        have bM0 := (o70.block M (Array.getElem?_eq_some_iff.1 bM7).1 (fun g => by have := H6.out.2.2.2.2.2.2.1; omega)).trans bM7
        have bG0 := (o70.block g1 (Array.getElem?_eq_some_iff.1 bG7).1 (fun g => by have := H6.out.2.2.2.2.2.2.1; omega)).trans bG7
        obtain ⟨ua, hua⟩ : ∃ ua : Option Addr, ua = some ⟨g1, 0, none⟩ := ⟨_, rfl⟩
        have HL0 : Hid (Only (fun x => x = N ∨ x = P) w w0 ∧ w0.heap[M]? = some (.cells #[.string nm, .slice ua us.length us.length, .slice none 0 0] 44) ∧ w0.heap[Lb]? = some (.cells #[.int .i64 ((k0 : Nat) : Int), .string (bt t0), .bool b0] 58) ∧ UwV w0 (Lb + 1) (.slice ua us.length us.length) us ∧ (t0 = [] ∨ LnS w0 N P q0 z b) ∧ t0.length ≤ 131072 ∧ Evd w0 ∧ Y = mkM nm (mkU us (mpD z ((k0, t0) :: q0) [])) ∧ (M < Lb ∧ Lb < w0.heap.size)) := by
          obtain ⟨h1, h2, h3, h4, h5, h6, h7, h8⟩ := H6.out
          rw [hua, ← h8]
          refine ⟨?_, bM0, bL0, .inr ⟨g1, by rw [h8], h7.2, bG0⟩, ?_, g72, ?_, ?_, h7.1, (Array.getElem?_eq_some_iff.1 bL0).1⟩
          · exact (h5.trans g74 (fun _ _ g => g)).trans o70 (fun k hk g => by have := HB.out; omega)
          · rcases g73 with g | g
            · exact .inl g
            · exact .inr (g.only o70 (by have := HB.out; omega) (by have := HB.out; omega))
          · exact (h4.keep g74 (by have := HGG.out; omega) (by have := HGG.out; omega)).keep o70 (by have := HB.out; have := HGG.out; omega) (by have := HB.out; have := HGG.out; omega)
          · rw [HY.out, h6, g71]
        have q9' := HL0.out.2.2.2.2.2.2.2.2
        clear HC G7 g71 g72 g73 g74 bL7 bM7 bG7 o70 bL0 bM0 bG0 H6 HY hua
        go_wp2
        rw [← hw0]
        clear hw0 l0 l1 l2 fl0 fl1 fl2
        go_loopw [10] (fun r10 wr => Hid (∃ k t q acc ao cap bc, wr.heap[M]? = some (.cells #[.string nm, .slice ua us.length us.length, .slice ao acc.length cap] 44) ∧ wr.heap[Lb]? = some (.cells #[.int .i64 ((k : Nat) : Int), .string (bt t), .bool bc] 58) ∧ GrAt Liv 49 4 DcP wr w0.heap.size (.slice ao acc.length cap) acc ∧ (t = [] ∨ LnS wr N P q z b) ∧ t.length ≤ 131072 ∧ Y = mkM nm (mkU us (mpD z ((k, t) :: q) acc)) ∧ (t ≠ [] → acc.length + q.length ≤ 131073) ∧ Only (fun x => x = N ∨ x = P ∨ x = M ∨ x = Lb) w0 wr)) (fun r10 wr => lnW N P Lb wr)
        case atStart =>
          obtain ⟨p1, p2, p3, p4, p5, p6, p7, p8, p9⟩ := HL0.out
          exact ⟨k0, t0, q0, [], none, 0, b0, p2, p3, gr_nil _ _ _ _ _ _, p5, p6, p8, fun hne => by
            rcases p5 with p5 | p5
            · exact absurd p5 hne
            · have := p5.cnt
              simp
              omega, Only.refl _ _⟩
        case round =>
          have HI := hrel
          clear hrel
          obtain ⟨v1, hv1⟩ : ∃ v1, v1 = wr := ⟨_, rfl⟩
          rw [← hv1] at HI ⊢
          clear hv1
          obtain ⟨k, t, q, acc, ao, cap, bc, cM, cL, hG, hln, htl, hYY, hcnt, o1⟩ := HI.out
          obtain ⟨q1, q2, q3, q4, q5, q6, q7, q8, q9⟩ := HL0.out
          have hkeep : ∀ b, Lb + 1 ≤ b → b < w0.heap.size → ¬ (b = N ∨ b = P ∨ b = M ∨ b = Lb) := fun b h1 h2 g => by have := HB.out; omega
          have hUw : UwV v1 (Lb + 1) (.slice ua us.length us.length) us := q4.only o1 hkeep
          have hEv : Evd v1 := q7.keep o1 (by have := HB.out; have := HGG.out; omega) (by have := HB.out; have := HGG.out; omega)
          have m0 : v1.cell? ⟨M, 0, none⟩ = some (.string nm) := blk_cells cM 0
          have m1 : v1.cell? ⟨M, 1, none⟩ = some (.slice ua us.length us.length) := blk_cells cM 1
          have m2 : v1.cell? ⟨M, 2, none⟩ = some (.slice ao acc.length cap) := blk_cells cM 2
          have fm0 := blk_froz cM 0
          have fm1 := blk_froz cM 1
          have fm2 := blk_froz cM 2
          have hb0 := o1.size
          by_cases hend : bt t = endB
          · have htne : t ≠ [] := fun e => by rw [e] at hend; exact absurd hend (by decide)
            have hl1 : LnS v1 N P q z b := by
              rcases hln with e | e
              · exact absurd e htne
              · exact e
            have hYo : Y = .ok (⟨nm, us, acc⟩, q) := by
              rw [hYY]
              unfold mpD
              rw [if_pos hend]
              rfl
            have d0 : v1.cell? ⟨Lb, 1, none⟩ = some (.string ⟨#[101, 110, 100]⟩) := by rw [blk_cells cL 1]; show some (Value.string (bt t)) = _; rw [hend]; rfl
            obtain ⟨Su, hu1, hu2⟩ := hUw.us
            obtain ⟨Sd, hd1, hd2⟩ := hG.read bk_liv el_dc
            have HF : Hid (Y = .ok (⟨nm, us, acc⟩, q) ∧ v1.heap[M]? = some (.cells #[.string nm, .slice ua us.length us.length, .slice ao acc.length cap] 44) ∧ LnS v1 N P q z b ∧ Only (fun x => x = N ∨ x = P) w v1 ∧ (UsV v1 Su (.slice ua us.length us.length) us ∧ ∀ b, Su b → Lb + 1 ≤ b ∧ Liv v1 b) ∧ (GvAt 4 DcP v1 Sd (.slice ao acc.length cap) acc ∧ ∀ b, Sd b → w0.heap.size ≤ b ∧ Liv v1 b)) := ⟨hYo, cM, hl1, q1.trans o1 (fun k hk g => by have := HB.out; omega), ⟨hu1, hu2⟩, ⟨hd1, hd2⟩⟩
            obtain ⟨UL, hUL⟩ : ∃ UL, UL = us.length := ⟨_, rfl⟩
            obtain ⟨AL, hAL⟩ : ∃ AL, AL = acc.length := ⟨_, rfl⟩
            rw [← hUL] at m1 HF
            rw [← hAL] at m2 HF
            clear cM cL hG hln htl hYY hcnt o1 q1 q2 q3 q4 q5 q6 q7 q8 hkeep hUw hEv hend htne hl1 hYo hu1 hu2 hd1 hd2 HI HN HNX hUL hAL
            go_wp2
            refine bodyPost_ret (results_man rfl _ _ M (lset3 HF.out.2.1 _ _ _) rfl) rfl ?_
            obtain ⟨f1, f2, f3, f4, ⟨f5, f6⟩, ⟨f7, f8⟩⟩ := HF.out
            have o9 := lonly3 (w := v1) (B := M) (.string nm) (.slice ua UL UL) (.slice ao AL cap)
            rw [f1]
            refine ⟨.slice ua UL UL, .slice ao AL cap, rfl, ⟨fun b => Su b ∨ Sd b, ⟨_, _, rfl, ?_, ?_⟩, fun b hb => ?_⟩, f3.only o9 (by have := HB.out; omega) (by have := HB.out; omega), f4.trans o9 (fun k hk g => by have := HB.out; omega)⟩
            · exact f5.step (fun _ g => .inl g) (fun a u hs hc => o9.cell hc (fun g => by have := (f6 _ hs).1; omega))
            · exact f7.step el_dc (fun _ g => .inr g) (fun a u hs hc => o9.cell hc (fun g => by have := (f8 _ hs).1; omega))
            · rcases hb with hb | hb
              · exact ⟨by have := (f6 b hb).1; have := HB.out; omega, (f6 b hb).2.only o9 (fun g => by have := (f6 b hb).1; omega)⟩
              · exact ⟨by have := (f8 b hb).1; have := HB.out; omega, (f8 b hb).2.only o9 (fun g => by have := (f8 b hb).1; omega)⟩
          · have hne : ((bt t).toList == [101, 110, 100]) = false := by
              rw [beq_eq_false_iff_ne, bt_toList]
              intro e
              exact hend (by rw [e]; rfl)
            obtain ⟨R, hR⟩ : ∃ R, R = bt t := ⟨_, rfl⟩
            have d0 : v1.cell? ⟨Lb, 1, none⟩ = some (.string R) := by rw [hR]; exact blk_cells cL 1
            have hD : Hid _ := definitionOf_any R v1 hEv.1
            rw [← hR] at hne
            have hne2 : (R.toList != [101, 110, 100]) = true := by rw [bne, hne]; rfl
            cases hdo : defO R with
            | none =>
              rw [hdo] at hD
              have hYe : Y = .error k := by
                rw [hYY]
                unfold mpD
                rw [if_neg hend, ← hR, hdo]
                rfl
              have HF : Hid (Y = .error k ∧ v1.heap[M]? = some (.cells #[.string nm, .slice ua us.length us.length, .slice ao acc.length cap] 44) ∧ v1.heap[Lb]? = some (.cells #[.int .i64 ((k : Nat) : Int), .string (bt t), .bool bc] 58) ∧ Only (fun x => x = N ∨ x = P) w v1) := ⟨hYe, cM, cL, q1.trans o1 (fun k hk g => by have := HB.out; omega)⟩
              have ne1 : ¬ Lb = M := by omega
              have ne2 : ¬ M = Lb := by omega
              clear cM cL hG hln htl hYY hcnt o1 q1 q2 q3 q4 q5 q6 q7 q8 hkeep hUw hEv hend hYe hR hdo HI HN HNX m0 m1 m2 fm0 fm1 fm2
              go_wp2_with fail
              refine (show Calls Tryz.prog 31 _ _ _ from hD.out).mono ?_
              rintro e v2 ⟨rfl, G2⟩
              have oX : Only (fun _ => False) v1 (v2.alloc (.cells #[.string ⟨#[]⟩, .int .i64 0, .int .i64 0, .slice none 0 0] 49)) := G2.out.alloc _
              have bM2 := (oX.block M (Array.getElem?_eq_some_iff.1 HF.out.2.1).1 (fun g => g)).trans HF.out.2.1
              have bL2 := (oX.block Lb (Array.getElem?_eq_some_iff.1 HF.out.2.2.1).1 (fun g => g)).trans HF.out.2.2.1
              have m0 : (v2.alloc (.cells #[.string ⟨#[]⟩, .int .i64 0, .int .i64 0, .slice none 0 0] 49)).cell? ⟨M, 0, none⟩ = some (.string nm) := blk_cells bM2 0
              have m1 : (v2.alloc (.cells #[.string ⟨#[]⟩, .int .i64 0, .int .i64 0, .slice none 0 0] 49)).cell? ⟨M, 1, none⟩ = some (.slice ua us.length us.length) := blk_cells bM2 1
              have m2 : (v2.alloc (.cells #[.string ⟨#[]⟩, .int .i64 0, .int .i64 0, .slice none 0 0] 49)).cell? ⟨M, 2, none⟩ = some (.slice ao acc.length cap) := blk_cells bM2 2
              have l0 : (v2.alloc (.cells #[.string ⟨#[]⟩, .int .i64 0, .int .i64 0, .slice none 0 0] 49)).cell? ⟨Lb, 0, none⟩ = some (.int .i64 (k : Int)) := blk_cells bL2 0
              have fm0 := blk_froz bM2 0
              have fm1 := blk_froz bM2 1
              have fm2 := blk_froz bM2 2
              have HZ : Hid ((v2.alloc (.cells #[.string ⟨#[]⟩, .int .i64 0, .int .i64 0, .slice none 0 0] 49)).heap[M]? = some (.cells #[.string nm, .slice ua us.length us.length, .slice ao acc.length cap] 44) ∧ Only (fun x => x = N ∨ x = P) w (v2.alloc (.cells #[.string ⟨#[]⟩, .int .i64 0, .int .i64 0, .slice none 0 0] 49))) := ⟨bM2, HF.out.2.2.2.trans (oX.mono (bs' := fun x => x = N ∨ x = P) (fun _ _ g => g.elim)) (fun _ _ g => g)⟩
              clear hD d0 hne hne2 G2 oX bM2 bL2
              go_wp2
              go_region
              go_wp2
              refine bodyPost_ret (results_man rfl _ _ M (lset3 HZ.out.1 _ _ _) rfl) rfl ?_
              rw [HF.out.1]
              refine ⟨rfl, ?_⟩
              have o9 := lonly3 (w := v2.alloc (.cells #[.string ⟨#[]⟩, .int .i64 0, .int .i64 0, .slice none 0 0] 49)) (B := M) (.string ⟨#[]⟩) (.slice none 0 0) (.slice none 0 0)
              exact (HZ.out.2.trans o9 (fun k hk g => by have := HB.out; omega)).drew
            | some d =>
              rw [hdo] at hD
              have htne : t ≠ [] := fun e => by rw [hR, e, defO_nil] at hdo; cases hdo
              have hl1 : LnS v1 N P q z b := by
                rcases hln with e | e
                · exact absurd e htne
                · exact e
              have hYd : Y = mkM nm (mkU us (mpD z ((curO z q).1 :: (curO z q).2) (acc ++ [d]))) := by
                rw [← mpD_cur, hYY]
                conv => lhs; unfold mpD
                rw [if_neg hend, ← hR, hdo]
              have hmeas : lnW N P Lb v1 = q.length + 1 := by
                unfold lnW lnE
                rw [d0]
                show (if R.size = 0 then _ else _) = _
                rw [if_neg (by rw [hR, bt_size]; intro e; exact htne (List.length_eq_zero_iff.1 e)), hl1.q]
              have hac := hcnt htne
              have HF : Hid (Y = mkM nm (mkU us (mpD z ((curO z q).1 :: (curO z q).2) (acc ++ [d]))) ∧ lnW N P Lb v1 = q.length + 1 ∧ acc.length + q.length ≤ 131073 ∧ v1.heap[M]? = some (.cells #[.string nm, .slice ua us.length us.length, .slice ao acc.length cap] 44) ∧ v1.heap[Lb]? = some (.cells #[.int .i64 ((k : Nat) : Int), .string (bt t), .bool bc] 58) ∧ LnS v1 N P q z b ∧ Evd v1 ∧ GrAt Liv 49 4 DcP v1 w0.heap.size (.slice ao acc.length cap) acc ∧ Only (fun x => x = N ∨ x = P ∨ x = M ∨ x = Lb) w0 v1) := ⟨hYd, hmeas, hac, cM, cL, hl1, hEv, hG, o1⟩
              clear cM cL hG hln htl hYY hcnt o1 q1 q2 q3 q4 q5 q6 q7 q8 hkeep hUw hEv hend hYd hR hdo HI HN m0 m1 m2 fm0 fm1 fm2 htne hl1 hmeas hac
              go_wp2_with fail
              refine (show Calls Tryz.prog 31 _ _ _ from hD.out).mono ?_
              rintro e v2 ⟨bo, bcp, rfl, G2⟩
              obtain ⟨v3, hv3⟩ : ∃ v3, v3 = v2.alloc (.cells #[.string d.nm, .int .i64 (d.i : Int), .int .i64 (d.j : Int), .slice bo d.b.length bcp] 49) := ⟨_, rfl⟩
              have o23 : Only (fun _ => False) v2 v3 := by rw [hv3]; exact (Only.refl _ v2).alloc _
              have o13 : Only (fun _ => False) v1 v3 := G2.out.2.trans o23 (fun _ _ g => g)
              have bM3 := (o13.block M (Array.getElem?_eq_some_iff.1 HF.out.2.2.2.1).1 (fun g => g)).trans HF.out.2.2.2.1
              have bL3 := (o13.block Lb (Array.getElem?_eq_some_iff.1 HF.out.2.2.2.2.1).1 (fun g => g)).trans HF.out.2.2.2.2.1
              have hG3 := HF.out.2.2.2.2.2.2.2.1.only bk_liv el_dc o13 (fun _ _ _ g => g)
              have hn3 : GnAt Liv DcP v3 v1.heap.size d [.string d.nm, .int .i64 (d.i : Int), .int .i64 (d.j : Int), .slice bo d.b.length bcp] := by
                obtain ⟨S, h1, h2⟩ := G2.out.1
                have hn2 : GnAt Liv DcP v2 v1.heap.size d [.string d.nm, .int .i64 (d.i : Int), .int .i64 (d.j : Int), .slice bo d.b.length bcp] := ⟨S, ⟨bo, bcp, rfl, h1⟩, h2⟩
                exact hn2.only bk_liv el_dc o23 (fun _ _ _ g => g)
              obtain ⟨v', w4', hr, hG4, o34', hv4⟩ := gr_app bk_liv el_dc dc_info Tryz.underlying42 (by decide) (by decide) hG3 hn3 (HF.out.2.2.2.2.2.2.2.2.size) (fun k hk => (HF.out.2.2.2.2.2.2.2.1.lt k hk).2) (Nat.le_trans HF.out.2.2.2.2.2.2.2.2.size o13.size) (by have := HF.out.2.2.1; omega)
              obtain ⟨ao4, cap4, hvf⟩ := hG4.form
              subst hvf
              have o34 : Only (fun x => (Value.slice ao acc.length cap).ownBlock = some x) v3 w4' := o34'
              have hrow := fun k hk => (hG3.lt k hk).1
              have bM4 : w4'.heap[M]? = _ := (o34.block M (Array.getElem?_eq_some_iff.1 bM3).1 (fun g => by have := hrow M g; have := q9; omega)).trans bM3
              have bL4 : w4'.heap[Lb]? = _ := (o34.block Lb (Array.getElem?_eq_some_iff.1 bL3).1 (fun g => by have := hrow Lb g; have := q9; omega)).trans bL3
              have c2 : v3.cell? ⟨M, 2, none⟩ = some (.slice ao acc.length cap) := blk_cells bM3 2
              have m2 : w4'.cell? ⟨M, 2, none⟩ = some (.slice ao acc.length cap) := blk_cells bM4 2
              have fm2 := blk_froz bM4 2
              obtain ⟨w5, hw5⟩ : ∃ w5, w5 = w4'.setCell ⟨M, 2, none⟩ (.slice ao4 (acc ++ [d]).length cap4) := ⟨_, rfl⟩
              have o45 : Only (fun x => x = M) w4' w5 := by rw [hw5]; exact (Only.refl _ w4').setCell _ _ (fun _ => rfl)
              have bM5 : w5.heap[M]? = some (.cells #[.string nm, .slice ua us.length us.length, .slice ao4 (acc ++ [d]).length cap4] 44) := by rw [hw5]; exact (heap_setCell_same _ _ _ _ _ _ bM4).trans rfl
              have bL5 := (o45.block Lb (Array.getElem?_eq_some_iff.1 bL4).1 (fun g => by have := q9; omega)).trans bL4
              have hG5 := hG4.only bk_liv el_dc o45 (fun b h1 h2 g => by have := q9; have := HB.out; omega)
              have hl3 := HF.out.2.2.2.2.2.1.only o13 (fun g => g) (fun g => g)
              have hl4 := hl3.only o34 (fun g => by have := hrow N g; have := q9; have := HB.out; omega) (fun g => by have := hrow P g; have := q9; have := HB.out; omega)
              have hl5 := hl4.only o45 (fun g => by have := HB.out; omega) (fun g => by have := HB.out; omega)
              have he3 := HF.out.2.2.2.2.2.2.1.keep o13 (fun g => g) (fun g => g)
              have he4 := he3.keep o34 (fun g => by have := hrow _ g; have := q9; have := HB.out; have := HGG.out; omega) (fun g => by have := hrow _ g; have := q9; have := HB.out; have := HGG.out; omega)
              have he5 := he4.keep o45 (fun g => by have := HB.out; have := HGG.out; omega) (fun g => by have := HB.out; have := HGG.out; omega)
              have HC : Hid _ := HNX.out w5 q hl5 he5
              have o05 : Only (fun x => x = N ∨ x = P ∨ x = M ∨ x = Lb) w0 w5 := ((HF.out.2.2.2.2.2.2.2.2.trans (o13.mono (bs' := fun x => x = N ∨ x = P ∨ x = M ∨ x = Lb) (fun _ _ g => g.elim)) (fun _ _ g => g)).trans o34 (fun k hk g => by have := hrow k g; omega)).trans o45 (fun k hk g => .inr (.inr (.inl g)))
              have H5 : Hid (w5.heap[M]? = some (.cells #[.string nm, .slice ua us.length us.length, .slice ao4 (acc ++ [d]).length cap4] 44) ∧ w5.heap[Lb]? = some (.cells #[.int .i64 ((k : Nat) : Int), .string (bt t), .bool bc] 58) ∧ GrAt Liv 49 4 DcP w5 w0.heap.size (.slice ao4 (acc ++ [d]).length cap4) (acc ++ [d]) ∧ Only (fun x => x = N ∨ x = P ∨ x = M ∨ x = Lb) w0 w5) := ⟨bM5, bL5, hG5, o05⟩
              have hs3 : v3.heap.size = v2.heap.size + 1 := by rw [hv3]; simp
              rw [hs3] at hr
              rw [hv3] at hr c2
              obtain ⟨AL2, hAL2⟩ : ∃ AL2, AL2 = (acc ++ [d]).length := ⟨_, rfl⟩
              have HAL : Hid (AL2 = (acc ++ [d]).length) := hAL2
              rw [← hAL2] at hr hw5
              clear hD d0 hne hne2 G2 o23 o13 bM3 bL3 hG3 hn3 hG4 o34' o34 hv4 hrow bM4 bL4 o45 bM5 bL5 hG5 hl3 hl4 hl5 he3 he4 he5 o05 hv3 hAL2
              go_wp2_with (at_builtin; refine wpList_append_run (by rfl) _ _ 42 (by rfl) _ _ (.slice ao4 AL2 cap4) (by rfl) (by rfl) hr ?_)
              clear hr c2
              rw [← hw5]
              refine (show Calls Tryz.prog 28 _ _ _ from HC.out).mono ?_
              rintro e w6 ⟨k6, t6, q6, b6, rfl, G6⟩
              obtain ⟨g61, g62, g63, g64⟩ := G6.out
              have bL6 := (g64.block Lb (Array.getElem?_eq_some_iff.1 H5.out.2.1).1 (fun g => by have := q9; have := HB.out; omega)).trans H5.out.2.1
              have bM6 := (g64.block M (Array.getElem?_eq_some_iff.1 H5.out.1).1 (fun g => by have := q9; have := HB.out; omega)).trans H5.out.1
              have l0 : w6.cell? ⟨Lb, 0, none⟩ = some (.int .i64 (k : Int)) := blk_cells bL6 0
              have l1 : w6.cell? ⟨Lb, 1, none⟩ = some (.string (bt t)) := blk_cells bL6 1
              have l2 : w6.cell? ⟨Lb, 2, none⟩ = some (.bool bc) := blk_cells bL6 2
              have fl0 := blk_froz bL6 0
              have fl1 := blk_froz bL6 1
              have fl2 := blk_froz bL6 2
              have o67 := lonly3 (w := w6) (B := Lb) (.int .i64 (k6 : Int)) (.string (bt t6)) (.bool b6)
              have bL7 := lset3 bL6 (.int .i64 (k6 : Int)) (.string (bt t6)) (.bool b6)
              obtain ⟨w7, hw7⟩ : ∃ w7, w7 = ((w6.setCell ⟨Lb, 0, none⟩ (.int .i64 (k6 : Int))).setCell ⟨Lb, 1, none⟩ (.string (bt t6))).setCell ⟨Lb, 2, none⟩ (.bool b6) := ⟨_, rfl⟩
              rw [← hw7] at o67 bL7
              have bM7 := (o67.block M (Array.getElem?_eq_some_iff.1 bM6).1 (fun g => by have := q9; omega)).trans bM6
              have hG7 := (H5.out.2.2.1.only bk_liv el_dc g64 (fun b h1 h2 g => by have := q9; have := HB.out; omega)).only bk_liv el_dc o67 (fun b h1 h2 g => by have := q9; omega)
              have hl7 : t6 = [] ∨ LnS w7 N P q6 z b := by
                rcases g63 with g | g
                · exact .inl g
                · exact .inr (g.only o67 (fun g => by have := HB.out; have := q9; omega) (fun g => by have := HB.out; have := q9; omega))
              have hY7 : Y = mkM nm (mkU us (mpD z ((k6, t6) :: q6) (acc ++ [d]))) := by rw [HF.out.1, g61]
              have hq6 : t6 ≠ [] → q6.length + 1 ≤ q.length := fun hne6 => by
                cases q with
                | nil => exact absurd (by have := g61; simp only [curO, Prod.mk.injEq] at this; exact this.1.2.symm) hne6
                | cons c qq =>
                  have := g61
                  simp only [curO, Prod.mk.injEq] at this
                  rw [← this.2]
                  simp
              have H7 : Hid (∃ k t q acc ao cap bc, w7.heap[M]? = some (.cells #[.string nm, .slice ua us.length us.length, .slice ao acc.length cap] 44) ∧ w7.heap[Lb]? = some (.cells #[.int .i64 ((k : Nat) : Int), .string (bt t), .bool bc] 58) ∧ GrAt Liv 49 4 DcP w7 w0.heap.size (.slice ao acc.length cap) acc ∧ (t = [] ∨ LnS w7 N P q z b) ∧ t.length ≤ 131072 ∧ Y = mkM nm (mkU us (mpD z ((k, t) :: q) acc)) ∧ (t ≠ [] → acc.length + q.length ≤ 131073) ∧ Only (fun x => x = N ∨ x = P ∨ x = M ∨ x = Lb) w0 w7) :=
                ⟨k6, t6, q6, acc ++ [d], ao4, cap4, b6, bM7, bL7, hG7, hl7, g62, hY7, fun h => by have := hq6 h; have := HF.out.2.2.1; simp; omega, (H5.out.2.2.2.trans g64 (fun k hk g => by rcases g with g | g <;> simp [g])).trans o67 (fun k hk g => .inr (.inr (.inr g)))⟩
              have HMM : Hid (lnW N P Lb w7 < lnW N P Lb v1) := by
                show _ < _
                rw [HF.out.2.1]
                unfold lnW
                by_cases h6 : t6 = []
                · rw [if_pos (by unfold lnE; rw [show w7.cell? ⟨Lb, 1, none⟩ = some (.string (bt t6)) from blk_cells bL7 1, h6]; rfl)]
                  omega
                · have h8 : LnS w7 N P q6 z b := by
                    rcases hl7 with e | e
                    · exact absurd e h6
                    · exact e
                  rw [h8.q]
                  have := hq6 h6
                  split <;> omega
              rw [hw7] at H7 HMM
              clear HC G6 g61 g62 g63 g64 bL6 bM6 o67 bL7 bM7 hG7 hl7 hY7 hq6 hw7 hw5 m2 fm2
              go_wp2
              go_roundw
              case rel => exact H7
              case measure => exact HMM.out
end Go.Proofs.YtfecmpebnianpaaGreatDoor
