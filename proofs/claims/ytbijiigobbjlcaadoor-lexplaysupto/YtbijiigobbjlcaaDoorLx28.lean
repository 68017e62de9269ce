/- LexJoins: the walk. -/
import Derived.Test.YtbijiigobbjlcaaDoorLx27
namespace Go.Proofs.YtbijiigobbjlcaaDoor
open Go.RowKit Go.Lib
set_option linter.unusedSimpArgs false
set_option linter.unusedVariables false
/-- A row of tokens that can be read. -/
def RdT (w : World) (v : Value) (l : List Tok) : Prop := ∃ ao cap, v = .slice ao l.length cap ∧ ∀ i t, l[i]? = some t → ∃ g, ao = some ⟨g, 0, none⟩ ∧ g < w.heap.size ∧ w.cell? ⟨g, i * 4, none⟩ = some (.int .i64 t.k) ∧ w.cell? ⟨g, i * 4 + 1, none⟩ = some (.string t.t) ∧ w.cell? ⟨g, i * 4 + 2, none⟩ = some (.int .i64 t.n) ∧ w.cell? ⟨g, i * 4 + 3, none⟩ = some (.int .i64 t.a)
theorem rdt_toks {w : World} {B : Nat} {v : Value} {l : List Tok} (h : ToksAt w B v l) : RdT w v l := by
  obtain ⟨ao, cap, rfl⟩ := h.1
  refine ⟨ao, cap, rfl, fun i t ht => ?_⟩
  obtain ⟨g, cap', hv, _, hg, c⟩ := toks_cells h ht
  injection hv with e1 e2 e3
  exact ⟨g, e1, hg, c⟩
theorem RdT.only {w w' : World} {v : Value} {l : List Tok} (h : RdT w v l) (o : Only (fun _ => False) w w') : RdT w' v l := by
  obtain ⟨ao, cap, e, h⟩ := h
  refine ⟨ao, cap, e, fun i t ht => ?_⟩
  obtain ⟨g, e1, hg, c0, c1, c2, c3⟩ := h i t ht
  exact ⟨g, e1, Nat.lt_of_lt_of_le hg o.size, o.cell c0 (fun x => x), o.cell c1 (fun x => x), o.cell c2 (fun x => x), o.cell c3 (fun x => x)⟩
set_option maxRecDepth 100000 in
set_option maxHeartbeats 4000000 in
theorem same_any (l : List Tok) (hl : l.length ≤ 4096) (v1 v2 : Value) (w : World) (h1 : RdT w v1 l) (h2 : RdT w v2 l) : Calls Tryd.prog 16 #[v1, v2] w fun e w' => e = .returned (.bool true) ∧ Only (fun _ => False) w w' := by
  obtain ⟨ao1, cap1, rfl, f1⟩ := h1
  obtain ⟨ao2, cap2, rfl, f2⟩ := h2
  obtain ⟨m, hm⟩ : ∃ m, m = l.length := ⟨_, rfl⟩
  rw [← hm]
  have HM : Hid (m = l.length) := hm
  have hmm : m ≤ 4096 := by omega
  clear hm hl
  go_enter Tryd.func16, Tryd.ntmps16
  go_wp2
  go_loopw [5] (fun r5 wr => ∃ k : Nat, k ≤ m ∧ r5 = .int .i64 (k : Int) ∧ Hid (Only (fun _ => False) w wr)) (fun r5 _ => m - uOf r5)
  case atStart => exact ⟨0, Nat.zero_le _, rfl, Only.refl _ _⟩
  case round =>
    obtain ⟨k, hk, rfl, HO⟩ := hrel
    by_cases hlt : k < m
    · have e0 : m = l.length := HM.out
      obtain ⟨t, ht⟩ : ∃ t, t = l[k]'(by omega) := ⟨_, rfl⟩
      have ht2 : l[k]? = some t := by rw [ht]; exact List.getElem?_eq_getElem _
      obtain ⟨g1, rfl, _, x0, x1, x2, x3⟩ := f1 k t ht2
      obtain ⟨g2, rfl, _, y0, y1, y2, y3⟩ := f2 k t ht2
      have k0 : (0 : Int) ≤ (k : Int) := Int.natCast_nonneg _
      have k1 : (k : Int) < (m : Int) := by omega
      have ho := HO.out
      have X0 := ho.cell x0 (fun x => x)
      have X1 := ho.cell x1 (fun x => x)
      have X2 := ho.cell x2 (fun x => x)
      have X3 := ho.cell x3 (fun x => x)
      have Y0 := ho.cell y0 (fun x => x)
      have Y1 := ho.cell y1 (fun x => x)
      have Y2 := ho.cell y2 (fun x => x)
      have Y3 := ho.cell y3 (fun x => x)
      obtain ⟨tk, tt, tn, ta⟩ := t
      clear f1 f2 x0 x1 x2 x3 y0 y1 y2 y3 ho ht ht2 e0
      dsimp only at X0 X1 X2 X3 Y0 Y1 Y2 Y3
      go_wp2_with fail
      go_region_held3 (fun w' => w'.cell? ⟨g1, k * 4, none⟩ = some (.int .i64 tk) ∧ w'.cell? ⟨g1, k * 4 + 1, none⟩ = some (.string tt) ∧ w'.cell? ⟨g1, k * 4 + 2, none⟩ = some (.int .i64 tn) ∧ w'.cell? ⟨g1, k * 4 + 3, none⟩ = some (.int .i64 ta) ∧ w'.cell? ⟨g2, k * 4, none⟩ = some (.int .i64 tk) ∧ w'.cell? ⟨g2, k * 4 + 1, none⟩ = some (.string tt) ∧ w'.cell? ⟨g2, k * 4 + 2, none⟩ = some (.int .i64 tn) ∧ w'.cell? ⟨g2, k * 4 + 3, none⟩ = some (.int .i64 ta)) (go_keep) (fail)
      go_wp2
      go_roundw
      case rel => exact ⟨k + 1, by omega, by go_num, HO.out.drew⟩
      case measure => simp only [uOf]; omega
    · obtain rfl : k = m := by omega
      clear f1 f2
      go_wp2
      go_ret
      exact ⟨rfl, HO.out⟩
/-- A row's beginning. -/
theorem rdt_take {w : World} {B : Nat} {v : Value} {l : List Tok} (h : ToksAt w B v l) {n : Nat} (hn : n ≤ l.length) : ∃ ao cap, v = .slice ao l.length cap ∧ n ≤ cap ∧ RdT w (.slice ao n cap) (l.take n) := by
  obtain ⟨ao, cap, rfl⟩ := h.1
  have hc : l.length ≤ cap := by
    rcases h.2.2 with ⟨e, e2⟩ | ⟨g, cap', cur, fz, hv, _, _, _, hcap, _⟩
    · injection e with e1 e3 e4
      omega
    · injection hv with e1 e3 e4
      omega
  have hl : (l.take n).length = n := by rw [List.length_take]; omega
  refine ⟨ao, cap, rfl, by omega, ao, cap, by rw [hl], fun i t ht => ?_⟩
  have hi : i < n := by have := (List.getElem?_eq_some_iff.1 ht).1; omega
  rw [List.getElem?_take_of_lt hi] at ht
  obtain ⟨g, cap', hv, _, hg, c⟩ := toks_cells h ht
  injection hv with e1 e2 e3
  exact ⟨g, e1, hg, c⟩
theorem chain_mem {s : ByteArray} : ∀ (l : List Tok) (last : Int) (i : Nat) (b : Tok), Chain s last l → l[i]? = some b → ∃ a : Nat, b.a = (a : Int) ∧ a < s.size
  | [], _, i, b, _, h => by simp at h
  | t :: l, last, 0, b, ⟨a, _, h2, h3, _⟩, h => by
    simp only [List.getElem?_cons_zero, Option.some.injEq] at h
    subst h
    exact ⟨a, h3.at_, h2⟩
  | t :: l, last, i + 1, b, ⟨a, _, _, _, h4⟩, h => chain_mem l _ i b h4 (by simpa using h)
theorem joins_pure {s t : ByteArray} (h1 : (tokR s).2.2 = 0) (h2 : (tokR t).2.2 = 0) (hz : s.size + t.size < 65536) (hn : (tokR s).1.length + (tokR t).1.length ≤ 4096) :
    tokR (s ++ ⟨#[10]⟩ ++ t) = ((tokR s).1 ++ (tokR t).1.map (shT (s.size + 1)), 0, 0) := by
  obtain ⟨_, l, hl, e1⟩ := tokR_ok h1
  obtain ⟨z2, x, hx, e2⟩ := tokR_ok h2
  have e : s ++ ⟨#[10]⟩ ++ t = tx (l ++ 10 :: x) := by
    rw [e1, e2, show (⟨#[10]⟩ : ByteArray) = tx [10] from rfl, tx_app, tx_app, List.append_assoc]
    rfl
  have ht : t.size = wl x := by rw [e2, tx_size]
  have hs : s.size = wl l := by rw [e1, tx_size]
  have hm := tok_more hl hx e1 h1 (by omega)
  rw [e, hm]
  have hv : VL (l ++ 10 :: x) := by
    intro c hc
    rcases List.mem_append.1 hc with hc | hc
    · exact hl c hc
    · rcases List.mem_cons.1 hc with rfl | hc
      · exact .inl (by decide)
      · exact hx c hc
  have e3 : tokR t = tokH t (bg t 0) [] := by
    rw [e2]
    exact tokR_h (by rw [← e2]; exact z2) (stR_tx hx)
  have gx : Sfx (tx (l ++ 10 :: x)) (x ++ []) (0 + (s.size + 1)) := by
    have : Sfx (tx (l ++ 10 :: x)) (l ++ 10 :: x) 0 := sfx_all hv
    have := this.drop.tail
    rw [List.append_nil, Nat.zero_add, hs]
    rwa [Nat.zero_add, show wr 10 = 1 from rfl] at this
  rw [e3] at h2 hn ⊢
  obtain ⟨R, r1, r2⟩ := tok_run (d := s.size + 1) (.inl rfl) x.length x 0 [] (Nat.le_refl _) (by rw [e2]; exact sfx_all hx) gx h2
  rw [List.nil_append] at r1
  rw [r1] at hn ⊢
  have := r2 (tokR s).1 hn
  rw [Nat.zero_add] at this
  rw [this]
  apply tokH_end
  have hb := bg_bd (s := tx (l ++ 10 :: x)) (a := t.size + (s.size + 1)) (by rw [tx_size, wl_app, wl_cons, show wr 10 = 1 from rfl]; omega)
  have : (tx (l ++ 10 :: x)).size = t.size + (s.size + 1) := by rw [tx_size, wl_app, wl_cons, show wr 10 = 1 from rfl]; omega
  omega
set_option maxRecDepth 100000 in
set_option maxHeartbeats 4000000 in
theorem joins_walk (s t : ByteArray) (w : World) (h : Nog w) : Calls Tryd.prog 5 #[.string s, .string t] w fun e w' => e = .returned (.bool true) ∧ Below w.heap.size w w' := by
  have HA : Hid (Calls Tryd.prog 9 #[] w fun e w' => e = .returned (.bool true) ∧ Only (fun _ => False) w w') := awake_any w h
  have HT : Hid (∀ x w1, Only (fun _ => False) w w1 → Calls Tryd.prog 10 #[.string x] w1 fun e w' => ∃ v, e = .returned (.tuple #[v, .int .i64 ((tokR x).2.1 : Nat), .int .i64 (tokR x).2.2]) ∧ Hid (ToksAt w' w1.heap.size v (tokR x).1 ∧ Below w1.heap.size w1 w')) := fun x w1 o => tokens_any x w1 (h.frame o)
  have HJ : Hid ((tokR s).2.2 = 0 → (tokR t).2.2 = 0 → s.size + t.size < 65536 → (tokR s).1.length + (tokR t).1.length ≤ 4096 → tokR (s ++ ⟨#[10]⟩ ++ t) = ((tokR s).1 ++ (tokR t).1.map (shT (s.size + 1)), 0, 0)) := joins_pure
  have HZ1 : Hid ((tokR s).2.2 = 0 → s.size ≤ 65536) := tokR_size
  have HZ2 : Hid ((tokR t).2.2 = 0 → t.size ≤ 65536) := tokR_size
  have HL1 : Hid ((tokR s).1.length ≤ 4096) := tokR_len s
  have HL2 : Hid ((tokR t).1.length ≤ 4096) := tokR_len t
  have HBa : Hid (∀ (i : Nat) (b : Tok), (tokR t).1[i]? = some b → (tokR t).2.2 = 0 → ∃ a : Nat, b.a = (a : Int) ∧ a < t.size) := fun i b hb h0 => chain_mem _ (-1) i b (tokR_chain h0) hb
  have HT1 := HT.out s
  have HT2 := HT.out t
  have HT3 := HT.out (s ++ ⟨#[10]⟩ ++ t)
  obtain ⟨⟨A, p1, e1⟩, hr1⟩ : ∃ r, r = tokR s := ⟨_, rfl⟩
  obtain ⟨⟨B, p2, e2⟩, hr2⟩ : ∃ r, r = tokR t := ⟨_, rfl⟩
  rw [← hr1] at HT1 HJ HZ1 HL1
  rw [← hr2] at HT2 HJ HZ2 HL2 HBa
  dsimp only at HT1 HT2 HJ HZ1 HZ2 HL1 HL2 HBa
  have HC1 : Hid (∀ w1, Only (fun _ => False) w w1 → Calls Tryd.prog 10 #[.string s] w1 _) := HT1
  have HC2 : Hid (∀ w1, Only (fun _ => False) w w1 → Calls Tryd.prog 10 #[.string t] w1 _) := HT2
  have HC3 : Hid (∀ w1, Only (fun _ => False) w w1 → Calls Tryd.prog 10 #[.string (s ++ ⟨#[10]⟩ ++ t)] w1 _) := HT3
  clear hr1 hr2 h HT HT1 HT2 HT3
  go_enter Tryd.func5, Tryd.ntmps5
  go_wp2_with fail
  refine (show Calls Tryd.prog 9 _ _ _ from HA.out).mono ?_
  rintro ea w1 ⟨rfl, o1⟩
  have O1 : Hid (Only (fun _ => False) w w1) := o1
  clear HA o1
  go_wp2_with fail
  refine (show Calls Tryd.prog 10 _ _ _ from HC1.out _ O1.out).mono ?_
  rintro eb w2 ⟨v1, rfl, g1⟩
  have O2 : Hid (Only (fun _ => False) w w2) := O1.out.trans (below_only g1.out.2) (fun _ _ x => x)
  have T2 : Hid (ToksAt w2 w.heap.size v1 A) := ⟨g1.out.1.1, owns_lower g1.out.1.2 O1.out.size⟩
  clear HC1 O1 g1
  go_wp2_with fail
  refine (show Calls Tryd.prog 10 _ _ _ from HC2.out _ O2.out).mono ?_
  rintro ec w3 ⟨v2, rfl, g2⟩
  have O3 : Hid (Only (fun _ => False) w w3) := O2.out.trans (below_only g2.out.2) (fun _ _ x => x)
  have A3 : Hid (ToksAt w3 w.heap.size v1 A) := toks_only T2.out (below_only g2.out.2)
  have B3 : Hid (ToksAt w3 w.heap.size v2 B) := ⟨g2.out.1.1, owns_lower g2.out.1.2 O2.out.size⟩
  clear HC2 O2 T2 g2
  obtain ⟨ao1, cap1, rfl⟩ := A3.out.1
  obtain ⟨ao2, cap2, rfl⟩ := B3.out.1
  by_cases he1 : e1 = 0
  · subst he1
    by_cases he2 : e2 = 0
    · subst he2
      have z1 := HZ1.out rfl
      have z2 := HZ2.out rfl
      have y1 : A.length ≤ 4096 := HL1.out
      have y2 : B.length ≤ 4096 := HL2.out
      by_cases hz : s.size + t.size < 65536
      · have i1 : ¬ (65536 : Int) ≤ (s.size : Int) + (t.size : Int) := by omega
        by_cases hn : A.length + B.length ≤ 4096
        · have i2 : ¬ (4096 : Int) < (A.length : Int) + (B.length : Int) := by omega
          have hj := HJ.out rfl rfl hz hn
          have n1 : (⟨#[10]⟩ : ByteArray).size = 1 := rfl
          obtain ⟨S1, hS1⟩ : ∃ S1, S1 = s ++ ⟨#[10]⟩ := ⟨_, rfl⟩
          have hz1 : S1.size = s.size + 1 := by rw [hS1, ByteArray.size_append]; rfl
          have a1 : ∀ W : World, (Op.stringOp .add s ⟨#[10]⟩).run Tryd.prog W = .ok (.string S1) W := fun W => add_str _ W hS1.symm (by omega) (by omega)
          obtain ⟨S2, hS2⟩ : ∃ S2, S2 = S1 ++ t := ⟨_, rfl⟩
          have a2 : ∀ W : World, (Op.stringOp .add S1 t).run Tryd.prog W = .ok (.string S2) W := fun W => add_str _ W hS2.symm (by omega) (by omega)
          rw [← hS1, ← hS2] at HC3 hj
          rw [hj] at HC3
          dsimp only at HC3
          have b1 : decide ((65536 : Int) ≤ (s.size : Int) + (t.size : Int)) = false := decide_eq_false i1
          have b2 : decide ((4096 : Int) < (A.length : Int) + (B.length : Int)) = false := decide_eq_false i2
          clear hj hS1 hS2 HJ HL1 HL2 HZ1 HZ2 n1 i1 i2
          go_wp2_with fail
          refine (show Calls Tryd.prog 10 _ _ _ from HC3.out _ O3.out).mono ?_
          rintro ed w4 ⟨v3, rfl, g3⟩
          have O4 : Hid (Only (fun _ => False) w w4) := O3.out.trans (below_only g3.out.2) (fun _ _ x => x)
          have A4 : Hid (RdT w4 (.slice ao1 A.length cap1) A) := rdt_toks (toks_only A3.out (below_only g3.out.2))
          have B4 : Hid (RdT w4 (.slice ao2 B.length cap2) B) := rdt_toks (toks_only B3.out (below_only g3.out.2))
          have C4 : Hid (RdT w4 v3 (A ++ B.map (shT (s.size + 1)))) := rdt_toks g3.out.1
          obtain ⟨ao3, cap3, rfl, hcap, ht⟩ := rdt_take g3.out.1 (n := A.length) (by simp)
          rw [List.take_left] at ht
          have HS : Hid (∀ W, Only (fun _ => False) w4 W → Calls Tryd.prog 16 #[.slice ao3 A.length cap3, .slice ao1 A.length cap1] W fun e w' => e = .returned (.bool true) ∧ Only (fun _ => False) W w') := fun W o => same_any A y1 _ _ W (ht.only o) (A4.out.only o)
          have hl3 : (A ++ B.map (shT (s.size + 1))).length = A.length + B.length := by simp
          rw [hl3] at C4 ⊢
          clear HC3 A3 B3 O3 g3 ht hl3 b1 b2 a1 a2
          have hsl : ∀ W : World, (Instr.slice 23 (.slice ao3 (A.length + B.length) cap3) none (some (.int .i64 (A.length : Int))) none).run Tryd.prog W = .ok (.slice ao3 A.length cap3) W := fun W => by
            have j0 : (0 : Int) ≤ (A.length : Int) := Int.natCast_nonneg _
            have j1 : (A.length : Int) ≤ (cap3 : Int) := by omega
            cases ao3 with
            | none => go_simp
            | some a3 => go_simp
          go_wp2_with fail
          refine (show Calls Tryd.prog 16 _ _ _ from HS.out _ (Only.refl _ _)).mono ?_
          rintro ee w5 ⟨rfl, o5⟩
          have O5 : Hid (Only (fun _ => False) w w5) := O4.out.trans o5 (fun _ _ x => x)
          have B5 : Hid (RdT w5 (.slice ao2 B.length cap2) B) := B4.out.only o5
          have C5 : Hid (RdT w5 (.slice ao3 (A.length + B.length) cap3) (A ++ B.map (shT (s.size + 1)))) := C4.out.only o5
          clear HS A4 B4 C4 O4 o5 hsl
          go_wp2
          go_loopw [13] (fun r13 wr => ∃ k : Nat, k ≤ B.length ∧ r13 = .int .i64 (k : Int) ∧ Hid (Only (fun _ => False) w5 wr)) (fun r13 _ => B.length - uOf r13)
          case atStart => exact ⟨0, Nat.zero_le _, rfl, Only.refl _ _⟩
          case round =>
            obtain ⟨k, hk, rfl, HO⟩ := hrel
            obtain ⟨w6, rfl⟩ : ∃ w6, w6 = wr := ⟨_, rfl⟩
            by_cases hlt : k < B.length
            · obtain ⟨b, hb⟩ : ∃ b, b = B[k]'hlt := ⟨_, rfl⟩
              have hb2 : B[k]? = some b := by rw [hb]; exact List.getElem?_eq_getElem _
              have hc2 : (A ++ B.map (shT (s.size + 1)))[A.length + k]? = some (shT (s.size + 1) b) := by
                rw [List.getElem?_append_right (by omega), Nat.add_sub_cancel_left, List.getElem?_map, hb2]
                rfl
              obtain ⟨aoB, capB, eB, fB⟩ := B5.out
              injection eB with eB1 eB2 eB3
              subst eB1
              obtain ⟨aoC, capC, eC, fC⟩ := C5.out
              injection eC with eC1 eC2 eC3
              subst eC1
              obtain ⟨gB, rfl, hgB, x0, x1, x2, x3⟩ := fB k b hb2
              obtain ⟨gC, rfl, hgC, y0, y1', y2', y3⟩ := fC _ _ hc2
              obtain ⟨ba, hba, hbs⟩ := HBa.out k b hb2 (by simp)
              obtain ⟨bk, bt, bn, bx⟩ := b
              have hbx : bx = (ba : Int) := hba
              subst hbx
              simp only [shT] at y0 y1' y2' y3
              have ho := HO.out
              have X0 := ho.cell x0 (fun x => x)
              have X1 := ho.cell x1 (fun x => x)
              have X2 := ho.cell x2 (fun x => x)
              have X3 := ho.cell x3 (fun x => x)
              have Y0 := ho.cell y0 (fun x => x)
              have Y1 := ho.cell y1' (fun x => x)
              have Y2 := ho.cell y2' (fun x => x)
              have Y3 := ho.cell y3 (fun x => x)
              have g6 : gB < w6.heap.size := Nat.lt_of_lt_of_le hgB ho.size
              clear x0 x1 x2 x3 y0 y1' y2' y3 ho fB fC hb hb2 hc2 eB2 eB3 eC2 eC3
              have k0 : (0 : Int) ≤ (k : Int) := Int.natCast_nonneg _
              have k1 : (k : Int) < (B.length : Int) := by omega
              have k2 : (A.length : Int) + (k : Int) < (A.length : Int) + (B.length : Int) := by omega
              have k3 : (0 : Int) ≤ (A.length : Int) + (k : Int) := by omega
              have k4 : ((A.length : Int) + (k : Int)).toNat = A.length + k := by omega
              go_wp2_with fail
              rw [show (ba : Int) + ((s.size : Int) + 1) - (s.size : Int) - 1 = (ba : Int) by omega]
              have T0 : (w6.alloc (.cells #[.int .i64 bk, .string bt, .int .i64 bn, .int .i64 (ba : Int)] 36)).heap[w6.heap.size]? = some (.cells #[.int .i64 bk, .string bt, .int .i64 bn, .int .i64 (ba : Int)] 36) := alloc_at _ _ _ rfl
              have d0 := blk_cells T0 0
              have d1 := blk_cells T0 1
              have d2 := blk_cells T0 2
              have d3 := blk_cells T0 3
              simp only [List.getElem?_toArray, List.getElem?_cons_zero, List.getElem?_cons_succ] at d0 d1 d2 d3
              have oA : Only (fun _ => False) w6 (w6.alloc (.cells #[.int .i64 bk, .string bt, .int .i64 bn, .int .i64 (ba : Int)] 36)) := (Only.refl _ w6).alloc _
              have X0' := oA.cell X0 (fun x => x)
              have X1' := oA.cell X1 (fun x => x)
              have X2' := oA.cell X2 (fun x => x)
              have X3' := oA.cell X3 (fun x => x)
              have HF : Hid (Only (fun _ => False) w5 (w6.alloc (.cells #[.int .i64 bk, .string bt, .int .i64 bn, .int .i64 (ba : Int)] 36))) := HO.out.trans oA (fun _ _ x => x)
              obtain ⟨W7, hW7⟩ : ∃ W7, W7 = w6.alloc (.cells #[.int .i64 bk, .string bt, .int .i64 bn, .int .i64 (ba : Int)] 36) := ⟨_, rfl⟩
              rw [← hW7] at d0 d1 d2 d3 X0' X1' X2' X3' HF ⊢
              obtain ⟨T, hT⟩ : ∃ T, T = w6.heap.size := ⟨_, rfl⟩
              rw [← hT] at d0 d1 d2 d3 ⊢
              clear X0 X1 X2 X3 Y0 Y1 Y2 Y3 oA T0 hW7 hT g6 hgB hgC
              go_region_held3 (fun w' => w'.cell? ⟨T, 0, none⟩ = some (.int .i64 bk) ∧ w'.cell? ⟨T, 1, none⟩ = some (.string bt) ∧ w'.cell? ⟨T, 2, none⟩ = some (.int .i64 bn) ∧ w'.cell? ⟨T, 3, none⟩ = some (.int .i64 (ba : Int)) ∧ w'.cell? ⟨gB, k * 4, none⟩ = some (.int .i64 bk) ∧ w'.cell? ⟨gB, k * 4 + 1, none⟩ = some (.string bt) ∧ w'.cell? ⟨gB, k * 4 + 2, none⟩ = some (.int .i64 bn) ∧ w'.cell? ⟨gB, k * 4 + 3, none⟩ = some (.int .i64 (ba : Int))) (go_keep) (fail)
              go_wp2
              go_roundw
              case rel => exact ⟨k + 1, by omega, by go_num, HF.out.drew⟩
              case measure => simp only [uOf]; omega
            · have k1 : ¬ (k : Int) < (B.length : Int) := by omega
              go_wp2
              go_ret
              exact ⟨rfl, only_below (O5.out.trans HO.out (fun _ _ x => x))⟩
        · have i2 : (4096 : Int) < (A.length : Int) + (B.length : Int) := by omega
          go_wp2
          go_ret
          exact ⟨rfl, only_below O3.out⟩
      · have i1 : (65536 : Int) ≤ (s.size : Int) + (t.size : Int) := by omega
        go_wp2
        go_ret
        exact ⟨rfl, only_below O3.out⟩
    · go_wp2
      go_ret
      exact ⟨rfl, only_below O3.out⟩
  · go_wp2
    go_ret
    exact ⟨rfl, only_below O3.out⟩
end Go.Proofs.YtbijiigobbjlcaaDoor
