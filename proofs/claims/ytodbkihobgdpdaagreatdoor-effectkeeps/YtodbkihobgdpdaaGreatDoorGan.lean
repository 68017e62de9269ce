/- move. moved: which words move values. plain, word: what a word does. Going through items: what is known on the way; own, call, dip, keep. -/
import Derived.Test.YtodbkihobgdpdaaGreatDoorGam
namespace Go.Proofs.YtodbkihobgdpdaaGreatDoor
open Go.RowKit Go.Lib
set_option linter.unusedSimpArgs false
set_option linter.unusedVariables false
theorem rev_any {w : World} {S : Nat → Prop} {d B : Nat} {v : Value} {m : List Ent} (h : RoE w S d B v m) (h1 : 1 ≤ m.length) (h3 : m.length ≤ 3) (hS : ∀ b, S b → v.ownBlock ≠ some b) : Calls Tryz.prog 78 #[v] w fun e w' => e = .returned (.tuple #[]) ∧ Hid (RoE w' S d B v m.reverse ∧ Only (fun b => v.ownBlock = some b) w w') := by
  match m, h1, h3 with
  | [x], _, _ => exact rev_1 h
  | [x, y], _, _ => exact rev_2 h hS
  | [x, y, z], _, _ => exact rev_3 h hS
/-- an entry is put behind a row of them -/
theorem RoE.snoc {w W : World} {S : Nat → Prop} {d B : Nat} {v : Value} {m : List Ent} {x : Ent} {b : Bool} {ao : Option Addr} {n cap : Nat} (h : RoE w S d B v m) (he : EnAt w S d x b ao n cap) (o : Only (fun _ => False) w W) (g : Nat) (hW : W.heap[g]? = some (.cells #[.bool b, .slice ao n cap] 130)) (hB : B ≤ W.heap.size) (hl : m.length ≤ 2000000) (hSB : ∀ b, S b → b < B) :
    ∃ a' c' w', (∀ ty, (Builtin.append_ #[107, 107] ty #[v, .slice (some ⟨g, 0, none⟩) 1 1]).run Tryz.prog W = .ok (.slice a' (m.length + 1) c') w') ∧ RoE w' S d B (.slice a' (m.length + 1) c') (m ++ [x]) ∧ Only (fun b => v.ownBlock = some b) w w' := by
  obtain ⟨xs, h2, h3⟩ := h
  obtain ⟨v', w3, hr, own3, hg3, hat⟩ := app_en (b := b) (ao := ao) (m := n) (cap := cap) h2 o g hW hB hl
  obtain ⟨a3, c3, hv3⟩ := ownsRow_slice own3
  subst hv3
  have oo : Only (fun b => v.ownBlock = some b) w w3 := (o.mono (bs' := fun b => v.ownBlock = some b) (fun _ _ g => g.elim)).grown hg3 (fun k e _ => e)
  have hb : ∀ b, S b → ¬ v.ownBlock = some b := fun b hb e => by have := (h2.lt b e).1; have := hSB b hb; omega
  refine ⟨a3, c3, w3, hr, ⟨_, by simpa using own3, fun j y hy => ?_⟩, oo⟩
  have hx : xs.length = m.length * 2 := h2.1
  by_cases hj : j < m.length
  · rw [List.getElem?_append_left hj] at hy
    obtain ⟨b', ao', n', cap', g1, g2, g3⟩ := h3 j y hy
    exact ⟨b', ao', n', cap', by rw [List.getElem?_append_left (by omega)]; exact g1, by rw [List.getElem?_append_left (by omega)]; exact g2, g3.only oo hb⟩
  · have hj2 : j < (m ++ [x]).length := (List.getElem?_eq_some_iff.1 hy).1
    have hj3 : j = m.length := by simp at hj2; omega
    subst hj3
    simp at hy
    subst hy
    exact ⟨b, ao, n, cap, by rw [List.getElem?_append_right (by omega), hx, show 2 * m.length - m.length * 2 = 0 by omega]; rfl, by rw [List.getElem?_append_right (by omega), hx, show 2 * m.length + 1 - m.length * 2 = 1 by omega]; rfl, he.only oo hb⟩
theorem roe_nil (w : World) (S : Nat → Prop) (d B : Nat) : RoE w S d B (.slice none 0 0) [] := ⟨[], World.ownsRow_nil _ _ _ _, fun j x h => by simp at h⟩
/-- the places that a word leaves stand in memory, apart from the list -/
def PlAt (w : World) (s : Nat) (v : Value) (ps : List Nat) (pa : Option Addr) : Prop := ∀ (j p : Nat), ps[j]? = some p → ∃ pg, pa = some ⟨pg, 0, none⟩ ∧ pg < w.heap.size ∧ pg ≠ s ∧ v.ownBlock ≠ some pg ∧ w.cell? ⟨pg, j, none⟩ = some (.int .i64 (p : Int))
set_option maxRecDepth 100000 in
set_option maxHeartbeats 1000000 in
theorem move_any {w : World} {S : Nat → Prop} {d s tk : Nat} {st : List Ent} {v : Value} (a n : Nat) (ps : List Nat) (h : EsV w S d s st tk v) (hS : ∀ b, S b → b < s) (hn : 1 ≤ n ∧ n ≤ 3) (hps : ∀ p ∈ ps, p < n) (hl3 : ps.length ≤ 3) (pa : Option Addr) (pc : Nat) (hp : PlAt w s v ps pa) (hl : potE ⟨a, st, tk⟩ + n + ps.length ≤ 1000000) :
    Calls Tryz.prog 70 #[.pointer (some ⟨s, 0, none⟩), .int .i64 (n : Int), .slice pa ps.length pc] w fun e w' => e = .returned (.tuple #[]) ∧ Hid (EsO w w' S d s v (movE n ps ⟨a, st, tk⟩).st (movE n ps ⟨a, st, tk⟩).tk) := by
  have hlt := EsAt.lt ⟨v, h⟩
  have hvlt : ∀ k, v.ownBlock = some k → s + 1 ≤ k ∧ k < w.heap.size := by
    obtain ⟨xs, _, h2, _⟩ := h
    exact h2.lt
  have HH : Hid (EsV w S d s st tk v ∧ (s < w.heap.size) ∧ (∀ b, S b → b < s) ∧ (∀ k, v.ownBlock = some k → s + 1 ≤ k ∧ k < w.heap.size) ∧ (1 ≤ n ∧ n ≤ 3) ∧ (∀ p ∈ ps, p < n) ∧ ps.length ≤ 3 ∧ PlAt w s v ps pa ∧ potE ⟨a, st, tk⟩ + n + ps.length ≤ 1000000) := ⟨h, hlt, hS, hvlt, hn, hps, hl3, hp, hl⟩
  obtain ⟨L, hL⟩ : ∃ L, L = ps.length := ⟨_, rfl⟩
  have HLL : Hid (L = ps.length) := hL
  rw [← hL]
  clear h hlt hS hvlt hn hps hl3 hp hl hL
  go_enter Tryz.func70, Tryz.ntmps70
  go_wp2
  go_loopw [6, 10] (fun r6 r10 wr => ∃ (j : Nat) (a' : Option Addr) (c' : Nat), r10 = .int .i64 (j : Int) ∧ j ≤ n ∧ r6 = .slice a' j c' ∧ Hid (RoE wr S d w.heap.size (.slice a' j c') (popsE j ⟨a, st, tk⟩).1 ∧ (∃ v', EsV wr S d s (popsE j ⟨a, st, tk⟩).2.st (popsE j ⟨a, st, tk⟩).2.tk v' ∧ v'.ownBlock = v.ownBlock) ∧ Only (fun b => b = s) w wr)) (fun _ r10 _ => n - vuOf r10)
  case atStart => exact ⟨0, none, 0, rfl, Nat.zero_le _, rfl, roe_nil _ _ _ _, ⟨v, HH.out.1, rfl⟩, Only.refl _ _⟩
  case round =>
    obtain ⟨j, a', c', rfl, hj, rfl, HI⟩ := hrel
    obtain ⟨w1, hw1⟩ : ∃ w1, w1 = wr := ⟨_, rfl⟩
    rw [← hw1] at HI ⊢
    clear hw1
    obtain ⟨-, hlt, hS, hvlt, hn, hps, hl3, hp, hl⟩ := HH.out
    by_cases hjn : j < n
    · have hpp := popsE_pot j ⟨a, st, tk⟩
      obtain ⟨v1, ev, hv1⟩ := HI.out.2.1
      have HC : Hid _ := pop_v (popsE j ⟨a, st, tk⟩).2.a ev hS (by
        have : potE ⟨(popsE j ⟨a, st, tk⟩).2.a, (popsE j ⟨a, st, tk⟩).2.st, (popsE j ⟨a, st, tk⟩).2.tk⟩ = potE (popsE j ⟨a, st, tk⟩).2 := rfl
        omega)
      have HX : Hid (j < n ∧ v1.ownBlock = v.ownBlock) := ⟨hjn, hv1⟩
      have i1 : (j : Int) < (n : Int) := by omega
      have i4 : j ≤ 1000000 := by omega
      clear hpp hjn hj hlt hS hvlt hn hps hl3 hp hl ev hv1
      go_wp2_with fail
      refine (show Calls Tryz.prog 76 _ _ _ from HC.out).mono ?_
      rintro e w2 ⟨b, ao, m, cap, rfl, G⟩
      obtain ⟨g1, ⟨v', g2, g4⟩, g3⟩ := G.out
      have hz := HI.out.2.2.size
      have hz2 := g3.size
      have hSw : ∀ b, S b → b < w.heap.size := fun b hb => by have := HH.out.2.2.1 b hb; have := HH.out.2.1; omega
      have hr1 : RoE w2 S d w.heap.size (.slice a' j c') (popsE j ⟨a, st, tk⟩).1 := HI.out.1.only g3 (fun k hk e => by
        obtain ⟨xs, h2, _⟩ := HI.out.1
        have := (h2.lt k hk).1
        have := HH.out.2.1
        omega) (fun k hk e => by have := HH.out.2.2.1 k hk; omega)
      have hpl := popsE_len j ⟨a, st, tk⟩
      obtain ⟨a2, c2, w3, hr, hro, o3⟩ := RoE.snoc (W := w2.alloc (.cells #[.bool b, .slice ao m cap] 130)) hr1 g1 ((Only.refl _ w2).alloc _) w2.heap.size (ealloc_at _ _ _ rfl) (by simp; omega) (by rw [hpl]; omega) hSw
      rw [hpl] at hr hro
      have HF : Hid (RoE w3 S d w.heap.size (.slice a2 (j + 1) c2) (popsE (j + 1) ⟨a, st, tk⟩).1 ∧ (∃ v', EsV w3 S d s (popsE (j + 1) ⟨a, st, tk⟩).2.st (popsE (j + 1) ⟨a, st, tk⟩).2.tk v' ∧ v'.ownBlock = v.ownBlock) ∧ Only (fun b => b = s) w w3) := by
        have hgr : ∀ k, (Value.slice a' j c').ownBlock = some k → w.heap.size ≤ k := fun k hk => by
          obtain ⟨xs, h2, _⟩ := HI.out.1
          exact (h2.lt k hk).1
        rw [popsE_snoc]
        refine ⟨hro, ⟨v', ?_, g4.trans HX.out.2⟩, (HI.out.2.2.trans g3 (fun k _ e => e)).trans o3 (fun k hk e => by have := hgr k e; omega)⟩
        obtain ⟨xs, q1, q2, q3⟩ := g2
        have hvl := HH.out.2.2.2.1
        refine ⟨xs, (o3.block s (Array.getElem?_eq_some_iff.1 q1).1 (fun e => by have := hgr s e; have := HH.out.2.1; omega)).trans q1, o3.owns q2 (fun k hk e => ?_), fun j x hx => ?_⟩
        · have := hgr k e
          have := (hvl k (by rw [← hk, ← HX.out.2]; exact g4.symm)).2
          omega
        · obtain ⟨b', ao', n', cap', r1, r2, r3⟩ := q3 j x hx
          exact ⟨b', ao', n', cap', r1, r2, r3.only o3 (fun k hk e => by have := hgr k e; have := hSw k hk; omega)⟩
      have HR : Hid _ := hr
      clear HC HI G g1 g2 g4 g3 hz hz2 hSw hr1 hpl hr hro o3
      go_wp2_with (at_builtin; refine vwpList_append_run rfl _ _ 107 rfl _ _ _ rfl rfl HR.out ?_)
      go_roundw
      case rel => exact ⟨j + 1, a2, c2, by go_num, by have := HX.out.1; omega, rfl, HF⟩
      case measure => simp only [vuOf]; have := HX.out.1; omega
    · obtain rfl : j = n := by omega
      have i1 : ¬ (j : Int) < (j : Int) := by omega
      have hpl := popsE_len j ⟨a, st, tk⟩
      obtain ⟨M, hM⟩ : ∃ M, M = (popsE j ⟨a, st, tk⟩).1 := ⟨_, rfl⟩
      obtain ⟨P, hP⟩ : ∃ P, P = (popsE j ⟨a, st, tk⟩).2 := ⟨_, rfl⟩
      have HMP : Hid (M = (popsE j ⟨a, st, tk⟩).1 ∧ P = (popsE j ⟨a, st, tk⟩).2 ∧ M.length = j) := ⟨hM, hP, by rw [hM]; exact hpl⟩
      have hro : RoE w1 S d w.heap.size (.slice a' j c') M := by rw [hM]; exact HI.out.1
      obtain ⟨v1, ev, hv1⟩ := HI.out.2.1
      rw [← hP] at ev
      have hgr : ∀ k, (Value.slice a' j c').ownBlock = some k → w.heap.size ≤ k ∧ k < w1.heap.size := fun k hk => by
        obtain ⟨xs, h2, _⟩ := hro
        exact h2.lt k hk
      have hSw : ∀ b, S b → b < w.heap.size := fun b hb => by have := hS b hb; omega
      have HV : Hid _ := rev_any hro (by rw [HMP.out.2.2]; omega) (by rw [HMP.out.2.2]; omega) (fun b hb e => by have := hgr b e; have := hSw b hb; omega)
      have HI2 : Hid (EsV w1 S d s P.st P.tk v1 ∧ v1.ownBlock = v.ownBlock ∧ Only (fun b => b = s) w w1 ∧ (∀ k, (Value.slice a' j c').ownBlock = some k → w.heap.size ≤ k ∧ k < w1.heap.size) ∧ ∀ b, S b → b < w.heap.size) := ⟨ev, hv1, HI.out.2.2, hgr, hSw⟩
      clear HI hpl hM hP hro ev hv1 hgr hSw hjn hj hlt hS hvlt hn hps hl3 hp hl
      go_wp2_with fail
      refine (show Calls Tryz.prog 78 _ _ _ from HV.out).mono ?_
      rintro e w2 ⟨rfl, G⟩
      obtain ⟨gr, go⟩ := G.out
      obtain ⟨-, hlt, hS, hvlt, hn, hps, hl3, hp, hl⟩ := HH.out
      obtain ⟨ev, hv1, o1, hgr, hSw⟩ := HI2.out
      have hlenM : M.reverse.length = j := by rw [List.length_reverse]; exact HMP.out.2.2
      have hMne : M.reverse ≠ [] := by intro e; rw [e] at hlenM; simp at hlenM; omega
      obtain ⟨g, c0, -, -, hvg, -⟩ := gr.at hMne
      rw [hlenM] at hvg
      injection hvg with ha' _ hc'
      subst ha'
      have hgg := hgr g rfl
      have ev2 : EsV w2 S d s P.st P.tk v1 := by
        obtain ⟨xs, q1, q2, q3⟩ := ev
        refine ⟨xs, (go.block s (Array.getElem?_eq_some_iff.1 q1).1 (fun e => by have := hgr s e; omega)).trans q1, go.owns q2 (fun k hk e => ?_), fun j x hx => ?_⟩
        · have := hgr k e
          have := (hvlt k (by rw [← hv1]; exact hk)).2
          omega
        · obtain ⟨b', ao', n', cap', r1, r2, r3⟩ := q3 j x hx
          exact ⟨b', ao', n', cap', r1, r2, r3.only go (fun k hk e => by have := hgr k e; have := hSw k hk; omega)⟩
      have o2 : Only (fun b => b = s) w w2 := o1.trans go (fun k hk e => by have := hgr k e; omega)
      have HW : Hid (RoE w2 S d w.heap.size (.slice (some ⟨g, 0, none⟩) j c') M.reverse ∧ EsV w2 S d s P.st P.tk v1 ∧ v1.ownBlock = v.ownBlock ∧ Only (fun b => b = s) w w2 ∧ w.heap.size ≤ g ∧ g < w2.heap.size) := ⟨gr, ev2, hv1, o2, hgg.1, by have := go.size; omega⟩
      have HPp : Hid (P.st.length + L ≤ 1000000) := by
        have h1 := popsE_pot j ⟨a, st, tk⟩
        have h3 : potE (popsE j ⟨a, st, tk⟩).2 = P.st.length + P.tk + 32 * P.a := by rw [HMP.out.2.1]; rfl
        have := HLL.out
        show P.st.length + L ≤ 1000000
        omega
      have HS3 : Hid (L ≤ 3) := by rw [HLL.out]; exact hl3
      clear HV G gr go hlt hS hvlt hn hps hl3 hp hl ev hv1 o1 hgr hSw hlenM hMne ev2 o2 hgg hc' HI2
      go_wp2
      go_loopw [22] (fun r22 wr => ∃ (q : Nat), r22 = .int .i64 (q : Int) ∧ q ≤ L ∧ Hid (RoE wr S d w.heap.size (.slice (some ⟨g, 0, none⟩) j c') M.reverse ∧ (∃ v', EsV wr S d s (P.st ++ (ps.take q).map (fun p => M.reverse.getD p none)) P.tk v' ∧ v'.ownBlock ≠ some g ∧ PlAt wr s v' ps pa ∧ RwK w v v') ∧ Only (fun b => b = s ∨ v.ownBlock = some b) w wr)) (fun r22 _ => L - vuOf r22)
      case atStart =>
        obtain ⟨p1, p2, p3, p4, p5, p6⟩ := HW.out
        refine ⟨0, rfl, Nat.zero_le _, p1, ⟨v1, by simpa using p2, fun e => ?_, fun i p hip => ?_, .inl p3⟩, p4.mono (fun k _ e => .inl e)⟩
        · rw [p3] at e
          have := (HH.out.2.2.2.1 g e).2
          omega
        · obtain ⟨pg, t1, t2, t3, t4, t5⟩ := HH.out.2.2.2.2.2.2.2.1 i p hip
          exact ⟨pg, t1, by have := p4.size; omega, t3, by rw [p3]; exact t4, p4.cell t5 t3⟩
      case round =>
        obtain ⟨q, rfl, hq, HI⟩ := hrel
        obtain ⟨w5, hw5⟩ : ∃ w5, w5 = wr := ⟨_, rfl⟩
        rw [← hw5] at HI ⊢
        clear hw5 HW
        obtain ⟨p1, ⟨v5, p2, p3, p4, p9⟩, p5⟩ := HI.out
        have hLL := HLL.out
        have hL3 := HS3.out
        by_cases hqL : q < L
        · obtain ⟨p, hpq⟩ : ∃ p, ps[q]? = some p := ⟨ps[q]'(by omega), List.getElem?_eq_getElem (by omega)⟩
          obtain ⟨pg, t1, t2, t3, t4, t5⟩ := p4 q p hpq
          have hpj : p < j := HH.out.2.2.2.2.2.1 p (List.mem_of_getElem? hpq)
          obtain ⟨y, hy⟩ : ∃ y, M.reverse[p]? = some y := ⟨M.reverse[p]'(by rw [List.length_reverse, HMP.out.2.2]; exact hpj), List.getElem?_eq_getElem _⟩
          have hlenM : M.reverse.length = j := by rw [List.length_reverse]; exact HMP.out.2.2
          obtain ⟨b, ao, m, cap, k0, k1, k2⟩ := RoE.get (ao := none) (c := c') (g := g) (by rw [hlenM]; exact p1) hy
          have HC : Hid _ := push_v p2 HH.out.2.2.1 k2 (by have := HPp.out; simp; omega)
          have HX : Hid (q < L ∧ ps[q]? = some p ∧ M.reverse[p]? = some y) := ⟨hqL, hpq, hy⟩
          have HY : Hid (RoE w5 S d w.heap.size (.slice (some ⟨g, 0, none⟩) j c') M.reverse ∧ v5.ownBlock ≠ some g ∧ PlAt w5 s v5 ps pa ∧ Only (fun b => b = s ∨ v.ownBlock = some b) w w5 ∧ (∀ k, v5.ownBlock = some k → s + 1 ≤ k) ∧ (w.heap.size ≤ g ∧ g < w5.heap.size) ∧ RwK w v v5) := by
            have hg9 : w.heap.size ≤ g ∧ g < w5.heap.size := by
              obtain ⟨xs, h2, _⟩ := p1
              exact h2.lt g rfl
            refine ⟨p1, p3, p4, p5, fun k hk => ?_, hg9, p9⟩
            obtain ⟨xs, _, h2, _⟩ := p2
            exact (h2.lt k hk).1
          have i1 : (q : Int) < (L : Int) := by omega
          have i2 : (p : Int) < (j : Int) := by omega
          have i3 : (0 : Int) ≤ (p : Int) := by omega
          have i5 : (0 : Int) ≤ (q : Int) := by omega
          have i4 : q ≤ 1000000 := by omega
          subst t1
          clear p1 p2 p3 p4 p5 p9 hLL hL3 hqL hpq t2 t3 t4 hpj hy hlenM k2 hq HI
          go_wp2_with fail
          refine (show Calls Tryz.prog 55 _ _ _ from HC.out).mono ?_
          rintro e w6 ⟨rfl, G⟩
          have HF : Hid (RoE w6 S d w.heap.size (.slice (some ⟨g, 0, none⟩) j c') M.reverse ∧ (∃ v', EsV w6 S d s (P.st ++ (ps.take (q + 1)).map (fun p => M.reverse.getD p none)) P.tk v' ∧ v'.ownBlock ≠ some g ∧ PlAt w6 s v' ps (some ⟨pg, 0, none⟩) ∧ RwK w v v') ∧ Only (fun b => b = s ∨ v.ownBlock = some b) w w6) := by
            obtain ⟨⟨v6, g1, g2⟩, g3⟩ := G.out
            obtain ⟨p1, p3, p4, p5, p6, ⟨p7, p8⟩, p9⟩ := HY.out
            have hst := EsO.step p9 p5 ⟨⟨v6, g1, g2⟩, g3⟩
            have hsw := HH.out.2.1
            have hS := HH.out.2.2.1
            refine ⟨p1.only g3 (fun k hk e => ?_) (fun k hk e => ?_), ⟨v6, ?_, fun e => ?_, fun i r hir => ?_, ?_⟩, hst.2⟩
            · have hk2 : g = k := by injection hk
              rcases e with e | e
              · omega
              · exact p3 (by rw [hk2]; exact e)
            · have := hS k hk
              rcases e with e | e
              · omega
              · have := p6 k e
                omega
            · rw [List.take_add_one, HX.out.2.1]
              have e9 : M.reverse.getD p none = y := by rw [List.getD_eq_getElem?_getD, HX.out.2.2]; rfl
              simp only [Option.toList, List.map_append, List.map_cons, List.map_nil, e9]
              rw [← List.append_assoc]
              exact g1
            · rcases g2 with g2 | ⟨k, g2, g4⟩
              · exact p3 (g2 ▸ e)
              · rw [g2] at e
                injection e with e
                omega
            · obtain ⟨pg', u1, u2, u3, u4, u5⟩ := p4 i r hir
              refine ⟨pg', u1, by have := g3.size; omega, u3, fun e => ?_, g3.cell u5 (fun e => ?_)⟩
              · rcases g2 with g2 | ⟨k, g2, g4⟩
                · exact u4 (g2 ▸ e)
                · rw [g2] at e
                  injection e with e
                  omega
              · rcases e with e | e
                · exact u3 e
                · exact u4 e
            · rcases g2 with g2 | ⟨k, g2, g4⟩
              · rcases p9 with p9 | ⟨k, p9, p10⟩
                · exact .inl (g2.trans p9)
                · exact .inr ⟨k, g2.trans p9, p10⟩
              · exact .inr ⟨k, g2, by have := p5.size; omega⟩
          clear HC G HY
          go_wp2
          go_roundw
          case rel => exact ⟨q + 1, by go_num, by have := HX.out.1; omega, HF⟩
          case measure => simp only [vuOf]; have := HX.out.1; omega
        · obtain rfl : q = L := by omega
          have i1 : ¬ (q : Int) < (q : Int) := by omega
          have F : Hid (EsO w w5 S d s v (movE j ps ⟨a, st, tk⟩).st (movE j ps ⟨a, st, tk⟩).tk) := by
            have e1 : (movE j ps ⟨a, st, tk⟩).st = P.st ++ ps.map (fun p => M.reverse.getD p none) := by rw [HMP.out.1, HMP.out.2.1]; rfl
            have e2 : (movE j ps ⟨a, st, tk⟩).tk = P.tk := by rw [HMP.out.2.1]; rfl
            rw [e1, e2]
            rw [show ps.take q = ps by rw [hLL]; exact List.take_length] at p2
            exact ⟨⟨v5, p2, p9⟩, p5⟩
          clear HI hq hqL p1 p2 p3 p4 p5 p9 hLL hL3
          go_wp2
          first | (refine bodyPost_ret (results_none rfl _ _ _) rfl ?_; exact ⟨rfl, F.out⟩) | (refine ⟨_, results_none rfl _ _ _, rfl, F.out⟩) | (refine ⟨rfl, _, results_none rfl _ _ _, rfl, F.out⟩)
end Go.Proofs.YtodbkihobgdpdaaGreatDoor
namespace Go.Proofs.YtodbkihobgdpdaaGreatDoor
open Go.RowKit Go.Lib
set_option linter.unusedSimpArgs false
set_option linter.unusedVariables false
/-- what moved answers -/
def MvA (r : Option (List Nat)) (w : World) (e : Ending) (w' : World) : Prop := match r with
  | none => e = .returned (.tuple #[.slice none 0 0, .bool false]) ∧ Only (fun _ => False) w w'
  | some ps => ∃ pa pc, e = .returned (.tuple #[.slice pa ps.length pc, .bool true]) ∧ Hid ((∀ (j p : Nat), ps[j]? = some p → ∃ pg, pa = some ⟨pg, 0, none⟩ ∧ w.heap.size ≤ pg ∧ pg < w'.heap.size ∧ w'.cell? ⟨pg, j, none⟩ = some (.int .i64 (p : Int))) ∧ Only (fun _ => False) w w')
theorem mvF_no (l : List UInt8) : ∀ q : List (List UInt8 × List Nat), (∀ x ∈ q, l ≠ x.1) → mvF l q = none
  | [], _ => rfl
  | x :: r, h => by
    unfold mvF
    rw [if_neg (h x (by simp)), mvF_no l r (fun y hy => h y (by simp [hy]))]
set_option maxRecDepth 100000 in
theorem mo_0 (w : World) : Calls Tryz.prog 68 #[.string ⟨#[100, 117, 112]⟩] w (MvA (mvP ⟨#[100, 117, 112]⟩) w) := by
  rw [show mvP ⟨#[100, 117, 112]⟩ = some [0, 0] from by kernel_rfl]
  have F : Hid ((∀ (j p : Nat), [0, 0][j]? = some p → ∃ pg, some (⟨w.heap.size, 0, none⟩ : Addr) = some ⟨pg, 0, none⟩ ∧ w.heap.size ≤ pg ∧ pg < (w.alloc (.cells #[.int .i64 0, .int .i64 0] 3)).heap.size ∧ (w.alloc (.cells #[.int .i64 0, .int .i64 0] 3)).cell? ⟨pg, j, none⟩ = some (.int .i64 (p : Int))) ∧ Only (fun _ => False) w (w.alloc (.cells #[.int .i64 0, .int .i64 0] 3))) := by
    refine ⟨fun j p hp => ⟨w.heap.size, rfl, Nat.le_refl _, by simp, ?_⟩, (Only.refl _ w).alloc _⟩
    rw [vblk_cells (ealloc_at w (.cells #[.int .i64 0, .int .i64 0] 3) _ rfl)]
    match j, hp with
    | 0, hp => simp at hp; subst hp; rfl
    | 1, hp => simp at hp; subst hp; rfl
    | j + 2, hp => simp at hp
  go_enter Tryz.func68, Tryz.ntmps68
  go_wp2
  go_ret2
  exact ⟨_, _, rfl, F.out⟩
set_option maxRecDepth 100000 in
theorem mo_1 (w : World) : Calls Tryz.prog 68 #[.string ⟨#[100, 114, 111, 112]⟩] w (MvA (mvP ⟨#[100, 114, 111, 112]⟩) w) := by
  rw [show mvP ⟨#[100, 114, 111, 112]⟩ = some [] from by kernel_rfl]
  have F : Hid ((∀ (j p : Nat), ([] : List Nat)[j]? = some p → ∃ pg, (none : Option Addr) = some ⟨pg, 0, none⟩ ∧ w.heap.size ≤ pg ∧ pg < w.heap.size ∧ w.cell? ⟨pg, j, none⟩ = some (.int .i64 (p : Int))) ∧ Only (fun _ => False) w w) := ⟨fun j p hp => by simp at hp, Only.refl _ _⟩
  go_enter Tryz.func68, Tryz.ntmps68
  go_wp2
  go_ret2
  exact ⟨_, _, rfl, F.out⟩
set_option maxRecDepth 100000 in
theorem mo_2 (w : World) : Calls Tryz.prog 68 #[.string ⟨#[115, 119, 97, 112]⟩] w (MvA (mvP ⟨#[115, 119, 97, 112]⟩) w) := by
  rw [show mvP ⟨#[115, 119, 97, 112]⟩ = some [1, 0] from by kernel_rfl]
  have F : Hid ((∀ (j p : Nat), [1, 0][j]? = some p → ∃ pg, some (⟨w.heap.size, 0, none⟩ : Addr) = some ⟨pg, 0, none⟩ ∧ w.heap.size ≤ pg ∧ pg < (w.alloc (.cells #[.int .i64 1, .int .i64 0] 3)).heap.size ∧ (w.alloc (.cells #[.int .i64 1, .int .i64 0] 3)).cell? ⟨pg, j, none⟩ = some (.int .i64 (p : Int))) ∧ Only (fun _ => False) w (w.alloc (.cells #[.int .i64 1, .int .i64 0] 3))) := by
    refine ⟨fun j p hp => ⟨w.heap.size, rfl, Nat.le_refl _, by simp, ?_⟩, (Only.refl _ w).alloc _⟩
    rw [vblk_cells (ealloc_at w (.cells #[.int .i64 1, .int .i64 0] 3) _ rfl)]
    match j, hp with
    | 0, hp => simp at hp; subst hp; rfl
    | 1, hp => simp at hp; subst hp; rfl
    | j + 2, hp => simp at hp
  go_enter Tryz.func68, Tryz.ntmps68
  go_wp2
  go_ret2
  exact ⟨_, _, rfl, F.out⟩
set_option maxRecDepth 100000 in
theorem mo_3 (w : World) : Calls Tryz.prog 68 #[.string ⟨#[111, 118, 101, 114]⟩] w (MvA (mvP ⟨#[111, 118, 101, 114]⟩) w) := by
  rw [show mvP ⟨#[111, 118, 101, 114]⟩ = some [0, 1, 0] from by kernel_rfl]
  have F : Hid ((∀ (j p : Nat), [0, 1, 0][j]? = some p → ∃ pg, some (⟨w.heap.size, 0, none⟩ : Addr) = some ⟨pg, 0, none⟩ ∧ w.heap.size ≤ pg ∧ pg < (w.alloc (.cells #[.int .i64 0, .int .i64 1, .int .i64 0] 3)).heap.size ∧ (w.alloc (.cells #[.int .i64 0, .int .i64 1, .int .i64 0] 3)).cell? ⟨pg, j, none⟩ = some (.int .i64 (p : Int))) ∧ Only (fun _ => False) w (w.alloc (.cells #[.int .i64 0, .int .i64 1, .int .i64 0] 3))) := by
    refine ⟨fun j p hp => ⟨w.heap.size, rfl, Nat.le_refl _, by simp, ?_⟩, (Only.refl _ w).alloc _⟩
    rw [vblk_cells (ealloc_at w (.cells #[.int .i64 0, .int .i64 1, .int .i64 0] 3) _ rfl)]
    match j, hp with
    | 0, hp => simp at hp; subst hp; rfl
    | 1, hp => simp at hp; subst hp; rfl
    | 2, hp => simp at hp; subst hp; rfl
    | j + 3, hp => simp at hp
  go_enter Tryz.func68, Tryz.ntmps68
  go_wp2
  go_ret2
  exact ⟨_, _, rfl, F.out⟩
set_option maxRecDepth 100000 in
theorem mo_4 (w : World) : Calls Tryz.prog 68 #[.string ⟨#[114, 111, 116]⟩] w (MvA (mvP ⟨#[114, 111, 116]⟩) w) := by
  rw [show mvP ⟨#[114, 111, 116]⟩ = some [1, 2, 0] from by kernel_rfl]
  have F : Hid ((∀ (j p : Nat), [1, 2, 0][j]? = some p → ∃ pg, some (⟨w.heap.size, 0, none⟩ : Addr) = some ⟨pg, 0, none⟩ ∧ w.heap.size ≤ pg ∧ pg < (w.alloc (.cells #[.int .i64 1, .int .i64 2, .int .i64 0] 3)).heap.size ∧ (w.alloc (.cells #[.int .i64 1, .int .i64 2, .int .i64 0] 3)).cell? ⟨pg, j, none⟩ = some (.int .i64 (p : Int))) ∧ Only (fun _ => False) w (w.alloc (.cells #[.int .i64 1, .int .i64 2, .int .i64 0] 3))) := by
    refine ⟨fun j p hp => ⟨w.heap.size, rfl, Nat.le_refl _, by simp, ?_⟩, (Only.refl _ w).alloc _⟩
    rw [vblk_cells (ealloc_at w (.cells #[.int .i64 1, .int .i64 2, .int .i64 0] 3) _ rfl)]
    match j, hp with
    | 0, hp => simp at hp; subst hp; rfl
    | 1, hp => simp at hp; subst hp; rfl
    | 2, hp => simp at hp; subst hp; rfl
    | j + 3, hp => simp at hp
  go_enter Tryz.func68, Tryz.ntmps68
  go_wp2
  go_ret2
  exact ⟨_, _, rfl, F.out⟩
set_option maxRecDepth 100000 in
theorem mo_5 (w : World) : Calls Tryz.prog 68 #[.string ⟨#[110, 105, 112]⟩] w (MvA (mvP ⟨#[110, 105, 112]⟩) w) := by
  rw [show mvP ⟨#[110, 105, 112]⟩ = some [1] from by kernel_rfl]
  have F : Hid ((∀ (j p : Nat), [1][j]? = some p → ∃ pg, some (⟨w.heap.size, 0, none⟩ : Addr) = some ⟨pg, 0, none⟩ ∧ w.heap.size ≤ pg ∧ pg < (w.alloc (.cells #[.int .i64 1] 3)).heap.size ∧ (w.alloc (.cells #[.int .i64 1] 3)).cell? ⟨pg, j, none⟩ = some (.int .i64 (p : Int))) ∧ Only (fun _ => False) w (w.alloc (.cells #[.int .i64 1] 3))) := by
    refine ⟨fun j p hp => ⟨w.heap.size, rfl, Nat.le_refl _, by simp, ?_⟩, (Only.refl _ w).alloc _⟩
    rw [vblk_cells (ealloc_at w (.cells #[.int .i64 1] 3) _ rfl)]
    match j, hp with
    | 0, hp => simp at hp; subst hp; rfl
    | j + 1, hp => simp at hp
  go_enter Tryz.func68, Tryz.ntmps68
  go_wp2
  go_ret2
  exact ⟨_, _, rfl, F.out⟩
set_option maxRecDepth 100000 in
theorem mo_6 (w : World) : Calls Tryz.prog 68 #[.string ⟨#[116, 117, 99, 107]⟩] w (MvA (mvP ⟨#[116, 117, 99, 107]⟩) w) := by
  rw [show mvP ⟨#[116, 117, 99, 107]⟩ = some [1, 0, 1] from by kernel_rfl]
  have F : Hid ((∀ (j p : Nat), [1, 0, 1][j]? = some p → ∃ pg, some (⟨w.heap.size, 0, none⟩ : Addr) = some ⟨pg, 0, none⟩ ∧ w.heap.size ≤ pg ∧ pg < (w.alloc (.cells #[.int .i64 1, .int .i64 0, .int .i64 1] 3)).heap.size ∧ (w.alloc (.cells #[.int .i64 1, .int .i64 0, .int .i64 1] 3)).cell? ⟨pg, j, none⟩ = some (.int .i64 (p : Int))) ∧ Only (fun _ => False) w (w.alloc (.cells #[.int .i64 1, .int .i64 0, .int .i64 1] 3))) := by
    refine ⟨fun j p hp => ⟨w.heap.size, rfl, Nat.le_refl _, by simp, ?_⟩, (Only.refl _ w).alloc _⟩
    rw [vblk_cells (ealloc_at w (.cells #[.int .i64 1, .int .i64 0, .int .i64 1] 3) _ rfl)]
    match j, hp with
    | 0, hp => simp at hp; subst hp; rfl
    | 1, hp => simp at hp; subst hp; rfl
    | 2, hp => simp at hp; subst hp; rfl
    | j + 3, hp => simp at hp
  go_enter Tryz.func68, Tryz.ntmps68
  go_wp2
  go_ret2
  exact ⟨_, _, rfl, F.out⟩
set_option maxRecDepth 100000 in
theorem mo_no {s : ByteArray} (hn : ∀ x ∈ mvT, s.toList ≠ x.1) (w : World) : Calls Tryz.prog 68 #[.string s] w (MvA none w) := by
  have n0 : (s.toList == [100, 117, 112]) = false := beq_false_of_ne (hn ([100, 117, 112], [0, 0]) (by simp [mvT]))
  have n1 : (s.toList == [100, 114, 111, 112]) = false := beq_false_of_ne (hn ([100, 114, 111, 112], []) (by simp [mvT]))
  have n2 : (s.toList == [115, 119, 97, 112]) = false := beq_false_of_ne (hn ([115, 119, 97, 112], [1, 0]) (by simp [mvT]))
  have n3 : (s.toList == [111, 118, 101, 114]) = false := beq_false_of_ne (hn ([111, 118, 101, 114], [0, 1, 0]) (by simp [mvT]))
  have n4 : (s.toList == [114, 111, 116]) = false := beq_false_of_ne (hn ([114, 111, 116], [1, 2, 0]) (by simp [mvT]))
  have n5 : (s.toList == [110, 105, 112]) = false := beq_false_of_ne (hn ([110, 105, 112], [1]) (by simp [mvT]))
  have n6 : (s.toList == [116, 117, 99, 107]) = false := beq_false_of_ne (hn ([116, 117, 99, 107], [1, 0, 1]) (by simp [mvT]))
  clear hn
  go_enter Tryz.func68, Tryz.ntmps68
  go_wp2
  go_ret2
  exact ⟨rfl, Only.refl _ _⟩
theorem moved_any (s : ByteArray) (w : World) : Calls Tryz.prog 68 #[.string s] w (MvA (mvP s) w) := by
  by_cases h0 : s.toList = [100, 117, 112]
  · rw [to_lit h0]
    exact mo_0 w
  by_cases h1 : s.toList = [100, 114, 111, 112]
  · rw [to_lit h1]
    exact mo_1 w
  by_cases h2 : s.toList = [115, 119, 97, 112]
  · rw [to_lit h2]
    exact mo_2 w
  by_cases h3 : s.toList = [111, 118, 101, 114]
  · rw [to_lit h3]
    exact mo_3 w
  by_cases h4 : s.toList = [114, 111, 116]
  · rw [to_lit h4]
    exact mo_4 w
  by_cases h5 : s.toList = [110, 105, 112]
  · rw [to_lit h5]
    exact mo_5 w
  by_cases h6 : s.toList = [116, 117, 99, 107]
  · rw [to_lit h6]
    exact mo_6 w
  have hn : ∀ x ∈ mvT, s.toList ≠ x.1 := by
    intro x hx
    simp only [mvT, List.mem_cons, List.not_mem_nil, or_false] at hx
    rcases hx with rfl | rfl | rfl | rfl | rfl | rfl | rfl
    · exact h0
    · exact h1
    · exact h2
    · exact h3
    · exact h4
    · exact h5
    · exact h6
  rw [show mvP s = none from mvF_no _ _ hn]
  exact mo_no hn w
end Go.Proofs.YtodbkihobgdpdaaGreatDoor
namespace Go.Proofs.YtodbkihobgdpdaaGreatDoor
open Go.RowKit Go.Lib
set_option linter.unusedSimpArgs false
set_option linter.unusedVariables false
/-- an effect of a known word, or of none -/
def eoV (x : Option (Nat × Nat)) : Value := .agg #[.int .i64 ((x.getD (0, 0)).1 : Int), .int .i64 ((x.getD (0, 0)).2 : Int)]
/-- the object o at the block M is a map that holds the words W -/
def WmO (M : Nat) (W : ByteArray → Option (Nat × Nat)) (o : Obj) : Prop := ∀ (w : World), w.heap[M]? = some o → ∀ s : ByteArray, s.size ≤ 140737488355328 → (Instr.lookup 58 (.map (some M)) (.string s) true).run Tryz.prog w = .ok (.tuple #[eoV (W s), .bool (W s).isSome]) w
/-- the inference in memory, with its words -/
def EvAt (w : World) (F M : Nat) (W : ByteArray → Option (Nat × Nat)) (a : Nat) : Prop := IfAt w F M a ∧ ∃ o, w.heap[M]? = some o ∧ WmO M W o
theorem EvAt.only {w w' : World} {F M a : Nat} {W : ByteArray → Option (Nat × Nat)} {bs : Nat → Prop} (h : EvAt w F M W a) (o : Only bs w w') (hn : ¬ bs F) (hm : ¬ bs M) : EvAt w' F M W a := by
  obtain ⟨h1, ob, h2, h3⟩ := h
  exact ⟨h1.only o hn, ob, (o.block M (Array.getElem?_eq_some_iff.1 h2).1 hm).trans h2, h3⟩
theorem results_ef1 {fn : Func} {u : Tmp} (h : fn.results = #[.cell u 30]) (tmps : Array Value) (w : World) (B : Nat) {x y : Value} (h0 : w.cell? ⟨B, 0, none⟩ = some x) (h1 : w.cell? ⟨B, 1, none⟩ = some y) (ha : tmps.getD u undef = .pointer (some ⟨B, 0, none⟩)) :
    (results fn tmps).run Tryz.prog w = .ok (.agg #[x, y]) w := by
  have ha' : tmps[u]?.getD undef = .pointer (some ⟨B, 0, none⟩) := by simpa using ha
  simp [results, h, ha', asAddr, go_sem, loadVar, isAgg, Tryz.underlying30, h0, h1]
/-- what plain answers -/
def PlA (r : Option (Nat × Nat)) (w : World) (e : Ending) (w' : World) : Prop := match r with
  | none => e = gupE 10 ∧ Only (fun _ => False) w w'
  | some x => e = .returned (.agg #[.int .i64 (x.1 : Int), .int .i64 (x.2 : Int)]) ∧ Only (fun _ => False) w w'
set_option maxRecDepth 100000 in
set_option maxHeartbeats 1000000 in
theorem plain_any {w : World} {F M a : Nat} {W : ByteArray → Option (Nat × Nat)} (h : EvAt w F M W a) (s : ByteArray) (hs : s.size ≤ 140737488355328) : Calls Tryz.prog 67 #[.pointer (some ⟨F, 0, none⟩), .string s] w (PlA (plnE W s) w) := by
  have HP : Hid (∀ w, Calls Tryz.prog 16 #[.string s] w fun e w' => e = .returned (.tuple #[.agg #[.int .i64 (pmR s).1, .int .i64 (pmR s).2.1], .bool (pmR s).2.2]) ∧ Only (fun _ => False) w w') := prim_any s
  have hsm := pm_small s
  obtain ⟨X, hX⟩ : ∃ X, X = plnE W s := ⟨_, rfl⟩
  rw [← hX]
  unfold plnE at hX
  obtain ⟨p1, e1⟩ : ∃ p, p = (pmR s).1 := ⟨_, rfl⟩
  obtain ⟨p2, e2⟩ : ∃ p, p = (pmR s).2.1 := ⟨_, rfl⟩
  obtain ⟨p3, e3⟩ : ∃ p, p = (pmR s).2.2 := ⟨_, rfl⟩
  rw [← e1, ← e2, ← e3] at hX HP
  rw [← e1, ← e2] at hsm
  clear e1 e2 e3
  obtain ⟨N, hN⟩ : ∃ N, N = w.heap.size := ⟨_, rfl⟩
  have HH : Hid (EvAt w F M W a ∧ N = w.heap.size) := ⟨h, hN⟩
  have Hs : Hid (s.size ≤ 140737488355328) := hs
  have HX : Hid (X = if p3 = true then some (p1.toNat, p2.toNat) else W s) := hX
  clear h hs hX hN
  go_enter Tryz.func67, Tryz.ntmps67
  go_wp2_with fail
  refine (show Calls Tryz.prog 16 _ _ _ from HP.out _).mono ?_
  rintro e w1 ⟨rfl, o1⟩
  have hN := HH.out.2
  rw [← hN]
  clear HP
  have hX := HX.out
  clear HX
  have o0 : Only (fun _ => False) w w1 := ((Only.refl _ w).alloc _).trans o1 (fun _ _ g => g)
  have n1 : w1.heap[N]? = some (.cells #[.int .i64 0, .int .i64 0] 30) := o1.at (by rw [hN]; exact ealloc_at _ _ _ rfl)
  have fin : ∀ (x y : Value) (ob : Obj), (w1.alloc ob).frozen? ⟨N, 0, none⟩ = false ∧ (w1.alloc ob).frozen? ⟨N, 1, none⟩ = false ∧ (w1.alloc ob).cell? ⟨N, 0, none⟩ = some (.int .i64 0) ∧ (w1.alloc ob).cell? ⟨N, 1, none⟩ = some (.int .i64 0) ∧ Hid (((((w1.alloc ob).setCell ⟨N, 0, none⟩ x).setCell ⟨N, 1, none⟩ y).cell? ⟨N, 0, none⟩ = some x ∧ (((w1.alloc ob).setCell ⟨N, 0, none⟩ x).setCell ⟨N, 1, none⟩ y).cell? ⟨N, 1, none⟩ = some y) ∧ Only (fun _ => False) w (((w1.alloc ob).setCell ⟨N, 0, none⟩ x).setCell ⟨N, 1, none⟩ y)) := fun x y ob => by
    have n2 := alloc_old (p := ob) n1
    obtain ⟨c0, c1, f0, f1⟩ := wr2_cell n2
    exact ⟨f0, f1, c0, c1, fset2 n2 x y, ((o0.alloc _).setCell _ _ (fun g => by simp only at g; omega)).setCell _ _ (fun g => by simp only at g; omega)⟩
  cases p3 with
  | true =>
    simp only [if_true] at hX
    obtain ⟨f0, f1, g0, g1, Q⟩ := fin (.int .i64 p1) (.int .i64 p2) (.cells #[.int .i64 p1, .int .i64 p2] 30)
    have t1 : ((p1.toNat : Nat) : Int) = p1 := by omega
    have t2 : ((p2.toNat : Nat) : Int) = p2 := by omega
    have HT : Hid (((p1.toNat : Nat) : Int) = p1 ∧ ((p2.toNat : Nat) : Int) = p2) := ⟨t1, t2⟩
    subst hX
    clear fin n1 o0 hsm t1 t2 hN HH Hs o1
    go_wp2
    refine bodyPost_ret (results_ef1 rfl _ _ N Q.out.1.1 Q.out.1.2 rfl) rfl ?_
    refine ⟨?_, Q.out.2⟩
    rw [HT.out.1, HT.out.2]
  | false =>
    simp only [Bool.false_eq_true, if_false] at hX
    obtain ⟨⟨hF, ob, hM, hw⟩, -⟩ := HH.out
    have oa : Only (fun _ => False) w (w1.alloc (.cells #[.int .i64 p1, .int .i64 p2] 30)) := o0.alloc _
    have hF2 := oa.at hF
    obtain ⟨k0, k1, -, -⟩ := wr2_cell hF2
    have hlk := hw _ (oa.at hM) s Hs.out
    have n2 := alloc_old (p := .cells #[.int .i64 p1, .int .i64 p2] 30) n1
    obtain ⟨Y, hY⟩ : ∃ Y, Y = W s := ⟨_, rfl⟩
    rw [← hY] at hX hlk
    subst hX
    cases X with
    | none =>
      have hlk2 : (Instr.lookup 58 (.map (some M)) (.string s) true).run Tryz.prog (w1.alloc (.cells #[.int .i64 p1, .int .i64 p2] 30)) = .ok (.tuple #[.agg #[.int .i64 0, .int .i64 0], .bool false]) (w1.alloc (.cells #[.int .i64 p1, .int .i64 p2] 30)) := hlk
      have OO : Hid (Only (fun _ => False) w ((w1.alloc (.cells #[.int .i64 p1, .int .i64 p2] 30)).alloc (.cells #[.int .i64 0, .int .i64 0] 30))) := oa.alloc _
      clear fin n1 o0 hsm hN HH Hs o1 hF hM hw oa hF2 hlk n2 hY
      go_wp2
      exact ⟨rfl, rfl, OO.out⟩
    | some x =>
      have hlk2 : (Instr.lookup 58 (.map (some M)) (.string s) true).run Tryz.prog (w1.alloc (.cells #[.int .i64 p1, .int .i64 p2] 30)) = .ok (.tuple #[.agg #[.int .i64 (x.1 : Int), .int .i64 (x.2 : Int)], .bool true]) (w1.alloc (.cells #[.int .i64 p1, .int .i64 p2] 30)) := hlk
      have n3 := alloc_old (p := .cells #[.int .i64 (x.1 : Int), .int .i64 (x.2 : Int)] 30) n2
      obtain ⟨g0, g1, f0, f1⟩ := wr2_cell n3
      have Q : Hid (((((w1.alloc (.cells #[.int .i64 p1, .int .i64 p2] 30)).alloc (.cells #[.int .i64 (x.1 : Int), .int .i64 (x.2 : Int)] 30)).setCell ⟨N, 0, none⟩ (.int .i64 (x.1 : Int))).setCell ⟨N, 1, none⟩ (.int .i64 (x.2 : Int))).cell? ⟨N, 0, none⟩ = some (.int .i64 (x.1 : Int)) ∧ ((((w1.alloc (.cells #[.int .i64 p1, .int .i64 p2] 30)).alloc (.cells #[.int .i64 (x.1 : Int), .int .i64 (x.2 : Int)] 30)).setCell ⟨N, 0, none⟩ (.int .i64 (x.1 : Int))).setCell ⟨N, 1, none⟩ (.int .i64 (x.2 : Int))).cell? ⟨N, 1, none⟩ = some (.int .i64 (x.2 : Int))) := fset2 n3 _ _
      have OO : Hid (Only (fun _ => False) w ((((w1.alloc (.cells #[.int .i64 p1, .int .i64 p2] 30)).alloc (.cells #[.int .i64 (x.1 : Int), .int .i64 (x.2 : Int)] 30)).setCell ⟨N, 0, none⟩ (.int .i64 (x.1 : Int))).setCell ⟨N, 1, none⟩ (.int .i64 (x.2 : Int)))) := ((oa.alloc _).setCell _ _ (fun g => by simp only at g; omega)).setCell _ _ (fun g => by simp only at g; omega)
      clear fin n1 o0 hsm hN HH Hs o1 hF hM hw oa hF2 hlk n2 n3 hY
      go_wp2

      refine bodyPost_ret (results_ef1 rfl _ _ N Q.out.1 Q.out.2 rfl) rfl ?_
      exact ⟨rfl, OO.out⟩
set_option maxRecDepth 100000 in
theorem wo_0 (F : Nat) (w : World) : Calls Tryz.prog 57 #[.pointer (some ⟨F, 0, none⟩), .string ⟨#[99, 97, 108, 108]⟩] w fun e w' => e = .returned (.func (.func 60) #[.pointer (some ⟨F, 0, none⟩)] #[]) ∧ w' = w := by
  go_enter Tryz.func57, Tryz.ntmps57
  go_wp2
  go_ret
  exact ⟨rfl, rfl⟩
set_option maxRecDepth 100000 in
theorem wo_1 (F : Nat) (w : World) : Calls Tryz.prog 57 #[.pointer (some ⟨F, 0, none⟩), .string ⟨#[100, 105, 112]⟩] w fun e w' => e = .returned (.func (.func 61) #[.pointer (some ⟨F, 0, none⟩)] #[]) ∧ w' = w := by
  go_enter Tryz.func57, Tryz.ntmps57
  go_wp2
  go_ret
  exact ⟨rfl, rfl⟩
set_option maxRecDepth 100000 in
theorem wo_2 (F : Nat) (w : World) : Calls Tryz.prog 57 #[.pointer (some ⟨F, 0, none⟩), .string ⟨#[107, 101, 101, 112]⟩] w fun e w' => e = .returned (.func (.func 62) #[.pointer (some ⟨F, 0, none⟩)] #[]) ∧ w' = w := by
  go_enter Tryz.func57, Tryz.ntmps57
  go_wp2
  go_ret
  exact ⟨rfl, rfl⟩
set_option maxRecDepth 100000 in
theorem wo_3 (F : Nat) (w : World) : Calls Tryz.prog 57 #[.pointer (some ⟨F, 0, none⟩), .string ⟨#[105, 102]⟩] w fun e w' => e = .returned (.func (.func 63) #[.pointer (some ⟨F, 0, none⟩)] #[]) ∧ w' = w := by
  go_enter Tryz.func57, Tryz.ntmps57
  go_wp2
  go_ret
  exact ⟨rfl, rfl⟩
set_option maxRecDepth 100000 in
theorem wo_4 (F : Nat) (w : World) : Calls Tryz.prog 57 #[.pointer (some ⟨F, 0, none⟩), .string ⟨#[119, 104, 101, 110]⟩] w fun e w' => e = .returned (.func (.func 64) #[.pointer (some ⟨F, 0, none⟩)] #[]) ∧ w' = w := by
  go_enter Tryz.func57, Tryz.ntmps57
  go_wp2
  go_ret
  exact ⟨rfl, rfl⟩
set_option maxRecDepth 100000 in
theorem wo_5 (F : Nat) (w : World) : Calls Tryz.prog 57 #[.pointer (some ⟨F, 0, none⟩), .string ⟨#[116, 105, 109, 101, 115]⟩] w fun e w' => e = .returned (.func (.func 64) #[.pointer (some ⟨F, 0, none⟩)] #[]) ∧ w' = w := by
  go_enter Tryz.func57, Tryz.ntmps57
  go_wp2
  go_ret
  exact ⟨rfl, rfl⟩
set_option maxRecDepth 100000 in
theorem wo_6 (F : Nat) (w : World) : Calls Tryz.prog 57 #[.pointer (some ⟨F, 0, none⟩), .string ⟨#[108, 111, 111, 112]⟩] w fun e w' => e = .returned (.func (.func 65) #[.pointer (some ⟨F, 0, none⟩)] #[]) ∧ w' = w := by
  go_enter Tryz.func57, Tryz.ntmps57
  go_wp2
  go_ret
  exact ⟨rfl, rfl⟩
set_option maxRecDepth 100000 in
theorem wo_7 (F : Nat) (w : World) : Calls Tryz.prog 57 #[.pointer (some ⟨F, 0, none⟩), .string ⟨#[101, 97, 99, 104]⟩] w fun e w' => e = .returned (.func (.func 66) #[.pointer (some ⟨F, 0, none⟩)] #[]) ∧ w' = w := by
  go_enter Tryz.func57, Tryz.ntmps57
  go_wp2
  go_ret
  exact ⟨rfl, rfl⟩
/-- what word answers for a word that calls no quotations -/
def WoB (X : Option (Nat × Nat)) (Y : Option (List Nat)) (w : World) (e : Ending) (w' : World) : Prop := match X with
  | none => e = gupE 10 ∧ Only (fun _ => False) w w'
  | some x => (match Y with
    | none => ∃ X, e = .returned (.func (.func 71) #[] #[.pointer (some ⟨X, 0, none⟩)]) ∧ Hid (w'.heap[X]? = some (.cells #[.int .i64 (x.1 : Int), .int .i64 (x.2 : Int)] 30) ∧ w.heap.size ≤ X ∧ Only (fun _ => False) w w')
    | some ps => ∃ X Z pa pc, e = .returned (.func (.func 69) #[] #[.pointer (some ⟨X, 0, none⟩), .pointer (some ⟨Z, 0, none⟩)]) ∧ Hid (w'.heap[X]? = some (.cells #[.int .i64 (x.1 : Int), .int .i64 (x.2 : Int)] 30) ∧ w.heap.size ≤ X ∧ w'.heap[Z]? = some (.cells #[.slice pa ps.length pc] 76) ∧ w.heap.size ≤ Z ∧ (∀ (j p : Nat), ps[j]? = some p → ∃ pg, pa = some ⟨pg, 0, none⟩ ∧ w.heap.size ≤ pg ∧ pg < w'.heap.size ∧ w'.cell? ⟨pg, j, none⟩ = some (.int .i64 (p : Int))) ∧ Only (fun _ => False) w w'))
def WoA (W : ByteArray → Option (Nat × Nat)) (s : ByteArray) : World → Ending → World → Prop := WoB (plnE W s) (mvP s)
set_option maxRecDepth 100000 in
set_option maxHeartbeats 1000000 in
theorem wo_no {w : World} {F M a : Nat} {W : ByteArray → Option (Nat × Nat)} (h : EvAt w F M W a) (s : ByteArray) (hs : s.size ≤ 140737488355328) (hn : ∀ x ∈ kwT, s.toList ≠ x.1) : Calls Tryz.prog 57 #[.pointer (some ⟨F, 0, none⟩), .string s] w (WoA W s w) := by
  have n0 : (s.toList == [99, 97, 108, 108]) = false := beq_false_of_ne (hn ([99, 97, 108, 108], 1) (by simp [kwT]))
  have n1 : (s.toList == [100, 105, 112]) = false := beq_false_of_ne (hn ([100, 105, 112], 2) (by simp [kwT]))
  have n2 : (s.toList == [107, 101, 101, 112]) = false := beq_false_of_ne (hn ([107, 101, 101, 112], 3) (by simp [kwT]))
  have n3 : (s.toList == [105, 102]) = false := beq_false_of_ne (hn ([105, 102], 4) (by simp [kwT]))
  have n4 : (s.toList == [119, 104, 101, 110]) = false := beq_false_of_ne (hn ([119, 104, 101, 110], 5) (by simp [kwT]))
  have n5 : (s.toList == [116, 105, 109, 101, 115]) = false := beq_false_of_ne (hn ([116, 105, 109, 101, 115], 5) (by simp [kwT]))
  have n6 : (s.toList == [108, 111, 111, 112]) = false := beq_false_of_ne (hn ([108, 111, 111, 112], 6) (by simp [kwT]))
  have n7 : (s.toList == [101, 97, 99, 104]) = false := beq_false_of_ne (hn ([101, 97, 99, 104], 7) (by simp [kwT]))
  have HP : Hid (Calls Tryz.prog 67 #[.pointer (some ⟨F, 0, none⟩), .string s] w (PlA (plnE W s) w)) := plain_any h s hs
  have HM : Hid (∀ w, Calls Tryz.prog 68 #[.string s] w (MvA (mvP s) w)) := moved_any s
  unfold WoA
  obtain ⟨X, hX⟩ : ∃ X, X = plnE W s := ⟨_, rfl⟩
  obtain ⟨Y, hY⟩ : ∃ Y, Y = mvP s := ⟨_, rfl⟩
  rw [← hX] at HP ⊢
  rw [← hY] at HM ⊢
  clear hX hY h hs hn
  go_enter Tryz.func57, Tryz.ntmps57
  go_wp2_with fail
  refine (show Calls Tryz.prog 67 _ _ _ from HP.out).mono ?_
  clear HP n0 n1 n2 n3 n4 n5 n6 n7
  cases X with
  | none =>
    rintro e w1 ⟨rfl, o1⟩
    have O1 : Hid _ := o1
    clear o1 HM
    unfold gupE
    go_wp2
    exact ⟨rfl, rfl, O1.out⟩
  | some x =>
    rintro e w1 ⟨rfl, o1⟩
    have O1 : Hid _ := o1
    clear o1
    go_wp2_with fail
    refine (show Calls Tryz.prog 68 _ _ _ from HM.out _).mono ?_
    clear HM
    have b1 : (w1.alloc (.cells #[.int .i64 (x.1 : Int), .int .i64 (x.2 : Int)] 30)).heap[w1.heap.size]? = some (.cells #[.int .i64 (x.1 : Int), .int .i64 (x.2 : Int)] 30) := ealloc_at _ _ _ rfl
    cases Y with
    | none =>
      rintro e w2 ⟨rfl, o2⟩
      have F : Hid ((w2.alloc (.cells #[.slice none 0 0] 76)).heap[w1.heap.size]? = some (.cells #[.int .i64 (x.1 : Int), .int .i64 (x.2 : Int)] 30) ∧ w.heap.size ≤ w1.heap.size ∧ Only (fun _ => False) w (w2.alloc (.cells #[.slice none 0 0] 76))) :=
        ⟨alloc_old (o2.at b1), O1.out.size, ((O1.out.alloc _).trans o2 (fun _ _ g => g)).alloc _⟩
      clear o2 O1 b1
      go_wp2
      go_ret
      exact ⟨_, rfl, F.out⟩
    | some ps =>
      rintro e w2 ⟨pa, pc, rfl, G⟩
      have F : Hid ((w2.alloc (.cells #[.slice pa ps.length pc] 76)).heap[w1.heap.size]? = some (.cells #[.int .i64 (x.1 : Int), .int .i64 (x.2 : Int)] 30) ∧ w.heap.size ≤ w1.heap.size ∧ (w2.alloc (.cells #[.slice pa ps.length pc] 76)).heap[w2.heap.size]? = some (.cells #[.slice pa ps.length pc] 76) ∧ w.heap.size ≤ w2.heap.size ∧ (∀ (j p : Nat), ps[j]? = some p → ∃ pg, pa = some ⟨pg, 0, none⟩ ∧ w.heap.size ≤ pg ∧ pg < (w2.alloc (.cells #[.slice pa ps.length pc] 76)).heap.size ∧ (w2.alloc (.cells #[.slice pa ps.length pc] 76)).cell? ⟨pg, j, none⟩ = some (.int .i64 (p : Int))) ∧ Only (fun _ => False) w (w2.alloc (.cells #[.slice pa ps.length pc] 76))) := by
        obtain ⟨g1, g2⟩ := G.out
        have oo := (O1.out.alloc (.cells #[.int .i64 (x.1 : Int), .int .i64 (x.2 : Int)] 30)).trans g2 (fun _ _ g => g)
        have z1 := O1.out.size
        refine ⟨alloc_old (g2.at b1), O1.out.size, ealloc_at _ _ _ rfl, oo.size, fun j p hp => ?_, oo.alloc _⟩
        obtain ⟨pg, q1, q2, q3, q4⟩ := g1 j p hp
        refine ⟨pg, q1, ?_, by simp; omega, ((Only.refl (fun _ => False) w2).alloc _).cell q4 (fun g => g)⟩
        simp at q2
        omega
      clear G O1 b1
      go_wp2
      go_ret
      exact ⟨_, _, pa, pc, rfl, F.out⟩
end Go.Proofs.YtodbkihobgdpdaaGreatDoor
namespace Go.Proofs.YtodbkihobgdpdaaGreatDoor
open Go.RowKit Go.Lib
set_option linter.unusedSimpArgs false
set_option linter.unusedVariables false
/-- what may turn: the inference, the list, its row -/
def BsF (F s : Nat) (v : Value) (b : Nat) : Prop := b = F ∨ b = s ∨ v.ownBlock = some b
/-- what has been come to since w: the list at s, which was the row v, is v1 now -/
def InV (w w1 : World) (S : Nat → Prop) (d F M : Nat) (W : ByteArray → Option (Nat × Nat)) (s : Nat) (v v1 : Value) (t : Ist) : Prop := EvAt w1 F M W t.a ∧ EsV w1 S d s t.st t.tk v1 ∧ RwK w v v1 ∧ Only (BsF F s v) w w1
def Env (S : Nat → Prop) (F M s : Nat) : Prop := F < s ∧ M < s ∧ M ≠ F ∧ ∀ b, S b → b < s ∧ b ≠ F
/-- what going through items answers -/
def TrP (S : Nat → Prop) (d F M : Nat) (W : ByteArray → Option (Nat × Nat)) (s : Nat) (v : Value) (r : Except Int Ist) (w : World) (x : Ending) (w' : World) : Prop := match r with
  | .error e => x = gupE e ∧ Only (BsF F s v) w w'
  | .ok t => x = .returned (.tuple #[]) ∧ Hid (∃ v', InV w w' S d F M W s v v' t)
theorem EsV.only {w w' : World} {S bs : Nat → Prop} {d s tk : Nat} {st : List Ent} {v : Value} (h : EsV w S d s st tk v) (o : Only bs w w') (hs : ¬ bs s) (hv : ∀ k, v.ownBlock = some k → ¬ bs k) (hb : ∀ b, S b → ¬ bs b) : EsV w' S d s st tk v := by
  obtain ⟨xs, h1, h2, h3⟩ := h
  refine ⟨xs, (o.block s (Array.getElem?_eq_some_iff.1 h1).1 hs).trans h1, o.owns h2 hv, fun j x hx => ?_⟩
  obtain ⟨b, ao, n, cap, g1, g2, g3⟩ := h3 j x hx
  exact ⟨b, ao, n, cap, g1, g2, g3.only o hb⟩
theorem InV.refl {w : World} {S : Nat → Prop} {d F M s : Nat} {W : ByteArray → Option (Nat × Nat)} {v : Value} {t : Ist} (h1 : EvAt w F M W t.a) (h2 : EsV w S d s t.st t.tk v) : InV w w S d F M W s v v t := ⟨h1, h2, .inl rfl, Only.refl _ _⟩
theorem InV.wide {w w1 w2 : World} {S : Nat → Prop} {d F M s : Nat} {W : ByteArray → Option (Nat × Nat)} {v v1 : Value} {t : Ist} (h : InV w w1 S d F M W s v v1 t) (o : Only (BsF F s v1) w1 w2) : Only (BsF F s v) w w2 := by
  refine h.2.2.2.trans o (fun k hk e => ?_)
  rcases e with e | e | e
  · exact .inl e
  · exact .inr (.inl e)
  · rcases h.2.2.1 with hr | ⟨k', hr, hk'⟩
    · exact .inr (.inr (hr ▸ e))
    · rw [hr] at e
      injection e with e
      omega
theorem RwK.next {w w1 : World} {v v1 v2 : Value} (hz : w.heap.size ≤ w1.heap.size) (h : RwK w v v1) (g : RwK w1 v1 v2) : RwK w v v2 := by
  rcases g with g | ⟨k, g, g4⟩
  · rcases h with hr | ⟨k, hr, hk⟩
    · exact .inl (g.trans hr)
    · exact .inr ⟨k, g.trans hr, hk⟩
  · exact .inr ⟨k, g, by omega⟩
theorem InV.trans {w w1 w2 : World} {S : Nat → Prop} {d F M s : Nat} {W : ByteArray → Option (Nat × Nat)} {v v1 v2 : Value} {t t2 : Ist} (h : InV w w1 S d F M W s v v1 t) (g : InV w1 w2 S d F M W s v1 v2 t2) : InV w w2 S d F M W s v v2 t2 :=
  ⟨g.1, g.2.1, h.2.2.1.next h.2.2.2.size g.2.2.1, h.wide g.2.2.2⟩
theorem InV.eso {w w1 w2 : World} {S : Nat → Prop} {d F M s : Nat} {W : ByteArray → Option (Nat × Nat)} {v v1 : Value} {t : Ist} {st : List Ent} {tk : Nat} (h : InV w w1 S d F M W s v v1 t) (he : Env S F M s) (g : EsO w1 w2 S d s v1 st tk) : ∃ v2, InV w w2 S d F M W s v v2 ⟨t.a, st, tk⟩ := by
  have ho := h.2.1.own
  obtain ⟨⟨v2, g1, g2⟩, g3⟩ := g
  have hn : ∀ b, b < s → ¬ (b = s ∨ v1.ownBlock = some b) := fun b hb e => by
    rcases e with e | e
    · omega
    · have := (ho b e).1
      omega
  refine ⟨v2, h.trans ⟨h.1.only g3 (hn F he.1) (hn M he.2.1), g1, g2, g3.mono (fun k _ e => ?_)⟩⟩
  rcases e with e | e
  · exact .inr (.inl e)
  · exact .inr (.inr e)
theorem InV.only {w w1 w2 : World} {S : Nat → Prop} {d F M s : Nat} {W : ByteArray → Option (Nat × Nat)} {v v1 : Value} {t : Ist} (h : InV w w1 S d F M W s v v1 t) (o : Only (fun _ => False) w1 w2) : InV w w2 S d F M W s v v1 t :=
  h.trans ⟨h.1.only o (fun e => e) (fun e => e), h.2.1.only o (fun e => e) (fun _ _ e => e) (fun _ _ e => e), .inl rfl, o.mono (fun _ _ e => e.elim)⟩
theorem InV.own {w w1 w2 : World} {S : Nat → Prop} {d F M s a : Nat} {W : ByteArray → Option (Nat × Nat)} {v v1 : Value} {t : Ist} (h : InV w w1 S d F M W s v v1 t) (he : Env S F M s) (o : Only (fun b => b = F) w1 w2) (g : EvAt w2 F M W a) : InV w w2 S d F M W s v v1 ⟨a, t.st, t.tk⟩ := by
  have ho := h.2.1.own
  exact h.trans ⟨g, h.2.1.only o (fun e => by have := he.1; omega) (fun k hk e => by have := (ho k hk).1; have := he.1; omega) (fun b hb e => (he.2.2.2 b hb).2 e), .inl rfl, o.mono (fun _ _ e => .inl e)⟩
/-- items stand where they stood -/
theorem QsAt.in {w w1 : World} {S : Nat → Prop} {d F M s : Nat} {v : Value} {l : List Vt} {ao : Option Addr} {st : List Ent} {tk : Nat} (h : QsAt w S d l ao) (hv : EsV w S d s st tk v) (he : Env S F M s) (o : Only (BsF F s v) w w1) : QsAt w1 S d l ao := h.only o (fun b hb e => by
  have := he.2.2.2 b hb
  rcases e with e | e | e
  · exact this.2 e
  · omega
  · have := (hv.own b e).1
    omega)
theorem TrP.step {w w1 w2 : World} {S : Nat → Prop} {d F M s : Nat} {W : ByteArray → Option (Nat × Nat)} {v v1 : Value} {t : Ist} {r : Except Int Ist} {x : Ending} (h : InV w w1 S d F M W s v v1 t) (g : TrP S d F M W s v1 r w1 x w2) : TrP S d F M W s v r w x w2 := by
  cases r with
  | error e => exact ⟨g.1, h.wide g.2⟩
  | ok t2 =>
    obtain ⟨v2, g2⟩ := g.2.out
    exact ⟨g.1, v2, h.trans g2⟩
/-- going through items does what the account says, with less than n to go -/
def ThC (W : ByteArray → Option (Nat × Nat)) (S : Nat → Prop) (d F M n : Nat) : Prop := ∀ (l : List Vt) (ao : Option Addr) (cap s : Nat) (v : Value) (t : Ist) (w : World), Env S F M s → EvAt w F M W t.a → EsV w S d s t.st t.tk v → QsAt w S d l ao → l.length ≤ cap → SmL l → potE t ≤ 900000 → t.a < n →
  Calls Tryz.prog 41 #[.pointer (some ⟨F, 0, none⟩), .slice ao l.length cap, .pointer (some ⟨s, 0, none⟩)] w (TrP S d F M W s v (thrE W n l t) w)
/-- what own answers -/
def OwP (F M : Nat) (W : ByteArray → Option (Nat × Nat)) (r : Except Int Ist) (w : World) (x : Ending) (w' : World) : Prop := match r with
  | .error e => x = gupE e ∧ Only (fun b => b = F) w w'
  | .ok t => x = .returned (.agg #[.int .i64 (t.tk : Int), .int .i64 (t.st.length : Int)]) ∧ Hid (EvAt w' F M W t.a ∧ Only (fun b => b = F) w w')
set_option maxRecDepth 100000 in
set_option maxHeartbeats 1000000 in
theorem own_of {W : ByteArray → Option (Nat × Nat)} {S : Nat → Prop} {d F M n : Nat} (TH : ThC W S d F M n) {l : List Vt} {ao : Option Addr} {cap a : Nat} {w : World} (hF : F < w.heap.size) (hM : M < w.heap.size) (hMF : M ≠ F) (hS : ∀ b, S b → b < w.heap.size ∧ b ≠ F) (hev : EvAt w F M W a) (hq : QsAt w S d l ao) (hc : l.length ≤ cap) (hsm : SmL l) (hp : 32 * a ≤ 900000) (ha : a < n) :
    Calls Tryz.prog 34 #[.pointer (some ⟨F, 0, none⟩), .slice ao l.length cap] w (OwP F M W (thrE W n l ⟨a, [], 0⟩) w) := by
  obtain ⟨N, hN⟩ : ∃ N, N = w.heap.size := ⟨_, rfl⟩
  obtain ⟨W2, hW2⟩ : ∃ X, X = (w.alloc (.cells #[.int .i64 0, .int .i64 0] 30)).alloc (.cells #[.slice none 0 0, .int .i64 0] 109) := ⟨_, rfl⟩
  have o2 : Only (fun _ => False) w W2 := by rw [hW2]; exact ((Only.refl _ w).alloc _).alloc _
  have b0 : W2.heap[N]? = some (.cells #[.int .i64 0, .int .i64 0] 30) := by rw [hW2]; exact alloc_old (ealloc_at _ _ _ hN)
  have b1 : W2.heap[N + 1]? = some (.cells #[.slice none 0 0, .int .i64 0] 109) := by rw [hW2]; exact ealloc_at _ _ _ (by simp [hN])
  have es : EsV W2 S d (N + 1) [] 0 (.slice none 0 0) := ⟨[], b1, World.ownsRow_nil _ _ _ _, fun j x hx => by simp at hx⟩
  have HC : Hid _ := TH l ao cap (N + 1) (.slice none 0 0) ⟨a, [], 0⟩ W2 ⟨by omega, by omega, hMF, fun b hb => ⟨by have := hS b hb; omega, (hS b hb).2⟩⟩ (hev.only o2 (fun e => e) (fun e => e)) es (hq.only o2 (fun _ _ e => e)) hc hsm (by unfold potE; simp; omega) ha
  have HH : Hid (N = w.heap.size ∧ Only (fun _ => False) w W2 ∧ W2.heap[N]? = some (.cells #[.int .i64 0, .int .i64 0] 30) ∧ F < N ∧ M < N) := ⟨hN, o2, b0, by omega, by omega⟩
  obtain ⟨X, hX⟩ : ∃ X, X = thrE W n l ⟨a, [], 0⟩ := ⟨_, rfl⟩
  rw [← hX] at HC ⊢
  obtain ⟨L, hL⟩ : ∃ L, L = l.length := ⟨_, rfl⟩
  rw [← hL] at HC ⊢
  clear hF hM hMF hS hev hq hc hsm hp ha o2 b0 b1 es TH hX hL
  subst hW2
  subst hN
  go_enter Tryz.func34, Tryz.ntmps34
  go_wp2_with fail
  refine (show Calls Tryz.prog 41 _ _ _ from HC.out).mono ?_
  clear HC
  obtain ⟨-, o2, b0, hFN, hMN⟩ := HH.out
  obtain ⟨N, hN⟩ : ∃ N, N = w.heap.size := ⟨_, rfl⟩
  rw [← hN] at b0 hFN hMN ⊢
  obtain ⟨W2, hW2⟩ : ∃ X, X = (w.alloc (.cells #[.int .i64 0, .int .i64 0] 30)).alloc (.cells #[.slice none 0 0, .int .i64 0] 109) := ⟨_, rfl⟩
  rw [← hW2] at o2 b0 ⊢
  have HN : Hid (N = w.heap.size) := hN
  clear HH hW2 hN
  cases X with
  | error e =>
    rintro x w1 ⟨rfl, o1⟩
    have OO : Hid (Only (fun b => b = F) w w1) := (o2.mono (bs' := fun b => b = F) (fun _ _ g => g.elim)).trans o1 (fun k hk g => by
      have := HN.out
      rcases g with g | g | g
      · exact g
      · omega
      · simp [Value.ownBlock] at g)
    clear o1 o2 b0 hFN hMN
    unfold gupE
    go_wp2
    exact ⟨rfl, rfl, OO.out⟩
  | ok t =>
    rintro x w1 ⟨rfl, G⟩
    obtain ⟨v1, g1, g2, g3, g4⟩ := G.out
    have b2 : w1.heap[N]? = some (.cells #[.int .i64 0, .int .i64 0] 30) := (g4.block N (Array.getElem?_eq_some_iff.1 b0).1 (fun g => by
      rcases g with g | g | g
      · omega
      · omega
      · simp [Value.ownBlock] at g)).trans b0
    obtain ⟨xs, q1, q2, q3⟩ := g2
    obtain ⟨a1, c1, hv1⟩ := ownsRow_slice q2
    subst hv1
    obtain ⟨k0, k1, -, -⟩ := wr2_cell q1
    obtain ⟨m0, m1, f0, f1⟩ := wr2_cell b2
    have Q := fset2 b2 (.int .i64 (t.tk : Int)) (.int .i64 (t.st.length : Int))
    have HQ : Hid _ := Q
    have OO : Hid (EvAt ((w1.setCell ⟨N, 0, none⟩ (.int .i64 (t.tk : Int))).setCell ⟨N, 1, none⟩ (.int .i64 (t.st.length : Int))) F M W t.a ∧ Only (fun b => b = F) w ((w1.setCell ⟨N, 0, none⟩ (.int .i64 (t.tk : Int))).setCell ⟨N, 1, none⟩ (.int .i64 (t.st.length : Int)))) := by
      have o5 : Only (fun b => b = N) w1 ((w1.setCell ⟨N, 0, none⟩ (.int .i64 (t.tk : Int))).setCell ⟨N, 1, none⟩ (.int .i64 (t.st.length : Int))) := ((Only.refl (fun b => b = N) w1).setCell _ _ (fun _ => rfl)).setCell _ _ (fun _ => rfl)
      have hn := HN.out
      refine ⟨?_, ((o2.mono (bs' := fun b => b = F) (fun _ _ g => g.elim)).trans g4 (fun k hk g => ?_)).trans o5 (fun k hk g => by omega)⟩
      · exact g1.only o5 (by omega) (by omega)
      · rcases g with g | g | g
        · exact g
        · omega
        · simp [Value.ownBlock] at g
    clear G g1 g3 g4 q1 q2 q3 b2 Q o2 b0 hFN hMN
    go_wp2
    refine bodyPost_ret (results_ef1 rfl _ _ N HQ.out.1 HQ.out.2 rfl) rfl ?_
    exact ⟨rfl, OO.out⟩
end Go.Proofs.YtodbkihobgdpdaaGreatDoor
