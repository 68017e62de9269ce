/- entryOf, apply. A row of entries the other way round. move. moved: which words move values. -/
import Derived.Test.YtodbkihobgdpdaaGreatDoorGaj
namespace Go.Proofs.YtodbkihobgdpdaaGreatDoor
open Go.RowKit Go.Lib
set_option linter.unusedSimpArgs false
set_option linter.unusedVariables false
theorem en_quot {w : World} {S : Nat → Prop} {d : Nat} {t : Vt} {v : Value} (h : TiAt w S (d + 1) false t v) (hk : t.k = 5) : ∃ ao cap, v = .iface 81 (.agg #[.slice ao t.l.length cap]) ∧ t.l.length ≤ cap ∧ QsAt w S (d + 1) t.l ao := by
  rcases h with ⟨e, _⟩ | ⟨e, _⟩ | ⟨e, _⟩ | ⟨e, _⟩ | ⟨e, _⟩ | ⟨_, ao, cap, h1, h2, h3⟩
  · omega
  · omega
  · omega
  · omega
  · omega
  · rw [hk] at h1 h3
    exact ⟨ao, cap, h1, h2, fun j x hx => by
      obtain ⟨g, k, u, a1, a2, a3, a4⟩ := h3 j x hx
      exact ⟨g, k, u, a1, a2, a3, a4.step (fun _ g => g) (fun _ _ _ g => g) (by omega)⟩⟩
theorem en_not {w : World} {S : Nat → Prop} {d : Nat} {t : Vt} {v : Value} (h : TiAt w S (d + 1) false t v) (hk : ¬ t.k = 5) : ∀ W : World, (Instr.typeAssert v 67 81 true).run Tryz.prog W = .ok (.tuple #[.agg #[.slice none 0 0], .bool false]) W := by
  by_cases h4 : t.k = 4
  · rcases h with ⟨e, _⟩ | ⟨e, _⟩ | ⟨e, _⟩ | ⟨e, _⟩ | ⟨e, _⟩ | ⟨_, ao, cap, h1, h2, h3⟩
    · omega
    · omega
    · omega
    · omega
    · omega
    · rw [h1, if_pos h4]
      exact va_miss 95 81 67 _ Tryz.underlying81 (by intro m h; cases h) (by decide) _ zQ _
  · exact (leaf_lq h (by omega)).1.2
/-- what entryOf answers -/
def EoP (S : Nat → Prop) (d : Nat) (x : Ent) (w : World) (e : Ending) (w' : World) : Prop := ∃ b ao n cap, e = .returned (.agg #[.bool b, .slice ao n cap]) ∧ Hid (EnAt w' S d x b ao n cap ∧ Only (fun _ => False) w w')
set_option maxRecDepth 100000 in
theorem entryOf_any {w : World} {S : Nat → Prop} {d : Nat} {t : Vt} {v : Value} (h : TiAt w S d false t v) (hsm : ∃ e, SmT e t) : Calls Tryz.prog 56 #[v] w (EoP S d (if t.k = 5 then some t.l else none) w) := by
  cases d with
  | zero => exact h.elim
  | succ d =>
  have step : ∀ (b : Bool) (ao : Option Addr) (n cap : Nat), Hid ((((w.alloc (.cells #[.bool b, .slice ao n cap] 130)).alloc (.cells #[.slice ao n cap] 81)).cell? ⟨w.heap.size, 0, none⟩ = some (.bool b) ∧ ((w.alloc (.cells #[.bool b, .slice ao n cap] 130)).alloc (.cells #[.slice ao n cap] 81)).cell? ⟨w.heap.size, 1, none⟩ = some (.slice ao n cap)) ∧ Only (fun _ => False) w ((w.alloc (.cells #[.bool b, .slice ao n cap] 130)).alloc (.cells #[.slice ao n cap] 81))) := fun b ao n cap => by
    have n1 : ((w.alloc (.cells #[.bool b, .slice ao n cap] 130)).alloc (.cells #[.slice ao n cap] 81)).heap[w.heap.size]? = some (.cells #[.bool b, .slice ao n cap] 130) := alloc_old (ealloc_at _ _ _ rfl)
    exact ⟨⟨(wr2_cell n1).1, (wr2_cell n1).2.1⟩, ((Only.refl _ w).alloc _).alloc _⟩
  by_cases hk : t.k = 5
  · obtain ⟨ao, cap, rfl, hc, hq⟩ := en_quot h hk
    rw [if_pos hk]
    have Q := step true ao t.l.length cap
    have hsl : SmL t.l := by obtain ⟨e, he⟩ := hsm; exact ⟨he.len, he.parts⟩
    have F : Hid _ := (⟨⟨rfl, rfl, hc, hsl, hq.only Q.out.2 (fun _ _ g => g)⟩, Q.out.2⟩ : EnAt _ S (d + 1) (some t.l) true ao t.l.length cap ∧ Only (fun _ => False) w _)
    have hta : ∀ W : World, (Instr.typeAssert (.iface 81 (.agg #[.slice ao t.l.length cap])) 67 81 true).run Tryz.prog W = .ok (.tuple #[.agg #[.slice ao t.l.length cap], .bool true]) W := fun W => by
      simp [Instr.typeAssert, run_underlying Tryz.underlying81]
    clear h hsm hq hc step hsl hk
    go_enter Tryz.func56, Tryz.ntmps56
    go_wp2
    refine bodyPost_ret (results_en rfl _ _ w.heap.size Q.out.1.1 Q.out.1.2 rfl) rfl ?_
    exact ⟨_, _, _, _, rfl, F.out⟩
  · have hta := en_not h hk
    rw [if_neg hk]
    have Q := step false none 0 0
    have F : Hid _ := (⟨⟨rfl, rfl, rfl, rfl⟩, Q.out.2⟩ : EnAt ((w.alloc (.cells #[.bool false, .slice none 0 0] 130)).alloc (.cells #[.slice none 0 0] 81)) S (d + 1) none false none 0 0 ∧ Only (fun _ => False) w _)
    clear h hsm step hk
    go_enter Tryz.func56, Tryz.ntmps56
    go_wp2
    refine bodyPost_ret (results_en rfl _ _ w.heap.size Q.out.1.1 Q.out.1.2 rfl) rfl ?_
    exact ⟨_, _, _, _, rfl, F.out⟩
/-- so many that nothing is known of are pushed -/
theorem rep_snoc (o : Nat) : (List.replicate (o + 1) (none : Ent)) = List.replicate o none ++ [none] := by
  simp [List.replicate_succ']
set_option maxRecDepth 100000 in
set_option maxHeartbeats 1000000 in
theorem apply_any {w : World} {S : Nat → Prop} {d s tk : Nat} {st : List Ent} {v : Value} (a i o : Nat) (h : EsV w S d s st tk v) (hS : ∀ b, S b → b < s) (hl : potE ⟨a, st, tk⟩ + i + o ≤ 1000000) :
    Calls Tryz.prog 72 #[.pointer (some ⟨s, 0, none⟩), .agg #[.int .i64 (i : Int), .int .i64 (o : Int)]] w fun e w' => e = .returned (.tuple #[]) ∧ Hid (EsO w w' S d s v (appE i o ⟨a, st, tk⟩).st (appE i o ⟨a, st, tk⟩).tk) := by
  have hlt := EsAt.lt ⟨v, h⟩
  have hown := h.own
  obtain ⟨N, hN⟩ : ∃ N, N = w.heap.size := ⟨_, rfl⟩
  obtain ⟨W, hW⟩ : ∃ W, W = w.alloc (.cells #[.int .i64 (i : Int), .int .i64 (o : Int)] 30) := ⟨_, rfl⟩
  have oW : Only (fun _ => False) w W := by rw [hW]; exact (Only.refl _ w).alloc _
  have bW : W.heap[N]? = some (.cells #[.int .i64 (i : Int), .int .i64 (o : Int)] 30) := by rw [hW]; exact ealloc_at _ _ _ hN
  obtain ⟨c0, c1, -, -⟩ := wr2_cell bW
  have HH : Hid (EsO w W S d s v st tk ∧ (∀ k, v.ownBlock = some k → s + 1 ≤ k ∧ k < w.heap.size) ∧ s < N ∧ N = w.heap.size ∧ ∀ b, S b → b < s) := ⟨(EsO.refl h).only oW, hown, by omega, hN, hS⟩
  have HL : Hid (potE ⟨a, st, tk⟩ + i + o ≤ 1000000) := hl
  have HB : Hid (W.heap[N]? = some (.cells #[.int .i64 (i : Int), .int .i64 (o : Int)] 30)) := bW
  have il : i ≤ 1000000 := by omega
  have ol : o ≤ 1000000 := by omega
  have HIO : Hid (i ≤ 1000000 ∧ o ≤ 1000000) := ⟨il, ol⟩
  clear h hS hl hlt oW bW il ol hown
  go_enter Tryz.func72, Tryz.ntmps72
  subst hW
  subst hN
  go_wp2
  obtain ⟨W, hW⟩ : ∃ W, W = w.alloc (.cells #[.int .i64 (i : Int), .int .i64 (o : Int)] 30) := ⟨_, rfl⟩
  obtain ⟨N, hN⟩ : ∃ N, N = w.heap.size := ⟨_, rfl⟩
  rw [← hW, ← hN] at HH HB c0 c1 ⊢
  clear hW
  have HN : Hid (N = w.heap.size) := hN
  clear hN
  go_loopw [6] (fun r6 wr => ∃ (j : Nat), r6 = .int .i64 (j : Int) ∧ j ≤ i ∧ Hid (EsO w wr S d s v (popsE j ⟨a, st, tk⟩).2.st (popsE j ⟨a, st, tk⟩).2.tk ∧ wr.heap[N]? = some (.cells #[.int .i64 (i : Int), .int .i64 (o : Int)] 30))) (fun r6 _ => i - vuOf r6)
  case atStart => exact ⟨0, rfl, Nat.zero_le _, HH.out.1, HB.out⟩
  case round =>
    obtain ⟨j, rfl, hj, HI⟩ := hrel
    obtain ⟨w1, hw1⟩ : ∃ w1, w1 = wr := ⟨_, rfl⟩
    rw [← hw1] at HI ⊢
    clear hw1
    by_cases hji : j < i
    · have hp := popsE_pot j ⟨a, st, tk⟩
      have ha := popsE_a j ⟨a, st, tk⟩
      have hl2 := HL.out
      obtain ⟨⟨v1, ev, rk⟩, oi⟩ := HI.out.1
      have HK : Hid (RwK w v v1 ∧ Only (fun b => b = s ∨ v.ownBlock = some b) w w1) := ⟨rk, oi⟩
      have HC : Hid _ := pop_v (popsE j ⟨a, st, tk⟩).2.a ev HH.out.2.2.2.2 (by
        have : potE ⟨(popsE j ⟨a, st, tk⟩).2.a, (popsE j ⟨a, st, tk⟩).2.st, (popsE j ⟨a, st, tk⟩).2.tk⟩ = potE (popsE j ⟨a, st, tk⟩).2 := rfl
        omega)
      have HX : Hid (j < i) := hji
      have i1 : (j : Int) < (i : Int) := by omega
      have i4 : j ≤ 1000000 := by omega
      clear hp ha hl2 hji hj c0 c1 rk oi ev
      go_wp2_with fail
      refine (show Calls Tryz.prog 76 _ _ _ from HC.out).mono ?_
      rintro e w2 ⟨b, ao, n, cap, rfl, G⟩
      have HF : Hid (EsO w w2 S d s v (popsE (j + 1) ⟨a, st, tk⟩).2.st (popsE (j + 1) ⟨a, st, tk⟩).2.tk ∧ w2.heap[N]? = some (.cells #[.int .i64 (i : Int), .int .i64 (o : Int)] 30)) := by
        obtain ⟨g1, ⟨v', g2, g5⟩, g3⟩ := G.out
        refine ⟨?_, (g3.block N (Array.getElem?_eq_some_iff.1 HI.out.2).1 (by have := HH.out.2.2.1; omega)).trans HI.out.2⟩
        rw [popsE_snoc]
        exact EsO.step HK.out.1 HK.out.2 ⟨⟨v', g2, .inl g5⟩, g3.mono (fun _ _ e => .inl e)⟩
      clear HC HI G HK
      go_wp2
      go_roundw
      case rel => exact ⟨j + 1, by go_num, by have := HX.out; omega, HF⟩
      case measure => simp only [vuOf]; have := HX.out; omega
    · obtain rfl : j = i := by omega
      have i1 : ¬ (j : Int) < (j : Int) := by omega
      have hb1 := wr2_cell HI.out.2
      obtain ⟨c0, c1, -, -⟩ := hb1
      obtain ⟨P, hP⟩ : ∃ P, P = (popsE j ⟨a, st, tk⟩).2 := ⟨_, rfl⟩
      have HP : Hid (P = (popsE j ⟨a, st, tk⟩).2) := hP
      have HI2 : Hid (EsO w w1 S d s v P.st P.tk) := by rw [HP.out]; exact HI.out.1
      have HQ : Hid (P.st.length + o ≤ 1000000) := by
        have h1 := popsE_pot j ⟨a, st, tk⟩
        have h2 := HL.out
        have h3 : potE (popsE j ⟨a, st, tk⟩).2 = P.st.length + P.tk + 32 * P.a := by rw [hP]; rfl
        show P.st.length + o ≤ 1000000
        omega
      clear HI hj hji hP
      go_wp2
      go_loopw [13] (fun r13 wr => ∃ (q : Nat), r13 = .int .i64 (q : Int) ∧ q ≤ o ∧ Hid (EsO w wr S d s v (P.st ++ List.replicate q none) P.tk)) (fun r13 _ => o - vuOf r13)
      case atStart => exact ⟨0, rfl, Nat.zero_le _, by simpa using HI2⟩
      case round =>
        obtain ⟨q, rfl, hq, HI⟩ := hrel
        obtain ⟨w2, hw2⟩ : ∃ w2, w2 = wr := ⟨_, rfl⟩
        rw [← hw2] at HI ⊢
        clear hw2
        by_cases hqo : q < o
        · have hl2 := HQ.out
          obtain ⟨⟨v1, ev, rk⟩, oi⟩ := HI.out
          have HK : Hid (RwK w v v1 ∧ Only (fun b => b = s ∨ v.ownBlock = some b) w w2) := ⟨rk, oi⟩
          have HC : Hid _ := push_v (x := none) (b := false) (ao := none) (n := 0) (cap := 0) ev HH.out.2.2.2.2 ⟨rfl, rfl, rfl, rfl⟩ (by simp; omega)
          have HX : Hid (q < o) := hqo
          have i1 : (q : Int) < (o : Int) := by omega
          have i4 : q ≤ 1000000 := by omega
          clear hl2 hqo hq rk oi ev
          go_wp2_with fail
          refine (show Calls Tryz.prog 55 _ _ _ from HC.out).mono ?_
          rintro e w3 ⟨rfl, G⟩
          have HF : Hid (EsO w w3 S d s v (P.st ++ List.replicate (q + 1) none) P.tk) := by
            rw [rep_snoc, ← List.append_assoc]
            exact EsO.step HK.out.1 HK.out.2 G.out
          clear HC HI G HK
          go_wp2
          go_roundw
          case rel => exact ⟨q + 1, by go_num, by have := HX.out; omega, HF⟩
          case measure => simp only [vuOf]; have := HX.out; omega
        · obtain rfl : q = o := by omega
          have i1 : ¬ (q : Int) < (q : Int) := by omega
          have F : Hid (EsO w w2 S d s v (appE j q ⟨a, st, tk⟩).st (appE j q ⟨a, st, tk⟩).tk) := by
            have e1 : (appE j q ⟨a, st, tk⟩).st = P.st ++ List.replicate q none := by rw [HP.out]; rfl
            have e2 : (appE j q ⟨a, st, tk⟩).tk = P.tk := by rw [HP.out]; rfl
            rw [e1, e2]
            exact HI.out
          clear HI hq hqo
          go_wp2
          first | (refine bodyPost_ret (results_none rfl _ _ _) rfl ?_; exact ⟨rfl, F.out⟩) | (refine ⟨_, results_none rfl _ _ _, rfl, F.out⟩) | (refine ⟨rfl, _, results_none rfl _ _ _, rfl, F.out⟩)
end Go.Proofs.YtodbkihobgdpdaaGreatDoor
namespace Go.Proofs.YtodbkihobgdpdaaGreatDoor
open Go.RowKit Go.Lib
set_option linter.unusedSimpArgs false
set_option linter.unusedVariables false
/-- a row of entries that was made since block B -/
def RoE (w : World) (S : Nat → Prop) (d B : Nat) (v : Value) (m : List Ent) : Prop := ∃ (xs : List Value), w.ownsRow B 130 2 v m.length xs ∧ ∀ (j : Nat) (x : Ent), m[j]? = some x → ∃ b ao n cap, xs[2 * j]? = some (.bool b) ∧ xs[2 * j + 1]? = some (.slice ao n cap) ∧ EnAt w S d x b ao n cap
theorem RoE.only {w w' : World} {S bs : Nat → Prop} {d B : Nat} {v : Value} {m : List Ent} (h : RoE w S d B v m) (o : Only bs w w') (hs : ∀ b, v.ownBlock = some b → ¬ bs b) (hb : ∀ b, S b → ¬ bs b) : RoE w' S d B v m := by
  obtain ⟨xs, h2, h3⟩ := h
  refine ⟨xs, o.owns h2 hs, fun j x hx => ?_⟩
  obtain ⟨b, ao, n, cap, g1, g2, g3⟩ := h3 j x hx
  exact ⟨b, ao, n, cap, g1, g2, g3.only o hb⟩
theorem RoE.slice {w : World} {S : Nat → Prop} {d B : Nat} {v : Value} {m : List Ent} (h : RoE w S d B v m) : ∃ a c, v = .slice a m.length c := by
  obtain ⟨xs, h2, h3⟩ := h
  exact ownsRow_slice h2
/-- its block -/
theorem RoE.at {w : World} {S : Nat → Prop} {d B : Nat} {v : Value} {m : List Ent} (h : RoE w S d B v m) (hm : m ≠ []) : ∃ g c cur xs, v = .slice (some ⟨g, 0, none⟩) m.length c ∧ B ≤ g ∧ w.heap[g]? = some (.cells cur 130 (0, 0)) ∧ m.length ≤ c ∧ c ≤ maxLen ∧ cur.size = c * 2 ∧ cur.toList.take (m.length * 2) = xs ∧ xs.length = m.length * 2 ∧ ∀ (j : Nat) (x : Ent), m[j]? = some x → ∃ b ao n cap, xs[2 * j]? = some (.bool b) ∧ xs[2 * j + 1]? = some (.slice ao n cap) ∧ EnAt w S d x b ao n cap := by
  obtain ⟨xs, h2, h3⟩ := h
  rcases h2.2 with ⟨_, h0⟩ | ⟨g, c, cur, hv, hgs, hgc, hnc, hcm, hcs, htk⟩
  · exact absurd (by simpa using h0) hm
  · exact ⟨g, c, cur, xs, hv, hgs, hgc, hnc, hcm, hcs, htk, h2.1, h3⟩
/-- the entry at a place -/
theorem RoE.get {w : World} {S : Nat → Prop} {d B g c : Nat} {ao : Option Addr} {m : List Ent} (h : RoE w S d B (.slice (some ⟨g, 0, none⟩) m.length c) m) {j : Nat} {x : Ent} (hx : m[j]? = some x) : ∃ b ao n cap, w.cell? ⟨g, j * 2, none⟩ = some (.bool b) ∧ w.cell? ⟨g, j * 2 + 1, none⟩ = some (.slice ao n cap) ∧ EnAt w S d x b ao n cap := by
  obtain ⟨xs, h2, h3⟩ := h
  obtain ⟨b, ao, n, cap, g1, g2, g3⟩ := h3 j x hx
  have e1 := h2.cells (g := g) rfl (2 * j) _ g1
  have e2 := h2.cells (g := g) rfl (2 * j + 1) _ g2
  rw [addr_ad, Nat.mul_comm] at e1 e2
  exact ⟨b, ao, n, cap, e1, e2, g3⟩
set_option maxRecDepth 100000 in
theorem rev_1 {w : World} {S : Nat → Prop} {d B : Nat} {v : Value} {x : Ent} (h : RoE w S d B v [x]) : Calls Tryz.prog 78 #[v] w fun e w' => e = .returned (.tuple #[]) ∧ Hid (RoE w' S d B v [x] ∧ Only (fun b => v.ownBlock = some b) w w') := by
  obtain ⟨a, c, rfl⟩ := h.slice
  have F : Hid (RoE w S d B (.slice a [x].length c) [x] ∧ Only (fun b => (Value.slice a [x].length c).ownBlock = some b) w w) := ⟨h, Only.refl _ _⟩
  clear h
  simp only [List.length_cons, List.length_nil] at F ⊢
  go_enter Tryz.func78, Tryz.ntmps78
  go_wp2
  go_loopw [2, 3] (fun r q wr => r = .int .i64 0 ∧ q = .int .i64 0 ∧ Hid (RoE wr S d B (.slice a (0 + 1) c) [x] ∧ Only (fun b => (Value.slice a (0 + 1) c).ownBlock = some b) w wr)) (fun _ _ _ => 0)
  case atStart => exact ⟨rfl, rfl, F⟩
  case round =>
    obtain ⟨rfl, rfl, HI⟩ := hrel
    obtain ⟨w5, hw5⟩ : ∃ w5, w5 = wr := ⟨_, rfl⟩
    rw [← hw5] at HI ⊢
    clear hw5 F
    go_wp2
    first | (refine bodyPost_ret (results_none rfl _ _ _) rfl ?_; exact ⟨rfl, HI.out⟩) | (refine ⟨_, results_none rfl _ _ _, rfl, HI.out⟩) | (refine ⟨rfl, _, results_none rfl _ _ _, rfl, HI.out⟩)
set_option maxRecDepth 100000 in
set_option maxHeartbeats 1000000 in
theorem rev_2 {w : World} {S : Nat → Prop} {d B : Nat} {v : Value} {x y : Ent} (h : RoE w S d B v [x, y]) (hS : ∀ b, S b → v.ownBlock ≠ some b) : Calls Tryz.prog 78 #[v] w fun e w' => e = .returned (.tuple #[]) ∧ Hid (RoE w' S d B v [y, x] ∧ Only (fun b => v.ownBlock = some b) w w') := by
  obtain ⟨g, c, cur, xs, hv, hB, hg, hc, hm, hcs, htk, hxl, h3⟩ := h.at (by simp)
  obtain ⟨b0, a0, n0, p0, q0, r0, e0⟩ := h3 0 x rfl
  obtain ⟨b1, a1, n1, p1, q1, r1, e1⟩ := h3 1 y rfl
  simp only [List.length_cons, List.length_nil] at hv hc htk hxl
  have hx : xs = [Value.bool b0, Value.slice a0 n0 p0, Value.bool b1, Value.slice a1 n1 p1] := by
    match xs, hxl with
    | [u0, t0, u1, t1], _ =>
      simp at q0 r0 q1 r1
      simp [q0, r0, q1, r1]
  have hcur : cur.toList = [Value.bool b0, Value.slice a0 n0 p0, Value.bool b1, Value.slice a1 n1 p1] ++ cur.toList.drop 4 := by
    conv => lhs; rw [← List.take_append_drop 4 cur.toList]
    rw [← hx, ← htk]
  obtain ⟨rest, hrest⟩ : ∃ rest, rest = cur.toList.drop 4 := ⟨_, rfl⟩
  rw [← hrest] at hcur
  have hcu : cur = ([Value.bool b0, Value.slice a0 n0 p0, Value.bool b1, Value.slice a1 n1 p1] ++ rest).toArray := by
    rw [← hcur]
  have hrl : rest.length + 4 = c * 2 := by
    rw [hcu] at hcs
    simp at hcs
    omega
  rw [hcu] at hg
  have f0 : ∀ j, w.frozen? ⟨g, j, none⟩ = false := fun j => eblk_froz hg j
  have k0 : w.cell? ⟨g, 0, none⟩ = some (.bool b0) := (vblk_cells hg 0).trans (by simp)
  have k1 : w.cell? ⟨g, 1, none⟩ = some (.slice a0 n0 p0) := (vblk_cells hg 1).trans (by simp)
  have k2 : w.cell? ⟨g, 2, none⟩ = some (.bool b1) := (vblk_cells hg 2).trans (by simp)
  have k3 : w.cell? ⟨g, 3, none⟩ = some (.slice a1 n1 p1) := (vblk_cells hg 3).trans (by simp)
  have hW1 := heap_setCell_same w g 0 _ _ (.bool b1) hg
  have hW2 := heap_setCell_same _ g 1 _ _ (.slice a1 n1 p1) hW1
  have hW3 := heap_setCell_same _ g 2 _ _ (.bool b0) hW2
  have hW4 := heap_setCell_same _ g 3 _ _ (.slice a0 n0 p0) hW3
  have oo : Only (fun b => b = g) w ((((w.setCell ⟨g, 0, none⟩ (.bool b1)).setCell ⟨g, 1, none⟩ (.slice a1 n1 p1)).setCell ⟨g, 2, none⟩ (.bool b0)).setCell ⟨g, 3, none⟩ (.slice a0 n0 p0)) := ((((Only.refl (fun b => b = g) w).setCell _ _ (fun _ => rfl)).setCell _ _ (fun _ => rfl)).setCell _ _ (fun _ => rfl)).setCell _ _ (fun _ => rfl)
  have hSg : ∀ b, S b → ¬ b = g := fun b hb e => hS b hb (by rw [hv, e]; rfl)
  have F0 : RoE ((((w.setCell ⟨g, 0, none⟩ (.bool b1)).setCell ⟨g, 1, none⟩ (.slice a1 n1 p1)).setCell ⟨g, 2, none⟩ (.bool b0)).setCell ⟨g, 3, none⟩ (.slice a0 n0 p0)) S d B v [y, x] ∧ Only (fun b => v.ownBlock = some b) w ((((w.setCell ⟨g, 0, none⟩ (.bool b1)).setCell ⟨g, 1, none⟩ (.slice a1 n1 p1)).setCell ⟨g, 2, none⟩ (.bool b0)).setCell ⟨g, 3, none⟩ (.slice a0 n0 p0)) := by
    refine ⟨⟨[Value.bool b1, Value.slice a1 n1 p1, Value.bool b0, Value.slice a0 n0 p0], ⟨by simp, .inr ⟨g, c, ([Value.bool b1, Value.slice a1 n1 p1, Value.bool b0, Value.slice a0 n0 p0] ++ rest).toArray, hv, hB, ?_, by simpa using hc, hm, by simp; omega, by simp⟩⟩, fun j q hq => ?_⟩, oo.mono (fun k _ ek => by rw [hv, ek]; rfl)⟩
    · rw [hW4]
      simp
    · match j, hq with
      | 0, hq => simp at hq; subst hq; exact ⟨b1, a1, n1, p1, rfl, rfl, e1.only oo hSg⟩
      | 1, hq => simp at hq; subst hq; exact ⟨b0, a0, n0, p0, rfl, rfl, e0.only oo hSg⟩
      | j + 2, hq => simp at hq
  have F : Hid (RoE (((((w.setCell ⟨g, 0, none⟩ (.bool b1)).setCell ⟨g, 1, none⟩ (.slice a1 n1 p1)).setCell ⟨g, 2, none⟩ (.bool b0)).setCell ⟨g, 3, none⟩ (.slice a0 n0 p0))).drew S d B v [y, x] ∧ Only (fun b => v.ownBlock = some b) w (((((w.setCell ⟨g, 0, none⟩ (.bool b1)).setCell ⟨g, 1, none⟩ (.slice a1 n1 p1)).setCell ⟨g, 2, none⟩ (.bool b0)).setCell ⟨g, 3, none⟩ (.slice a0 n0 p0))).drew) := ⟨F0.1.only ((Only.refl (fun _ => False) _).drew) (fun _ _ g => g) (fun _ _ g => g), F0.2.drew⟩
  have z0 : ∀ j, w.drew.frozen? ⟨g, j, none⟩ = false := f0
  have fz : ∀ (j i : Nat) (u : Value), (w.setCell ⟨g, i, none⟩ u).frozen? ⟨g, j, none⟩ = false := fun j i u => by rw [World.frozen?_setCell]; exact f0 j
  have l0 : w.drew.cell? ⟨g, 0, none⟩ = some (.bool b0) := k0
  have l1 : w.drew.cell? ⟨g, 1, none⟩ = some (.slice a0 n0 p0) := k1
  have l2 : w.drew.cell? ⟨g, 2, none⟩ = some (.bool b1) := k2
  have l3 : w.drew.cell? ⟨g, 3, none⟩ = some (.slice a1 n1 p1) := k3
  have ne : ∀ (W : World) (i j : Nat) (v : Value), i ≠ j → (W.setCell ⟨g, i, none⟩ v).cell? ⟨g, j, none⟩ = W.cell? ⟨g, j, none⟩ := fun W i j v g => by apply World.cell?_setCell_other; intro e; exact g (by injection e)
  have m2 : ((w.setCell ⟨g, 0, none⟩ (.bool b1)).setCell ⟨g, 1, none⟩ (.slice a1 n1 p1)).cell? ⟨g, 2, none⟩ = some (.bool b1) := by rw [ne _ _ _ _ (by omega), ne _ _ _ _ (by omega)]; exact k2
  have m3 : ((w.setCell ⟨g, 0, none⟩ (.bool b1)).setCell ⟨g, 1, none⟩ (.slice a1 n1 p1)).cell? ⟨g, 3, none⟩ = some (.slice a1 n1 p1) := by rw [ne _ _ _ _ (by omega), ne _ _ _ _ (by omega)]; exact k3
  have m2d : ((w.setCell ⟨g, 0, none⟩ (.bool b1)).setCell ⟨g, 1, none⟩ (.slice a1 n1 p1)).drew.cell? ⟨g, 2, none⟩ = some (.bool b1) := m2
  have m3d : ((w.setCell ⟨g, 0, none⟩ (.bool b1)).setCell ⟨g, 1, none⟩ (.slice a1 n1 p1)).drew.cell? ⟨g, 3, none⟩ = some (.slice a1 n1 p1) := m3
  have fy : ∀ j, ((w.setCell ⟨g, 0, none⟩ (.bool b1)).setCell ⟨g, 1, none⟩ (.slice a1 n1 p1)).frozen? ⟨g, j, none⟩ = false := fun j => by rw [World.frozen?_setCell, World.frozen?_setCell]; exact f0 j
  have fyd : ∀ j, ((w.setCell ⟨g, 0, none⟩ (.bool b1)).setCell ⟨g, 1, none⟩ (.slice a1 n1 p1)).drew.frozen? ⟨g, j, none⟩ = false := fy
  have hvv : v = .slice (some ⟨g, 0, none⟩) 2 c := hv
  clear h hS hB hg hc hm hcs htk hxl h3 q0 r0 e0 q1 r1 e1 hx hcur hrest hcu hrl hW1 hW2 hW3 hW4 oo hSg F0 hv ne
  subst hvv
  go_enter Tryz.func78, Tryz.ntmps78
  go_wp2
  go_loopw [2, 3] (fun r q wr => (r = .int .i64 0 ∧ q = .int .i64 1 ∧ Hid (wr = w)) ∨ (r = .int .i64 1 ∧ q = .int .i64 0 ∧ Hid (RoE wr S d B (.slice (some ⟨g, 0, none⟩) 2 c) [y, x] ∧ Only (fun b => (Value.slice (some ⟨g, 0, none⟩) 2 c).ownBlock = some b) w wr))) (fun r _ _ => 1 - vuOf r)
  case atStart => exact .inl ⟨rfl, rfl, rfl⟩
  case round =>
    rcases hrel with ⟨rfl, rfl, HI⟩ | ⟨rfl, rfl, HI⟩
    · have hw5 := HI.out
      subst hw5
      clear HI
      go_wp2
      go_region
      go_wp2
      go_roundw
      case rel => exact .inr ⟨by go_num, by go_num, F.out⟩
      case measure => simp [vuOf]
    · obtain ⟨w5, hw5⟩ : ∃ w5, w5 = wr := ⟨_, rfl⟩
      rw [← hw5] at HI ⊢
      clear hw5 F
      go_wp2
      first | (refine bodyPost_ret (results_none rfl _ _ _) rfl ?_; exact ⟨rfl, HI.out⟩) | (refine ⟨_, results_none rfl _ _ _, rfl, HI.out⟩) | (refine ⟨rfl, _, results_none rfl _ _ _, rfl, HI.out⟩)
set_option maxRecDepth 100000 in
set_option maxHeartbeats 1000000 in
theorem rev_3 {w : World} {S : Nat → Prop} {d B : Nat} {v : Value} {x y z : Ent} (h : RoE w S d B v [x, y, z]) (hS : ∀ b, S b → v.ownBlock ≠ some b) : Calls Tryz.prog 78 #[v] w fun e w' => e = .returned (.tuple #[]) ∧ Hid (RoE w' S d B v [z, y, x] ∧ Only (fun b => v.ownBlock = some b) w w') := by
  obtain ⟨g, c, cur, xs, hv, hB, hg, hc, hm, hcs, htk, hxl, h3⟩ := h.at (by simp)
  obtain ⟨b0, a0, n0, p0, q0, r0, e0⟩ := h3 0 x rfl
  obtain ⟨b1, a1, n1, p1, q1, r1, e1⟩ := h3 1 y rfl
  obtain ⟨b2, a2, n2, p2, q2, r2, e2⟩ := h3 2 z rfl
  simp only [List.length_cons, List.length_nil] at hv hc htk hxl
  have hx : xs = [Value.bool b0, Value.slice a0 n0 p0, Value.bool b1, Value.slice a1 n1 p1, Value.bool b2, Value.slice a2 n2 p2] := by
    match xs, hxl with
    | [u0, t0, u1, t1, u2, t2], _ =>
      simp at q0 r0 q1 r1 q2 r2
      simp [q0, r0, q1, r1, q2, r2]
  have hcur : cur.toList = [Value.bool b0, Value.slice a0 n0 p0, Value.bool b1, Value.slice a1 n1 p1, Value.bool b2, Value.slice a2 n2 p2] ++ cur.toList.drop 6 := by
    conv => lhs; rw [← List.take_append_drop 6 cur.toList]
    rw [← hx, ← htk]
  obtain ⟨rest, hrest⟩ : ∃ rest, rest = cur.toList.drop 6 := ⟨_, rfl⟩
  rw [← hrest] at hcur
  have hcu : cur = ([Value.bool b0, Value.slice a0 n0 p0, Value.bool b1, Value.slice a1 n1 p1, Value.bool b2, Value.slice a2 n2 p2] ++ rest).toArray := by
    rw [← hcur]
  have hrl : rest.length + 6 = c * 2 := by
    rw [hcu] at hcs
    simp at hcs
    omega
  rw [hcu] at hg
  have f0 : ∀ j, w.frozen? ⟨g, j, none⟩ = false := fun j => eblk_froz hg j
  have k0 : w.cell? ⟨g, 0, none⟩ = some (.bool b0) := (vblk_cells hg 0).trans (by simp)
  have k1 : w.cell? ⟨g, 1, none⟩ = some (.slice a0 n0 p0) := (vblk_cells hg 1).trans (by simp)
  have k2 : w.cell? ⟨g, 4, none⟩ = some (.bool b2) := (vblk_cells hg 4).trans (by simp)
  have k3 : w.cell? ⟨g, 5, none⟩ = some (.slice a2 n2 p2) := (vblk_cells hg 5).trans (by simp)
  have hW1 := heap_setCell_same w g 0 _ _ (.bool b2) hg
  have hW2 := heap_setCell_same _ g 1 _ _ (.slice a2 n2 p2) hW1
  have hW3 := heap_setCell_same _ g 4 _ _ (.bool b0) hW2
  have hW4 := heap_setCell_same _ g 5 _ _ (.slice a0 n0 p0) hW3
  have oo : Only (fun b => b = g) w ((((w.setCell ⟨g, 0, none⟩ (.bool b2)).setCell ⟨g, 1, none⟩ (.slice a2 n2 p2)).setCell ⟨g, 4, none⟩ (.bool b0)).setCell ⟨g, 5, none⟩ (.slice a0 n0 p0)) := ((((Only.refl (fun b => b = g) w).setCell _ _ (fun _ => rfl)).setCell _ _ (fun _ => rfl)).setCell _ _ (fun _ => rfl)).setCell _ _ (fun _ => rfl)
  have hSg : ∀ b, S b → ¬ b = g := fun b hb e => hS b hb (by rw [hv, e]; rfl)
  have F0 : RoE ((((w.setCell ⟨g, 0, none⟩ (.bool b2)).setCell ⟨g, 1, none⟩ (.slice a2 n2 p2)).setCell ⟨g, 4, none⟩ (.bool b0)).setCell ⟨g, 5, none⟩ (.slice a0 n0 p0)) S d B v [z, y, x] ∧ Only (fun b => v.ownBlock = some b) w ((((w.setCell ⟨g, 0, none⟩ (.bool b2)).setCell ⟨g, 1, none⟩ (.slice a2 n2 p2)).setCell ⟨g, 4, none⟩ (.bool b0)).setCell ⟨g, 5, none⟩ (.slice a0 n0 p0)) := by
    refine ⟨⟨[Value.bool b2, Value.slice a2 n2 p2, Value.bool b1, Value.slice a1 n1 p1, Value.bool b0, Value.slice a0 n0 p0], ⟨by simp, .inr ⟨g, c, ([Value.bool b2, Value.slice a2 n2 p2, Value.bool b1, Value.slice a1 n1 p1, Value.bool b0, Value.slice a0 n0 p0] ++ rest).toArray, hv, hB, ?_, by simpa using hc, hm, by simp; omega, by simp⟩⟩, fun j q hq => ?_⟩, oo.mono (fun k _ ek => by rw [hv, ek]; rfl)⟩
    · rw [hW4]
      simp
    · match j, hq with
      | 0, hq => simp at hq; subst hq; exact ⟨b2, a2, n2, p2, rfl, rfl, e2.only oo hSg⟩
      | 1, hq => simp at hq; subst hq; exact ⟨b1, a1, n1, p1, rfl, rfl, e1.only oo hSg⟩
      | 2, hq => simp at hq; subst hq; exact ⟨b0, a0, n0, p0, rfl, rfl, e0.only oo hSg⟩
      | j + 3, hq => simp at hq
  have F : Hid (RoE (((((w.setCell ⟨g, 0, none⟩ (.bool b2)).setCell ⟨g, 1, none⟩ (.slice a2 n2 p2)).setCell ⟨g, 4, none⟩ (.bool b0)).setCell ⟨g, 5, none⟩ (.slice a0 n0 p0))).drew S d B v [z, y, x] ∧ Only (fun b => v.ownBlock = some b) w (((((w.setCell ⟨g, 0, none⟩ (.bool b2)).setCell ⟨g, 1, none⟩ (.slice a2 n2 p2)).setCell ⟨g, 4, none⟩ (.bool b0)).setCell ⟨g, 5, none⟩ (.slice a0 n0 p0))).drew) := ⟨F0.1.only ((Only.refl (fun _ => False) _).drew) (fun _ _ g => g) (fun _ _ g => g), F0.2.drew⟩
  have z0 : ∀ j, w.drew.frozen? ⟨g, j, none⟩ = false := f0
  have fz : ∀ (j i : Nat) (u : Value), (w.setCell ⟨g, i, none⟩ u).frozen? ⟨g, j, none⟩ = false := fun j i u => by rw [World.frozen?_setCell]; exact f0 j
  have l0 : w.drew.cell? ⟨g, 0, none⟩ = some (.bool b0) := k0
  have l1 : w.drew.cell? ⟨g, 1, none⟩ = some (.slice a0 n0 p0) := k1
  have l2 : w.drew.cell? ⟨g, 4, none⟩ = some (.bool b2) := k2
  have l3 : w.drew.cell? ⟨g, 5, none⟩ = some (.slice a2 n2 p2) := k3
  have ne : ∀ (W : World) (i j : Nat) (v : Value), i ≠ j → (W.setCell ⟨g, i, none⟩ v).cell? ⟨g, j, none⟩ = W.cell? ⟨g, j, none⟩ := fun W i j v g => by apply World.cell?_setCell_other; intro e; exact g (by injection e)
  have m2 : ((w.setCell ⟨g, 0, none⟩ (.bool b2)).setCell ⟨g, 1, none⟩ (.slice a2 n2 p2)).cell? ⟨g, 4, none⟩ = some (.bool b2) := by rw [ne _ _ _ _ (by omega), ne _ _ _ _ (by omega)]; exact k2
  have m3 : ((w.setCell ⟨g, 0, none⟩ (.bool b2)).setCell ⟨g, 1, none⟩ (.slice a2 n2 p2)).cell? ⟨g, 5, none⟩ = some (.slice a2 n2 p2) := by rw [ne _ _ _ _ (by omega), ne _ _ _ _ (by omega)]; exact k3
  have m2d : ((w.setCell ⟨g, 0, none⟩ (.bool b2)).setCell ⟨g, 1, none⟩ (.slice a2 n2 p2)).drew.cell? ⟨g, 4, none⟩ = some (.bool b2) := m2
  have m3d : ((w.setCell ⟨g, 0, none⟩ (.bool b2)).setCell ⟨g, 1, none⟩ (.slice a2 n2 p2)).drew.cell? ⟨g, 5, none⟩ = some (.slice a2 n2 p2) := m3
  have fy : ∀ j, ((w.setCell ⟨g, 0, none⟩ (.bool b2)).setCell ⟨g, 1, none⟩ (.slice a2 n2 p2)).frozen? ⟨g, j, none⟩ = false := fun j => by rw [World.frozen?_setCell, World.frozen?_setCell]; exact f0 j
  have fyd : ∀ j, ((w.setCell ⟨g, 0, none⟩ (.bool b2)).setCell ⟨g, 1, none⟩ (.slice a2 n2 p2)).drew.frozen? ⟨g, j, none⟩ = false := fy
  have hvv : v = .slice (some ⟨g, 0, none⟩) 3 c := hv
  clear h hS hB hg hc hm hcs htk hxl h3 q0 r0 e0 q1 r1 e1 q2 r2 e2 hx hcur hrest hcu hrl hW1 hW2 hW3 hW4 oo hSg F0 hv ne
  subst hvv
  go_enter Tryz.func78, Tryz.ntmps78
  go_wp2
  go_loopw [2, 3] (fun r q wr => (r = .int .i64 0 ∧ q = .int .i64 2 ∧ Hid (wr = w)) ∨ (r = .int .i64 1 ∧ q = .int .i64 1 ∧ Hid (RoE wr S d B (.slice (some ⟨g, 0, none⟩) 3 c) [z, y, x] ∧ Only (fun b => (Value.slice (some ⟨g, 0, none⟩) 3 c).ownBlock = some b) w wr))) (fun r _ _ => 1 - vuOf r)
  case atStart => exact .inl ⟨rfl, rfl, rfl⟩
  case round =>
    rcases hrel with ⟨rfl, rfl, HI⟩ | ⟨rfl, rfl, HI⟩
    · have hw5 := HI.out
      subst hw5
      clear HI
      go_wp2
      go_region
      go_wp2
      go_roundw
      case rel => exact .inr ⟨by go_num, by go_num, F.out⟩
      case measure => simp [vuOf]
    · obtain ⟨w5, hw5⟩ : ∃ w5, w5 = wr := ⟨_, rfl⟩
      rw [← hw5] at HI ⊢
      clear hw5 F
      go_wp2
      first | (refine bodyPost_ret (results_none rfl _ _ _) rfl ?_; exact ⟨rfl, HI.out⟩) | (refine ⟨_, results_none rfl _ _ _, rfl, HI.out⟩) | (refine ⟨rfl, _, results_none rfl _ _ _, rfl, HI.out⟩)
end Go.Proofs.YtodbkihobgdpdaaGreatDoor
namespace Go.Proofs.YtodbkihobgdpdaaGreatDoor
open Go.RowKit Go.Lib
set_option linter.unusedSimpArgs false
set_option linter.unusedVariables false
theorem rev_any {w : World} {S : Nat → Prop} {d B : Nat} {v : Value} {m : List Ent} (h : RoE w S d B v m) (h1 : 1 ≤ m.length) (h3 : m.length ≤ 3) (hS : ∀ b, S b → v.ownBlock ≠ some b) : Calls Tryz.prog 78 #[v] w fun e w' => e = .returned (.tuple #[]) ∧ Hid (RoE w' S d B v m.reverse ∧ Only (fun b => v.ownBlock = some b) w w') := by
  match m, h1, h3 with
  | [x], _, _ => exact rev_1 h
  | [x, y], _, _ => exact rev_2 h hS
  | [x, y, z], _, _ => exact rev_3 h hS
/-- an entry is put behind a row of them -/
theorem RoE.snoc {w W : World} {S : Nat → Prop} {d B : Nat} {v : Value} {m : List Ent} {x : Ent} {b : Bool} {ao : Option Addr} {n cap : Nat} (h : RoE w S d B v m) (he : EnAt w S d x b ao n cap) (o : Only (fun _ => False) w W) (g : Nat) (hW : W.heap[g]? = some (.cells #[.bool b, .slice ao n cap] 130)) (hB : B ≤ W.heap.size) (hl : m.length ≤ 2000000) (hSB : ∀ b, S b → b < B) :
    ∃ a' c' w', (∀ ty, (Builtin.append_ #[107, 107] ty #[v, .slice (some ⟨g, 0, none⟩) 1 1]).run Tryz.prog W = .ok (.slice a' (m.length + 1) c') w') ∧ RoE w' S d B (.slice a' (m.length + 1) c') (m ++ [x]) ∧ Only (fun b => v.ownBlock = some b) w w' := by
  obtain ⟨xs, h2, h3⟩ := h
  obtain ⟨v', w3, hr, own3, hg3, hat⟩ := app_en (b := b) (ao := ao) (m := n) (cap := cap) h2 o g hW hB hl
  obtain ⟨a3, c3, hv3⟩ := ownsRow_slice own3
  subst hv3
  have oo : Only (fun b => v.ownBlock = some b) w w3 := (o.mono (bs' := fun b => v.ownBlock = some b) (fun _ _ g => g.elim)).grown hg3 (fun k e _ => e)
  have hb : ∀ b, S b → ¬ v.ownBlock = some b := fun b hb e => by have := (h2.lt b e).1; have := hSB b hb; omega
  refine ⟨a3, c3, w3, hr, ⟨_, by simpa using own3, fun j y hy => ?_⟩, oo⟩
  have hx : xs.length = m.length * 2 := h2.1
  by_cases hj : j < m.length
  · rw [List.getElem?_append_left hj] at hy
    obtain ⟨b', ao', n', cap', g1, g2, g3⟩ := h3 j y hy
    exact ⟨b', ao', n', cap', by rw [List.getElem?_append_left (by omega)]; exact g1, by rw [List.getElem?_append_left (by omega)]; exact g2, g3.only oo hb⟩
  · have hj2 : j < (m ++ [x]).length := (List.getElem?_eq_some_iff.1 hy).1
    have hj3 : j = m.length := by simp at hj2; omega
    subst hj3
    simp at hy
    subst hy
    exact ⟨b, ao, n, cap, by rw [List.getElem?_append_right (by omega), hx, show 2 * m.length - m.length * 2 = 0 by omega]; rfl, by rw [List.getElem?_append_right (by omega), hx, show 2 * m.length + 1 - m.length * 2 = 1 by omega]; rfl, he.only oo hb⟩
theorem roe_nil (w : World) (S : Nat → Prop) (d B : Nat) : RoE w S d B (.slice none 0 0) [] := ⟨[], World.ownsRow_nil _ _ _ _, fun j x h => by simp at h⟩
/-- the places that a word leaves stand in memory, apart from the list -/
def PlAt (w : World) (s : Nat) (v : Value) (ps : List Nat) (pa : Option Addr) : Prop := ∀ (j p : Nat), ps[j]? = some p → ∃ pg, pa = some ⟨pg, 0, none⟩ ∧ pg < w.heap.size ∧ pg ≠ s ∧ v.ownBlock ≠ some pg ∧ w.cell? ⟨pg, j, none⟩ = some (.int .i64 (p : Int))
set_option maxRecDepth 100000 in
set_option maxHeartbeats 1000000 in
theorem move_any {w : World} {S : Nat → Prop} {d s tk : Nat} {st : List Ent} {v : Value} (a n : Nat) (ps : List Nat) (h : EsV w S d s st tk v) (hS : ∀ b, S b → b < s) (hn : 1 ≤ n ∧ n ≤ 3) (hps : ∀ p ∈ ps, p < n) (hl3 : ps.length ≤ 3) (pa : Option Addr) (pc : Nat) (hp : PlAt w s v ps pa) (hl : potE ⟨a, st, tk⟩ + n + ps.length ≤ 1000000) :
    Calls Tryz.prog 70 #[.pointer (some ⟨s, 0, none⟩), .int .i64 (n : Int), .slice pa ps.length pc] w fun e w' => e = .returned (.tuple #[]) ∧ Hid (EsO w w' S d s v (movE n ps ⟨a, st, tk⟩).st (movE n ps ⟨a, st, tk⟩).tk) := by
  have hlt := EsAt.lt ⟨v, h⟩
  have hvlt : ∀ k, v.ownBlock = some k → s + 1 ≤ k ∧ k < w.heap.size := by
    obtain ⟨xs, _, h2, _⟩ := h
    exact h2.lt
  have HH : Hid (EsV w S d s st tk v ∧ (s < w.heap.size) ∧ (∀ b, S b → b < s) ∧ (∀ k, v.ownBlock = some k → s + 1 ≤ k ∧ k < w.heap.size) ∧ (1 ≤ n ∧ n ≤ 3) ∧ (∀ p ∈ ps, p < n) ∧ ps.length ≤ 3 ∧ PlAt w s v ps pa ∧ potE ⟨a, st, tk⟩ + n + ps.length ≤ 1000000) := ⟨h, hlt, hS, hvlt, hn, hps, hl3, hp, hl⟩
  obtain ⟨L, hL⟩ : ∃ L, L = ps.length := ⟨_, rfl⟩
  have HLL : Hid (L = ps.length) := hL
  rw [← hL]
  clear h hlt hS hvlt hn hps hl3 hp hl hL
  go_enter Tryz.func70, Tryz.ntmps70
  go_wp2
  go_loopw [6, 10] (fun r6 r10 wr => ∃ (j : Nat) (a' : Option Addr) (c' : Nat), r10 = .int .i64 (j : Int) ∧ j ≤ n ∧ r6 = .slice a' j c' ∧ Hid (RoE wr S d w.heap.size (.slice a' j c') (popsE j ⟨a, st, tk⟩).1 ∧ (∃ v', EsV wr S d s (popsE j ⟨a, st, tk⟩).2.st (popsE j ⟨a, st, tk⟩).2.tk v' ∧ v'.ownBlock = v.ownBlock) ∧ Only (fun b => b = s) w wr)) (fun _ r10 _ => n - vuOf r10)
  case atStart => exact ⟨0, none, 0, rfl, Nat.zero_le _, rfl, roe_nil _ _ _ _, ⟨v, HH.out.1, rfl⟩, Only.refl _ _⟩
  case round =>
    obtain ⟨j, a', c', rfl, hj, rfl, HI⟩ := hrel
    obtain ⟨w1, hw1⟩ : ∃ w1, w1 = wr := ⟨_, rfl⟩
    rw [← hw1] at HI ⊢
    clear hw1
    obtain ⟨-, hlt, hS, hvlt, hn, hps, hl3, hp, hl⟩ := HH.out
    by_cases hjn : j < n
    · have hpp := popsE_pot j ⟨a, st, tk⟩
      obtain ⟨v1, ev, hv1⟩ := HI.out.2.1
      have HC : Hid _ := pop_v (popsE j ⟨a, st, tk⟩).2.a ev hS (by
        have : potE ⟨(popsE j ⟨a, st, tk⟩).2.a, (popsE j ⟨a, st, tk⟩).2.st, (popsE j ⟨a, st, tk⟩).2.tk⟩ = potE (popsE j ⟨a, st, tk⟩).2 := rfl
        omega)
      have HX : Hid (j < n ∧ v1.ownBlock = v.ownBlock) := ⟨hjn, hv1⟩
      have i1 : (j : Int) < (n : Int) := by omega
      have i4 : j ≤ 1000000 := by omega
      clear hpp hjn hj hlt hS hvlt hn hps hl3 hp hl ev hv1
      go_wp2_with fail
      refine (show Calls Tryz.prog 76 _ _ _ from HC.out).mono ?_
      rintro e w2 ⟨b, ao, m, cap, rfl, G⟩
      obtain ⟨g1, ⟨v', g2, g4⟩, g3⟩ := G.out
      have hz := HI.out.2.2.size
      have hz2 := g3.size
      have hSw : ∀ b, S b → b < w.heap.size := fun b hb => by have := HH.out.2.2.1 b hb; have := HH.out.2.1; omega
      have hr1 : RoE w2 S d w.heap.size (.slice a' j c') (popsE j ⟨a, st, tk⟩).1 := HI.out.1.only g3 (fun k hk e => by
        obtain ⟨xs, h2, _⟩ := HI.out.1
        have := (h2.lt k hk).1
        have := HH.out.2.1
        omega) (fun k hk e => by have := HH.out.2.2.1 k hk; omega)
      have hpl := popsE_len j ⟨a, st, tk⟩
      obtain ⟨a2, c2, w3, hr, hro, o3⟩ := RoE.snoc (W := w2.alloc (.cells #[.bool b, .slice ao m cap] 130)) hr1 g1 ((Only.refl _ w2).alloc _) w2.heap.size (ealloc_at _ _ _ rfl) (by simp; omega) (by rw [hpl]; omega) hSw
      rw [hpl] at hr hro
      have HF : Hid (RoE w3 S d w.heap.size (.slice a2 (j + 1) c2) (popsE (j + 1) ⟨a, st, tk⟩).1 ∧ (∃ v', EsV w3 S d s (popsE (j + 1) ⟨a, st, tk⟩).2.st (popsE (j + 1) ⟨a, st, tk⟩).2.tk v' ∧ v'.ownBlock = v.ownBlock) ∧ Only (fun b => b = s) w w3) := by
        have hgr : ∀ k, (Value.slice a' j c').ownBlock = some k → w.heap.size ≤ k := fun k hk => by
          obtain ⟨xs, h2, _⟩ := HI.out.1
          exact (h2.lt k hk).1
        rw [popsE_snoc]
        refine ⟨hro, ⟨v', ?_, g4.trans HX.out.2⟩, (HI.out.2.2.trans g3 (fun k _ e => e)).trans o3 (fun k hk e => by have := hgr k e; omega)⟩
        obtain ⟨xs, q1, q2, q3⟩ := g2
        have hvl := HH.out.2.2.2.1
        refine ⟨xs, (o3.block s (Array.getElem?_eq_some_iff.1 q1).1 (fun e => by have := hgr s e; have := HH.out.2.1; omega)).trans q1, o3.owns q2 (fun k hk e => ?_), fun j x hx => ?_⟩
        · have := hgr k e
          have := (hvl k (by rw [← hk, ← HX.out.2]; exact g4.symm)).2
          omega
        · obtain ⟨b', ao', n', cap', r1, r2, r3⟩ := q3 j x hx
          exact ⟨b', ao', n', cap', r1, r2, r3.only o3 (fun k hk e => by have := hgr k e; have := hSw k hk; omega)⟩
      have HR : Hid _ := hr
      clear HC HI G g1 g2 g4 g3 hz hz2 hSw hr1 hpl hr hro o3
      go_wp2_with (at_builtin; refine vwpList_append_run rfl _ _ 107 rfl _ _ _ rfl rfl HR.out ?_)
      go_roundw
      case rel => exact ⟨j + 1, a2, c2, by go_num, by have := HX.out.1; omega, rfl, HF⟩
      case measure => simp only [vuOf]; have := HX.out.1; omega
    · obtain rfl : j = n := by omega
      have i1 : ¬ (j : Int) < (j : Int) := by omega
      have hpl := popsE_len j ⟨a, st, tk⟩
      obtain ⟨M, hM⟩ : ∃ M, M = (popsE j ⟨a, st, tk⟩).1 := ⟨_, rfl⟩
      obtain ⟨P, hP⟩ : ∃ P, P = (popsE j ⟨a, st, tk⟩).2 := ⟨_, rfl⟩
      have HMP : Hid (M = (popsE j ⟨a, st, tk⟩).1 ∧ P = (popsE j ⟨a, st, tk⟩).2 ∧ M.length = j) := ⟨hM, hP, by rw [hM]; exact hpl⟩
      have hro : RoE w1 S d w.heap.size (.slice a' j c') M := by rw [hM]; exact HI.out.1
      obtain ⟨v1, ev, hv1⟩ := HI.out.2.1
      rw [← hP] at ev
      have hgr : ∀ k, (Value.slice a' j c').ownBlock = some k → w.heap.size ≤ k ∧ k < w1.heap.size := fun k hk => by
        obtain ⟨xs, h2, _⟩ := hro
        exact h2.lt k hk
      have hSw : ∀ b, S b → b < w.heap.size := fun b hb => by have := hS b hb; omega
      have HV : Hid _ := rev_any hro (by rw [HMP.out.2.2]; omega) (by rw [HMP.out.2.2]; omega) (fun b hb e => by have := hgr b e; have := hSw b hb; omega)
      have HI2 : Hid (EsV w1 S d s P.st P.tk v1 ∧ v1.ownBlock = v.ownBlock ∧ Only (fun b => b = s) w w1 ∧ (∀ k, (Value.slice a' j c').ownBlock = some k → w.heap.size ≤ k ∧ k < w1.heap.size) ∧ ∀ b, S b → b < w.heap.size) := ⟨ev, hv1, HI.out.2.2, hgr, hSw⟩
      clear HI hpl hM hP hro ev hv1 hgr hSw hjn hj hlt hS hvlt hn hps hl3 hp hl
      go_wp2_with fail
      refine (show Calls Tryz.prog 78 _ _ _ from HV.out).mono ?_
      rintro e w2 ⟨rfl, G⟩
      obtain ⟨gr, go⟩ := G.out
      obtain ⟨-, hlt, hS, hvlt, hn, hps, hl3, hp, hl⟩ := HH.out
      obtain ⟨ev, hv1, o1, hgr, hSw⟩ := HI2.out
      have hlenM : M.reverse.length = j := by rw [List.length_reverse]; exact HMP.out.2.2
      have hMne : M.reverse ≠ [] := by intro e; rw [e] at hlenM; simp at hlenM; omega
      obtain ⟨g, c0, -, -, hvg, -⟩ := gr.at hMne
      rw [hlenM] at hvg
      injection hvg with ha' _ hc'
      subst ha'
      have hgg := hgr g rfl
      have ev2 : EsV w2 S d s P.st P.tk v1 := by
        obtain ⟨xs, q1, q2, q3⟩ := ev
        refine ⟨xs, (go.block s (Array.getElem?_eq_some_iff.1 q1).1 (fun e => by have := hgr s e; omega)).trans q1, go.owns q2 (fun k hk e => ?_), fun j x hx => ?_⟩
        · have := hgr k e
          have := (hvlt k (by rw [← hv1]; exact hk)).2
          omega
        · obtain ⟨b', ao', n', cap', r1, r2, r3⟩ := q3 j x hx
          exact ⟨b', ao', n', cap', r1, r2, r3.only go (fun k hk e => by have := hgr k e; have := hSw k hk; omega)⟩
      have o2 : Only (fun b => b = s) w w2 := o1.trans go (fun k hk e => by have := hgr k e; omega)
      have HW : Hid (RoE w2 S d w.heap.size (.slice (some ⟨g, 0, none⟩) j c') M.reverse ∧ EsV w2 S d s P.st P.tk v1 ∧ v1.ownBlock = v.ownBlock ∧ Only (fun b => b = s) w w2 ∧ w.heap.size ≤ g ∧ g < w2.heap.size) := ⟨gr, ev2, hv1, o2, hgg.1, by have := go.size; omega⟩
      have HPp : Hid (P.st.length + L ≤ 1000000) := by
        have h1 := popsE_pot j ⟨a, st, tk⟩
        have h3 : potE (popsE j ⟨a, st, tk⟩).2 = P.st.length + P.tk + 32 * P.a := by rw [HMP.out.2.1]; rfl
        have := HLL.out
        show P.st.length + L ≤ 1000000
        omega
      have HS3 : Hid (L ≤ 3) := by rw [HLL.out]; exact hl3
      clear HV G gr go hlt hS hvlt hn hps hl3 hp hl ev hv1 o1 hgr hSw hlenM hMne ev2 o2 hgg hc' HI2
      go_wp2
      go_loopw [22] (fun r22 wr => ∃ (q : Nat), r22 = .int .i64 (q : Int) ∧ q ≤ L ∧ Hid (RoE wr S d w.heap.size (.slice (some ⟨g, 0, none⟩) j c') M.reverse ∧ (∃ v', EsV wr S d s (P.st ++ (ps.take q).map (fun p => M.reverse.getD p none)) P.tk v' ∧ v'.ownBlock ≠ some g ∧ PlAt wr s v' ps pa ∧ RwK w v v') ∧ Only (fun b => b = s ∨ v.ownBlock = some b) w wr)) (fun r22 _ => L - vuOf r22)
      case atStart =>
        obtain ⟨p1, p2, p3, p4, p5, p6⟩ := HW.out
        refine ⟨0, rfl, Nat.zero_le _, p1, ⟨v1, by simpa using p2, fun e => ?_, fun i p hip => ?_, .inl p3⟩, p4.mono (fun k _ e => .inl e)⟩
        · rw [p3] at e
          have := (HH.out.2.2.2.1 g e).2
          omega
        · obtain ⟨pg, t1, t2, t3, t4, t5⟩ := HH.out.2.2.2.2.2.2.2.1 i p hip
          exact ⟨pg, t1, by have := p4.size; omega, t3, by rw [p3]; exact t4, p4.cell t5 t3⟩
      case round =>
        obtain ⟨q, rfl, hq, HI⟩ := hrel
        obtain ⟨w5, hw5⟩ : ∃ w5, w5 = wr := ⟨_, rfl⟩
        rw [← hw5] at HI ⊢
        clear hw5 HW
        obtain ⟨p1, ⟨v5, p2, p3, p4, p9⟩, p5⟩ := HI.out
        have hLL := HLL.out
        have hL3 := HS3.out
        by_cases hqL : q < L
        · obtain ⟨p, hpq⟩ : ∃ p, ps[q]? = some p := ⟨ps[q]'(by omega), List.getElem?_eq_getElem (by omega)⟩
          obtain ⟨pg, t1, t2, t3, t4, t5⟩ := p4 q p hpq
          have hpj : p < j := HH.out.2.2.2.2.2.1 p (List.mem_of_getElem? hpq)
          obtain ⟨y, hy⟩ : ∃ y, M.reverse[p]? = some y := ⟨M.reverse[p]'(by rw [List.length_reverse, HMP.out.2.2]; exact hpj), List.getElem?_eq_getElem _⟩
          have hlenM : M.reverse.length = j := by rw [List.length_reverse]; exact HMP.out.2.2
          obtain ⟨b, ao, m, cap, k0, k1, k2⟩ := RoE.get (ao := none) (c := c') (g := g) (by rw [hlenM]; exact p1) hy
          have HC : Hid _ := push_v p2 HH.out.2.2.1 k2 (by have := HPp.out; simp; omega)
          have HX : Hid (q < L ∧ ps[q]? = some p ∧ M.reverse[p]? = some y) := ⟨hqL, hpq, hy⟩
          have HY : Hid (RoE w5 S d w.heap.size (.slice (some ⟨g, 0, none⟩) j c') M.reverse ∧ v5.ownBlock ≠ some g ∧ PlAt w5 s v5 ps pa ∧ Only (fun b => b = s ∨ v.ownBlock = some b) w w5 ∧ (∀ k, v5.ownBlock = some k → s + 1 ≤ k) ∧ (w.heap.size ≤ g ∧ g < w5.heap.size) ∧ RwK w v v5) := by
            have hg9 : w.heap.size ≤ g ∧ g < w5.heap.size := by
              obtain ⟨xs, h2, _⟩ := p1
              exact h2.lt g rfl
            refine ⟨p1, p3, p4, p5, fun k hk => ?_, hg9, p9⟩
            obtain ⟨xs, _, h2, _⟩ := p2
            exact (h2.lt k hk).1
          have i1 : (q : Int) < (L : Int) := by omega
          have i2 : (p : Int) < (j : Int) := by omega
          have i3 : (0 : Int) ≤ (p : Int) := by omega
          have i5 : (0 : Int) ≤ (q : Int) := by omega
          have i4 : q ≤ 1000000 := by omega
          subst t1
          clear p1 p2 p3 p4 p5 p9 hLL hL3 hqL hpq t2 t3 t4 hpj hy hlenM k2 hq HI
          go_wp2_with fail
          refine (show Calls Tryz.prog 55 _ _ _ from HC.out).mono ?_
          rintro e w6 ⟨rfl, G⟩
          have HF : Hid (RoE w6 S d w.heap.size (.slice (some ⟨g, 0, none⟩) j c') M.reverse ∧ (∃ v', EsV w6 S d s (P.st ++ (ps.take (q + 1)).map (fun p => M.reverse.getD p none)) P.tk v' ∧ v'.ownBlock ≠ some g ∧ PlAt w6 s v' ps (some ⟨pg, 0, none⟩) ∧ RwK w v v') ∧ Only (fun b => b = s ∨ v.ownBlock = some b) w w6) := by
            obtain ⟨⟨v6, g1, g2⟩, g3⟩ := G.out
            obtain ⟨p1, p3, p4, p5, p6, ⟨p7, p8⟩, p9⟩ := HY.out
            have hst := EsO.step p9 p5 ⟨⟨v6, g1, g2⟩, g3⟩
            have hsw := HH.out.2.1
            have hS := HH.out.2.2.1
            refine ⟨p1.only g3 (fun k hk e => ?_) (fun k hk e => ?_), ⟨v6, ?_, fun e => ?_, fun i r hir => ?_, ?_⟩, hst.2⟩
            · have hk2 : g = k := by injection hk
              rcases e with e | e
              · omega
              · exact p3 (by rw [hk2]; exact e)
            · have := hS k hk
              rcases e with e | e
              · omega
              · have := p6 k e
                omega
            · rw [List.take_add_one, HX.out.2.1]
              have e9 : M.reverse.getD p none = y := by rw [List.getD_eq_getElem?_getD, HX.out.2.2]; rfl
              simp only [Option.toList, List.map_append, List.map_cons, List.map_nil, e9]
              rw [← List.append_assoc]
              exact g1
            · rcases g2 with g2 | ⟨k, g2, g4⟩
              · exact p3 (g2 ▸ e)
              · rw [g2] at e
                injection e with e
                omega
            · obtain ⟨pg', u1, u2, u3, u4, u5⟩ := p4 i r hir
              refine ⟨pg', u1, by have := g3.size; omega, u3, fun e => ?_, g3.cell u5 (fun e => ?_)⟩
              · rcases g2 with g2 | ⟨k, g2, g4⟩
                · exact u4 (g2 ▸ e)
                · rw [g2] at e
                  injection e with e
                  omega
              · rcases e with e | e
                · exact u3 e
                · exact u4 e
            · rcases g2 with g2 | ⟨k, g2, g4⟩
              · rcases p9 with p9 | ⟨k, p9, p10⟩
                · exact .inl (g2.trans p9)
                · exact .inr ⟨k, g2.trans p9, p10⟩
              · exact .inr ⟨k, g2, by have := p5.size; omega⟩
          clear HC G HY
          go_wp2
          go_roundw
          case rel => exact ⟨q + 1, by go_num, by have := HX.out.1; omega, HF⟩
          case measure => simp only [vuOf]; have := HX.out.1; omega
        · obtain rfl : q = L := by omega
          have i1 : ¬ (q : Int) < (q : Int) := by omega
          have F : Hid (EsO w w5 S d s v (movE j ps ⟨a, st, tk⟩).st (movE j ps ⟨a, st, tk⟩).tk) := by
            have e1 : (movE j ps ⟨a, st, tk⟩).st = P.st ++ ps.map (fun p => M.reverse.getD p none) := by rw [HMP.out.1, HMP.out.2.1]; rfl
            have e2 : (movE j ps ⟨a, st, tk⟩).tk = P.tk := by rw [HMP.out.2.1]; rfl
            rw [e1, e2]
            rw [show ps.take q = ps by rw [hLL]; exact List.take_length] at p2
            exact ⟨⟨v5, p2, p9⟩, p5⟩
          clear HI hq hqL p1 p2 p3 p4 p5 p9 hLL hL3
          go_wp2
          first | (refine bodyPost_ret (results_none rfl _ _ _) rfl ?_; exact ⟨rfl, F.out⟩) | (refine ⟨_, results_none rfl _ _ _, rfl, F.out⟩) | (refine ⟨rfl, _, results_none rfl _ _ _, rfl, F.out⟩)
end Go.Proofs.YtodbkihobgdpdaaGreatDoor
namespace Go.Proofs.YtodbkihobgdpdaaGreatDoor
open Go.RowKit Go.Lib
set_option linter.unusedSimpArgs false
set_option linter.unusedVariables false
/-- what moved answers -/
def MvA (r : Option (List Nat)) (w : World) (e : Ending) (w' : World) : Prop := match r with
  | none => e = .returned (.tuple #[.slice none 0 0, .bool false]) ∧ Only (fun _ => False) w w'
  | some ps => ∃ pa pc, e = .returned (.tuple #[.slice pa ps.length pc, .bool true]) ∧ Hid ((∀ (j p : Nat), ps[j]? = some p → ∃ pg, pa = some ⟨pg, 0, none⟩ ∧ w.heap.size ≤ pg ∧ pg < w'.heap.size ∧ w'.cell? ⟨pg, j, none⟩ = some (.int .i64 (p : Int))) ∧ Only (fun _ => False) w w')
theorem mvF_no (l : List UInt8) : ∀ q : List (List UInt8 × List Nat), (∀ x ∈ q, l ≠ x.1) → mvF l q = none
  | [], _ => rfl
  | x :: r, h => by
    unfold mvF
    rw [if_neg (h x (by simp)), mvF_no l r (fun y hy => h y (by simp [hy]))]
set_option maxRecDepth 100000 in
theorem mo_0 (w : World) : Calls Tryz.prog 68 #[.string ⟨#[100, 117, 112]⟩] w (MvA (mvP ⟨#[100, 117, 112]⟩) w) := by
  rw [show mvP ⟨#[100, 117, 112]⟩ = some [0, 0] from by kernel_rfl]
  have F : Hid ((∀ (j p : Nat), [0, 0][j]? = some p → ∃ pg, some (⟨w.heap.size, 0, none⟩ : Addr) = some ⟨pg, 0, none⟩ ∧ w.heap.size ≤ pg ∧ pg < (w.alloc (.cells #[.int .i64 0, .int .i64 0] 3)).heap.size ∧ (w.alloc (.cells #[.int .i64 0, .int .i64 0] 3)).cell? ⟨pg, j, none⟩ = some (.int .i64 (p : Int))) ∧ Only (fun _ => False) w (w.alloc (.cells #[.int .i64 0, .int .i64 0] 3))) := by
    refine ⟨fun j p hp => ⟨w.heap.size, rfl, Nat.le_refl _, by simp, ?_⟩, (Only.refl _ w).alloc _⟩
    rw [vblk_cells (ealloc_at w (.cells #[.int .i64 0, .int .i64 0] 3) _ rfl)]
    match j, hp with
    | 0, hp => simp at hp; subst hp; rfl
    | 1, hp => simp at hp; subst hp; rfl
    | j + 2, hp => simp at hp
  go_enter Tryz.func68, Tryz.ntmps68
  go_wp2
  go_ret2
  exact ⟨_, _, rfl, F.out⟩
set_option maxRecDepth 100000 in
theorem mo_1 (w : World) : Calls Tryz.prog 68 #[.string ⟨#[100, 114, 111, 112]⟩] w (MvA (mvP ⟨#[100, 114, 111, 112]⟩) w) := by
  rw [show mvP ⟨#[100, 114, 111, 112]⟩ = some [] from by kernel_rfl]
  have F : Hid ((∀ (j p : Nat), ([] : List Nat)[j]? = some p → ∃ pg, (none : Option Addr) = some ⟨pg, 0, none⟩ ∧ w.heap.size ≤ pg ∧ pg < w.heap.size ∧ w.cell? ⟨pg, j, none⟩ = some (.int .i64 (p : Int))) ∧ Only (fun _ => False) w w) := ⟨fun j p hp => by simp at hp, Only.refl _ _⟩
  go_enter Tryz.func68, Tryz.ntmps68
  go_wp2
  go_ret2
  exact ⟨_, _, rfl, F.out⟩
set_option maxRecDepth 100000 in
theorem mo_2 (w : World) : Calls Tryz.prog 68 #[.string ⟨#[115, 119, 97, 112]⟩] w (MvA (mvP ⟨#[115, 119, 97, 112]⟩) w) := by
  rw [show mvP ⟨#[115, 119, 97, 112]⟩ = some [1, 0] from by kernel_rfl]
  have F : Hid ((∀ (j p : Nat), [1, 0][j]? = some p → ∃ pg, some (⟨w.heap.size, 0, none⟩ : Addr) = some ⟨pg, 0, none⟩ ∧ w.heap.size ≤ pg ∧ pg < (w.alloc (.cells #[.int .i64 1, .int .i64 0] 3)).heap.size ∧ (w.alloc (.cells #[.int .i64 1, .int .i64 0] 3)).cell? ⟨pg, j, none⟩ = some (.int .i64 (p : Int))) ∧ Only (fun _ => False) w (w.alloc (.cells #[.int .i64 1, .int .i64 0] 3))) := by
    refine ⟨fun j p hp => ⟨w.heap.size, rfl, Nat.le_refl _, by simp, ?_⟩, (Only.refl _ w).alloc _⟩
    rw [vblk_cells (ealloc_at w (.cells #[.int .i64 1, .int .i64 0] 3) _ rfl)]
    match j, hp with
    | 0, hp => simp at hp; subst hp; rfl
    | 1, hp => simp at hp; subst hp; rfl
    | j + 2, hp => simp at hp
  go_enter Tryz.func68, Tryz.ntmps68
  go_wp2
  go_ret2
  exact ⟨_, _, rfl, F.out⟩
set_option maxRecDepth 100000 in
theorem mo_3 (w : World) : Calls Tryz.prog 68 #[.string ⟨#[111, 118, 101, 114]⟩] w (MvA (mvP ⟨#[111, 118, 101, 114]⟩) w) := by
  rw [show mvP ⟨#[111, 118, 101, 114]⟩ = some [0, 1, 0] from by kernel_rfl]
  have F : Hid ((∀ (j p : Nat), [0, 1, 0][j]? = some p → ∃ pg, some (⟨w.heap.size, 0, none⟩ : Addr) = some ⟨pg, 0, none⟩ ∧ w.heap.size ≤ pg ∧ pg < (w.alloc (.cells #[.int .i64 0, .int .i64 1, .int .i64 0] 3)).heap.size ∧ (w.alloc (.cells #[.int .i64 0, .int .i64 1, .int .i64 0] 3)).cell? ⟨pg, j, none⟩ = some (.int .i64 (p : Int))) ∧ Only (fun _ => False) w (w.alloc (.cells #[.int .i64 0, .int .i64 1, .int .i64 0] 3))) := by
    refine ⟨fun j p hp => ⟨w.heap.size, rfl, Nat.le_refl _, by simp, ?_⟩, (Only.refl _ w).alloc _⟩
    rw [vblk_cells (ealloc_at w (.cells #[.int .i64 0, .int .i64 1, .int .i64 0] 3) _ rfl)]
    match j, hp with
    | 0, hp => simp at hp; subst hp; rfl
    | 1, hp => simp at hp; subst hp; rfl
    | 2, hp => simp at hp; subst hp; rfl
    | j + 3, hp => simp at hp
  go_enter Tryz.func68, Tryz.ntmps68
  go_wp2
  go_ret2
  exact ⟨_, _, rfl, F.out⟩
set_option maxRecDepth 100000 in
theorem mo_4 (w : World) : Calls Tryz.prog 68 #[.string ⟨#[114, 111, 116]⟩] w (MvA (mvP ⟨#[114, 111, 116]⟩) w) := by
  rw [show mvP ⟨#[114, 111, 116]⟩ = some [1, 2, 0] from by kernel_rfl]
  have F : Hid ((∀ (j p : Nat), [1, 2, 0][j]? = some p → ∃ pg, some (⟨w.heap.size, 0, none⟩ : Addr) = some ⟨pg, 0, none⟩ ∧ w.heap.size ≤ pg ∧ pg < (w.alloc (.cells #[.int .i64 1, .int .i64 2, .int .i64 0] 3)).heap.size ∧ (w.alloc (.cells #[.int .i64 1, .int .i64 2, .int .i64 0] 3)).cell? ⟨pg, j, none⟩ = some (.int .i64 (p : Int))) ∧ Only (fun _ => False) w (w.alloc (.cells #[.int .i64 1, .int .i64 2, .int .i64 0] 3))) := by
    refine ⟨fun j p hp => ⟨w.heap.size, rfl, Nat.le_refl _, by simp, ?_⟩, (Only.refl _ w).alloc _⟩
    rw [vblk_cells (ealloc_at w (.cells #[.int .i64 1, .int .i64 2, .int .i64 0] 3) _ rfl)]
    match j, hp with
    | 0, hp => simp at hp; subst hp; rfl
    | 1, hp => simp at hp; subst hp; rfl
    | 2, hp => simp at hp; subst hp; rfl
    | j + 3, hp => simp at hp
  go_enter Tryz.func68, Tryz.ntmps68
  go_wp2
  go_ret2
  exact ⟨_, _, rfl, F.out⟩
set_option maxRecDepth 100000 in
theorem mo_5 (w : World) : Calls Tryz.prog 68 #[.string ⟨#[110, 105, 112]⟩] w (MvA (mvP ⟨#[110, 105, 112]⟩) w) := by
  rw [show mvP ⟨#[110, 105, 112]⟩ = some [1] from by kernel_rfl]
  have F : Hid ((∀ (j p : Nat), [1][j]? = some p → ∃ pg, some (⟨w.heap.size, 0, none⟩ : Addr) = some ⟨pg, 0, none⟩ ∧ w.heap.size ≤ pg ∧ pg < (w.alloc (.cells #[.int .i64 1] 3)).heap.size ∧ (w.alloc (.cells #[.int .i64 1] 3)).cell? ⟨pg, j, none⟩ = some (.int .i64 (p : Int))) ∧ Only (fun _ => False) w (w.alloc (.cells #[.int .i64 1] 3))) := by
    refine ⟨fun j p hp => ⟨w.heap.size, rfl, Nat.le_refl _, by simp, ?_⟩, (Only.refl _ w).alloc _⟩
    rw [vblk_cells (ealloc_at w (.cells #[.int .i64 1] 3) _ rfl)]
    match j, hp with
    | 0, hp => simp at hp; subst hp; rfl
    | j + 1, hp => simp at hp
  go_enter Tryz.func68, Tryz.ntmps68
  go_wp2
  go_ret2
  exact ⟨_, _, rfl, F.out⟩
set_option maxRecDepth 100000 in
theorem mo_6 (w : World) : Calls Tryz.prog 68 #[.string ⟨#[116, 117, 99, 107]⟩] w (MvA (mvP ⟨#[116, 117, 99, 107]⟩) w) := by
  rw [show mvP ⟨#[116, 117, 99, 107]⟩ = some [1, 0, 1] from by kernel_rfl]
  have F : Hid ((∀ (j p : Nat), [1, 0, 1][j]? = some p → ∃ pg, some (⟨w.heap.size, 0, none⟩ : Addr) = some ⟨pg, 0, none⟩ ∧ w.heap.size ≤ pg ∧ pg < (w.alloc (.cells #[.int .i64 1, .int .i64 0, .int .i64 1] 3)).heap.size ∧ (w.alloc (.cells #[.int .i64 1, .int .i64 0, .int .i64 1] 3)).cell? ⟨pg, j, none⟩ = some (.int .i64 (p : Int))) ∧ Only (fun _ => False) w (w.alloc (.cells #[.int .i64 1, .int .i64 0, .int .i64 1] 3))) := by
    refine ⟨fun j p hp => ⟨w.heap.size, rfl, Nat.le_refl _, by simp, ?_⟩, (Only.refl _ w).alloc _⟩
    rw [vblk_cells (ealloc_at w (.cells #[.int .i64 1, .int .i64 0, .int .i64 1] 3) _ rfl)]
    match j, hp with
    | 0, hp => simp at hp; subst hp; rfl
    | 1, hp => simp at hp; subst hp; rfl
    | 2, hp => simp at hp; subst hp; rfl
    | j + 3, hp => simp at hp
  go_enter Tryz.func68, Tryz.ntmps68
  go_wp2
  go_ret2
  exact ⟨_, _, rfl, F.out⟩
set_option maxRecDepth 100000 in
theorem mo_no {s : ByteArray} (hn : ∀ x ∈ mvT, s.toList ≠ x.1) (w : World) : Calls Tryz.prog 68 #[.string s] w (MvA none w) := by
  have n0 : (s.toList == [100, 117, 112]) = false := beq_false_of_ne (hn ([100, 117, 112], [0, 0]) (by simp [mvT]))
  have n1 : (s.toList == [100, 114, 111, 112]) = false := beq_false_of_ne (hn ([100, 114, 111, 112], []) (by simp [mvT]))
  have n2 : (s.toList == [115, 119, 97, 112]) = false := beq_false_of_ne (hn ([115, 119, 97, 112], [1, 0]) (by simp [mvT]))
  have n3 : (s.toList == [111, 118, 101, 114]) = false := beq_false_of_ne (hn ([111, 118, 101, 114], [0, 1, 0]) (by simp [mvT]))
  have n4 : (s.toList == [114, 111, 116]) = false := beq_false_of_ne (hn ([114, 111, 116], [1, 2, 0]) (by simp [mvT]))
  have n5 : (s.toList == [110, 105, 112]) = false := beq_false_of_ne (hn ([110, 105, 112], [1]) (by simp [mvT]))
  have n6 : (s.toList == [116, 117, 99, 107]) = false := beq_false_of_ne (hn ([116, 117, 99, 107], [1, 0, 1]) (by simp [mvT]))
  clear hn
  go_enter Tryz.func68, Tryz.ntmps68
  go_wp2
  go_ret2
  exact ⟨rfl, Only.refl _ _⟩
theorem moved_any (s : ByteArray) (w : World) : Calls Tryz.prog 68 #[.string s] w (MvA (mvP s) w) := by
  by_cases h0 : s.toList = [100, 117, 112]
  · rw [to_lit h0]
    exact mo_0 w
  by_cases h1 : s.toList = [100, 114, 111, 112]
  · rw [to_lit h1]
    exact mo_1 w
  by_cases h2 : s.toList = [115, 119, 97, 112]
  · rw [to_lit h2]
    exact mo_2 w
  by_cases h3 : s.toList = [111, 118, 101, 114]
  · rw [to_lit h3]
    exact mo_3 w
  by_cases h4 : s.toList = [114, 111, 116]
  · rw [to_lit h4]
    exact mo_4 w
  by_cases h5 : s.toList = [110, 105, 112]
  · rw [to_lit h5]
    exact mo_5 w
  by_cases h6 : s.toList = [116, 117, 99, 107]
  · rw [to_lit h6]
    exact mo_6 w
  have hn : ∀ x ∈ mvT, s.toList ≠ x.1 := by
    intro x hx
    simp only [mvT, List.mem_cons, List.not_mem_nil, or_false] at hx
    rcases hx with rfl | rfl | rfl | rfl | rfl | rfl | rfl
    · exact h0
    · exact h1
    · exact h2
    · exact h3
    · exact h4
    · exact h5
    · exact h6
  rw [show mvP s = none from mvF_no _ _ hn]
  exact mo_no hn w
end Go.Proofs.YtodbkihobgdpdaaGreatDoor
