/- plain, word: what a word does. Going through items: what is known on the way; own, call, dip, keep. Words that call quotations: call, dip, keep. -/
import Derived.Test.YtodbkihobgdpdaaGreatDoorGak
namespace Go.Proofs.YtodbkihobgdpdaaGreatDoor
open Go.RowKit Go.Lib
set_option linter.unusedSimpArgs false
set_option linter.unusedVariables false
/-- an effect of a known word, or of none -/
def eoV (x : Option (Nat × Nat)) : Value := .agg #[.int .i64 ((x.getD (0, 0)).1 : Int), .int .i64 ((x.getD (0, 0)).2 : Int)]
/-- the object o at the block M is a map that holds the words W -/
def WmO (M : Nat) (W : ByteArray → Option (Nat × Nat)) (o : Obj) : Prop := ∀ (w : World), w.heap[M]? = some o → ∀ s : ByteArray, s.size ≤ 140737488355328 → (Instr.lookup 58 (.map (some M)) (.string s) true).run Tryz.prog w = .ok (.tuple #[eoV (W s), .bool (W s).isSome]) w
/-- the inference in memory, with its words -/
def EvAt (w : World) (F M : Nat) (W : ByteArray → Option (Nat × Nat)) (a : Nat) : Prop := IfAt w F M a ∧ ∃ o, w.heap[M]? = some o ∧ WmO M W o
theorem EvAt.only {w w' : World} {F M a : Nat} {W : ByteArray → Option (Nat × Nat)} {bs : Nat → Prop} (h : EvAt w F M W a) (o : Only bs w w') (hn : ¬ bs F) (hm : ¬ bs M) : EvAt w' F M W a := by
  obtain ⟨h1, ob, h2, h3⟩ := h
  exact ⟨h1.only o hn, ob, (o.block M (Array.getElem?_eq_some_iff.1 h2).1 hm).trans h2, h3⟩
theorem results_ef1 {fn : Func} {u : Tmp} (h : fn.results = #[.cell u 30]) (tmps : Array Value) (w : World) (B : Nat) {x y : Value} (h0 : w.cell? ⟨B, 0, none⟩ = some x) (h1 : w.cell? ⟨B, 1, none⟩ = some y) (ha : tmps.getD u undef = .pointer (some ⟨B, 0, none⟩)) :
    (results fn tmps).run Tryz.prog w = .ok (.agg #[x, y]) w := by
  have ha' : tmps[u]?.getD undef = .pointer (some ⟨B, 0, none⟩) := by simpa using ha
  simp [results, h, ha', asAddr, go_sem, loadVar, isAgg, Tryz.underlying30, h0, h1]
/-- what plain answers -/
def PlA (r : Option (Nat × Nat)) (w : World) (e : Ending) (w' : World) : Prop := match r with
  | none => e = gupE 10 ∧ Only (fun _ => False) w w'
  | some x => e = .returned (.agg #[.int .i64 (x.1 : Int), .int .i64 (x.2 : Int)]) ∧ Only (fun _ => False) w w'
set_option maxRecDepth 100000 in
set_option maxHeartbeats 1000000 in
theorem plain_any {w : World} {F M a : Nat} {W : ByteArray → Option (Nat × Nat)} (h : EvAt w F M W a) (s : ByteArray) (hs : s.size ≤ 140737488355328) : Calls Tryz.prog 67 #[.pointer (some ⟨F, 0, none⟩), .string s] w (PlA (plnE W s) w) := by
  have HP : Hid (∀ w, Calls Tryz.prog 16 #[.string s] w fun e w' => e = .returned (.tuple #[.agg #[.int .i64 (pmR s).1, .int .i64 (pmR s).2.1], .bool (pmR s).2.2]) ∧ Only (fun _ => False) w w') := prim_any s
  have hsm := pm_small s
  obtain ⟨X, hX⟩ : ∃ X, X = plnE W s := ⟨_, rfl⟩
  rw [← hX]
  unfold plnE at hX
  obtain ⟨p1, e1⟩ : ∃ p, p = (pmR s).1 := ⟨_, rfl⟩
  obtain ⟨p2, e2⟩ : ∃ p, p = (pmR s).2.1 := ⟨_, rfl⟩
  obtain ⟨p3, e3⟩ : ∃ p, p = (pmR s).2.2 := ⟨_, rfl⟩
  rw [← e1, ← e2, ← e3] at hX HP
  rw [← e1, ← e2] at hsm
  clear e1 e2 e3
  obtain ⟨N, hN⟩ : ∃ N, N = w.heap.size := ⟨_, rfl⟩
  have HH : Hid (EvAt w F M W a ∧ N = w.heap.size) := ⟨h, hN⟩
  have Hs : Hid (s.size ≤ 140737488355328) := hs
  have HX : Hid (X = if p3 = true then some (p1.toNat, p2.toNat) else W s) := hX
  clear h hs hX hN
  go_enter Tryz.func67, Tryz.ntmps67
  go_wp2_with fail
  refine (show Calls Tryz.prog 16 _ _ _ from HP.out _).mono ?_
  rintro e w1 ⟨rfl, o1⟩
  have hN := HH.out.2
  rw [← hN]
  clear HP
  have hX := HX.out
  clear HX
  have o0 : Only (fun _ => False) w w1 := ((Only.refl _ w).alloc _).trans o1 (fun _ _ g => g)
  have n1 : w1.heap[N]? = some (.cells #[.int .i64 0, .int .i64 0] 30) := o1.at (by rw [hN]; exact ealloc_at _ _ _ rfl)
  have fin : ∀ (x y : Value) (ob : Obj), (w1.alloc ob).frozen? ⟨N, 0, none⟩ = false ∧ (w1.alloc ob).frozen? ⟨N, 1, none⟩ = false ∧ (w1.alloc ob).cell? ⟨N, 0, none⟩ = some (.int .i64 0) ∧ (w1.alloc ob).cell? ⟨N, 1, none⟩ = some (.int .i64 0) ∧ Hid (((((w1.alloc ob).setCell ⟨N, 0, none⟩ x).setCell ⟨N, 1, none⟩ y).cell? ⟨N, 0, none⟩ = some x ∧ (((w1.alloc ob).setCell ⟨N, 0, none⟩ x).setCell ⟨N, 1, none⟩ y).cell? ⟨N, 1, none⟩ = some y) ∧ Only (fun _ => False) w (((w1.alloc ob).setCell ⟨N, 0, none⟩ x).setCell ⟨N, 1, none⟩ y)) := fun x y ob => by
    have n2 := alloc_old (p := ob) n1
    obtain ⟨c0, c1, f0, f1⟩ := wr2_cell n2
    exact ⟨f0, f1, c0, c1, fset2 n2 x y, ((o0.alloc _).setCell _ _ (fun g => by simp only at g; omega)).setCell _ _ (fun g => by simp only at g; omega)⟩
  cases p3 with
  | true =>
    simp only [if_true] at hX
    obtain ⟨f0, f1, g0, g1, Q⟩ := fin (.int .i64 p1) (.int .i64 p2) (.cells #[.int .i64 p1, .int .i64 p2] 30)
    have t1 : ((p1.toNat : Nat) : Int) = p1 := by omega
    have t2 : ((p2.toNat : Nat) : Int) = p2 := by omega
    have HT : Hid (((p1.toNat : Nat) : Int) = p1 ∧ ((p2.toNat : Nat) : Int) = p2) := ⟨t1, t2⟩
    subst hX
    clear fin n1 o0 hsm t1 t2 hN HH Hs o1
    go_wp2
    refine bodyPost_ret (results_ef1 rfl _ _ N Q.out.1.1 Q.out.1.2 rfl) rfl ?_
    refine ⟨?_, Q.out.2⟩
    rw [HT.out.1, HT.out.2]
  | false =>
    simp only [Bool.false_eq_true, if_false] at hX
    obtain ⟨⟨hF, ob, hM, hw⟩, -⟩ := HH.out
    have oa : Only (fun _ => False) w (w1.alloc (.cells #[.int .i64 p1, .int .i64 p2] 30)) := o0.alloc _
    have hF2 := oa.at hF
    obtain ⟨k0, k1, -, -⟩ := wr2_cell hF2
    have hlk := hw _ (oa.at hM) s Hs.out
    have n2 := alloc_old (p := .cells #[.int .i64 p1, .int .i64 p2] 30) n1
    obtain ⟨Y, hY⟩ : ∃ Y, Y = W s := ⟨_, rfl⟩
    rw [← hY] at hX hlk
    subst hX
    cases X with
    | none =>
      have hlk2 : (Instr.lookup 58 (.map (some M)) (.string s) true).run Tryz.prog (w1.alloc (.cells #[.int .i64 p1, .int .i64 p2] 30)) = .ok (.tuple #[.agg #[.int .i64 0, .int .i64 0], .bool false]) (w1.alloc (.cells #[.int .i64 p1, .int .i64 p2] 30)) := hlk
      have OO : Hid (Only (fun _ => False) w ((w1.alloc (.cells #[.int .i64 p1, .int .i64 p2] 30)).alloc (.cells #[.int .i64 0, .int .i64 0] 30))) := oa.alloc _
      clear fin n1 o0 hsm hN HH Hs o1 hF hM hw oa hF2 hlk n2 hY
      go_wp2
      exact ⟨rfl, rfl, OO.out⟩
    | some x =>
      have hlk2 : (Instr.lookup 58 (.map (some M)) (.string s) true).run Tryz.prog (w1.alloc (.cells #[.int .i64 p1, .int .i64 p2] 30)) = .ok (.tuple #[.agg #[.int .i64 (x.1 : Int), .int .i64 (x.2 : Int)], .bool true]) (w1.alloc (.cells #[.int .i64 p1, .int .i64 p2] 30)) := hlk
      have n3 := alloc_old (p := .cells #[.int .i64 (x.1 : Int), .int .i64 (x.2 : Int)] 30) n2
      obtain ⟨g0, g1, f0, f1⟩ := wr2_cell n3
      have Q : Hid (((((w1.alloc (.cells #[.int .i64 p1, .int .i64 p2] 30)).alloc (.cells #[.int .i64 (x.1 : Int), .int .i64 (x.2 : Int)] 30)).setCell ⟨N, 0, none⟩ (.int .i64 (x.1 : Int))).setCell ⟨N, 1, none⟩ (.int .i64 (x.2 : Int))).cell? ⟨N, 0, none⟩ = some (.int .i64 (x.1 : Int)) ∧ ((((w1.alloc (.cells #[.int .i64 p1, .int .i64 p2] 30)).alloc (.cells #[.int .i64 (x.1 : Int), .int .i64 (x.2 : Int)] 30)).setCell ⟨N, 0, none⟩ (.int .i64 (x.1 : Int))).setCell ⟨N, 1, none⟩ (.int .i64 (x.2 : Int))).cell? ⟨N, 1, none⟩ = some (.int .i64 (x.2 : Int))) := fset2 n3 _ _
      have OO : Hid (Only (fun _ => False) w ((((w1.alloc (.cells #[.int .i64 p1, .int .i64 p2] 30)).alloc (.cells #[.int .i64 (x.1 : Int), .int .i64 (x.2 : Int)] 30)).setCell ⟨N, 0, none⟩ (.int .i64 (x.1 : Int))).setCell ⟨N, 1, none⟩ (.int .i64 (x.2 : Int)))) := ((oa.alloc _).setCell _ _ (fun g => by simp only at g; omega)).setCell _ _ (fun g => by simp only at g; omega)
      clear fin n1 o0 hsm hN HH Hs o1 hF hM hw oa hF2 hlk n2 n3 hY
      go_wp2

      refine bodyPost_ret (results_ef1 rfl _ _ N Q.out.1 Q.out.2 rfl) rfl ?_
      exact ⟨rfl, OO.out⟩
set_option maxRecDepth 100000 in
theorem wo_0 (F : Nat) (w : World) : Calls Tryz.prog 57 #[.pointer (some ⟨F, 0, none⟩), .string ⟨#[99, 97, 108, 108]⟩] w fun e w' => e = .returned (.func (.func 60) #[.pointer (some ⟨F, 0, none⟩)] #[]) ∧ w' = w := by
  go_enter Tryz.func57, Tryz.ntmps57
  go_wp2
  go_ret
  exact ⟨rfl, rfl⟩
set_option maxRecDepth 100000 in
theorem wo_1 (F : Nat) (w : World) : Calls Tryz.prog 57 #[.pointer (some ⟨F, 0, none⟩), .string ⟨#[100, 105, 112]⟩] w fun e w' => e = .returned (.func (.func 61) #[.pointer (some ⟨F, 0, none⟩)] #[]) ∧ w' = w := by
  go_enter Tryz.func57, Tryz.ntmps57
  go_wp2
  go_ret
  exact ⟨rfl, rfl⟩
set_option maxRecDepth 100000 in
theorem wo_2 (F : Nat) (w : World) : Calls Tryz.prog 57 #[.pointer (some ⟨F, 0, none⟩), .string ⟨#[107, 101, 101, 112]⟩] w fun e w' => e = .returned (.func (.func 62) #[.pointer (some ⟨F, 0, none⟩)] #[]) ∧ w' = w := by
  go_enter Tryz.func57, Tryz.ntmps57
  go_wp2
  go_ret
  exact ⟨rfl, rfl⟩
set_option maxRecDepth 100000 in
theorem wo_3 (F : Nat) (w : World) : Calls Tryz.prog 57 #[.pointer (some ⟨F, 0, none⟩), .string ⟨#[105, 102]⟩] w fun e w' => e = .returned (.func (.func 63) #[.pointer (some ⟨F, 0, none⟩)] #[]) ∧ w' = w := by
  go_enter Tryz.func57, Tryz.ntmps57
  go_wp2
  go_ret
  exact ⟨rfl, rfl⟩
set_option maxRecDepth 100000 in
theorem wo_4 (F : Nat) (w : World) : Calls Tryz.prog 57 #[.pointer (some ⟨F, 0, none⟩), .string ⟨#[119, 104, 101, 110]⟩] w fun e w' => e = .returned (.func (.func 64) #[.pointer (some ⟨F, 0, none⟩)] #[]) ∧ w' = w := by
  go_enter Tryz.func57, Tryz.ntmps57
  go_wp2
  go_ret
  exact ⟨rfl, rfl⟩
set_option maxRecDepth 100000 in
theorem wo_5 (F : Nat) (w : World) : Calls Tryz.prog 57 #[.pointer (some ⟨F, 0, none⟩), .string ⟨#[116, 105, 109, 101, 115]⟩] w fun e w' => e = .returned (.func (.func 64) #[.pointer (some ⟨F, 0, none⟩)] #[]) ∧ w' = w := by
  go_enter Tryz.func57, Tryz.ntmps57
  go_wp2
  go_ret
  exact ⟨rfl, rfl⟩
set_option maxRecDepth 100000 in
theorem wo_6 (F : Nat) (w : World) : Calls Tryz.prog 57 #[.pointer (some ⟨F, 0, none⟩), .string ⟨#[108, 111, 111, 112]⟩] w fun e w' => e = .returned (.func (.func 65) #[.pointer (some ⟨F, 0, none⟩)] #[]) ∧ w' = w := by
  go_enter Tryz.func57, Tryz.ntmps57
  go_wp2
  go_ret
  exact ⟨rfl, rfl⟩
set_option maxRecDepth 100000 in
theorem wo_7 (F : Nat) (w : World) : Calls Tryz.prog 57 #[.pointer (some ⟨F, 0, none⟩), .string ⟨#[101, 97, 99, 104]⟩] w fun e w' => e = .returned (.func (.func 66) #[.pointer (some ⟨F, 0, none⟩)] #[]) ∧ w' = w := by
  go_enter Tryz.func57, Tryz.ntmps57
  go_wp2
  go_ret
  exact ⟨rfl, rfl⟩
/-- what word answers for a word that calls no quotations -/
def WoB (X : Option (Nat × Nat)) (Y : Option (List Nat)) (w : World) (e : Ending) (w' : World) : Prop := match X with
  | none => e = gupE 10 ∧ Only (fun _ => False) w w'
  | some x => (match Y with
    | none => ∃ X, e = .returned (.func (.func 71) #[] #[.pointer (some ⟨X, 0, none⟩)]) ∧ Hid (w'.heap[X]? = some (.cells #[.int .i64 (x.1 : Int), .int .i64 (x.2 : Int)] 30) ∧ w.heap.size ≤ X ∧ Only (fun _ => False) w w')
    | some ps => ∃ X Z pa pc, e = .returned (.func (.func 69) #[] #[.pointer (some ⟨X, 0, none⟩), .pointer (some ⟨Z, 0, none⟩)]) ∧ Hid (w'.heap[X]? = some (.cells #[.int .i64 (x.1 : Int), .int .i64 (x.2 : Int)] 30) ∧ w.heap.size ≤ X ∧ w'.heap[Z]? = some (.cells #[.slice pa ps.length pc] 76) ∧ w.heap.size ≤ Z ∧ (∀ (j p : Nat), ps[j]? = some p → ∃ pg, pa = some ⟨pg, 0, none⟩ ∧ w.heap.size ≤ pg ∧ pg < w'.heap.size ∧ w'.cell? ⟨pg, j, none⟩ = some (.int .i64 (p : Int))) ∧ Only (fun _ => False) w w'))
def WoA (W : ByteArray → Option (Nat × Nat)) (s : ByteArray) : World → Ending → World → Prop := WoB (plnE W s) (mvP s)
set_option maxRecDepth 100000 in
set_option maxHeartbeats 1000000 in
theorem wo_no {w : World} {F M a : Nat} {W : ByteArray → Option (Nat × Nat)} (h : EvAt w F M W a) (s : ByteArray) (hs : s.size ≤ 140737488355328) (hn : ∀ x ∈ kwT, s.toList ≠ x.1) : Calls Tryz.prog 57 #[.pointer (some ⟨F, 0, none⟩), .string s] w (WoA W s w) := by
  have n0 : (s.toList == [99, 97, 108, 108]) = false := beq_false_of_ne (hn ([99, 97, 108, 108], 1) (by simp [kwT]))
  have n1 : (s.toList == [100, 105, 112]) = false := beq_false_of_ne (hn ([100, 105, 112], 2) (by simp [kwT]))
  have n2 : (s.toList == [107, 101, 101, 112]) = false := beq_false_of_ne (hn ([107, 101, 101, 112], 3) (by simp [kwT]))
  have n3 : (s.toList == [105, 102]) = false := beq_false_of_ne (hn ([105, 102], 4) (by simp [kwT]))
  have n4 : (s.toList == [119, 104, 101, 110]) = false := beq_false_of_ne (hn ([119, 104, 101, 110], 5) (by simp [kwT]))
  have n5 : (s.toList == [116, 105, 109, 101, 115]) = false := beq_false_of_ne (hn ([116, 105, 109, 101, 115], 5) (by simp [kwT]))
  have n6 : (s.toList == [108, 111, 111, 112]) = false := beq_false_of_ne (hn ([108, 111, 111, 112], 6) (by simp [kwT]))
  have n7 : (s.toList == [101, 97, 99, 104]) = false := beq_false_of_ne (hn ([101, 97, 99, 104], 7) (by simp [kwT]))
  have HP : Hid (Calls Tryz.prog 67 #[.pointer (some ⟨F, 0, none⟩), .string s] w (PlA (plnE W s) w)) := plain_any h s hs
  have HM : Hid (∀ w, Calls Tryz.prog 68 #[.string s] w (MvA (mvP s) w)) := moved_any s
  unfold WoA
  obtain ⟨X, hX⟩ : ∃ X, X = plnE W s := ⟨_, rfl⟩
  obtain ⟨Y, hY⟩ : ∃ Y, Y = mvP s := ⟨_, rfl⟩
  rw [← hX] at HP ⊢
  rw [← hY] at HM ⊢
  clear hX hY h hs hn
  go_enter Tryz.func57, Tryz.ntmps57
  go_wp2_with fail
  refine (show Calls Tryz.prog 67 _ _ _ from HP.out).mono ?_
  clear HP n0 n1 n2 n3 n4 n5 n6 n7
  cases X with
  | none =>
    rintro e w1 ⟨rfl, o1⟩
    have O1 : Hid _ := o1
    clear o1 HM
    unfold gupE
    go_wp2
    exact ⟨rfl, rfl, O1.out⟩
  | some x =>
    rintro e w1 ⟨rfl, o1⟩
    have O1 : Hid _ := o1
    clear o1
    go_wp2_with fail
    refine (show Calls Tryz.prog 68 _ _ _ from HM.out _).mono ?_
    clear HM
    have b1 : (w1.alloc (.cells #[.int .i64 (x.1 : Int), .int .i64 (x.2 : Int)] 30)).heap[w1.heap.size]? = some (.cells #[.int .i64 (x.1 : Int), .int .i64 (x.2 : Int)] 30) := ealloc_at _ _ _ rfl
    cases Y with
    | none =>
      rintro e w2 ⟨rfl, o2⟩
      have F : Hid ((w2.alloc (.cells #[.slice none 0 0] 76)).heap[w1.heap.size]? = some (.cells #[.int .i64 (x.1 : Int), .int .i64 (x.2 : Int)] 30) ∧ w.heap.size ≤ w1.heap.size ∧ Only (fun _ => False) w (w2.alloc (.cells #[.slice none 0 0] 76))) :=
        ⟨alloc_old (o2.at b1), O1.out.size, ((O1.out.alloc _).trans o2 (fun _ _ g => g)).alloc _⟩
      clear o2 O1 b1
      go_wp2
      go_ret
      exact ⟨_, rfl, F.out⟩
    | some ps =>
      rintro e w2 ⟨pa, pc, rfl, G⟩
      have F : Hid ((w2.alloc (.cells #[.slice pa ps.length pc] 76)).heap[w1.heap.size]? = some (.cells #[.int .i64 (x.1 : Int), .int .i64 (x.2 : Int)] 30) ∧ w.heap.size ≤ w1.heap.size ∧ (w2.alloc (.cells #[.slice pa ps.length pc] 76)).heap[w2.heap.size]? = some (.cells #[.slice pa ps.length pc] 76) ∧ w.heap.size ≤ w2.heap.size ∧ (∀ (j p : Nat), ps[j]? = some p → ∃ pg, pa = some ⟨pg, 0, none⟩ ∧ w.heap.size ≤ pg ∧ pg < (w2.alloc (.cells #[.slice pa ps.length pc] 76)).heap.size ∧ (w2.alloc (.cells #[.slice pa ps.length pc] 76)).cell? ⟨pg, j, none⟩ = some (.int .i64 (p : Int))) ∧ Only (fun _ => False) w (w2.alloc (.cells #[.slice pa ps.length pc] 76))) := by
        obtain ⟨g1, g2⟩ := G.out
        have oo := (O1.out.alloc (.cells #[.int .i64 (x.1 : Int), .int .i64 (x.2 : Int)] 30)).trans g2 (fun _ _ g => g)
        have z1 := O1.out.size
        refine ⟨alloc_old (g2.at b1), O1.out.size, ealloc_at _ _ _ rfl, oo.size, fun j p hp => ?_, oo.alloc _⟩
        obtain ⟨pg, q1, q2, q3, q4⟩ := g1 j p hp
        refine ⟨pg, q1, ?_, by simp; omega, ((Only.refl (fun _ => False) w2).alloc _).cell q4 (fun g => g)⟩
        simp at q2
        omega
      clear G O1 b1
      go_wp2
      go_ret
      exact ⟨_, _, pa, pc, rfl, F.out⟩
end Go.Proofs.YtodbkihobgdpdaaGreatDoor
namespace Go.Proofs.YtodbkihobgdpdaaGreatDoor
open Go.RowKit Go.Lib
set_option linter.unusedSimpArgs false
set_option linter.unusedVariables false
/-- what may turn: the inference, the list, its row -/
def BsF (F s : Nat) (v : Value) (b : Nat) : Prop := b = F ∨ b = s ∨ v.ownBlock = some b
/-- what has been come to since w: the list at s, which was the row v, is v1 now -/
def InV (w w1 : World) (S : Nat → Prop) (d F M : Nat) (W : ByteArray → Option (Nat × Nat)) (s : Nat) (v v1 : Value) (t : Ist) : Prop := EvAt w1 F M W t.a ∧ EsV w1 S d s t.st t.tk v1 ∧ RwK w v v1 ∧ Only (BsF F s v) w w1
def Env (S : Nat → Prop) (F M s : Nat) : Prop := F < s ∧ M < s ∧ M ≠ F ∧ ∀ b, S b → b < s ∧ b ≠ F
/-- what going through items answers -/
def TrP (S : Nat → Prop) (d F M : Nat) (W : ByteArray → Option (Nat × Nat)) (s : Nat) (v : Value) (r : Except Int Ist) (w : World) (x : Ending) (w' : World) : Prop := match r with
  | .error e => x = gupE e ∧ Only (BsF F s v) w w'
  | .ok t => x = .returned (.tuple #[]) ∧ Hid (∃ v', InV w w' S d F M W s v v' t)
theorem EsV.only {w w' : World} {S bs : Nat → Prop} {d s tk : Nat} {st : List Ent} {v : Value} (h : EsV w S d s st tk v) (o : Only bs w w') (hs : ¬ bs s) (hv : ∀ k, v.ownBlock = some k → ¬ bs k) (hb : ∀ b, S b → ¬ bs b) : EsV w' S d s st tk v := by
  obtain ⟨xs, h1, h2, h3⟩ := h
  refine ⟨xs, (o.block s (Array.getElem?_eq_some_iff.1 h1).1 hs).trans h1, o.owns h2 hv, fun j x hx => ?_⟩
  obtain ⟨b, ao, n, cap, g1, g2, g3⟩ := h3 j x hx
  exact ⟨b, ao, n, cap, g1, g2, g3.only o hb⟩
theorem InV.refl {w : World} {S : Nat → Prop} {d F M s : Nat} {W : ByteArray → Option (Nat × Nat)} {v : Value} {t : Ist} (h1 : EvAt w F M W t.a) (h2 : EsV w S d s t.st t.tk v) : InV w w S d F M W s v v t := ⟨h1, h2, .inl rfl, Only.refl _ _⟩
theorem InV.wide {w w1 w2 : World} {S : Nat → Prop} {d F M s : Nat} {W : ByteArray → Option (Nat × Nat)} {v v1 : Value} {t : Ist} (h : InV w w1 S d F M W s v v1 t) (o : Only (BsF F s v1) w1 w2) : Only (BsF F s v) w w2 := by
  refine h.2.2.2.trans o (fun k hk e => ?_)
  rcases e with e | e | e
  · exact .inl e
  · exact .inr (.inl e)
  · rcases h.2.2.1 with hr | ⟨k', hr, hk'⟩
    · exact .inr (.inr (hr ▸ e))
    · rw [hr] at e
      injection e with e
      omega
theorem RwK.next {w w1 : World} {v v1 v2 : Value} (hz : w.heap.size ≤ w1.heap.size) (h : RwK w v v1) (g : RwK w1 v1 v2) : RwK w v v2 := by
  rcases g with g | ⟨k, g, g4⟩
  · rcases h with hr | ⟨k, hr, hk⟩
    · exact .inl (g.trans hr)
    · exact .inr ⟨k, g.trans hr, hk⟩
  · exact .inr ⟨k, g, by omega⟩
theorem InV.trans {w w1 w2 : World} {S : Nat → Prop} {d F M s : Nat} {W : ByteArray → Option (Nat × Nat)} {v v1 v2 : Value} {t t2 : Ist} (h : InV w w1 S d F M W s v v1 t) (g : InV w1 w2 S d F M W s v1 v2 t2) : InV w w2 S d F M W s v v2 t2 :=
  ⟨g.1, g.2.1, h.2.2.1.next h.2.2.2.size g.2.2.1, h.wide g.2.2.2⟩
theorem InV.eso {w w1 w2 : World} {S : Nat → Prop} {d F M s : Nat} {W : ByteArray → Option (Nat × Nat)} {v v1 : Value} {t : Ist} {st : List Ent} {tk : Nat} (h : InV w w1 S d F M W s v v1 t) (he : Env S F M s) (g : EsO w1 w2 S d s v1 st tk) : ∃ v2, InV w w2 S d F M W s v v2 ⟨t.a, st, tk⟩ := by
  have ho := h.2.1.own
  obtain ⟨⟨v2, g1, g2⟩, g3⟩ := g
  have hn : ∀ b, b < s → ¬ (b = s ∨ v1.ownBlock = some b) := fun b hb e => by
    rcases e with e | e
    · omega
    · have := (ho b e).1
      omega
  refine ⟨v2, h.trans ⟨h.1.only g3 (hn F he.1) (hn M he.2.1), g1, g2, g3.mono (fun k _ e => ?_)⟩⟩
  rcases e with e | e
  · exact .inr (.inl e)
  · exact .inr (.inr e)
theorem InV.only {w w1 w2 : World} {S : Nat → Prop} {d F M s : Nat} {W : ByteArray → Option (Nat × Nat)} {v v1 : Value} {t : Ist} (h : InV w w1 S d F M W s v v1 t) (o : Only (fun _ => False) w1 w2) : InV w w2 S d F M W s v v1 t :=
  h.trans ⟨h.1.only o (fun e => e) (fun e => e), h.2.1.only o (fun e => e) (fun _ _ e => e) (fun _ _ e => e), .inl rfl, o.mono (fun _ _ e => e.elim)⟩
theorem InV.own {w w1 w2 : World} {S : Nat → Prop} {d F M s a : Nat} {W : ByteArray → Option (Nat × Nat)} {v v1 : Value} {t : Ist} (h : InV w w1 S d F M W s v v1 t) (he : Env S F M s) (o : Only (fun b => b = F) w1 w2) (g : EvAt w2 F M W a) : InV w w2 S d F M W s v v1 ⟨a, t.st, t.tk⟩ := by
  have ho := h.2.1.own
  exact h.trans ⟨g, h.2.1.only o (fun e => by have := he.1; omega) (fun k hk e => by have := (ho k hk).1; have := he.1; omega) (fun b hb e => (he.2.2.2 b hb).2 e), .inl rfl, o.mono (fun _ _ e => .inl e)⟩
/-- items stand where they stood -/
theorem QsAt.in {w w1 : World} {S : Nat → Prop} {d F M s : Nat} {v : Value} {l : List Vt} {ao : Option Addr} {st : List Ent} {tk : Nat} (h : QsAt w S d l ao) (hv : EsV w S d s st tk v) (he : Env S F M s) (o : Only (BsF F s v) w w1) : QsAt w1 S d l ao := h.only o (fun b hb e => by
  have := he.2.2.2 b hb
  rcases e with e | e | e
  · exact this.2 e
  · omega
  · have := (hv.own b e).1
    omega)
theorem TrP.step {w w1 w2 : World} {S : Nat → Prop} {d F M s : Nat} {W : ByteArray → Option (Nat × Nat)} {v v1 : Value} {t : Ist} {r : Except Int Ist} {x : Ending} (h : InV w w1 S d F M W s v v1 t) (g : TrP S d F M W s v1 r w1 x w2) : TrP S d F M W s v r w x w2 := by
  cases r with
  | error e => exact ⟨g.1, h.wide g.2⟩
  | ok t2 =>
    obtain ⟨v2, g2⟩ := g.2.out
    exact ⟨g.1, v2, h.trans g2⟩
/-- going through items does what the account says, with less than n to go -/
def ThC (W : ByteArray → Option (Nat × Nat)) (S : Nat → Prop) (d F M n : Nat) : Prop := ∀ (l : List Vt) (ao : Option Addr) (cap s : Nat) (v : Value) (t : Ist) (w : World), Env S F M s → EvAt w F M W t.a → EsV w S d s t.st t.tk v → QsAt w S d l ao → l.length ≤ cap → SmL l → potE t ≤ 900000 → t.a < n →
  Calls Tryz.prog 41 #[.pointer (some ⟨F, 0, none⟩), .slice ao l.length cap, .pointer (some ⟨s, 0, none⟩)] w (TrP S d F M W s v (thrE W n l t) w)
/-- what own answers -/
def OwP (F M : Nat) (W : ByteArray → Option (Nat × Nat)) (r : Except Int Ist) (w : World) (x : Ending) (w' : World) : Prop := match r with
  | .error e => x = gupE e ∧ Only (fun b => b = F) w w'
  | .ok t => x = .returned (.agg #[.int .i64 (t.tk : Int), .int .i64 (t.st.length : Int)]) ∧ Hid (EvAt w' F M W t.a ∧ Only (fun b => b = F) w w')
set_option maxRecDepth 100000 in
set_option maxHeartbeats 1000000 in
theorem own_of {W : ByteArray → Option (Nat × Nat)} {S : Nat → Prop} {d F M n : Nat} (TH : ThC W S d F M n) {l : List Vt} {ao : Option Addr} {cap a : Nat} {w : World} (hF : F < w.heap.size) (hM : M < w.heap.size) (hMF : M ≠ F) (hS : ∀ b, S b → b < w.heap.size ∧ b ≠ F) (hev : EvAt w F M W a) (hq : QsAt w S d l ao) (hc : l.length ≤ cap) (hsm : SmL l) (hp : 32 * a ≤ 900000) (ha : a < n) :
    Calls Tryz.prog 34 #[.pointer (some ⟨F, 0, none⟩), .slice ao l.length cap] w (OwP F M W (thrE W n l ⟨a, [], 0⟩) w) := by
  obtain ⟨N, hN⟩ : ∃ N, N = w.heap.size := ⟨_, rfl⟩
  obtain ⟨W2, hW2⟩ : ∃ X, X = (w.alloc (.cells #[.int .i64 0, .int .i64 0] 30)).alloc (.cells #[.slice none 0 0, .int .i64 0] 109) := ⟨_, rfl⟩
  have o2 : Only (fun _ => False) w W2 := by rw [hW2]; exact ((Only.refl _ w).alloc _).alloc _
  have b0 : W2.heap[N]? = some (.cells #[.int .i64 0, .int .i64 0] 30) := by rw [hW2]; exact alloc_old (ealloc_at _ _ _ hN)
  have b1 : W2.heap[N + 1]? = some (.cells #[.slice none 0 0, .int .i64 0] 109) := by rw [hW2]; exact ealloc_at _ _ _ (by simp [hN])
  have es : EsV W2 S d (N + 1) [] 0 (.slice none 0 0) := ⟨[], b1, World.ownsRow_nil _ _ _ _, fun j x hx => by simp at hx⟩
  have HC : Hid _ := TH l ao cap (N + 1) (.slice none 0 0) ⟨a, [], 0⟩ W2 ⟨by omega, by omega, hMF, fun b hb => ⟨by have := hS b hb; omega, (hS b hb).2⟩⟩ (hev.only o2 (fun e => e) (fun e => e)) es (hq.only o2 (fun _ _ e => e)) hc hsm (by unfold potE; simp; omega) ha
  have HH : Hid (N = w.heap.size ∧ Only (fun _ => False) w W2 ∧ W2.heap[N]? = some (.cells #[.int .i64 0, .int .i64 0] 30) ∧ F < N ∧ M < N) := ⟨hN, o2, b0, by omega, by omega⟩
  obtain ⟨X, hX⟩ : ∃ X, X = thrE W n l ⟨a, [], 0⟩ := ⟨_, rfl⟩
  rw [← hX] at HC ⊢
  obtain ⟨L, hL⟩ : ∃ L, L = l.length := ⟨_, rfl⟩
  rw [← hL] at HC ⊢
  clear hF hM hMF hS hev hq hc hsm hp ha o2 b0 b1 es TH hX hL
  subst hW2
  subst hN
  go_enter Tryz.func34, Tryz.ntmps34
  go_wp2_with fail
  refine (show Calls Tryz.prog 41 _ _ _ from HC.out).mono ?_
  clear HC
  obtain ⟨-, o2, b0, hFN, hMN⟩ := HH.out
  obtain ⟨N, hN⟩ : ∃ N, N = w.heap.size := ⟨_, rfl⟩
  rw [← hN] at b0 hFN hMN ⊢
  obtain ⟨W2, hW2⟩ : ∃ X, X = (w.alloc (.cells #[.int .i64 0, .int .i64 0] 30)).alloc (.cells #[.slice none 0 0, .int .i64 0] 109) := ⟨_, rfl⟩
  rw [← hW2] at o2 b0 ⊢
  have HN : Hid (N = w.heap.size) := hN
  clear HH hW2 hN
  cases X with
  | error e =>
    rintro x w1 ⟨rfl, o1⟩
    have OO : Hid (Only (fun b => b = F) w w1) := (o2.mono (bs' := fun b => b = F) (fun _ _ g => g.elim)).trans o1 (fun k hk g => by
      have := HN.out
      rcases g with g | g | g
      · exact g
      · omega
      · simp [Value.ownBlock] at g)
    clear o1 o2 b0 hFN hMN
    unfold gupE
    go_wp2
    exact ⟨rfl, rfl, OO.out⟩
  | ok t =>
    rintro x w1 ⟨rfl, G⟩
    obtain ⟨v1, g1, g2, g3, g4⟩ := G.out
    have b2 : w1.heap[N]? = some (.cells #[.int .i64 0, .int .i64 0] 30) := (g4.block N (Array.getElem?_eq_some_iff.1 b0).1 (fun g => by
      rcases g with g | g | g
      · omega
      · omega
      · simp [Value.ownBlock] at g)).trans b0
    obtain ⟨xs, q1, q2, q3⟩ := g2
    obtain ⟨a1, c1, hv1⟩ := ownsRow_slice q2
    subst hv1
    obtain ⟨k0, k1, -, -⟩ := wr2_cell q1
    obtain ⟨m0, m1, f0, f1⟩ := wr2_cell b2
    have Q := fset2 b2 (.int .i64 (t.tk : Int)) (.int .i64 (t.st.length : Int))
    have HQ : Hid _ := Q
    have OO : Hid (EvAt ((w1.setCell ⟨N, 0, none⟩ (.int .i64 (t.tk : Int))).setCell ⟨N, 1, none⟩ (.int .i64 (t.st.length : Int))) F M W t.a ∧ Only (fun b => b = F) w ((w1.setCell ⟨N, 0, none⟩ (.int .i64 (t.tk : Int))).setCell ⟨N, 1, none⟩ (.int .i64 (t.st.length : Int)))) := by
      have o5 : Only (fun b => b = N) w1 ((w1.setCell ⟨N, 0, none⟩ (.int .i64 (t.tk : Int))).setCell ⟨N, 1, none⟩ (.int .i64 (t.st.length : Int))) := ((Only.refl (fun b => b = N) w1).setCell _ _ (fun _ => rfl)).setCell _ _ (fun _ => rfl)
      have hn := HN.out
      refine ⟨?_, ((o2.mono (bs' := fun b => b = F) (fun _ _ g => g.elim)).trans g4 (fun k hk g => ?_)).trans o5 (fun k hk g => by omega)⟩
      · exact g1.only o5 (by omega) (by omega)
      · rcases g with g | g | g
        · exact g
        · omega
        · simp [Value.ownBlock] at g
    clear G g1 g3 g4 q1 q2 q3 b2 Q o2 b0 hFN hMN
    go_wp2
    refine bodyPost_ret (results_ef1 rfl _ _ N HQ.out.1 HQ.out.2 rfl) rfl ?_
    exact ⟨rfl, OO.out⟩
end Go.Proofs.YtodbkihobgdpdaaGreatDoor
namespace Go.Proofs.YtodbkihobgdpdaaGreatDoor
open Go.RowKit Go.Lib
set_option linter.unusedSimpArgs false
set_option linter.unusedVariables false
theorem InV.esv {w w1 w2 : World} {S : Nat → Prop} {d F M s : Nat} {W : ByteArray → Option (Nat × Nat)} {v v1 v2 : Value} {t : Ist} {st : List Ent} {tk : Nat} (h : InV w w1 S d F M W s v v1 t) (he : Env S F M s) (g1 : EsV w2 S d s st tk v2) (g2 : RwK w1 v1 v2) (g3 : Only (fun b => b = s ∨ v1.ownBlock = some b) w1 w2) : InV w w2 S d F M W s v v2 ⟨t.a, st, tk⟩ := by
  have ho := h.2.1.own
  have hn : ∀ b, b < s → ¬ (b = s ∨ v1.ownBlock = some b) := fun b hb e => by
    rcases e with e | e
    · omega
    · have := (ho b e).1
      omega
  refine h.trans ⟨h.1.only g3 (hn F he.1) (hn M he.2.1), g1, g2, g3.mono (fun k _ e => ?_)⟩
  rcases e with e | e
  · exact .inr (.inl e)
  · exact .inr (.inr e)
set_option maxRecDepth 100000 in
set_option maxHeartbeats 1000000 in
theorem ct_call {W : ByteArray → Option (Nat × Nat)} {S : Nat → Prop} {d F M n : Nat} (hW : WdOk W) (TH : ThC W S d F M n) {s : Nat} {v0 : Value} {t0 : Ist} {w0 : World} (he : Env S F M s) (hev : EvAt w0 F M W t0.a) (hes : EsV w0 S d s t0.st t0.tk v0) (hp : potE t0 + 32 ≤ 900000) (ha : t0.a < n) :
    Calls Tryz.prog 60 #[.pointer (some ⟨F, 0, none⟩), .pointer (some ⟨s, 0, none⟩)] w0 (TrP S d F M W s v0 (ctlE (thrE W n) 1 t0) w0) := by
  have HE : Hid (Env S F M s ∧ WdOk W ∧ ThC W S d F M n ∧ potE t0 + 32 ≤ 900000 ∧ t0.a < n) := ⟨he, hW, TH, hp, ha⟩
  have I0 : Hid (InV w0 w0 S d F M W s v0 v0 t0 ∧ potE t0 ≤ potE t0 ∧ t0.a ≤ t0.a) := ⟨InV.refl hev hes, Nat.le_refl _, Nat.le_refl _⟩
  obtain ⟨R, hR0⟩ : ∃ R, R = ctlE (thrE W n) 1 t0 := ⟨_, rfl⟩
  rw [← hR0]
  have HR : Hid (R = ctlE (thrE W n) 1 t0) := hR0
  have HFN : Hid (∀ w, Calls Tryz.prog 77 #[.bool false] w fun e w' => e = gupE 12 ∧ w' = w) := fit_no
  have HFY : Hid (∀ w, Calls Tryz.prog 77 #[.bool true] w fun e w' => e = .returned (.tuple #[]) ∧ w' = w) := fit_yes
  clear he hW TH hp ha hev hes hR0
  go_enter Tryz.func60, Tryz.ntmps60
  obtain ⟨Z0, hZ0⟩ : ∃ Z, Z = quoE t0 := ⟨_, rfl⟩
  have HC : Hid (Calls Tryz.prog 75 #[.pointer (some ⟨s, 0, none⟩)] w0 (QuP S d s v0 Z0 w0)) := by rw [hZ0]; exact quotation_any t0.a I0.out.1.2.1 (fun b hb => (HE.out.1.2.2.2 b hb).1) (by have h1 := I0.out.2.1; have h2 := HE.out.2.2.2.1; show potE t0 ≤ 1000000; omega)
  have HZ0 : Hid (Z0 = quoE t0) := hZ0
  clear hZ0
  go_wp2_with fail
  refine (show Calls Tryz.prog 75 _ _ _ from HC.out).mono ?_
  clear HC
  intro e0 w1 G
  rcases Z0 with k0 | ⟨l1, t1⟩
  · obtain ⟨rfl, o1⟩ := G
    have hR : R = .error k0 := by rw [HR.out]; simp [ctlE, bdE, ← HZ0.out]
    have OO : Hid (Only (BsF F s v0) w0 w1) := I0.out.1.wide (o1.mono (fun _ _ e => .inr (.inl e)))
    clear HR
    subst hR
    unfold gupE
    go_wp2
    exact ⟨rfl, rfl, OO.out⟩
  obtain ⟨ao1, cap1, rfl, G⟩ := G
  obtain ⟨q1, q2, q3, q4⟩ := G.out
  have hq := quoE_pot HZ0.out.symm
  have hqa : t1.a = t0.a := hq.1
  have hqp : potE t1 + 1 ≤ potE t0 := hq.2
  obtain ⟨v1, iv⟩ := I0.out.1.eso HE.out.1 q4
  have I1 : Hid (InV w0 w1 S d F M W s v0 v1 t1 ∧ potE t1 ≤ potE t0 + 0 ∧ t1.a ≤ t0.a) := by
    have e9 : (⟨t0.a, t1.st, t1.tk⟩ : Ist) = t1 := by rw [← hqa]
    have h1 := I0.out.2
    simp only at iv
    rw [e9] at iv
    exact ⟨iv, by omega, by omega⟩
  have LLl1_1 : Hid (l1.length ≤ cap1 ∧ SmL l1 ∧ QsAt w1 S d l1 ao1) := ⟨q1, q2, q3⟩
  clear G q1 q2 q3 q4 hq hqa hqp iv
  obtain ⟨Z1, hZ1⟩ : ∃ Z, Z = thrE W n l1 t1 := ⟨_, rfl⟩
  have HC : Hid (Calls Tryz.prog 41 #[.pointer (some ⟨F, 0, none⟩), .slice ao1 l1.length cap1, .pointer (some ⟨s, 0, none⟩)] w1 (TrP S d F M W s v1 Z1 w1)) := by rw [hZ1]; exact HE.out.2.2.1 l1 ao1 cap1 s v1 t1 w1 HE.out.1 I1.out.1.1 I1.out.1.2.1 LLl1_1.out.2.2 LLl1_1.out.1 LLl1_1.out.2.1 (by have h1 := I1.out.2.1; have h2 := HE.out.2.2.2.1; show potE t1 ≤ 900000; omega) (by have h1 := I1.out.2.2; have h2 := HE.out.2.2.2.2; omega)
  have HZ1 : Hid (Z1 = thrE W n l1 t1) := hZ1
  clear hZ1
  go_wp2_with fail
  refine (show Calls Tryz.prog 41 _ _ _ from HC.out).mono ?_
  clear HC
  intro e1 w2 G
  have hR : R = Z1 := by rw [HR.out]; simp [ctlE, bdE, ← HZ0.out, HZ1.out]
  clear HR
  subst hR
  have G2 : Hid (TrP S d F M W s v0 R w0 e1 w2) := TrP.step I1.out.1 G
  clear G
  rcases R with k | t9
  · obtain ⟨rfl, o9⟩ := G2.out
    have OO : Hid _ := o9
    clear o9 G2
    unfold gupE
    go_wp2
    exact ⟨rfl, rfl, OO.out⟩
  · obtain ⟨rfl, o9⟩ := G2.out
    clear G2
    go_wp2
    first | (refine bodyPost_ret (results_none rfl _ _ _) rfl ?_; exact ⟨rfl, o9⟩) | (refine ⟨_, results_none rfl _ _ _, rfl, o9⟩) | (refine ⟨rfl, _, results_none rfl _ _ _, rfl, o9⟩)
set_option maxRecDepth 100000 in
set_option maxHeartbeats 1000000 in
theorem ct_dip {W : ByteArray → Option (Nat × Nat)} {S : Nat → Prop} {d F M n : Nat} (hW : WdOk W) (TH : ThC W S d F M n) {s : Nat} {v0 : Value} {t0 : Ist} {w0 : World} (he : Env S F M s) (hev : EvAt w0 F M W t0.a) (hes : EsV w0 S d s t0.st t0.tk v0) (hp : potE t0 + 32 ≤ 900000) (ha : t0.a < n) :
    Calls Tryz.prog 61 #[.pointer (some ⟨F, 0, none⟩), .pointer (some ⟨s, 0, none⟩)] w0 (TrP S d F M W s v0 (ctlE (thrE W n) 2 t0) w0) := by
  have HE : Hid (Env S F M s ∧ WdOk W ∧ ThC W S d F M n ∧ potE t0 + 32 ≤ 900000 ∧ t0.a < n) := ⟨he, hW, TH, hp, ha⟩
  have I0 : Hid (InV w0 w0 S d F M W s v0 v0 t0 ∧ potE t0 ≤ potE t0 ∧ t0.a ≤ t0.a) := ⟨InV.refl hev hes, Nat.le_refl _, Nat.le_refl _⟩
  obtain ⟨R, hR0⟩ : ∃ R, R = ctlE (thrE W n) 2 t0 := ⟨_, rfl⟩
  rw [← hR0]
  have HR : Hid (R = ctlE (thrE W n) 2 t0) := hR0
  have HFN : Hid (∀ w, Calls Tryz.prog 77 #[.bool false] w fun e w' => e = gupE 12 ∧ w' = w) := fit_no
  have HFY : Hid (∀ w, Calls Tryz.prog 77 #[.bool true] w fun e w' => e = .returned (.tuple #[]) ∧ w' = w) := fit_yes
  clear he hW TH hp ha hev hes hR0
  go_enter Tryz.func61, Tryz.ntmps61
  obtain ⟨Z0, hZ0⟩ : ∃ Z, Z = quoE t0 := ⟨_, rfl⟩
  have HC : Hid (Calls Tryz.prog 75 #[.pointer (some ⟨s, 0, none⟩)] w0 (QuP S d s v0 Z0 w0)) := by rw [hZ0]; exact quotation_any t0.a I0.out.1.2.1 (fun b hb => (HE.out.1.2.2.2 b hb).1) (by have h1 := I0.out.2.1; have h2 := HE.out.2.2.2.1; show potE t0 ≤ 1000000; omega)
  have HZ0 : Hid (Z0 = quoE t0) := hZ0
  clear hZ0
  go_wp2_with fail
  refine (show Calls Tryz.prog 75 _ _ _ from HC.out).mono ?_
  clear HC
  intro e0 w1 G
  rcases Z0 with k0 | ⟨l1, t1⟩
  · obtain ⟨rfl, o1⟩ := G
    have hR : R = .error k0 := by rw [HR.out]; simp [ctlE, bdE, ← HZ0.out]
    have OO : Hid (Only (BsF F s v0) w0 w1) := I0.out.1.wide (o1.mono (fun _ _ e => .inr (.inl e)))
    clear HR
    subst hR
    unfold gupE
    go_wp2
    exact ⟨rfl, rfl, OO.out⟩
  obtain ⟨ao1, cap1, rfl, G⟩ := G
  obtain ⟨q1, q2, q3, q4⟩ := G.out
  have hq := quoE_pot HZ0.out.symm
  have hqa : t1.a = t0.a := hq.1
  have hqp : potE t1 + 1 ≤ potE t0 := hq.2
  obtain ⟨v1, iv⟩ := I0.out.1.eso HE.out.1 q4
  have I1 : Hid (InV w0 w1 S d F M W s v0 v1 t1 ∧ potE t1 ≤ potE t0 + 0 ∧ t1.a ≤ t0.a) := by
    have e9 : (⟨t0.a, t1.st, t1.tk⟩ : Ist) = t1 := by rw [← hqa]
    have h1 := I0.out.2
    simp only at iv
    rw [e9] at iv
    exact ⟨iv, by omega, by omega⟩
  have LLl1_1 : Hid (l1.length ≤ cap1 ∧ SmL l1 ∧ QsAt w1 S d l1 ao1) := ⟨q1, q2, q3⟩
  clear G q1 q2 q3 q4 hq hqa hqp iv
  obtain ⟨P1, hP1⟩ : ∃ P, P = popE t1 := ⟨_, rfl⟩
  have HC : Hid (Calls Tryz.prog 76 #[.pointer (some ⟨s, 0, none⟩)] w1 (PoV S d s v1 P1.1 P1.2.st P1.2.tk w1)) := by rw [hP1]; exact pop_v t1.a I1.out.1.2.1 (fun b hb => (HE.out.1.2.2.2 b hb).1) (by have h1 := I1.out.2.1; have h2 := HE.out.2.2.2.1; show potE t1 ≤ 1000000; omega)
  have HP1 : Hid (P1 = popE t1) := hP1
  clear hP1
  go_wp2_with fail
  refine (show Calls Tryz.prog 76 _ _ _ from HC.out).mono ?_
  clear HC
  rintro e1 w2 ⟨b2, ao2, m2, cap2, rfl, G⟩
  obtain ⟨x2, t2⟩ := P1
  obtain ⟨g1, ⟨v', g2, g5⟩, g3⟩ := G.out
  have hpa : t2.a = t1.a := by have := popE_a t1; rw [← HP1.out] at this; exact this
  have hpp : potE t2 ≤ potE t1 + 1 := by have := popE_pot t1; rw [← HP1.out] at this; exact this
  have eo : EsO w1 w2 S d s v1 t2.st t2.tk := ⟨⟨v', g2, .inl g5⟩, g3.mono (fun _ _ e => .inl e)⟩
  obtain ⟨v2, iv⟩ := I1.out.1.eso HE.out.1 eo
  have I2 : Hid (InV w0 w2 S d F M W s v0 v2 t2 ∧ potE t2 ≤ potE t0 + 1 ∧ t2.a ≤ t0.a) := by
    have e9 : (⟨t1.a, t2.st, t2.tk⟩ : Ist) = t2 := by rw [← hpa]
    have h1 := I1.out.2
    rw [e9] at iv
    exact ⟨iv, by omega, by omega⟩
  have X2_2 : Hid (EnAt w2 S d x2 b2 ao2 m2 cap2) := g1
  have LLl1_2 : Hid (l1.length ≤ cap1 ∧ SmL l1 ∧ QsAt w2 S d l1 ao1) := ⟨LLl1_1.out.1, LLl1_1.out.2.1, LLl1_1.out.2.2.in I1.out.1.2.1 HE.out.1 (eo.2.mono (fun _ _ e => .inr e))⟩
  clear G g1 g2 g5 g3 hpa hpp iv eo
  go_wp2_with fail
  obtain ⟨w3, hw3⟩ : ∃ X, X = w2.alloc (.cells #[.bool b2, .slice ao2 m2 cap2] 130) := ⟨_, rfl⟩
  obtain ⟨v3, hv3⟩ : ∃ X, X = v2 := ⟨_, rfl⟩
  obtain ⟨t3, ht3⟩ : ∃ X, X = t2 := ⟨_, rfl⟩
  obtain ⟨N3, hN3⟩ : ∃ X, X = w2.heap.size := ⟨_, rfl⟩
  have oa3 : Only (fun _ => False) w2 w3 := by rw [hw3]; exact (Only.refl _ _).alloc _
  have I3 : Hid (InV w0 w3 S d F M W s v0 v3 t3 ∧ potE t3 ≤ potE t0 + 1 ∧ t3.a ≤ t0.a) := by
    rw [hv3, ht3]
    exact ⟨I2.out.1.only oa3, I2.out.2⟩
  have B3_3 : Hid (w3.heap[N3]? = some (.cells #[.bool b2, .slice ao2 m2 cap2] 130) ∧ N3 ≠ s ∧ N3 ≠ F ∧ v3.ownBlock ≠ some N3) := by
    have h1 := EsAt.lt ⟨v2, I2.out.1.2.1⟩
    have h2 := HE.out.1.1
    refine ⟨by rw [hw3]; exact ealloc_at _ _ _ hN3, by omega, by omega, fun e => ?_⟩
    rw [hv3] at e
    have := (I2.out.1.2.1.own N3 e).2
    omega
  have LLl1_3 : Hid (l1.length ≤ cap1 ∧ SmL l1 ∧ QsAt w3 S d l1 ao1) := ⟨LLl1_2.out.1, LLl1_2.out.2.1, LLl1_2.out.2.2.only oa3 (fun _ _ e => e)⟩
  have X2_3 : Hid (EnAt w3 S d x2 b2 ao2 m2 cap2) := X2_2.out.only oa3 (fun _ _ e => e)
  rw [← hw3, ← hN3]
  have HT3 : Hid (t3 = t2) := ht3
  clear oa3 hw3 hv3 ht3 hN3
  obtain ⟨Z3, hZ3⟩ : ∃ Z, Z = thrE W n l1 t3 := ⟨_, rfl⟩
  have HC : Hid (Calls Tryz.prog 41 #[.pointer (some ⟨F, 0, none⟩), .slice ao1 l1.length cap1, .pointer (some ⟨s, 0, none⟩)] w3 (TrP S d F M W s v3 Z3 w3)) := by rw [hZ3]; exact HE.out.2.2.1 l1 ao1 cap1 s v3 t3 w3 HE.out.1 I3.out.1.1 I3.out.1.2.1 LLl1_3.out.2.2 LLl1_3.out.1 LLl1_3.out.2.1 (by have h1 := I3.out.2.1; have h2 := HE.out.2.2.2.1; show potE t3 ≤ 900000; omega) (by have h1 := I3.out.2.2; have h2 := HE.out.2.2.2.2; omega)
  have HZ3 : Hid (Z3 = thrE W n l1 t3) := hZ3
  clear hZ3
  obtain ⟨u3, -, -, -⟩ := B3_3.out
  have y3 := wr2_cell u3
  obtain ⟨y3a, y3b, -, -⟩ := y3
  clear u3
  refine (show Calls Tryz.prog 41 _ _ _ from HC.out).mono ?_
  clear HC
  clear y3a y3b
  intro e3 w4 G
  rcases Z3 with k3 | t4
  · obtain ⟨rfl, o1⟩ := G
    have hR : R = .error k3 := by rw [HR.out]; simp [ctlE, bdE, ← HZ0.out, ← HP1.out, ← HT3.out, ← HZ3.out]
    have OO : Hid (Only (BsF F s v0) w0 w4) := I3.out.1.wide (o1)
    clear HR
    subst hR
    unfold gupE
    go_wp2
    exact ⟨rfl, rfl, OO.out⟩
  obtain ⟨rfl, G⟩ := G
  obtain ⟨v4, iv⟩ := G.out
  have hpt := thrE_pot HE.out.2.1 n l1 t3 t4 HZ3.out.symm
  have I4 : Hid (InV w0 w4 S d F M W s v0 v4 t4 ∧ potE t4 ≤ potE t0 + 1 ∧ t4.a ≤ t0.a) := by
    have h1 := I3.out.2
    exact ⟨I3.out.1.trans iv, by omega, by omega⟩
  have oo := iv.2.2.2
  have rk := iv.2.2.1
  have B3_4 : Hid (w4.heap[N3]? = some (.cells #[.bool b2, .slice ao2 m2 cap2] 130) ∧ N3 ≠ s ∧ N3 ≠ F ∧ v4.ownBlock ≠ some N3) := by
    obtain ⟨h1, h2, h3, h4⟩ := B3_3.out
    refine ⟨(oo.block N3 (Array.getElem?_eq_some_iff.1 h1).1 (fun e => ?_)).trans h1, h2, h3, fun e => ?_⟩
    · rcases e with e | e | e
      · exact h3 e
      · exact h2 e
      · exact h4 e
    · rcases rk with rk | ⟨q, rk, hq⟩
      · exact h4 (rk ▸ e)
      · rw [rk] at e
        injection e with e
        have := (Array.getElem?_eq_some_iff.1 h1).1
        omega
  have X2_4 : Hid (EnAt w4 S d x2 b2 ao2 m2 cap2) := X2_3.out.only oo (fun b hb e => by
    have h5 := HE.out.1.2.2.2 b hb
    rcases e with e | e | e
    · exact h5.2 e
    · omega
    · have := (I3.out.1.2.1.own b e).1
      omega)
  clear G iv hpt oo rk
  have HC : Hid _ := push_v I4.out.1.2.1 (fun b hb => (HE.out.1.2.2.2 b hb).1) X2_4.out (by have h1 := I4.out.2.1; have h2 := HE.out.2.2.2.1; have h3 : potE t4 = t4.st.length + t4.tk + 32 * t4.a := rfl; omega)
  obtain ⟨u3, -, -, -⟩ := B3_4.out
  have y3 := wr2_cell u3
  obtain ⟨y3a, y3b, -, -⟩ := y3
  clear u3
  go_wp2_with fail
  refine (show Calls Tryz.prog 55 _ _ _ from HC.out).mono ?_
  clear HC
  clear y3a y3b
  rintro e4 w5 ⟨rfl, G⟩
  obtain ⟨⟨v5, gv9, gr9⟩, go9⟩ := G.out
  have iv := InV.esv (st := t4.st ++ [x2]) (tk := t4.tk) I4.out.1 HE.out.1 gv9 gr9 go9
  have hR : R = .ok (pushE x2 t4) := by rw [HR.out]; simp [ctlE, bdE, ← HZ0.out, ← HP1.out, ← HT3.out, ← HZ3.out]
  have F9 : Hid (∃ v', InV w0 w5 S d F M W s v0 v' (pushE x2 t4)) := ⟨v5, iv⟩
  clear HR G iv
  subst hR
  go_wp2
  first | (refine bodyPost_ret (results_none rfl _ _ _) rfl ?_; exact ⟨rfl, F9.out⟩) | (refine ⟨_, results_none rfl _ _ _, rfl, F9.out⟩) | (refine ⟨rfl, _, results_none rfl _ _ _, rfl, F9.out⟩)
set_option maxRecDepth 100000 in
set_option maxHeartbeats 1000000 in
theorem ct_keep {W : ByteArray → Option (Nat × Nat)} {S : Nat → Prop} {d F M n : Nat} (hW : WdOk W) (TH : ThC W S d F M n) {s : Nat} {v0 : Value} {t0 : Ist} {w0 : World} (he : Env S F M s) (hev : EvAt w0 F M W t0.a) (hes : EsV w0 S d s t0.st t0.tk v0) (hp : potE t0 + 32 ≤ 900000) (ha : t0.a < n) :
    Calls Tryz.prog 62 #[.pointer (some ⟨F, 0, none⟩), .pointer (some ⟨s, 0, none⟩)] w0 (TrP S d F M W s v0 (ctlE (thrE W n) 3 t0) w0) := by
  have HE : Hid (Env S F M s ∧ WdOk W ∧ ThC W S d F M n ∧ potE t0 + 32 ≤ 900000 ∧ t0.a < n) := ⟨he, hW, TH, hp, ha⟩
  have I0 : Hid (InV w0 w0 S d F M W s v0 v0 t0 ∧ potE t0 ≤ potE t0 ∧ t0.a ≤ t0.a) := ⟨InV.refl hev hes, Nat.le_refl _, Nat.le_refl _⟩
  obtain ⟨R, hR0⟩ : ∃ R, R = ctlE (thrE W n) 3 t0 := ⟨_, rfl⟩
  rw [← hR0]
  have HR : Hid (R = ctlE (thrE W n) 3 t0) := hR0
  have HFN : Hid (∀ w, Calls Tryz.prog 77 #[.bool false] w fun e w' => e = gupE 12 ∧ w' = w) := fit_no
  have HFY : Hid (∀ w, Calls Tryz.prog 77 #[.bool true] w fun e w' => e = .returned (.tuple #[]) ∧ w' = w) := fit_yes
  clear he hW TH hp ha hev hes hR0
  go_enter Tryz.func62, Tryz.ntmps62
  obtain ⟨Z0, hZ0⟩ : ∃ Z, Z = quoE t0 := ⟨_, rfl⟩
  have HC : Hid (Calls Tryz.prog 75 #[.pointer (some ⟨s, 0, none⟩)] w0 (QuP S d s v0 Z0 w0)) := by rw [hZ0]; exact quotation_any t0.a I0.out.1.2.1 (fun b hb => (HE.out.1.2.2.2 b hb).1) (by have h1 := I0.out.2.1; have h2 := HE.out.2.2.2.1; show potE t0 ≤ 1000000; omega)
  have HZ0 : Hid (Z0 = quoE t0) := hZ0
  clear hZ0
  go_wp2_with fail
  refine (show Calls Tryz.prog 75 _ _ _ from HC.out).mono ?_
  clear HC
  intro e0 w1 G
  rcases Z0 with k0 | ⟨l1, t1⟩
  · obtain ⟨rfl, o1⟩ := G
    have hR : R = .error k0 := by rw [HR.out]; simp [ctlE, bdE, ← HZ0.out]
    have OO : Hid (Only (BsF F s v0) w0 w1) := I0.out.1.wide (o1.mono (fun _ _ e => .inr (.inl e)))
    clear HR
    subst hR
    unfold gupE
    go_wp2
    exact ⟨rfl, rfl, OO.out⟩
  obtain ⟨ao1, cap1, rfl, G⟩ := G
  obtain ⟨q1, q2, q3, q4⟩ := G.out
  have hq := quoE_pot HZ0.out.symm
  have hqa : t1.a = t0.a := hq.1
  have hqp : potE t1 + 1 ≤ potE t0 := hq.2
  obtain ⟨v1, iv⟩ := I0.out.1.eso HE.out.1 q4
  have I1 : Hid (InV w0 w1 S d F M W s v0 v1 t1 ∧ potE t1 ≤ potE t0 + 0 ∧ t1.a ≤ t0.a) := by
    have e9 : (⟨t0.a, t1.st, t1.tk⟩ : Ist) = t1 := by rw [← hqa]
    have h1 := I0.out.2
    simp only at iv
    rw [e9] at iv
    exact ⟨iv, by omega, by omega⟩
  have LLl1_1 : Hid (l1.length ≤ cap1 ∧ SmL l1 ∧ QsAt w1 S d l1 ao1) := ⟨q1, q2, q3⟩
  clear G q1 q2 q3 q4 hq hqa hqp iv
  obtain ⟨P1, hP1⟩ : ∃ P, P = popE t1 := ⟨_, rfl⟩
  have HC : Hid (Calls Tryz.prog 76 #[.pointer (some ⟨s, 0, none⟩)] w1 (PoV S d s v1 P1.1 P1.2.st P1.2.tk w1)) := by rw [hP1]; exact pop_v t1.a I1.out.1.2.1 (fun b hb => (HE.out.1.2.2.2 b hb).1) (by have h1 := I1.out.2.1; have h2 := HE.out.2.2.2.1; show potE t1 ≤ 1000000; omega)
  have HP1 : Hid (P1 = popE t1) := hP1
  clear hP1
  go_wp2_with fail
  refine (show Calls Tryz.prog 76 _ _ _ from HC.out).mono ?_
  clear HC
  rintro e1 w2 ⟨b2, ao2, m2, cap2, rfl, G⟩
  obtain ⟨x2, t2⟩ := P1
  obtain ⟨g1, ⟨v', g2, g5⟩, g3⟩ := G.out
  have hpa : t2.a = t1.a := by have := popE_a t1; rw [← HP1.out] at this; exact this
  have hpp : potE t2 ≤ potE t1 + 1 := by have := popE_pot t1; rw [← HP1.out] at this; exact this
  have eo : EsO w1 w2 S d s v1 t2.st t2.tk := ⟨⟨v', g2, .inl g5⟩, g3.mono (fun _ _ e => .inl e)⟩
  obtain ⟨v2, iv⟩ := I1.out.1.eso HE.out.1 eo
  have I2 : Hid (InV w0 w2 S d F M W s v0 v2 t2 ∧ potE t2 ≤ potE t0 + 1 ∧ t2.a ≤ t0.a) := by
    have e9 : (⟨t1.a, t2.st, t2.tk⟩ : Ist) = t2 := by rw [← hpa]
    have h1 := I1.out.2
    rw [e9] at iv
    exact ⟨iv, by omega, by omega⟩
  have X2_2 : Hid (EnAt w2 S d x2 b2 ao2 m2 cap2) := g1
  have LLl1_2 : Hid (l1.length ≤ cap1 ∧ SmL l1 ∧ QsAt w2 S d l1 ao1) := ⟨LLl1_1.out.1, LLl1_1.out.2.1, LLl1_1.out.2.2.in I1.out.1.2.1 HE.out.1 (eo.2.mono (fun _ _ e => .inr e))⟩
  clear G g1 g2 g5 g3 hpa hpp iv eo
  go_wp2_with fail
  obtain ⟨w3, hw3⟩ : ∃ X, X = w2.alloc (.cells #[.bool b2, .slice ao2 m2 cap2] 130) := ⟨_, rfl⟩
  obtain ⟨v3, hv3⟩ : ∃ X, X = v2 := ⟨_, rfl⟩
  obtain ⟨t3, ht3⟩ : ∃ X, X = t2 := ⟨_, rfl⟩
  obtain ⟨N3, hN3⟩ : ∃ X, X = w2.heap.size := ⟨_, rfl⟩
  have oa3 : Only (fun _ => False) w2 w3 := by rw [hw3]; exact (Only.refl _ _).alloc _
  have I3 : Hid (InV w0 w3 S d F M W s v0 v3 t3 ∧ potE t3 ≤ potE t0 + 1 ∧ t3.a ≤ t0.a) := by
    rw [hv3, ht3]
    exact ⟨I2.out.1.only oa3, I2.out.2⟩
  have B3_3 : Hid (w3.heap[N3]? = some (.cells #[.bool b2, .slice ao2 m2 cap2] 130) ∧ N3 ≠ s ∧ N3 ≠ F ∧ v3.ownBlock ≠ some N3) := by
    have h1 := EsAt.lt ⟨v2, I2.out.1.2.1⟩
    have h2 := HE.out.1.1
    refine ⟨by rw [hw3]; exact ealloc_at _ _ _ hN3, by omega, by omega, fun e => ?_⟩
    rw [hv3] at e
    have := (I2.out.1.2.1.own N3 e).2
    omega
  have LLl1_3 : Hid (l1.length ≤ cap1 ∧ SmL l1 ∧ QsAt w3 S d l1 ao1) := ⟨LLl1_2.out.1, LLl1_2.out.2.1, LLl1_2.out.2.2.only oa3 (fun _ _ e => e)⟩
  have X2_3 : Hid (EnAt w3 S d x2 b2 ao2 m2 cap2) := X2_2.out.only oa3 (fun _ _ e => e)
  rw [← hw3, ← hN3]
  have HT3 : Hid (t3 = t2) := ht3
  clear oa3 hw3 hv3 ht3 hN3
  have HC : Hid _ := push_v I3.out.1.2.1 (fun b hb => (HE.out.1.2.2.2 b hb).1) X2_3.out (by have h1 := I3.out.2.1; have h2 := HE.out.2.2.2.1; have h3 : potE t3 = t3.st.length + t3.tk + 32 * t3.a := rfl; omega)
  obtain ⟨u3, -, -, -⟩ := B3_3.out
  have y3 := wr2_cell u3
  obtain ⟨y3a, y3b, -, -⟩ := y3
  clear u3
  refine (show Calls Tryz.prog 55 _ _ _ from HC.out).mono ?_
  clear HC
  clear y3a y3b
  rintro e3 w4 ⟨rfl, G⟩
  obtain ⟨⟨v4, gv9, gr9⟩, go9⟩ := G.out
  have iv := InV.esv (st := t3.st ++ [x2]) (tk := t3.tk) I3.out.1 HE.out.1 gv9 gr9 go9
  obtain ⟨t4, ht4⟩ : ∃ X, X = pushE x2 t3 := ⟨_, rfl⟩
  have I4 : Hid (InV w0 w4 S d F M W s v0 v4 t4 ∧ potE t4 ≤ potE t0 + 2 ∧ t4.a ≤ t0.a) := by
    have h1 := I3.out.2
    have h2 : potE t4 = potE t3 + 1 := by rw [ht4]; unfold potE pushE; simp; omega
    have h3 : t4.a = t3.a := by rw [ht4]; rfl
    exact ⟨by rw [ht4]; exact iv, by omega, by omega⟩
  have oo : Only (BsF F s v3) w3 w4 := go9.mono (fun _ _ e => .inr e)
  have rk : RwK w3 v3 v4 := gr9
  have LLl1_4 : Hid (l1.length ≤ cap1 ∧ SmL l1 ∧ QsAt w4 S d l1 ao1) := ⟨LLl1_3.out.1, LLl1_3.out.2.1, LLl1_3.out.2.2.in I3.out.1.2.1 HE.out.1 oo⟩
  have B3_4 : Hid (w4.heap[N3]? = some (.cells #[.bool b2, .slice ao2 m2 cap2] 130) ∧ N3 ≠ s ∧ N3 ≠ F ∧ v4.ownBlock ≠ some N3) := by
    obtain ⟨h1, h2, h3, h4⟩ := B3_3.out
    refine ⟨(oo.block N3 (Array.getElem?_eq_some_iff.1 h1).1 (fun e => ?_)).trans h1, h2, h3, fun e => ?_⟩
    · rcases e with e | e | e
      · exact h3 e
      · exact h2 e
      · exact h4 e
    · rcases rk with rk | ⟨q, rk, hq⟩
      · exact h4 (rk ▸ e)
      · rw [rk] at e
        injection e with e
        have := (Array.getElem?_eq_some_iff.1 h1).1
        omega
  have X2_4 : Hid (EnAt w4 S d x2 b2 ao2 m2 cap2) := X2_3.out.only oo (fun b hb e => by
    have h5 := HE.out.1.2.2.2 b hb
    rcases e with e | e | e
    · exact h5.2 e
    · omega
    · have := (I3.out.1.2.1.own b e).1
      omega)
  have HT4 : Hid (t4 = pushE x2 t3) := ht4
  clear G iv oo rk ht4 gv9 gr9 go9
  obtain ⟨Z4, hZ4⟩ : ∃ Z, Z = thrE W n l1 t4 := ⟨_, rfl⟩
  have HC : Hid (Calls Tryz.prog 41 #[.pointer (some ⟨F, 0, none⟩), .slice ao1 l1.length cap1, .pointer (some ⟨s, 0, none⟩)] w4 (TrP S d F M W s v4 Z4 w4)) := by rw [hZ4]; exact HE.out.2.2.1 l1 ao1 cap1 s v4 t4 w4 HE.out.1 I4.out.1.1 I4.out.1.2.1 LLl1_4.out.2.2 LLl1_4.out.1 LLl1_4.out.2.1 (by have h1 := I4.out.2.1; have h2 := HE.out.2.2.2.1; show potE t4 ≤ 900000; omega) (by have h1 := I4.out.2.2; have h2 := HE.out.2.2.2.2; omega)
  have HZ4 : Hid (Z4 = thrE W n l1 t4) := hZ4
  clear hZ4
  obtain ⟨u3, -, -, -⟩ := B3_4.out
  have y3 := wr2_cell u3
  obtain ⟨y3a, y3b, -, -⟩ := y3
  clear u3
  go_wp2_with fail
  refine (show Calls Tryz.prog 41 _ _ _ from HC.out).mono ?_
  clear HC
  clear y3a y3b
  intro e4 w5 G
  rcases Z4 with k4 | t5
  · obtain ⟨rfl, o1⟩ := G
    have hR : R = .error k4 := by rw [HR.out]; simp [ctlE, bdE, ← HZ0.out, ← HP1.out, ← HT3.out, ← HT4.out, ← HZ4.out]
    have OO : Hid (Only (BsF F s v0) w0 w5) := I4.out.1.wide (o1)
    clear HR
    subst hR
    unfold gupE
    go_wp2
    exact ⟨rfl, rfl, OO.out⟩
  obtain ⟨rfl, G⟩ := G
  obtain ⟨v5, iv⟩ := G.out
  have hpt := thrE_pot HE.out.2.1 n l1 t4 t5 HZ4.out.symm
  have I5 : Hid (InV w0 w5 S d F M W s v0 v5 t5 ∧ potE t5 ≤ potE t0 + 2 ∧ t5.a ≤ t0.a) := by
    have h1 := I4.out.2
    exact ⟨I4.out.1.trans iv, by omega, by omega⟩
  have oo := iv.2.2.2
  have rk := iv.2.2.1
  have B3_5 : Hid (w5.heap[N3]? = some (.cells #[.bool b2, .slice ao2 m2 cap2] 130) ∧ N3 ≠ s ∧ N3 ≠ F ∧ v5.ownBlock ≠ some N3) := by
    obtain ⟨h1, h2, h3, h4⟩ := B3_4.out
    refine ⟨(oo.block N3 (Array.getElem?_eq_some_iff.1 h1).1 (fun e => ?_)).trans h1, h2, h3, fun e => ?_⟩
    · rcases e with e | e | e
      · exact h3 e
      · exact h2 e
      · exact h4 e
    · rcases rk with rk | ⟨q, rk, hq⟩
      · exact h4 (rk ▸ e)
      · rw [rk] at e
        injection e with e
        have := (Array.getElem?_eq_some_iff.1 h1).1
        omega
  have X2_5 : Hid (EnAt w5 S d x2 b2 ao2 m2 cap2) := X2_4.out.only oo (fun b hb e => by
    have h5 := HE.out.1.2.2.2 b hb
    rcases e with e | e | e
    · exact h5.2 e
    · omega
    · have := (I4.out.1.2.1.own b e).1
      omega)
  clear G iv hpt oo rk
  have HC : Hid _ := push_v I5.out.1.2.1 (fun b hb => (HE.out.1.2.2.2 b hb).1) X2_5.out (by have h1 := I5.out.2.1; have h2 := HE.out.2.2.2.1; have h3 : potE t5 = t5.st.length + t5.tk + 32 * t5.a := rfl; omega)
  obtain ⟨u3, -, -, -⟩ := B3_5.out
  have y3 := wr2_cell u3
  obtain ⟨y3a, y3b, -, -⟩ := y3
  clear u3
  go_wp2_with fail
  refine (show Calls Tryz.prog 55 _ _ _ from HC.out).mono ?_
  clear HC
  clear y3a y3b
  rintro e5 w6 ⟨rfl, G⟩
  obtain ⟨⟨v6, gv9, gr9⟩, go9⟩ := G.out
  have iv := InV.esv (st := t5.st ++ [x2]) (tk := t5.tk) I5.out.1 HE.out.1 gv9 gr9 go9
  have hR : R = .ok (pushE x2 t5) := by rw [HR.out]; simp [ctlE, bdE, ← HZ0.out, ← HP1.out, ← HT3.out, ← HT4.out, ← HZ4.out]
  have F9 : Hid (∃ v', InV w0 w6 S d F M W s v0 v' (pushE x2 t5)) := ⟨v6, iv⟩
  clear HR G iv
  subst hR
  go_wp2
  first | (refine bodyPost_ret (results_none rfl _ _ _) rfl ?_; exact ⟨rfl, F9.out⟩) | (refine ⟨_, results_none rfl _ _ _, rfl, F9.out⟩) | (refine ⟨rfl, _, results_none rfl _ _ _, rfl, F9.out⟩)
end Go.Proofs.YtodbkihobgdpdaaGreatDoor
