/- manifest.Parse: all vocabularies of a text. Two texts, one behind the other: what they are read as. The document's way through a text of vocabularies, line by line: it is read as the program reads it. The words of a line, as the document parts it: the pieces of strings.Split. -/
import Derived.Test.YtfecmpebnianpaaGreatDoorGan
namespace Go.Proofs.YtfecmpebnianpaaGreatDoor
open Go.RowKit
set_option linter.unusedSimpArgs false
set_option linter.unusedVariables false
theorem linS_pos : ∀ (r a : List UInt8) (n : Nat), (∀ x ∈ (linS r a n).1, n < x.1) ∧ n < (linS r a n).2.1
  | [], a, n => by simp [linS]
  | c :: r, a, n => by
    unfold linS
    split
    · have := linS_pos r [] (n + 1)
      split
      · exact ⟨fun x hx => by have := this.1 x hx; omega, by omega⟩
      · refine ⟨fun x hx => ?_, by simp only; omega⟩
        rcases List.mem_cons.1 hx with rfl | hx
        · simp
        · have := this.1 x hx; omega
    · exact linS_pos r (a ++ [c]) n
theorem mpD_pos {z : Nat} (hz : 0 < z) : ∀ (q : List (Nat × List UInt8)) (acc : List Fm) (k : Nat), (∀ x ∈ q, 0 < x.1) → mpD z q acc = .error k → 0 < k
  | [], _, k, _, h => by simp only [mpD, Except.error.injEq] at h; omega
  | (n, t) :: q, acc, k, hq, h => by
    unfold mpD at h
    split at h
    · cases h
    · split at h
      · simp only [Except.error.injEq] at h
        have := hq (n, t) (List.mem_cons_self ..)
        simp only at this
        omega
      · exact mpD_pos hz q _ k (fun x hx => hq x (List.mem_cons_of_mem _ hx)) h
theorem mkU_err {us : List ByteArray} {X : Except Nat (List Fm × List (Nat × List UInt8))} {k : Nat} (h : mkU us X = .error k) : X = .error k := by
  cases X with
  | error e => simpa [mkU] using h
  | ok p => cases h
theorem mkM_err {nm : ByteArray} {X : Except Nat (List ByteArray × List Fm × List (Nat × List UInt8))} {k : Nat} (h : mkM nm X = .error k) : X = .error k := by
  cases X with
  | error e => simpa [mkM] using h
  | ok p => cases h
theorem mpU_pos {z : Nat} (hz : 0 < z) {q : List (Nat × List UInt8)} {k : Nat} (hq : ∀ x ∈ q, 0 < x.1) (h : mpU z q = .error k) : 0 < k := by
  unfold mpU at h
  split at h
  · simp only [Except.error.injEq] at h; omega
  · split at h
    · exact mpD_pos hz _ _ k (fun x hx => hq x (List.mem_cons_of_mem _ hx)) (mkU_err h)
    · exact mpD_pos hz _ _ k hq (mkU_err h)
theorem mpR_pos {z n : Nat} (hz : 0 < z) (hn : 0 < n) {t : List UInt8} {q : List (Nat × List UInt8)} {k : Nat} (hq : ∀ x ∈ q, 0 < x.1) (h : mpR z n t q = .error k) : 0 < k := by
  unfold mpR at h
  split at h
  · exact mpU_pos hz hq (mkM_err h)
  · simp only [Except.error.injEq] at h; omega
theorem mpR_nil (z n : Nat) (q : List (Nat × List UInt8)) : mpR z n [] q = .error n := by
  unfold mpR
  simp only [nmO_nilV]
theorem mpD_sub {z : Nat} : ∀ (q : List (Nat × List UInt8)) (acc ds : List Fm) (q' : List (Nat × List UInt8)), mpD z q acc = .ok (ds, q') → ∀ x ∈ q', x ∈ q
  | [], _, _, _, h => by simp [mpD] at h
  | (n, t) :: q, acc, ds, q', h => by
    unfold mpD at h
    split at h
    · simp only [Except.ok.injEq, Prod.mk.injEq] at h
      obtain ⟨_, rfl⟩ := h
      exact fun x hx => List.mem_cons_of_mem _ hx
    · split at h
      · cases h
      · exact fun x hx => List.mem_cons_of_mem _ (mpD_sub q _ _ _ h x hx)
theorem mpR_sub {z n : Nat} {t : List UInt8} {q : List (Nat × List UInt8)} {m : Mf} {q' : List (Nat × List UInt8)} (h : mpR z n t q = .ok (m, q')) : ∀ x ∈ q', x ∈ q := by
  unfold mpR at h
  split at h
  · have h2 := (mkM_ok h).2
    unfold mpU at h2
    split at h2
    · cases h2
    · split at h2
      · exact fun x hx => List.mem_cons_of_mem _ (mpD_sub _ _ _ _ (mkU_ok h2).2 x hx)
      · exact mpD_sub _ _ _ _ (mkU_ok h2).2
  · cases h
/-- what was read already, ahead of the rest -/
def preM (acc : List Mf) : Except Nat (List Mf) → Except Nat (List Mf)
  | .error k => .error k
  | .ok l => .ok (acc ++ l)
theorem preM_cons (acc : List Mf) (m : Mf) (X : Except Nat (List Mf)) : preM acc (consM m X) = preM (acc ++ [m]) X := by
  cases X with
  | error k => rfl
  | ok l => simp [preM, consM]
theorem mpA_nil (z : Nat) (b : Bool) (f : Nat) : mpA z b f [] = if b then .ok [] else .error z := by
  cases f <;> rfl
/-- how many lines are to come, at the head of the loop -/
def lnV (N P : Nat) (r : Value) (w : World) : Nat := match r with
  | .pointer (some a) => if lnE w a.block = 0 then 0 else lnQ w N P + 1
  | _ => 0
/-- where the reading stands: a line, or what is behind the last -/
def StM (N P z : Nat) (b : Bool) (R : Except Nat (List Mf)) (acc : List Mf) (k : Nat) (t : List UInt8) (bb : Bool) (w : World) : Prop :=
  t.length ≤ 131072 ∧ ((bb = false ∧ ∃ q f, LnS w N P q z b ∧ R = preM acc (mpA z b f ((k, t) :: q)) ∧ q.length + 1 ≤ f ∧ 0 < k ∧ (∀ x ∈ q, 0 < x.1) ∧ acc.length + q.length ≤ 65536) ∨ (k = z ∧ t = [] ∧ bb = b ∧ R = preM acc (if b then .ok [] else .error z)))
theorem nx_st {N P z : Nat} {b : Bool} {R : Except Nat (List Mf)} {acc : List Mf} {f : Nat} {q : List (Nat × List UInt8)} {w : World} {e : Ending} {w' : World} (g : NxP N P q z b w e w') (hl : LnS w N P q z b) (hR : R = preM acc (mpA z b f q)) (hf : q.length ≤ f) (hp : ∀ x ∈ q, 0 < x.1) (hc : acc.length + q.length ≤ 65537) :
    ∃ k t bb, e = .returned (.agg #[.int .i64 ((k : Nat) : Int), .string (bt t), .bool bb]) ∧ Hid (Only (fun x => x = N ∨ x = P) w w' ∧ StM N P z b R acc k t bb w' ∧ (t ≠ [] → lnQ w' N P + 1 ≤ q.length)) := by
  cases q with
  | nil =>
    obtain ⟨he, g⟩ := g
    exact ⟨z, [], b, he, g.out, ⟨Nat.zero_le _, .inr ⟨rfl, rfl, rfl, by rw [hR, mpA_nil]⟩⟩, fun h => absurd rfl h⟩
  | cons c q =>
    obtain ⟨k, t⟩ := c
    obtain ⟨he, g⟩ := g
    refine ⟨k, t, false, he, g.out.2, ⟨hl.len (k, t) (List.mem_cons_self ..), .inl ⟨rfl, q, f, g.out.1, hR, by simpa using hf, hp (k, t) (List.mem_cons_self ..), fun x hx => hp x (List.mem_cons_of_mem _ hx), by simp at hc; omega⟩⟩, fun _ => ?_⟩
    rw [g.out.1.q]
    simp
/-- what Parse answers -/
def MpP (s : ByteArray) (w : World) (e : Ending) (w' : World) : Prop := ∃ ao cap, e = .returned (.tuple #[.slice ao (mpS s).1.length cap, .int .i64 ((mpS s).2.1 : Int), .int .i64 ((mpS s).2.2 : Int)]) ∧ Hid (GrAt Liv 44 3 McP w' w.heap.size (.slice ao (mpS s).1.length cap) (mpS s).1 ∧ Only (fun _ => False) w w')
set_option maxRecDepth 100000 in
theorem lines_any (s : ByteArray) (w : World) (hs : s.size ≤ 65536) : Calls Tryz.prog 14 #[.string s] w fun e w' => ∃ N P, e = .returned (.func (.func 28) #[] #[.pointer (some ⟨N, 0, none⟩), .pointer (some ⟨P, 0, none⟩)]) ∧ Hid (LnS w' N P (linS s.data.toList [] 0).1 (linS s.data.toList [] 0).2.1 (linS s.data.toList [] 0).2.2 ∧ w.heap.size ≤ N ∧ w.heap.size ≤ P ∧ Only (fun _ => False) w w') := by
  have hN : ((w.alloc (.cells #[.string s] 9)).alloc (.cells #[.int .i64 0] 3)).heap[w.heap.size + 1]? = some (.cells #[.int .i64 0] 3) := alloc_at _ _ _ (by simp)
  have hP0 : (w.alloc (.cells #[.string s] 9)).heap[w.heap.size]? = some (.cells #[.string s] 9) := alloc_at _ _ _ rfl
  have o1 : Only (fun _ => False) w (w.alloc (.cells #[.string s] 9)) := (Only.refl _ w).alloc _
  have o2 : Only (fun _ => False) (w.alloc (.cells #[.string s] 9)) ((w.alloc (.cells #[.string s] 9)).alloc (.cells #[.int .i64 0] 3)) := (Only.refl _ _).alloc _
  have hP := (o2.block _ (Array.getElem?_eq_some_iff.1 hP0).1 (fun g => g)).trans hP0
  have HF : Hid (LnS ((w.alloc (.cells #[.string s] 9)).alloc (.cells #[.int .i64 0] 3)) (w.heap.size + 1) w.heap.size (linS s.data.toList [] 0).1 (linS s.data.toList [] 0).2.1 (linS s.data.toList [] 0).2.2 ∧ w.heap.size ≤ w.heap.size + 1 ∧ w.heap.size ≤ w.heap.size ∧ Only (fun _ => False) w ((w.alloc (.cells #[.string s] 9)).alloc (.cells #[.int .i64 0] 3))) := by
    refine ⟨⟨by omega, 0, s.data.toList, hN, by rw [bt_self]; exact hP, rfl, ?_⟩, by omega, by omega, o1.trans o2 (fun _ _ g => g)⟩
    have : s.data.toList.length = s.size := Array.length_toList
    omega
  clear hN hP0 o1 o2 hP hs
  go_enter Tryz.func14, Tryz.ntmps14
  go_wp2
  go_ret
  exact ⟨_, _, rfl, HF⟩
set_option maxRecDepth 100000 in
set_option maxHeartbeats 8000000 in
theorem mparse_any (s : ByteArray) (w : World) (hE : Evd w) : Calls Tryz.prog 7 #[.string s] w (MpP s w) := by
  by_cases hs : 65536 < s.size
  · have hm : mpS s = ([], 0, 11) := by unfold mpS; rw [if_pos hs]
    have i1 : (65536 : Int) < (s.size : Int) := by omega
    have O : Hid (Only (fun _ => False) w w) := Only.refl _ _
    unfold MpP
    rw [hm]
    clear hm hs hE
    go_enter Tryz.func7, Tryz.ntmps7
    go_wp2
    go_ret3
    exact ⟨none, 0, rfl, gr_nil _ _ _ _ _ _, O.out⟩
  · have hs2 : s.size ≤ 65536 := by omega
    have i1 : ¬ (65536 : Int) < (s.size : Int) := by omega
    have HL : Hid _ := lines_any s w hs2
    obtain ⟨qq, hqq⟩ : ∃ qq, qq = linS s.data.toList [] 0 := ⟨_, rfl⟩
    have hpos := linS_pos s.data.toList [] 0
    have hcnt := linS_cnt s.data.toList [] 0
    have hlen : s.data.toList.length = s.size := Array.length_toList
    obtain ⟨R, hR⟩ : ∃ R, R = mpA qq.2.1 qq.2.2 qq.1.length qq.1 := ⟨_, rfl⟩
    have hm : mpS s = endM R := by unfold mpS; rw [if_neg hs, hR, hqq]
    rw [← hqq] at HL hpos hcnt
    obtain ⟨q0, z, b⟩ := qq
    simp only at HL hpos hcnt hR
    have HP : Hid ((∀ x ∈ q0, 0 < x.1) ∧ 0 < z ∧ q0.length ≤ 65536) := ⟨hpos.1, hpos.2, by omega⟩
    have HPZ : Hid (0 < z) := hpos.2
    have HE : Hid (Evd w) := hE
    have HGm : Hid (0 < w.heap.size ∧ 1 < w.heap.size) := by
      obtain ⟨⟨a, _, _⟩, m, hmx⟩ := hE
      constructor
      · rcases Nat.lt_or_ge 0 w.heap.size with h | h
        · exact h
        · simp [World.cell?, Array.getElem?_eq_none h] at hmx
      · rcases Nat.lt_or_ge 1 w.heap.size with h | h
        · exact h
        · simp [World.cell?, Array.getElem?_eq_none h] at a
    have HRR : Hid (R = mpA z b q0.length q0) := hR
    unfold MpP
    rw [hm]
    have HDE : Hid (∀ k w1, R = .error k → Only (fun _ => False) w w1 → ∃ ao cap, Ending.returned (.tuple #[.slice none 0 0, .int .i64 (k : Int), .int .i64 9]) = .returned (.tuple #[.slice ao (endM R).1.length cap, .int .i64 ((endM R).2.1 : Int), .int .i64 ((endM R).2.2 : Int)]) ∧ Hid (GrAt Liv 44 3 McP w1 w.heap.size (.slice ao (endM R).1.length cap) (endM R).1 ∧ Only (fun _ => False) w w1)) := fun k w1 h o => by
      rw [h]
      exact ⟨none, 0, rfl, gr_nil _ _ _ _ _ _, o⟩
    have HDO : Hid (∀ l ao cap w1, R = .ok l → GrAt Liv 44 3 McP w1 w.heap.size (.slice ao l.length cap) l → Only (fun _ => False) w w1 → ∃ ao' cap', Ending.returned (.tuple #[.slice ao l.length cap, .int .i64 0, .int .i64 0]) = .returned (.tuple #[.slice ao' (endM R).1.length cap', .int .i64 ((endM R).2.1 : Int), .int .i64 ((endM R).2.2 : Int)]) ∧ Hid (GrAt Liv 44 3 McP w1 w.heap.size (.slice ao' (endM R).1.length cap') (endM R).1 ∧ Only (fun _ => False) w w1)) := fun l ao cap w1 h g o => by
      rw [h]
      exact ⟨ao, cap, rfl, g, o⟩
    obtain ⟨Po, hPo⟩ : ∃ Po : Ending → World → Prop, Po = fun e w' => ∃ ao cap, e = .returned (.tuple #[.slice ao (endM R).1.length cap, .int .i64 ((endM R).2.1 : Int), .int .i64 ((endM R).2.2 : Int)]) ∧ Hid (GrAt Liv 44 3 McP w' w.heap.size (.slice ao (endM R).1.length cap) (endM R).1 ∧ Only (fun _ => False) w w') := ⟨_, rfl⟩
    have HPE : Hid (∀ k w1, R = .error k → Only (fun _ => False) w w1 → Po (.returned (.tuple #[.slice none 0 0, .int .i64 (k : Int), .int .i64 9])) w1) := by rw [hPo]; exact HDE.out
    have HPO : Hid (∀ l ao cap w1, R = .ok l → GrAt Liv 44 3 McP w1 w.heap.size (.slice ao l.length cap) l → Only (fun _ => False) w w1 → Po (.returned (.tuple #[.slice ao l.length cap, .int .i64 0, .int .i64 0])) w1) := by rw [hPo]; exact HDO.out
    show Calls _ _ _ _ (fun e w' => ∃ ao cap, e = .returned (.tuple #[.slice ao (endM R).1.length cap, .int .i64 ((endM R).2.1 : Int), .int .i64 ((endM R).2.2 : Int)]) ∧ Hid (GrAt Liv 44 3 McP w' w.heap.size (.slice ao (endM R).1.length cap) (endM R).1 ∧ Only (fun _ => False) w w'))
    rw [← hPo]
    clear hs hs2 hqq hpos hcnt hlen hR hm hE hPo HDE HDO
    go_enter Tryz.func7, Tryz.ntmps7
    go_wp2_with fail
    refine (show Calls Tryz.prog 14 _ _ _ from HL.out).mono ?_
    rintro e w0 ⟨N, P, rfl, g0⟩
    have H0 : Hid (Only (fun _ => False) w w0 ∧ w.heap.size ≤ N ∧ w.heap.size ≤ P ∧ N < w0.heap.size ∧ P < w0.heap.size) := ⟨g0.out.2.2.2, g0.out.2.1, g0.out.2.2.1, g0.out.1.lt⟩
    have HGG : Hid (0 < N ∧ 0 < P ∧ 1 < N ∧ 1 < P) := ⟨by have := H0.out; have := HGm.out; omega, by have := H0.out; have := HGm.out; omega, by have := H0.out; have := HGm.out; omega, by have := H0.out; have := HGm.out; omega⟩
    have HE0 : Hid (Evd w0) := HE.out.keep H0.out.1 (fun g => g) (fun g => g)
    have HNX : Hid (∀ w1 q1, LnS w1 N P q1 z b → Evd w1 → Calls Tryz.prog 28 #[.pointer (some ⟨N, 0, none⟩), .pointer (some ⟨P, 0, none⟩)] w1 (NxP N P q1 z b w1)) := fun w1 q1 h1 h2 => next_any h1 h2.2 ⟨by have := HGG.out; omega, by have := HGG.out; omega⟩
    have HC : Hid _ := HNX.out w0 q0 g0.out.1 HE0.out
    have HLn : Hid (LnS w0 N P q0 z b) := g0.out.1
    clear HL g0 HE
    go_wp2_with fail
    refine (show Calls Tryz.prog 28 _ _ _ from HC.out).mono ?_
    intro e w1 g1
    obtain ⟨k1, t1, b1, rfl, G1⟩ := nx_st (R := R) (acc := []) g1 HLn.out (by rw [HRR.out]; cases mpA z b q0.length q0 <;> rfl) (Nat.le_refl _) HP.out.1 (by have := HP.out.2.2; simp; omega)
    obtain ⟨T1, hT1⟩ : ∃ T1, T1 = bt t1 := ⟨_, rfl⟩
    obtain ⟨w2, hw2⟩ : ∃ w2, w2 = w1.alloc (.cells #[.int .i64 (k1 : Int), .string T1, .bool b1] 58) := ⟨_, rfl⟩
    obtain ⟨Q1, hQ1⟩ : ∃ Q1, Q1 = w1.heap.size := ⟨_, rfl⟩
    have o12 : Only (fun _ => False) w1 w2 := by rw [hw2]; exact (Only.refl _ w1).alloc _
    have bQ1 : w2.heap[Q1]? = some (.cells #[.int .i64 (k1 : Int), .string T1, .bool b1] 58) := by rw [hw2]; exact alloc_at _ _ _ hQ1
    have H2 : Hid (∃ k t bb, w2.heap[Q1]? = some (.cells #[.int .i64 ((k : Nat) : Int), .string (bt t), .bool bb] 58) ∧ GrAt Liv 44 3 McP w2 w0.heap.size (.slice none 0 0) [] ∧ Only (fun x => x = N ∨ x = P) w0 w2 ∧ StM N P z b R [] k t bb w2) := by
      refine ⟨k1, t1, b1, by rw [bQ1, hT1], gr_nil _ _ _ _ _ _, G1.out.1.trans (o12.mono (bs' := fun x => x = N ∨ x = P) (fun _ _ g => g.elim)) (fun _ _ g => g), G1.out.2.1.1, ?_⟩
      rcases G1.out.2.1.2 with ⟨h1, q, f, h2, h3⟩ | h
      · exact .inl ⟨h1, q, f, h2.only o12 (fun g => g) (fun g => g), h3⟩
      · exact .inr h
    have HQ1 : w0.heap.size ≤ Q1 := by rw [hQ1]; exact G1.out.1.size
    rw [← hT1]
    clear HC g1 G1 o12 bQ1 HLn hT1 HRR HP
    go_wp2
    rw [← hQ1, ← hw2]
    clear hQ1 hw2
    go_loopw [5, 7] (fun r5 r7 wr => ∃ (acc : List Mf) (ao : Option Addr) (cap : Nat) (Q : Nat), r5 = .slice ao acc.length cap ∧ r7 = .pointer (some ⟨Q, 0, none⟩) ∧ w0.heap.size ≤ Q ∧ Hid (∃ k t bb, wr.heap[Q]? = some (.cells #[.int .i64 ((k : Nat) : Int), .string (bt t), .bool bb] 58) ∧ GrAt Liv 44 3 McP wr w0.heap.size (.slice ao acc.length cap) acc ∧ Only (fun x => x = N ∨ x = P) w0 wr ∧ StM N P z b R acc k t bb wr)) (fun r5 r7 wr => lnV N P r7 wr)
    case atStart => exact ⟨[], none, 0, Q1, rfl, rfl, HQ1, H2⟩
    case round =>
      obtain ⟨acc, ao, cap, Q, rfl, rfl, hQ0, HI⟩ := hrel
      obtain ⟨v1, hv1⟩ : ∃ v1, v1 = wr := ⟨_, rfl⟩
      rw [← hv1] at HI ⊢
      clear hv1 H2
      obtain ⟨k, t, bb, cQ, hG, o1, htl, hst⟩ := HI.out
      have d0 : v1.cell? ⟨Q, 0, none⟩ = some (.int .i64 (k : Int)) := blk_cells cQ 0
      have d2 : v1.cell? ⟨Q, 2, none⟩ = some (.bool bb) := blk_cells cQ 2
      cases bb with
      | true =>
        have hRo : R = .ok acc := by
          rcases hst with ⟨h, _⟩ | ⟨_, _, h, h2⟩
          · cases h
          · rw [h2, ← h]
            simp [preM]
        have HF : Hid (R = .ok acc ∧ GrAt Liv 44 3 McP v1 w.heap.size (.slice ao acc.length cap) acc ∧ Only (fun _ => False) w v1) := ⟨hRo, hG.lower H0.out.1.size, H0.out.1.trans o1 (fun k hk g => by have := H0.out; omega)⟩
        clear hst hRo hG o1 HI cQ
        go_wp2
        go_ret3
        exact HPO.out acc ao cap v1 HF.out.1 HF.out.2.1 HF.out.2.2
      | false =>
        have hEv : Evd v1 := HE0.out.keep o1 (by have := HGG.out; omega) (by have := HGG.out; omega)
        have hNPv : N < v1.heap.size ∧ P < v1.heap.size := by have := H0.out; have := o1.size; omega
        have hst2 : ∃ q, (t = [] ∨ LnS v1 N P q z b) ∧ (∀ e0, mpR z k t q = .error e0 → R = .error e0 ∧ 0 < e0) ∧ (∀ m q', mpR z k t q = .ok (m, q') → ∃ f, R = preM (acc ++ [m]) (mpA z b f q') ∧ q'.length ≤ f ∧ (∀ x ∈ q', 0 < x.1) ∧ (acc ++ [m]).length + q'.length ≤ 65537 ∧ q'.length < q.length ∧ acc.length ≤ 65536 ∧ t ≠ []) := by
          rcases hst with ⟨_, q, f, h1, h2, h3, h4, h5, h6⟩ | ⟨h1, h2, h3, h4⟩
          · obtain ⟨f, rfl⟩ : ∃ g, f = g + 1 := ⟨f - 1, by omega⟩
            have hz : 0 < z := HPZ.out
            have h7 : mpA z b (f + 1) ((k, t) :: q) = (match mpR z k t q with | .error k => .error k | .ok (m, q') => consM m (mpA z b f q')) := rfl
            refine ⟨q, .inr h1, fun e0 he => ⟨?_, mpR_pos hz h4 h5 he⟩, fun m q' he => ?_⟩
            · rw [h2, h7, he]
              rfl
            · have h8 := mpR_len he
              refine ⟨f, ?_, by omega, fun x hx => h5 x (mpR_sub he x hx), by simp; omega, h8.1, by omega, fun e => ?_⟩
              · rw [h2, h7, he]
                exact preM_cons acc m _
              · rw [e, mpR_nil] at he
                cases he
          · subst h1 h2
            refine ⟨[], .inl rfl, fun e0 he => ?_, fun m q' he => ?_⟩
            · rw [mpR_nil] at he
              injection he with he
              subst he
              exact ⟨by rw [h4, ← h3]; rfl, HPZ.out⟩
            · rw [mpR_nil] at he
              cases he
        obtain ⟨q, hq1, hq2, hq3⟩ := hst2
        have HC : Hid _ := mread_any (n := k) (t := t) (bb := false) hNPv hq1 htl hEv HGG.out
        have hmeas : t ≠ [] → lnV N P (.pointer (some ⟨Q, 0, none⟩)) v1 = q.length + 1 := fun ht => by
          have hl : LnS v1 N P q z b := by
            rcases hq1 with e | e
            · exact absurd e ht
            · exact e
          show (if lnE v1 Q = 0 then 0 else _) = _
          unfold lnE
          rw [show v1.cell? ⟨Q, 1, none⟩ = some (.string (bt t)) from blk_cells cQ 1]
          show (if (bt t).size = 0 then 0 else _) = _
          rw [if_neg (by rw [bt_size]; intro e; exact ht (List.length_eq_zero_iff.1 e)), hl.q]
        obtain ⟨T, hT⟩ : ∃ T, T = bt t := ⟨_, rfl⟩
        have d1 : v1.cell? ⟨Q, 1, none⟩ = some (.string T) := by rw [hT]; exact blk_cells cQ 1
        rw [← hT] at HC
        obtain ⟨o, ho⟩ : ∃ o, o = mpR z k t q := ⟨_, rfl⟩
        rw [← ho] at HC hq2 hq3
        have HF : Hid (v1.heap[Q]? = some (.cells #[.int .i64 ((k : Nat) : Int), .string T, .bool false] 58) ∧ GrAt Liv 44 3 McP v1 w0.heap.size (.slice ao acc.length cap) acc ∧ Only (fun x => x = N ∨ x = P) w0 v1 ∧ Evd v1 ∧ (t ≠ [] → lnV N P (.pointer (some ⟨Q, 0, none⟩)) v1 = q.length + 1)) := ⟨by rw [hT]; exact cQ, hG, o1, hEv, hmeas⟩
        have HQ2 : Hid (∀ e0, o = .error e0 → R = .error e0 ∧ 0 < e0) := hq2
        have HQ3 : Hid (∀ m q', o = .ok (m, q') → ∃ f, R = preM (acc ++ [m]) (mpA z b f q') ∧ q'.length ≤ f ∧ (∀ x ∈ q', 0 < x.1) ∧ (acc ++ [m]).length + q'.length ≤ 65537 ∧ q'.length < q.length ∧ acc.length ≤ 65536 ∧ t ≠ []) := hq3
        clear hst cQ hG o1 htl hEv hNPv hq1 hq2 hq3 hmeas hT ho HI
        go_wp2_with fail
        refine (show Calls Tryz.prog 15 _ _ _ from HC.out).mono ?_
        intro e v2 g2
        cases o with
        | error e0 =>
          obtain ⟨rfl, G2⟩ := g2
          obtain ⟨hRe, hpe⟩ := HQ2.out e0 rfl
          have i2 : ((e0 : Int) != 0) = true := by rw [bne_iff_ne]; omega
          have i3 : ((e0 : Int) == 0) = false := by rw [beq_eq_false_iff_ne]; omega
          have HZ : Hid (R = .error e0 ∧ Only (fun _ => False) w v2) := ⟨hRe, (H0.out.1.trans HF.out.2.2.1 (fun k hk g => by have := H0.out; omega)).trans G2.out (fun k hk g => by have := H0.out; omega)⟩
          clear HC G2 hRe hpe d0 d1 d2
          go_wp2
          go_ret3
          exact HPE.out e0 _ HZ.out.1 (HZ.out.2.alloc _)
        | ok mq =>
          obtain ⟨m, q'⟩ := mq
          obtain ⟨uv, dv, rfl, G2⟩ := g2
          obtain ⟨f, hR2, hf2, hp2, hc2, hlt2, hac, htn⟩ := HQ3.out m q' rfl
          obtain ⟨hn2, hl2, o2⟩ := G2.out
          obtain ⟨⟨a1, n1, c1, rfl⟩, ⟨a2, n2, c2, rfl⟩⟩ : (∃ a n c, uv = .slice a n c) ∧ ∃ a n c, dv = .slice a n c := by
            obtain ⟨S, ⟨u', d', hcs, hux, ⟨y1, y2, hy, _⟩⟩, _⟩ := id hn2
            obtain ⟨x1, x2, hx⟩ := hux.form
            simp only [List.cons.injEq, and_true, true_and] at hcs
            exact ⟨⟨_, _, _, hcs.1.trans hx⟩, ⟨_, _, _, hcs.2.trans hy⟩⟩
          obtain ⟨v3, hv3⟩ : ∃ v3, v3 = v2.alloc (.cells #[.string m.nm, .slice a1 n1 c1, .slice a2 n2 c2] 44) := ⟨_, rfl⟩
          have o23 : Only (fun _ => False) v2 v3 := by rw [hv3]; exact (Only.refl _ v2).alloc _
          have o13 : Only (fun x => x = N ∨ x = P) v1 v3 := o2.trans (o23.mono (bs' := fun x => x = N ∨ x = P) (fun _ _ g => g.elim)) (fun _ _ g => g)
          have hQ0' := hQ0
          have hQlt := (Array.getElem?_eq_some_iff.1 HF.out.1).1
          have bQ3 := (o13.block Q hQlt (fun g => by have := H0.out; omega)).trans HF.out.1
          have hG3 := HF.out.2.1.only bk_liv el_mc o13 (fun b h1 h2 g => by have := H0.out; omega)
          have hn3 := hn2.only bk_liv el_mc o23 (fun _ _ _ g => g)
          obtain ⟨v', w4, hr, hG4, o34', hv4⟩ := gr_app bk_liv el_mc mc_info Tryz.underlying23 (by decide) (by decide) hG3 hn3 HF.out.2.2.1.size (fun k hk => (HF.out.2.1.lt k hk).2) (Nat.le_trans HF.out.2.2.1.size o13.size) (by omega)
          obtain ⟨ao4, cap4, hvf⟩ := hG4.form
          subst hvf
          have hrow := fun k hk => (hG3.lt k hk)
          have o34 : Only (fun x => (Value.slice ao acc.length cap).ownBlock = some x) v3 w4 := o34'
          have hQown : ¬ (Value.slice ao acc.length cap).ownBlock = some Q := by
            obtain ⟨us, S, ho, _⟩ := HF.out.2.1
            intro e
            rcases ho.2 with ⟨h1, h2⟩ | ⟨g, cp, cur, h1, h2, h3, _⟩
            · rw [h1] at e; cases e
            · rw [h1] at e
              have e' : g = Q := by injection e
              rw [e'] at h3
              have h9 := HF.out.1
              rw [h3] at h9
              simp at h9
          have bQ4 := (o34.block Q (Array.getElem?_eq_some_iff.1 bQ3).1 hQown).trans bQ3
          have hl4 := (hl2.only o23 (fun g => g) (fun g => g)).only o34 (fun g => by have := hrow N g; have := H0.out; omega) (fun g => by have := hrow P g; have := H0.out; omega)
          have e0 : w4.cell? ⟨Q, 0, none⟩ = some (.int .i64 (k : Int)) := blk_cells bQ4 0
          have e1 : w4.cell? ⟨Q, 1, none⟩ = some (.string T) := blk_cells bQ4 1
          have e2 : w4.cell? ⟨Q, 2, none⟩ = some (.bool false) := blk_cells bQ4 2
          obtain ⟨w5, hw5⟩ : ∃ w5, w5 = w4.alloc (.cells #[.int .i64 (k : Int), .string T, .bool false] 58) := ⟨_, rfl⟩
          obtain ⟨Q5, hQ5⟩ : ∃ Q5, Q5 = w4.heap.size := ⟨_, rfl⟩
          have o45 : Only (fun _ => False) w4 w5 := by rw [hw5]; exact (Only.refl _ w4).alloc _
          have bQ5 : w5.heap[Q5]? = some (.cells #[.int .i64 (k : Int), .string T, .bool false] 58) := by rw [hw5]; exact alloc_at _ _ _ hQ5
          have hl5 := hl4.only o45 (fun g => g) (fun g => g)
          have o04 : Only (fun x => x = N ∨ x = P) w0 w4 := (HF.out.2.2.1.trans o13 (fun _ _ g => g)).trans o34 (fun k hk g => by have := hrow k g; omega)
          have o05 : Only (fun x => x = N ∨ x = P) w0 w5 := o04.trans (o45.mono (bs' := fun x => x = N ∨ x = P) (fun _ _ g => g.elim)) (fun _ _ g => g)
          have he5 := HE0.out.keep o05 (by have := HGG.out; omega) (by have := HGG.out; omega)
          have hG5 := hG4.only bk_liv el_mc o45 (fun _ _ _ g => g)
          have HC2 : Hid _ := HNX.out w5 q' hl5 he5
          have H5 : Hid (w5.heap[Q5]? = some (.cells #[.int .i64 (k : Int), .string T, .bool false] 58) ∧ LnS w5 N P q' z b ∧ GrAt Liv 44 3 McP w4 w0.heap.size (.slice ao4 (acc ++ [m]).length cap4) (acc ++ [m]) ∧ Only (fun x => x = N ∨ x = P) w0 w4 ∧ Only (fun _ => False) w4 w5 ∧ Q5 = w4.heap.size ∧ R = preM (acc ++ [m]) (mpA z b f q') ∧ q'.length ≤ f ∧ (∀ x ∈ q', 0 < x.1) ∧ (acc ++ [m]).length + q'.length ≤ 65537 ∧ lnV N P (.pointer (some ⟨Q, 0, none⟩)) v1 = q.length + 1 ∧ q'.length < q.length) := ⟨bQ5, hl5, hG4, o04, o45, hQ5, hR2, hf2, hp2, hc2, HF.out.2.2.2.2 htn, hlt2⟩
          obtain ⟨AL2, hAL2⟩ : ∃ AL2, AL2 = (acc ++ [m]).length := ⟨_, rfl⟩
          have HAL : Hid (AL2 = (acc ++ [m]).length) := hAL2
          have hs3 : v3.heap.size = v2.heap.size + 1 := by rw [hv3]; simp
          rw [← hAL2, hs3, hv3] at hr
          clear HC G2 hR2 hf2 hp2 hc2 hlt2 hac htn hn2 hl2 o2 o23 o13 hQ0' hQlt bQ3 hG3 hn3 hG4 o34' hv4 hrow o34 hQown bQ4 hl4 o45 bQ5 hl5 o04 o05 he5 hG5 d0 d1 d2 hs3 hv3 hAL2
          go_wp2_with (at_builtin; refine wpList_append_run (by rfl) _ _ 23 (by rfl) _ _ (.slice ao4 AL2 cap4) (by rfl) (by rfl) hr ?_)
          clear hr
          rw [← hQ5, ← hw5]
          clear hQ5 hw5 e0 e1 e2
          refine (show Calls Tryz.prog 28 _ _ _ from HC2.out).mono ?_
          intro e w6 g6
          obtain ⟨k6, t6, b6, rfl, G6⟩ := nx_st (R := R) (acc := acc ++ [m]) (f := f) g6 H5.out.2.1 H5.out.2.2.2.2.2.2.1 H5.out.2.2.2.2.2.2.2.1 H5.out.2.2.2.2.2.2.2.2.1 H5.out.2.2.2.2.2.2.2.2.2.1
          have bQ6 := (G6.out.1.block Q5 (Array.getElem?_eq_some_iff.1 H5.out.1).1 (fun g => by have := H5.out.2.2.2.2.2.1; have := H5.out.2.2.2.1.size; have := H0.out; omega)).trans H5.out.1
          have l0 : w6.cell? ⟨Q5, 0, none⟩ = some (.int .i64 (k : Int)) := blk_cells bQ6 0
          have l1 : w6.cell? ⟨Q5, 1, none⟩ = some (.string T) := blk_cells bQ6 1
          have l2 : w6.cell? ⟨Q5, 2, none⟩ = some (.bool false) := blk_cells bQ6 2
          have fl0 := blk_froz bQ6 0
          have fl1 := blk_froz bQ6 1
          have fl2 := blk_froz bQ6 2
          have o67 := lonly3 (w := w6) (B := Q5) (.int .i64 (k6 : Int)) (.string (bt t6)) (.bool b6)
          have bQ7 := lset3 bQ6 (.int .i64 (k6 : Int)) (.string (bt t6)) (.bool b6)
          obtain ⟨w7, hw7⟩ : ∃ w7, w7 = ((w6.setCell ⟨Q5, 0, none⟩ (.int .i64 (k6 : Int))).setCell ⟨Q5, 1, none⟩ (.string (bt t6))).setCell ⟨Q5, 2, none⟩ (.bool b6) := ⟨_, rfl⟩
          rw [← hw7] at o67 bQ7
          have hq5 := H5.out.2.2.2.2.2.1
          have hs04 := H5.out.2.2.2.1.size
          have o47 : Only (fun x => x = N ∨ x = P) w4 w7 := ((H5.out.2.2.2.2.1.mono (bs' := fun x => x = N ∨ x = P) (fun _ _ g => g.elim)).trans G6.out.1 (fun _ _ g => g)).trans o67 (fun k hk g => by omega)
          have hG7 := H5.out.2.2.1.only bk_liv el_mc o47 (fun b h1 h2 g => by have := H0.out; omega)
          have hst7 : StM N P z b R (acc ++ [m]) k6 t6 b6 w7 := by
            refine ⟨G6.out.2.1.1, ?_⟩
            rcases G6.out.2.1.2 with ⟨h1, q1, f1, h2, h3⟩ | h
            · exact .inl ⟨h1, q1, f1, h2.only o67 (by have := H0.out; omega) (by have := H0.out; omega), h3⟩
            · exact .inr h
          have H7 : Hid (∃ k t bb, w7.heap[Q5]? = some (.cells #[.int .i64 ((k : Nat) : Int), .string (bt t), .bool bb] 58) ∧ GrAt Liv 44 3 McP w7 w0.heap.size (.slice ao4 (acc ++ [m]).length cap4) (acc ++ [m]) ∧ Only (fun x => x = N ∨ x = P) w0 w7 ∧ StM N P z b R (acc ++ [m]) k t bb w7) := ⟨k6, t6, b6, bQ7, hG7, H5.out.2.2.2.1.trans o47 (fun _ _ g => g), hst7⟩
          have HMM : Hid (lnV N P (.pointer (some ⟨Q5, 0, none⟩)) w7 < lnV N P (.pointer (some ⟨Q, 0, none⟩)) v1) := by
            show _ < _
            rw [H5.out.2.2.2.2.2.2.2.2.2.2.1]
            show (if lnE w7 Q5 = 0 then 0 else lnQ w7 N P + 1) < _
            by_cases h6 : t6 = []
            · rw [if_pos (by unfold lnE; rw [show w7.cell? ⟨Q5, 1, none⟩ = some (.string (bt t6)) from blk_cells bQ7 1, h6]; rfl)]
              omega
            · have h7 := G6.out.2.2 h6
              have h8 : lnQ w7 N P = lnQ w6 N P := by
                rcases G6.out.2.1.2 with ⟨h1, q1, f1, h2, h3⟩ | ⟨_, h, _⟩
                · rw [h2.q, (h2.only o67 (by have := H0.out; omega) (by have := H0.out; omega)).q]
                · exact absurd h h6
              have := H5.out.2.2.2.2.2.2.2.2.2.2.2
              rw [h8]
              split <;> omega
          have HQ5 : Hid (w0.heap.size ≤ Q5) := by show _ ≤ _; omega
          rw [hw7] at H7 HMM
          clear HC2 g6 G6 bQ6 o67 bQ7 hq5 hs04 o47 hG7 hst7 hw7
          go_wp2
          go_roundw
          case rel => exact ⟨acc ++ [m], ao4, cap4, Q5, by rw [← HAL.out], rfl, HQ5.out, H7⟩
          case measure => exact HMM.out
end Go.Proofs.YtfecmpebnianpaaGreatDoor
namespace Go.Proofs.YtfecmpebnianpaaGreatDoor
open Go.RowKit
set_option linter.unusedSimpArgs false
set_option linter.unusedVariables false
theorem consM_ok {m : Mf} {X : Except Nat (List Mf)} {l : List Mf} (h : consM m X = .ok l) : ∃ l', l = m :: l' ∧ X = .ok l' := by
  cases X with
  | error k => cases h
  | ok l' =>
    simp only [consM, Except.ok.injEq] at h
    exact ⟨l', h.symm, rfl⟩
end Go.Proofs.YtfecmpebnianpaaGreatDoor
namespace Go.Proofs.YtfecmpebnianpaaGreatDoor
open Go.RowKit
set_option linter.unusedSimpArgs false
set_option linter.unusedVariables false
/-- how far the reading is: what is whole, and the vocabulary under way with its stage (1: behind its name; 2: further on) -/
abbrev DsX := List Mf × Option (Mf × Bool)
/-- a line that is not empty -/
def lnX (t : List UInt8) : DsX → Option DsX
  | (l, none) => match nmO (bt t) vocB with
    | some [nm] => some (l, some (⟨nm, [], []⟩, false))
    | _ => none
  | (l, some (m, false)) => if bt t = endB then some (l ++ [⟨m.nm, [], []⟩], none) else match nmO (bt t) useB with
    | some us => some (l, some (⟨m.nm, us, []⟩, true))
    | none => match defO (bt t) with
      | none => none
      | some d => some (l, some (⟨m.nm, [], [d]⟩, true))
  | (l, some (m, true)) => if bt t = endB then some (l ++ [m], none) else match defO (bt t) with
    | none => none
    | some d => some (l, some (⟨m.nm, m.us, m.ds ++ [d]⟩, true))
/-- the lines, one behind the other -/
def lqX (z : Nat) (b : Bool) : List (Nat × List UInt8) → DsX → List Mf × Nat × Nat
  | [], (l, none) => if b then (l, 0, 0) else ([], z, 9)
  | [], (_, some _) => ([], z, 9)
  | (n, t) :: q, σ => match lnX t σ with
    | none => ([], n, 9)
    | some σ' => lqX z b q σ'
/-- what stands behind definitions, up to the end -/
def afD (z : Nat) (b : Bool) (l : List Mf) (nm : ByteArray) (us : List ByteArray) : Except Nat (List Fm × List (Nat × List UInt8)) → List Mf × Nat × Nat
  | .error k => ([], k, 9)
  | .ok (ds, q') => lqX z b q' (l ++ [⟨nm, us, ds⟩], none)
theorem lq_in2 (z : Nat) (b : Bool) (l : List Mf) (nm : ByteArray) (us : List ByteArray) : ∀ (q : List (Nat × List UInt8)) (ds : List Fm), lqX z b q (l, some (⟨nm, us, ds⟩, true)) = afD z b l nm us (mpD z q ds)
  | [], ds => rfl
  | (n, t) :: q, ds => by
    unfold mpD
    simp only [lqX, lnX]
    by_cases he : bt t = endB
    · rw [if_pos he, if_pos he]
      rfl
    · rw [if_neg he, if_neg he]
      cases hd : defO (bt t) with
      | none => rfl
      | some d => exact lq_in2 z b l nm us q (ds ++ [d])
theorem nmO_end : nmO endB useB = none := by kernel_rfl
/-- what stands behind a name -/
def afU (z : Nat) (b : Bool) (l : List Mf) (nm : ByteArray) : Except Nat (List ByteArray × List Fm × List (Nat × List UInt8)) → List Mf × Nat × Nat
  | .error k => ([], k, 9)
  | .ok (us, ds, q') => lqX z b q' (l ++ [⟨nm, us, ds⟩], none)
theorem afU_mk (z : Nat) (b : Bool) (l : List Mf) (nm : ByteArray) (us : List ByteArray) (X : Except Nat (List Fm × List (Nat × List UInt8))) : afU z b l nm (mkU us X) = afD z b l nm us X := by
  cases X with
  | error k => rfl
  | ok p => rfl
theorem lq_in1 (z : Nat) (b : Bool) (l : List Mf) (nm : ByteArray) (q : List (Nat × List UInt8)) : lqX z b q (l, some (⟨nm, [], []⟩, false)) = afU z b l nm (mpU z q) := by
  cases q with
  | nil => rfl
  | cons c q =>
    obtain ⟨n, t⟩ := c
    simp only [lqX, lnX, mpU]
    by_cases he : bt t = endB
    · rw [if_pos he, he, nmO_end]
      simp only
      rw [afU_mk]
      unfold mpD
      rw [if_pos he]
      rfl
    · rw [if_neg he]
      cases hu : nmO (bt t) useB with
      | some us =>
        simp only
        rw [afU_mk, lq_in2]
      | none =>
        simp only
        rw [afU_mk]
        unfold mpD
        rw [if_neg he]
        cases hd : defO (bt t) with
        | none => rfl
        | some d => exact lq_in2 z b l nm [] q [d]
/-- the lines of a text are read as the program reads them -/
theorem lq_out (z : Nat) (b : Bool) : ∀ (f : Nat) (q : List (Nat × List UInt8)) (l : List Mf), q.length ≤ f → lqX z b q (l, none) = endM (preM l (mpA z b f q))
  | f, [], l, _ => by
    rw [mpA_nil]
    cases b
    · rfl
    · simp [lqX, preM, endM]
  | 0, _ :: _, l, h => by simp at h
  | f + 1, (n, t) :: q, l, h => by
    simp only [List.length_cons] at h
    simp only [lqX, lnX, mpA]
    unfold mpR
    cases hv : nmO (bt t) vocB with
    | none => rfl
    | some L =>
      match L with
      | [] => rfl
      | _ :: _ :: _ => rfl
      | [nm] =>
        simp only
        rw [lq_in1]
        cases hU : mpU z q with
        | error k => rfl
        | ok p =>
          obtain ⟨us, ds, q'⟩ := p
          have := (mpU_len hU).1
          simp only [mkM, afU]
          rw [preM_cons]
          exact lq_out z b f q' (l ++ [⟨nm, us, ds⟩]) (by omega)
/-- the document's walk over the bytes -/
def lbX : List UInt8 → List UInt8 → Nat → DsX → List Mf × Nat × Nat
  | [], a, n, (l, none) => if a = [] then (l, 0, 0) else ([], n + 1, 9)
  | [], _, n, (_, some _) => ([], n + 1, 9)
  | c :: r, a, n, σ => if c = 10 then (if a = [] then lbX r [] (n + 1) σ else match lnX a σ with
    | none => ([], n + 1, 9)
    | some σ' => lbX r [] (n + 1) σ') else lbX r (a ++ [c]) n σ
theorem lb_eq : ∀ (r a : List UInt8) (n : Nat) (σ : DsX), lbX r a n σ = lqX (linS r a n).2.1 (linS r a n).2.2 (linS r a n).1 σ
  | [], a, n, σ => by
    obtain ⟨l, o⟩ := σ
    cases o <;> simp [lbX, linS, lqX]
  | c :: r, a, n, σ => by
    by_cases h1 : c = 10
    · subst h1
      by_cases h2 : a = []
      · subst h2
        simp only [lbX, linS, if_true]
        exact lb_eq r [] (n + 1) σ
      · simp only [lbX, linS, if_true, if_neg h2, lqX]
        cases lnX a σ with
        | none => rfl
        | some σ' => exact lb_eq r [] (n + 1) σ'
    · simp only [lbX, linS, if_neg h1]
      exact lb_eq r (a ++ [c]) n σ
theorem doc_text (s : ByteArray) : (if 65536 < s.size then ([], 0, 11) else lbX s.data.toList [] 0 ([], none)) = mpS s := by
  unfold mpS
  by_cases h : 65536 < s.size
  · rw [if_pos h, if_pos h]
  · rw [if_neg h, if_neg h, lb_eq, lq_out _ _ _ _ _ (Nat.le_refl _)]
    cases mpA (linS s.data.toList [] 0).2.1 (linS s.data.toList [] 0).2.2 (linS s.data.toList [] 0).1.length (linS s.data.toList [] 0).1 with
    | error k => rfl
    | ok l => simp [preM]
end Go.Proofs.YtfecmpebnianpaaGreatDoor
namespace Go.Proofs.YtfecmpebnianpaaGreatDoor
open Go.RowKit
set_option linter.unusedSimpArgs false
set_option linter.unusedVariables false
/-- the words of a line (a: what was read of the word) -/
def wdL : List UInt8 → List UInt8 → List (List UInt8)
  | [], a => [a]
  | c :: r, a => if c = 32 then a :: wdL r [] else wdL r (a ++ [c])
def hdC (a : List UInt8) : List (List UInt8) → List (List UInt8)
  | [] => []
  | h :: t => (a ++ h) :: t
theorem hdC_hdC (a b : List UInt8) (l : List (List UInt8)) : hdC a (hdC b l) = hdC (a ++ b) l := by
  cases l <;> simp [hdC]
theorem wdL_acc : ∀ (r a : List UInt8), wdL r a = hdC a (wdL r [])
  | [], a => by simp [wdL, hdC]
  | c :: r, a => by
    by_cases h : c = 32
    · subst h
      simp [wdL, hdC]
    · simp only [wdL, if_neg h, List.nil_append]
      rw [wdL_acc r (a ++ [c]), wdL_acc r [c], hdC_hdC]
/-- how many blanks -/
def blN : List UInt8 → Nat
  | [] => 0
  | c :: r => if c = 32 then blN r + 1 else blN r
theorem ix_hit (r : List UInt8) : Lib.index (32 :: r) [32] = 0 := by simp [Lib.index, List.isPrefixOf]
theorem ix_next (c : UInt8) (r : List UInt8) (h : c ≠ 32) : Lib.index (c :: r) [32] = if Lib.index r [32] == -1 then -1 else Lib.index r [32] + 1 := by
  have h1 : ((32 : UInt8) == c) = false := by simpa using Ne.symm h
  show (if List.isPrefixOf [32] (c :: r) then (0 : Int) else _) = _
  rw [if_neg (by simp [List.isPrefixOf, h1])]
theorem sk_next (c : UInt8) (h : c ≠ 32) (r : List UInt8) : ∀ k, Lib.splitK [32] 0 k (c :: r) = hdC [c] (Lib.splitK [32] 0 k r)
  | 0 => rfl
  | k + 1 => by
    have hg := Lib.index_ge r [32]
    unfold Lib.splitK
    rw [ix_next c r h]
    by_cases h2 : Lib.index r [32] = -1
    · rw [h2]
      simp [hdC]
    · obtain ⟨i, hi⟩ : ∃ i : Nat, Lib.index r [32] = i := ⟨(Lib.index r [32]).toNat, by omega⟩
      rw [hi]
      have h3 : ((i : Int) == -1) = false := by rw [beq_eq_false_iff_ne]; omega
      have h4 : (((i : Int) + 1) == -1) = false := by rw [beq_eq_false_iff_ne]; omega
      have h6 : ((i : Int) + 1).toNat = i + 1 := by omega
      simp [h3, h4, h6, hdC]
theorem sk_eq : ∀ (l : List UInt8) (k : Nat), blN l ≤ k → Lib.splitK [32] 0 k l = wdL l []
  | [], k, _ => by
    cases k with
    | zero => rfl
    | succ k => simp [Lib.splitK, Lib.index, wdL]
  | c :: r, k, hk => by
    by_cases h : c = 32
    · subst h
      simp only [blN, if_true] at hk
      obtain ⟨j, rfl⟩ : ∃ j, k = j + 1 := ⟨k - 1, by omega⟩
      unfold Lib.splitK
      rw [ix_hit]
      simp only [wdL, if_true]
      rw [← sk_eq r j (by omega)]
      rfl
    · simp only [blN, if_neg h] at hk
      rw [sk_next c h r k, sk_eq r k hk]
      simp only [wdL, if_neg h, List.nil_append]
      rw [wdL_acc r [c]]
theorem bl_none : ∀ (l : List UInt8), Lib.index l [32] = -1 → blN l = 0
  | [], _ => rfl
  | c :: r, h => by
    by_cases h1 : c = 32
    · subst h1
      rw [ix_hit] at h
      omega
    · rw [ix_next c r h1] at h
      simp only [blN, if_neg h1]
      refine bl_none r ?_
      have := Lib.index_ge r [32]
      by_cases h2 : Lib.index r [32] = -1
      · exact h2
      · rw [if_neg (by rw [beq_iff_eq]; exact h2)] at h
        omega
theorem bl_hit : ∀ (l : List UInt8) (i : Nat), Lib.index l [32] = i → blN l = 1 + blN (l.drop (i + 1))
  | [], i, h => by simp [Lib.index] at h
  | c :: r, i, h => by
    by_cases h1 : c = 32
    · subst h1
      rw [ix_hit] at h
      obtain rfl : i = 0 := by omega
      simp [blN]
      omega
    · rw [ix_next c r h1] at h
      have := Lib.index_ge r [32]
      by_cases h2 : Lib.index r [32] = -1
      · rw [h2] at h
        simp at h
      · rw [if_neg (by rw [beq_iff_eq]; exact h2)] at h
        obtain ⟨j, rfl⟩ : ∃ j, i = j + 1 := ⟨i - 1, by omega⟩
        simp only [blN, if_neg h1, List.drop_succ_cons]
        exact bl_hit r j (by omega)
theorem ext_drop (s : ByteArray) (i : Nat) : (s.extract i s.size).data.toList = s.data.toList.drop i := by
  simp only [ByteArray.data_extract, Array.toList_extract, List.extract_eq_take_drop]
  rw [List.take_of_length_le]
  simp
theorem bl_count : ∀ (k : Nat) (s : ByteArray), Lib.countB s ⟨#[32]⟩ = k → blN s.data.toList ≤ k
  | k, s, h => by
    rcases Lib.indexB_cases s ⟨#[32]⟩ with hx | ⟨i, hx, _⟩
    · rw [bl_none s.data.toList hx]
      exact Nat.zero_le _
    · have hc := Lib.countB_hit s ⟨#[32]⟩ i (by decide) hx
      cases k with
      | zero => omega
      | succ j =>
        have := bl_count j (s.extract (i + (⟨#[32]⟩ : ByteArray).size) s.size) (by omega)
        rw [bl_hit s.data.toList i hx]
        rw [show i + (⟨#[32]⟩ : ByteArray).size = i + 1 from rfl, ext_drop] at this
        omega
theorem pcs_list (s : ByteArray) : (pcs s).map (·.data.toList) = wdL s.data.toList [] := by
  unfold pcs
  rw [Lib.splitB_data]
  exact sk_eq _ _ (bl_count _ s rfl)
theorem pcs_wd (r : List UInt8) : pcs (bt r) = (wdL r []).map bt := by
  have h := pcs_list (bt r)
  rw [bt_list] at h
  rw [← h, List.map_map]
  have : (bt ∘ fun x : ByteArray => x.data.toList) = id := by
    funext x
    exact bt_self x
  rw [this, List.map_id]
theorem wd_pre (r : List UInt8) : ∀ (p a : List UInt8), (∀ c ∈ p, c ≠ 32) → wdL (p ++ 32 :: r) a = (a ++ p) :: wdL r []
  | [], a, _ => by simp [wdL]
  | c :: p, a, h => by
    simp only [List.cons_append, wdL, if_neg (h c (List.mem_cons_self ..))]
    rw [wd_pre r p (a ++ [c]) (fun x hx => h x (List.mem_cons_of_mem _ hx))]
    simp
theorem wd_inv : ∀ (l a x y : List UInt8) (ys : List (List UInt8)), wdL l a = x :: y :: ys → ∃ p r, l = p ++ 32 :: r ∧ x = a ++ p ∧ wdL r [] = y :: ys
  | [], a, x, y, ys, h => by simp [wdL] at h
  | c :: l, a, x, y, ys, h => by
    by_cases h1 : c = 32
    · subst h1
      simp only [wdL, if_true, List.cons.injEq] at h
      exact ⟨[], l, rfl, by simp [h.1], h.2⟩
    · simp only [wdL, if_neg h1] at h
      obtain ⟨p, r, e1, e2, e3⟩ := wd_inv l (a ++ [c]) x y ys h
      exact ⟨c :: p, r, by rw [e1]; rfl, by rw [e2]; simp, e3⟩
theorem wd_ne : ∀ (l a : List UInt8), wdL l a ≠ []
  | [], a => by simp [wdL]
  | c :: l, a => by
    unfold wdL
    split
    · simp
    · exact wd_ne l _
theorem bt_inj {a b : List UInt8} (h : bt a = bt b) : a = b := by
  have := congrArg (fun x : ByteArray => x.data.toList) h
  simpa only [bt_list] using this
theorem pre_some (p r : List UInt8) : preB (bt (p ++ r)) (bt p) = true ∧ (bt (p ++ r)).extract (bt p).size (bt (p ++ r)).size = bt r := by
  have e1 : (bt (p ++ r)).extract (bt p).size (bt (p ++ r)).size = bt r := by
    have h := ext_drop (bt (p ++ r)) (bt p).size
    rw [bt_list, bt_size, List.drop_left] at h
    rw [← bt_self ((bt (p ++ r)).extract (bt p).size (bt (p ++ r)).size), bt_size, h]
  refine ⟨?_, e1⟩
  simp only [preB, Bool.and_eq_true, decide_eq_true_eq]
  refine ⟨by rw [bt_size, bt_size]; simp, ?_⟩
  rw [beq_iff_eq, ByteArray.toList_eq, ByteArray.toList_eq]
  simp [bt, ByteArray.data_extract, Array.toList_extract, List.extract_eq_take_drop, ByteArray.size]
theorem pre_inv {t p : List UInt8} (h : preB (bt t) (bt p) = true) : ∃ r, t = p ++ r := by
  simp only [preB, Bool.and_eq_true, decide_eq_true_eq] at h
  obtain ⟨h1, h2⟩ := h
  rw [beq_iff_eq, ByteArray.toList_eq, ByteArray.toList_eq] at h2
  simp [bt, ByteArray.data_extract, Array.toList_extract, List.extract_eq_take_drop, ByteArray.size] at h2
  exact ⟨t.drop p.length, by rw [← List.take_append_drop p.length t, h2]; simp⟩
/-- names behind a word, as the document has them: by the words of the line -/
def nmX (p0 : List UInt8) : List ByteArray → Option (List ByteArray)
  | w0 :: w1 :: ws => if w0 = bt p0 then (if (w1 :: ws).all nameB then some (w1 :: ws) else none) else none
  | _ => none
theorem nmO_wd (t p0 : List UInt8) (hp : ∀ c ∈ p0, c ≠ 32) : nmO (bt t) (bt (p0 ++ [32])) = nmX p0 ((wdL t []).map bt) := by
  unfold nmO
  by_cases h : preB (bt t) (bt (p0 ++ [32])) = true
  · rw [if_pos h]
    obtain ⟨r, rfl⟩ := pre_inv h
    rw [(pre_some (p0 ++ [32]) r).2, pcs_wd]
    have e : p0 ++ [32] ++ r = p0 ++ 32 :: r := by simp
    rw [e, wd_pre r p0 [] hp, List.nil_append]
    cases hw : wdL r [] with
    | nil => exact absurd hw (wd_ne _ _)
    | cons y ys =>
      simp only [List.map_cons, nmX, if_true]
  · rw [if_neg h]
    cases hw : wdL t [] with
    | nil => exact absurd hw (wd_ne _ _)
    | cons x xs =>
      cases xs with
      | nil => rfl
      | cons y ys =>
        simp only [List.map_cons, nmX]
        obtain ⟨p, r, rfl, e2, _⟩ := wd_inv t [] x y ys hw
        rw [List.nil_append] at e2
        subst e2
        by_cases hx : bt x = bt p0
        · have := bt_inj hx
          subst this
          exfalso
          apply h
          have e : x ++ 32 :: r = x ++ [32] ++ r := by simp
          rw [e]
          exact (pre_some (x ++ [32]) r).1
        · rw [if_neg hx]
end Go.Proofs.YtfecmpebnianpaaGreatDoor
