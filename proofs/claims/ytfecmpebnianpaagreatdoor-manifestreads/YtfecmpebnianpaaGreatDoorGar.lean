/- The document's number. Numbers and names: what the program and the document say is the same. The document's Number and Name. -/
import Derived.Test.YtfecmpebnianpaaGreatDoorGaq
import Derived.Deep.QuietTactic
namespace Go.Proofs.YtfecmpebnianpaaGreatDoor
open Go.RowKit Go.Lib
set_option linter.unusedSimpArgs false
set_option linter.unusedVariables false
def rnV (x : Nat × Bool × Bool) : Value := .tuple #[.int .u64 (x.1 : Int), .bool x.2.1, .bool x.2.2]
theorem chr_rest (g o k c : Nat) (hk : 1 ≤ k) (hc : k ≤ c) : ∃ a2 c2, (∀ w, (Instr.slice 142 (.slice (some ⟨g, o, none⟩) k c) (some (.int .i64 1)) none none).run Tryz.prog w = .ok (.slice a2 (k - 1) c2) w) ∧ (a2 = some ⟨g, o + 4, none⟩ ∨ k = 1) ∧ k - 1 ≤ c2 := by
  have k0 : (1 : Int) ≤ (k : Int) := by omega
  have kc : (k : Int) ≤ (c : Int) := by omega
  have e1 : ((k : Int) - 1).toNat = k - 1 := by omega
  have e2 : ((c : Int) - 1).toNat = c - 1 := by omega
  by_cases e : c = 1
  · have ek : k = 1 := by omega
    subst e ek
    exact ⟨some ⟨g, o, none⟩, 0, fun w => by go_simp, .inr rfl, by omega⟩
  · have ec : ¬ c - 1 = 0 := by omega
    refine ⟨some ⟨g, o + 4, none⟩, c - 1, fun w => ?_, .inl rfl, by omega⟩
    go_simp
set_option maxRecDepth 100000 in
set_option maxHeartbeats 1000000 in
theorem rnumber_any (l : List Chr) (hl : l.length ≤ 4000000) (v : Value) (w : World) (h : RdC w v l) :
    Calls Tryz.prog 69 #[v] w fun e w' => e = .returned (rnV (rnumL (l.map (·.r)))) ∧ Only (fun _ => False) w w' := by
  obtain ⟨ao, cap, rfl, hcap, fL⟩ := h
  obtain ⟨Z, hZ⟩ : ∃ Z, Z = rnumL (l.map (·.r)) := ⟨_, rfl⟩
  rw [← hZ]
  have O0 : Hid (Only (fun _ => False) w w) := Only.refl _ _
  by_cases hmin : rminus (l.map (·.r)) = true
  · obtain ⟨t1, L, hlL⟩ : ∃ t1 L, l = t1 :: L := by
      cases l with
      | nil => simp [rminus] at hmin
      | cons x y => exact ⟨x, y, rfl⟩
    have HZ : Hid (Z = rnumM true (L.map (·.r))) := by
      show Z = _
      rw [hZ]
      unfold rnumL rrest
      rw [if_pos hmin, hmin, hlL]
      rfl
    have hsign : t1.r = 45 ∨ t1.r = 8722 := by
      rw [hlL] at hmin
      simpa [rminus] using hmin
    clear hZ hmin
    subst hlL
    obtain ⟨g1, o1, rfl, hg1, z0, _, _, _⟩ := fL 0 t1 rfl
    simp only [Nat.zero_mul, Nat.add_zero] at z0
    obtain ⟨K, hK⟩ : ∃ K, K = (t1 :: L).length := ⟨_, rfl⟩
    have hKL : K - 1 = L.length := by rw [hK]; simp
    rw [← hK] at hcap hl ⊢
    have hK1 : 1 ≤ K := by rw [hK]; simp
    obtain ⟨ao, cap2, hsl, hao, hcap2⟩ := chr_rest g1 o1 K cap hK1 hcap
    rw [hKL] at hsl hcap2
    have fL2 : ∀ i t, L[i]? = some t → ∃ g o, ao = some ⟨g, o, none⟩ ∧ g < w.heap.size ∧ w.cell? ⟨g, o + i * 4, none⟩ = some (.int .i32 (t.r : Int)) ∧ w.cell? ⟨g, o + i * 4 + 1, none⟩ = some (.int .i64 (t.a : Int)) ∧ w.cell? ⟨g, o + i * 4 + 2, none⟩ = some (.int .i64 (t.z : Int)) ∧ w.cell? ⟨g, o + i * 4 + 3, none⟩ = some (.bool t.b) := fun i t ht => by
      have hi : i < L.length := (List.getElem?_eq_some_iff.1 ht).1
      obtain ⟨g, o, e, hg, c⟩ := fL (i + 1) t (by simpa using ht)
      injection e with e
      injection e with e1 e2
      subst e1
      subst e2
      refine ⟨g1, o1 + 4, by rcases hao with h | h <;> first | exact h | omega, hg, ?_⟩
      rw [show o1 + 4 + i * 4 = o1 + (i + 1) * 4 by omega]
      exact c
    have hl2 : L.length ≤ 4000000 := by omega
    have hN0 : (0 : Int) < (K : Int) := by omega
    clear fL hao hK hKL
    obtain ⟨fL, hl3⟩ : (∀ i t, L[i]? = some t → ∃ g o, ao = some ⟨g, o, none⟩ ∧ g < w.heap.size ∧ w.cell? ⟨g, o + i * 4, none⟩ = some (.int .i32 (t.r : Int)) ∧ w.cell? ⟨g, o + i * 4 + 1, none⟩ = some (.int .i64 (t.a : Int)) ∧ w.cell? ⟨g, o + i * 4 + 2, none⟩ = some (.int .i64 (t.z : Int)) ∧ w.cell? ⟨g, o + i * 4 + 3, none⟩ = some (.bool t.b)) ∧ True := ⟨fL2, trivial⟩
    clear fL2 hl3
    obtain ⟨cs, hcs⟩ : ∃ cs, cs = t1.r := ⟨_, rfl⟩
    rw [← hcs] at z0 hsign
    clear hcs
    rcases hsign with hsg | hsg
    · have s45 : ((cs : Int) == 45) = true := by rw [hsg]; rfl
      clear hsg
      obtain hL | ⟨t0, L', hL⟩ : L = [] ∨ ∃ t0 L', L = t0 :: L' := by
        cases L with
        | nil => exact .inl rfl
        | cons x y => exact .inr ⟨x, y, rfl⟩
      · subst hL
        have HE : Hid (Z = (0, true, false)) := HZ.out
        go_enter Tryz.func69, Tryz.ntmps69
        go_wp2
        go_ret3
        exact ⟨by rw [show Z = _ from HE.out]; rfl, O0.out⟩
      · have h0 : L[0]? = some t0 := by rw [hL]; rfl
        have hlen : 0 < L.length := by rw [hL]; simp
        skip
        obtain ⟨g, o, rfl, hg, x0, x1, x2, x3⟩ := fL 0 t0 h0
        simp only [Nat.zero_mul, Nat.add_zero] at x0
        obtain ⟨F, hF⟩ : ∃ F : Nat → Nat, F = rs := ⟨_, rfl⟩
        have HSc : Hid (∀ (c : Nat) w1, Calls Tryz.prog 103 #[.int .i32 (c : Int)] w1 fun e w' => e = .returned (.int .i32 (F c : Int)) ∧ w' = w1) := fun c w1 => by rw [hF]; exact rscript_any c w1
        have HFd : Hid (∀ c, F c ≠ 0 → F c ≤ c ∧ c - F c ≤ 9) := fun c => by rw [hF]; exact rs_digit
        have HFr : Hid (F = rs) := hF
        obtain ⟨m, hm⟩ : ∃ m, m = L.length := ⟨_, rfl⟩
        obtain ⟨c0, hc0⟩ : ∃ c0, c0 = t0.r := ⟨_, rfl⟩
        obtain ⟨s0, hs0⟩ : ∃ s0, s0 = F c0 := ⟨_, rfl⟩
        have HZ2 : Hid (Z = if rs c0 = 0 then (0, true, false) else ((rnum (rs c0) (L.map (·.r)) 0).1, true, (rnum (rs c0) (L.map (·.r)) 0).2)) := by
          show Z = _
          rw [HZ.out, hL, hc0]
          rfl
        rw [← hc0] at x0
        rw [← hF, ← hs0] at HZ2
        have HS00 : Hid (s0 = F c0) := hs0
        have hm0 : (0 : Int) < (m : Int) := by omega
        have hm1 : ((m : Int) == 0) = false := by simp; omega
        have hmm : m ≤ 4000000 := by omega
        have HMm : Hid (m = L.length) := hm
        have HF : Hid (∀ i t, L[i]? = some t → ∃ g' o', some (⟨g, o, none⟩ : Addr) = some ⟨g', o', none⟩ ∧ g' < w.heap.size ∧ w.cell? ⟨g', o' + i * 4, none⟩ = some (.int .i32 (t.r : Int)) ∧ w.cell? ⟨g', o' + i * 4 + 1, none⟩ = some (.int .i64 (t.a : Int)) ∧ w.cell? ⟨g', o' + i * 4 + 2, none⟩ = some (.int .i64 (t.z : Int)) ∧ w.cell? ⟨g', o' + i * 4 + 3, none⟩ = some (.bool t.b)) := fL
        rw [← hm] at hsl hcap2
        clear fL h0 x1 x2 x3 hg hL hm hlen hc0 HZ hF
        subst hs0
        clear HS00
        go_enter Tryz.func69, Tryz.ntmps69
        by_cases hz0 : F c0 = 0
        · have HE : Hid (Z = (0, true, false)) := by
            show Z = _
            rw [HZ2.out, if_pos hz0]
          have hb0 : ((F c0 : Int) == 0) = true := by rw [hz0]; rfl
          clear HZ2 hz0
          go_wp2_with fail
          refine (show Calls Tryz.prog 103 _ _ _ from HSc.out c0 _).mono ?_
          rintro e1 w1 ⟨rfl, hw1⟩
          subst w1
          go_wp2
          go_ret3
          exact ⟨by rw [show Z = _ from HE.out]; rfl, O0.out⟩
        · have hb0 : ((F c0 : Int) == 0) = false := by simp; omega
          have HE : Hid (Z = ((rnum (F c0) (L.map (·.r)) 0).1, true, (rnum (F c0) (L.map (·.r)) 0).2)) := by
            show Z = _
            rw [HZ2.out, if_neg hz0]
          clear HZ2
          go_wp2_with fail
          refine (show Calls Tryz.prog 103 _ _ _ from HSc.out c0 _).mono ?_
          rintro e1 w1 ⟨rfl, hw1⟩
          subst w1
          go_wp2
          go_loopw [2, 3, 5] (fun r2 r3 r5 wr => ∃ (k n : Nat), k ≤ m ∧ n ≤ 1152921504606846977 ∧ r2 = .int .u64 (n : Int) ∧ r3 = .bool true ∧ r5 = .int .i64 (k : Int) ∧ Hid (Only (fun _ => False) w wr ∧ Z = ((rnum (F c0) ((L.drop k).map (·.r)) n).1, true, (rnum (F c0) ((L.drop k).map (·.r)) n).2))) (fun _ _ r5 _ => m - uOf r5)
          case atStart => exact ⟨0, 0, Nat.zero_le _, by omega, rfl, rfl, rfl, Only.refl _ _, HE.out⟩
          case round =>
            obtain ⟨k, n, hk, hn, rfl, rfl, rfl, HI⟩ := hrel
            obtain ⟨w5, rfl⟩ : ∃ w5, w5 = wr := ⟨_, rfl⟩
            clear HE
            by_cases hlt : k < m
            · have hlt2 : k < L.length := by have : m = L.length := HMm.out; omega
              obtain ⟨t, ht⟩ : ∃ t, t = L[k]'hlt2 := ⟨_, rfl⟩
              have ht2 : L[k]? = some t := by rw [ht]; exact List.getElem?_eq_getElem _
              obtain ⟨g', o', eg, hg', y0, _, _, _⟩ := HF.out k t ht2
              injection eg with eg
              injection eg with eg1 eg2
              subst eg1
              subst eg2
              have X0 := HI.out.1.cell x0 (fun x => x)
              have Y0 := HI.out.1.cell y0 (fun x => x)
              have hd : L.drop k = t :: L.drop (k + 1) := by
                rw [ht]
                exact List.drop_eq_getElem_cons hlt2
              have hst := HFd.out t.r
              obtain ⟨c, hc⟩ : ∃ c, c = t.r := ⟨_, rfl⟩
              have HZ3 : Hid (Z = if F c ≠ F c0 then (0, true, false) else ((rnum (F c0) ((L.drop (k + 1)).map (·.r)) (min (10 * n + (c - F c)) 1152921504606846977)).1, true, (rnum (F c0) ((L.drop (k + 1)).map (·.r)) (min (10 * n + (c - F c)) 1152921504606846977)).2)) := by
                show Z = _
                rw [HI.out.2, hd, List.map_cons, rnum, ← hc, show rs = F from HFr.out.symm]
                split <;> rfl
              rw [← hc] at Y0 hst
              have HO : Hid (Only (fun _ => False) w w5) := HI.out.1
              clear HI hd ht ht2 y0 hc hlt2
              have k0 : (0 : Int) ≤ (k : Int) := Int.natCast_nonneg _
              have k1 : (k : Int) < (m : Int) := by omega
              by_cases hqs : F c = F c0
              · have hst2 := hst (by rw [hqs]; exact hz0)
                have HZ4 : Hid (Z = ((rnum (F c0) ((L.drop (k + 1)).map (·.r)) (min (10 * n + (c - F c)) 1152921504606846977)).1, true, (rnum (F c0) ((L.drop (k + 1)).map (·.r)) (min (10 * n + (c - F c)) 1152921504606846977)).2)) := by
                  show Z = _
                  rw [HZ3.out, if_neg (by simp [hqs])]
                have hqb : ((F c : Int) == (F c0 : Int)) = true := by rw [hqs]; simp
                clear HZ3 hst hqs
                go_wp2_with fail
                go_quiet (first | (go_at_call 103; refine Calls.quiet_of_same (HSc.out _ _)))
                go_wp2_with fail
                obtain ⟨W6, hW6⟩ : ∃ W6, W6 = w5.drewN nq := ⟨_, rfl⟩
                rw [← hW6]
                have Y6 : W6.cell? ⟨g, o + k * 4, none⟩ = some (.int .i32 (c : Int)) := by rw [hW6]; exact Y0
                have HO6 : Hid (Only (fun _ => False) w W6) := by rw [hW6]; exact HO.out.drewN _
                clear hW6 X0 Y0 HO hqb
                have r1 : IntKind.i32.wrap ((c : Int) - (F c : Int)) = ((c - F c : Nat) : Int) := by rw [IntKind.wrap_i32]; omega
                have r2 : IntKind.u64.wrap ((c - F c : Nat) : Int) = ((c - F c : Nat) : Int) := by rw [IntKind.wrap_u64]; omega
                have r3 : IntKind.u64.wrap (10 * (n : Int)) = 10 * (n : Int) := by rw [IntKind.wrap_u64]; omega
                have r4 : IntKind.u64.wrap (10 * (n : Int) + ((c - F c : Nat) : Int)) = 10 * (n : Int) + ((c - F c : Nat) : Int) := by rw [IntKind.wrap_u64]; omega
                go_quiet (first | (go_at_call 103; refine Calls.quiet_of_same (HSc.out _ _)))
                rw [show min (10 * (n : Int) + ((c - F c : Nat) : Int)) 1152921504606846977 = ((min (10 * n + (c - F c)) 1152921504606846977 : Nat) : Int) by omega]
                obtain ⟨n2, hn2⟩ : ∃ n2, n2 = min (10 * n + (c - F c)) 1152921504606846977 := ⟨_, rfl⟩
                have hn3 : n2 ≤ 1152921504606846977 := by omega
                rw [← hn2] at HZ4 ⊢
                clear hn2 r1 r2 r3 r4
                go_wp2
                go_roundw
                case rel => exact ⟨k + 1, n2, by omega, hn3, rfl, rfl, by go_num, HO6.out.drewN _, HZ4.out⟩
                case measure => simp only [uOf]; omega
              · have hqb : ((F c : Int) == (F c0 : Int)) = false := by simp; omega
                have HZ4 : Hid (Z = (0, true, false)) := by
                  show Z = _
                  rw [HZ3.out, if_pos hqs]
                clear HZ3 hst hqs
                go_wp2_with fail
                go_quiet (first | (go_at_call 103; refine Calls.quiet_of_same (HSc.out _ _)))
                go_wp2
                go_ret3
                exact ⟨by rw [show Z = _ from HZ4.out]; rfl, HO.out.drewN _⟩
            · have HZ4 : Hid (Z = (n, true, true)) := by
                show Z = _
                rw [HI.out.2, List.drop_eq_nil_of_le (by have : m = L.length := HMm.out; omega)]
                rfl
              have k1 : ¬ (k : Int) < (m : Int) := by omega
              go_wp2
              go_ret3
              exact ⟨by rw [show Z = _ from HZ4.out]; rfl, HI.out.1⟩
    · have s45 : ((cs : Int) == 45) = false := by rw [hsg]; rfl
      have s87 : ((cs : Int) == 8722) = true := by rw [hsg]; rfl
      clear hsg
      obtain hL | ⟨t0, L', hL⟩ : L = [] ∨ ∃ t0 L', L = t0 :: L' := by
        cases L with
        | nil => exact .inl rfl
        | cons x y => exact .inr ⟨x, y, rfl⟩
      · subst hL
        have HE : Hid (Z = (0, true, false)) := HZ.out
        go_enter Tryz.func69, Tryz.ntmps69
        go_wp2
        go_ret3
        exact ⟨by rw [show Z = _ from HE.out]; rfl, O0.out⟩
      · have h0 : L[0]? = some t0 := by rw [hL]; rfl
        have hlen : 0 < L.length := by rw [hL]; simp
        skip
        obtain ⟨g, o, rfl, hg, x0, x1, x2, x3⟩ := fL 0 t0 h0
        simp only [Nat.zero_mul, Nat.add_zero] at x0
        obtain ⟨F, hF⟩ : ∃ F : Nat → Nat, F = rs := ⟨_, rfl⟩
        have HSc : Hid (∀ (c : Nat) w1, Calls Tryz.prog 103 #[.int .i32 (c : Int)] w1 fun e w' => e = .returned (.int .i32 (F c : Int)) ∧ w' = w1) := fun c w1 => by rw [hF]; exact rscript_any c w1
        have HFd : Hid (∀ c, F c ≠ 0 → F c ≤ c ∧ c - F c ≤ 9) := fun c => by rw [hF]; exact rs_digit
        have HFr : Hid (F = rs) := hF
        obtain ⟨m, hm⟩ : ∃ m, m = L.length := ⟨_, rfl⟩
        obtain ⟨c0, hc0⟩ : ∃ c0, c0 = t0.r := ⟨_, rfl⟩
        obtain ⟨s0, hs0⟩ : ∃ s0, s0 = F c0 := ⟨_, rfl⟩
        have HZ2 : Hid (Z = if rs c0 = 0 then (0, true, false) else ((rnum (rs c0) (L.map (·.r)) 0).1, true, (rnum (rs c0) (L.map (·.r)) 0).2)) := by
          show Z = _
          rw [HZ.out, hL, hc0]
          rfl
        rw [← hc0] at x0
        rw [← hF, ← hs0] at HZ2
        have HS00 : Hid (s0 = F c0) := hs0
        have hm0 : (0 : Int) < (m : Int) := by omega
        have hm1 : ((m : Int) == 0) = false := by simp; omega
        have hmm : m ≤ 4000000 := by omega
        have HMm : Hid (m = L.length) := hm
        have HF : Hid (∀ i t, L[i]? = some t → ∃ g' o', some (⟨g, o, none⟩ : Addr) = some ⟨g', o', none⟩ ∧ g' < w.heap.size ∧ w.cell? ⟨g', o' + i * 4, none⟩ = some (.int .i32 (t.r : Int)) ∧ w.cell? ⟨g', o' + i * 4 + 1, none⟩ = some (.int .i64 (t.a : Int)) ∧ w.cell? ⟨g', o' + i * 4 + 2, none⟩ = some (.int .i64 (t.z : Int)) ∧ w.cell? ⟨g', o' + i * 4 + 3, none⟩ = some (.bool t.b)) := fL
        rw [← hm] at hsl hcap2
        clear fL h0 x1 x2 x3 hg hL hm hlen hc0 HZ hF
        subst hs0
        clear HS00
        go_enter Tryz.func69, Tryz.ntmps69
        by_cases hz0 : F c0 = 0
        · have HE : Hid (Z = (0, true, false)) := by
            show Z = _
            rw [HZ2.out, if_pos hz0]
          have hb0 : ((F c0 : Int) == 0) = true := by rw [hz0]; rfl
          clear HZ2 hz0
          go_wp2_with fail
          refine (show Calls Tryz.prog 103 _ _ _ from HSc.out c0 _).mono ?_
          rintro e1 w1 ⟨rfl, hw1⟩
          subst w1
          go_wp2
          go_ret3
          exact ⟨by rw [show Z = _ from HE.out]; rfl, O0.out⟩
        · have hb0 : ((F c0 : Int) == 0) = false := by simp; omega
          have HE : Hid (Z = ((rnum (F c0) (L.map (·.r)) 0).1, true, (rnum (F c0) (L.map (·.r)) 0).2)) := by
            show Z = _
            rw [HZ2.out, if_neg hz0]
          clear HZ2
          go_wp2_with fail
          refine (show Calls Tryz.prog 103 _ _ _ from HSc.out c0 _).mono ?_
          rintro e1 w1 ⟨rfl, hw1⟩
          subst w1
          go_wp2
          go_loopw [2, 3, 5] (fun r2 r3 r5 wr => ∃ (k n : Nat), k ≤ m ∧ n ≤ 1152921504606846977 ∧ r2 = .int .u64 (n : Int) ∧ r3 = .bool true ∧ r5 = .int .i64 (k : Int) ∧ Hid (Only (fun _ => False) w wr ∧ Z = ((rnum (F c0) ((L.drop k).map (·.r)) n).1, true, (rnum (F c0) ((L.drop k).map (·.r)) n).2))) (fun _ _ r5 _ => m - uOf r5)
          case atStart => exact ⟨0, 0, Nat.zero_le _, by omega, rfl, rfl, rfl, Only.refl _ _, HE.out⟩
          case round =>
            obtain ⟨k, n, hk, hn, rfl, rfl, rfl, HI⟩ := hrel
            obtain ⟨w5, rfl⟩ : ∃ w5, w5 = wr := ⟨_, rfl⟩
            clear HE
            by_cases hlt : k < m
            · have hlt2 : k < L.length := by have : m = L.length := HMm.out; omega
              obtain ⟨t, ht⟩ : ∃ t, t = L[k]'hlt2 := ⟨_, rfl⟩
              have ht2 : L[k]? = some t := by rw [ht]; exact List.getElem?_eq_getElem _
              obtain ⟨g', o', eg, hg', y0, _, _, _⟩ := HF.out k t ht2
              injection eg with eg
              injection eg with eg1 eg2
              subst eg1
              subst eg2
              have X0 := HI.out.1.cell x0 (fun x => x)
              have Y0 := HI.out.1.cell y0 (fun x => x)
              have hd : L.drop k = t :: L.drop (k + 1) := by
                rw [ht]
                exact List.drop_eq_getElem_cons hlt2
              have hst := HFd.out t.r
              obtain ⟨c, hc⟩ : ∃ c, c = t.r := ⟨_, rfl⟩
              have HZ3 : Hid (Z = if F c ≠ F c0 then (0, true, false) else ((rnum (F c0) ((L.drop (k + 1)).map (·.r)) (min (10 * n + (c - F c)) 1152921504606846977)).1, true, (rnum (F c0) ((L.drop (k + 1)).map (·.r)) (min (10 * n + (c - F c)) 1152921504606846977)).2)) := by
                show Z = _
                rw [HI.out.2, hd, List.map_cons, rnum, ← hc, show rs = F from HFr.out.symm]
                split <;> rfl
              rw [← hc] at Y0 hst
              have HO : Hid (Only (fun _ => False) w w5) := HI.out.1
              clear HI hd ht ht2 y0 hc hlt2
              have k0 : (0 : Int) ≤ (k : Int) := Int.natCast_nonneg _
              have k1 : (k : Int) < (m : Int) := by omega
              by_cases hqs : F c = F c0
              · have hst2 := hst (by rw [hqs]; exact hz0)
                have HZ4 : Hid (Z = ((rnum (F c0) ((L.drop (k + 1)).map (·.r)) (min (10 * n + (c - F c)) 1152921504606846977)).1, true, (rnum (F c0) ((L.drop (k + 1)).map (·.r)) (min (10 * n + (c - F c)) 1152921504606846977)).2)) := by
                  show Z = _
                  rw [HZ3.out, if_neg (by simp [hqs])]
                have hqb : ((F c : Int) == (F c0 : Int)) = true := by rw [hqs]; simp
                clear HZ3 hst hqs
                go_wp2_with fail
                go_quiet (first | (go_at_call 103; refine Calls.quiet_of_same (HSc.out _ _)))
                go_wp2_with fail
                obtain ⟨W6, hW6⟩ : ∃ W6, W6 = w5.drewN nq := ⟨_, rfl⟩
                rw [← hW6]
                have Y6 : W6.cell? ⟨g, o + k * 4, none⟩ = some (.int .i32 (c : Int)) := by rw [hW6]; exact Y0
                have HO6 : Hid (Only (fun _ => False) w W6) := by rw [hW6]; exact HO.out.drewN _
                clear hW6 X0 Y0 HO hqb
                have r1 : IntKind.i32.wrap ((c : Int) - (F c : Int)) = ((c - F c : Nat) : Int) := by rw [IntKind.wrap_i32]; omega
                have r2 : IntKind.u64.wrap ((c - F c : Nat) : Int) = ((c - F c : Nat) : Int) := by rw [IntKind.wrap_u64]; omega
                have r3 : IntKind.u64.wrap (10 * (n : Int)) = 10 * (n : Int) := by rw [IntKind.wrap_u64]; omega
                have r4 : IntKind.u64.wrap (10 * (n : Int) + ((c - F c : Nat) : Int)) = 10 * (n : Int) + ((c - F c : Nat) : Int) := by rw [IntKind.wrap_u64]; omega
                go_quiet (first | (go_at_call 103; refine Calls.quiet_of_same (HSc.out _ _)))
                rw [show min (10 * (n : Int) + ((c - F c : Nat) : Int)) 1152921504606846977 = ((min (10 * n + (c - F c)) 1152921504606846977 : Nat) : Int) by omega]
                obtain ⟨n2, hn2⟩ : ∃ n2, n2 = min (10 * n + (c - F c)) 1152921504606846977 := ⟨_, rfl⟩
                have hn3 : n2 ≤ 1152921504606846977 := by omega
                rw [← hn2] at HZ4 ⊢
                clear hn2 r1 r2 r3 r4
                go_wp2
                go_roundw
                case rel => exact ⟨k + 1, n2, by omega, hn3, rfl, rfl, by go_num, HO6.out.drewN _, HZ4.out⟩
                case measure => simp only [uOf]; omega
              · have hqb : ((F c : Int) == (F c0 : Int)) = false := by simp; omega
                have HZ4 : Hid (Z = (0, true, false)) := by
                  show Z = _
                  rw [HZ3.out, if_pos hqs]
                clear HZ3 hst hqs
                go_wp2_with fail
                go_quiet (first | (go_at_call 103; refine Calls.quiet_of_same (HSc.out _ _)))
                go_wp2
                go_ret3
                exact ⟨by rw [show Z = _ from HZ4.out]; rfl, HO.out.drewN _⟩
            · have HZ4 : Hid (Z = (n, true, true)) := by
                show Z = _
                rw [HI.out.2, List.drop_eq_nil_of_le (by have : m = L.length := HMm.out; omega)]
                rfl
              have k1 : ¬ (k : Int) < (m : Int) := by omega
              go_wp2
              go_ret3
              exact ⟨by rw [show Z = _ from HZ4.out]; rfl, HI.out.1⟩
  · have HZ : Hid (Z = rnumM false (l.map (·.r))) := by
      show Z = _
      rw [hZ]
      unfold rnumL rrest
      rw [if_neg hmin, Bool.eq_false_iff.2 hmin]
    have HM : Hid (∀ t, l[0]? = some t → ¬ t.r = 45 ∧ ¬ t.r = 8722) := fun t ht => by
      cases l with
      | nil => simp at ht
      | cons x l =>
        simp only [List.getElem?_cons_zero, Option.some.injEq] at ht
        subst ht
        simp only [rminus, List.map_cons, List.head?_cons, decide_eq_true_eq, Option.some.injEq] at hmin
        omega
    clear hZ hmin
    obtain ⟨L, hLL⟩ : ∃ L, L = l := ⟨_, rfl⟩
    rw [← hLL] at HZ HM fL hcap hl ⊢
    clear hLL
    obtain hL | ⟨t0, L', hL⟩ : L = [] ∨ ∃ t0 L', L = t0 :: L' := by
      cases L with
      | nil => exact .inl rfl
      | cons x y => exact .inr ⟨x, y, rfl⟩
    · subst hL
      have HE : Hid (Z = (0, false, false)) := HZ.out
      go_enter Tryz.func69, Tryz.ntmps69
      go_wp2
      go_ret3
      exact ⟨by rw [show Z = _ from HE.out]; rfl, O0.out⟩
    · have h0 : L[0]? = some t0 := by rw [hL]; rfl
      have hlen : 0 < L.length := by rw [hL]; simp
      obtain ⟨i45, i8722⟩ : ((t0.r : Int) == 45) = false ∧ ((t0.r : Int) == 8722) = false := by have := HM.out t0 h0; simp; omega
      obtain ⟨g, o, rfl, hg, x0, x1, x2, x3⟩ := fL 0 t0 h0
      simp only [Nat.zero_mul, Nat.add_zero] at x0
      obtain ⟨F, hF⟩ : ∃ F : Nat → Nat, F = rs := ⟨_, rfl⟩
      have HSc : Hid (∀ (c : Nat) w1, Calls Tryz.prog 103 #[.int .i32 (c : Int)] w1 fun e w' => e = .returned (.int .i32 (F c : Int)) ∧ w' = w1) := fun c w1 => by rw [hF]; exact rscript_any c w1
      have HFd : Hid (∀ c, F c ≠ 0 → F c ≤ c ∧ c - F c ≤ 9) := fun c => by rw [hF]; exact rs_digit
      have HFr : Hid (F = rs) := hF
      obtain ⟨m, hm⟩ : ∃ m, m = L.length := ⟨_, rfl⟩
      obtain ⟨c0, hc0⟩ : ∃ c0, c0 = t0.r := ⟨_, rfl⟩
      obtain ⟨s0, hs0⟩ : ∃ s0, s0 = F c0 := ⟨_, rfl⟩
      have HZ2 : Hid (Z = if rs c0 = 0 then (0, false, false) else ((rnum (rs c0) (L.map (·.r)) 0).1, false, (rnum (rs c0) (L.map (·.r)) 0).2)) := by
        show Z = _
        rw [HZ.out, hL, hc0]
        rfl
      rw [← hc0] at x0 i45 i8722
      rw [← hF, ← hs0] at HZ2
      have HS00 : Hid (s0 = F c0) := hs0
      have hm0 : (0 : Int) < (m : Int) := by omega
      have hm1 : ((m : Int) == 0) = false := by simp; omega
      have hmm : m ≤ 4000000 := by omega
      have HMm : Hid (m = L.length) := hm
      have HF : Hid (∀ i t, L[i]? = some t → ∃ g' o', some (⟨g, o, none⟩ : Addr) = some ⟨g', o', none⟩ ∧ g' < w.heap.size ∧ w.cell? ⟨g', o' + i * 4, none⟩ = some (.int .i32 (t.r : Int)) ∧ w.cell? ⟨g', o' + i * 4 + 1, none⟩ = some (.int .i64 (t.a : Int)) ∧ w.cell? ⟨g', o' + i * 4 + 2, none⟩ = some (.int .i64 (t.z : Int)) ∧ w.cell? ⟨g', o' + i * 4 + 3, none⟩ = some (.bool t.b)) := fL
      rw [← hm]
      clear fL h0 x1 x2 x3 hg hL hm hlen hc0 HZ hF
      subst hs0
      clear HS00
      go_enter Tryz.func69, Tryz.ntmps69
      by_cases hz0 : F c0 = 0
      · have HE : Hid (Z = (0, false, false)) := by
          show Z = _
          rw [HZ2.out, if_pos hz0]
        have hb0 : ((F c0 : Int) == 0) = true := by rw [hz0]; rfl
        clear HZ2 hz0
        go_wp2_with fail
        refine (show Calls Tryz.prog 103 _ _ _ from HSc.out c0 _).mono ?_
        rintro e1 w1 ⟨rfl, hw1⟩
        subst w1
        go_wp2
        go_ret3
        exact ⟨by rw [show Z = _ from HE.out]; rfl, O0.out⟩
      · have hb0 : ((F c0 : Int) == 0) = false := by simp; omega
        have HE : Hid (Z = ((rnum (F c0) (L.map (·.r)) 0).1, false, (rnum (F c0) (L.map (·.r)) 0).2)) := by
          show Z = _
          rw [HZ2.out, if_neg hz0]
        clear HZ2
        go_wp2_with fail
        refine (show Calls Tryz.prog 103 _ _ _ from HSc.out c0 _).mono ?_
        rintro e1 w1 ⟨rfl, hw1⟩
        subst w1
        go_wp2
        go_loopw [2, 3, 5] (fun r2 r3 r5 wr => ∃ (k n : Nat), k ≤ m ∧ n ≤ 1152921504606846977 ∧ r2 = .int .u64 (n : Int) ∧ r3 = .bool false ∧ r5 = .int .i64 (k : Int) ∧ Hid (Only (fun _ => False) w wr ∧ Z = ((rnum (F c0) ((L.drop k).map (·.r)) n).1, false, (rnum (F c0) ((L.drop k).map (·.r)) n).2))) (fun _ _ r5 _ => m - uOf r5)
        case atStart => exact ⟨0, 0, Nat.zero_le _, by omega, rfl, rfl, rfl, Only.refl _ _, HE.out⟩
        case round =>
          obtain ⟨k, n, hk, hn, rfl, rfl, rfl, HI⟩ := hrel
          obtain ⟨w5, rfl⟩ : ∃ w5, w5 = wr := ⟨_, rfl⟩
          clear HE
          by_cases hlt : k < m
          · have hlt2 : k < L.length := by have : m = L.length := HMm.out; omega
            obtain ⟨t, ht⟩ : ∃ t, t = L[k]'hlt2 := ⟨_, rfl⟩
            have ht2 : L[k]? = some t := by rw [ht]; exact List.getElem?_eq_getElem _
            obtain ⟨g', o', eg, hg', y0, _, _, _⟩ := HF.out k t ht2
            injection eg with eg
            injection eg with eg1 eg2
            subst eg1
            subst eg2
            have X0 := HI.out.1.cell x0 (fun x => x)
            have Y0 := HI.out.1.cell y0 (fun x => x)
            have hd : L.drop k = t :: L.drop (k + 1) := by
              rw [ht]
              exact List.drop_eq_getElem_cons hlt2
            have hst := HFd.out t.r
            obtain ⟨c, hc⟩ : ∃ c, c = t.r := ⟨_, rfl⟩
            have HZ3 : Hid (Z = if F c ≠ F c0 then (0, false, false) else ((rnum (F c0) ((L.drop (k + 1)).map (·.r)) (min (10 * n + (c - F c)) 1152921504606846977)).1, false, (rnum (F c0) ((L.drop (k + 1)).map (·.r)) (min (10 * n + (c - F c)) 1152921504606846977)).2)) := by
              show Z = _
              rw [HI.out.2, hd, List.map_cons, rnum, ← hc, show rs = F from HFr.out.symm]
              split <;> rfl
            rw [← hc] at Y0 hst
            have HO : Hid (Only (fun _ => False) w w5) := HI.out.1
            clear HI hd ht ht2 y0 hc hlt2
            have k0 : (0 : Int) ≤ (k : Int) := Int.natCast_nonneg _
            have k1 : (k : Int) < (m : Int) := by omega
            by_cases hqs : F c = F c0
            · have hst2 := hst (by rw [hqs]; exact hz0)
              have HZ4 : Hid (Z = ((rnum (F c0) ((L.drop (k + 1)).map (·.r)) (min (10 * n + (c - F c)) 1152921504606846977)).1, false, (rnum (F c0) ((L.drop (k + 1)).map (·.r)) (min (10 * n + (c - F c)) 1152921504606846977)).2)) := by
                show Z = _
                rw [HZ3.out, if_neg (by simp [hqs])]
              have hqb : ((F c : Int) == (F c0 : Int)) = true := by rw [hqs]; simp
              clear HZ3 hst hqs
              go_wp2_with fail
              go_quiet (first | (go_at_call 103; refine Calls.quiet_of_same (HSc.out _ _)))
              go_wp2_with fail
              obtain ⟨W6, hW6⟩ : ∃ W6, W6 = w5.drewN nq := ⟨_, rfl⟩
              rw [← hW6]
              have Y6 : W6.cell? ⟨g, o + k * 4, none⟩ = some (.int .i32 (c : Int)) := by rw [hW6]; exact Y0
              have HO6 : Hid (Only (fun _ => False) w W6) := by rw [hW6]; exact HO.out.drewN _
              clear hW6 X0 Y0 HO hqb
              have r1 : IntKind.i32.wrap ((c : Int) - (F c : Int)) = ((c - F c : Nat) : Int) := by rw [IntKind.wrap_i32]; omega
              have r2 : IntKind.u64.wrap ((c - F c : Nat) : Int) = ((c - F c : Nat) : Int) := by rw [IntKind.wrap_u64]; omega
              have r3 : IntKind.u64.wrap (10 * (n : Int)) = 10 * (n : Int) := by rw [IntKind.wrap_u64]; omega
              have r4 : IntKind.u64.wrap (10 * (n : Int) + ((c - F c : Nat) : Int)) = 10 * (n : Int) + ((c - F c : Nat) : Int) := by rw [IntKind.wrap_u64]; omega
              go_quiet (first | (go_at_call 103; refine Calls.quiet_of_same (HSc.out _ _)))
              rw [show min (10 * (n : Int) + ((c - F c : Nat) : Int)) 1152921504606846977 = ((min (10 * n + (c - F c)) 1152921504606846977 : Nat) : Int) by omega]
              obtain ⟨n2, hn2⟩ : ∃ n2, n2 = min (10 * n + (c - F c)) 1152921504606846977 := ⟨_, rfl⟩
              have hn3 : n2 ≤ 1152921504606846977 := by omega
              rw [← hn2] at HZ4 ⊢
              clear hn2 r1 r2 r3 r4
              go_wp2
              go_roundw
              case rel => exact ⟨k + 1, n2, by omega, hn3, rfl, rfl, by go_num, HO6.out.drewN _, HZ4.out⟩
              case measure => simp only [uOf]; omega
            · have hqb : ((F c : Int) == (F c0 : Int)) = false := by simp; omega
              have HZ4 : Hid (Z = (0, false, false)) := by
                show Z = _
                rw [HZ3.out, if_pos hqs]
              clear HZ3 hst hqs
              go_wp2_with fail
              go_quiet (first | (go_at_call 103; refine Calls.quiet_of_same (HSc.out _ _)))
              go_wp2
              go_ret3
              exact ⟨by rw [show Z = _ from HZ4.out]; rfl, HO.out.drewN _⟩
          · have HZ4 : Hid (Z = (n, false, true)) := by
              show Z = _
              rw [HI.out.2, List.drop_eq_nil_of_le (by have : m = L.length := HMm.out; omega)]
              rfl
            have k1 : ¬ (k : Int) < (m : Int) := by omega
            go_wp2
            go_ret3
            exact ⟨by rw [show Z = _ from HZ4.out]; rfl, HI.out.1⟩
end Go.Proofs.YtfecmpebnianpaaGreatDoor
namespace Go.Proofs.YtfecmpebnianpaaGreatDoor
open Go.RowKit Go.Lib
set_option linter.unusedSimpArgs false
set_option linter.unusedVariables false
theorem chr_runes (s : ByteArray) : (chrL s).map (·.r) = rns s := by
  unfold chrL rns
  rw [List.map_map]
  apply List.map_congr_left
  intro x _
  simp only [Function.comp, chr1]
  split <;> rfl
/-- The characters behind a place, as a text of its own. -/
theorem crs_tail (s : ByteArray) (n : Nat) (hn : n ≤ s.size) : ∀ (b pos : Nat), (crs (s.extract n s.size) b pos).map (·.2) = (crs s b (n + pos)).map (·.2)
  | 0, pos => rfl
  | b + 1, pos => by
    have hz : (s.extract n s.size).size = s.size - n := by rw [ByteArray.size_extract]; omega
    by_cases hp : n + pos < s.size
    · rw [show crs s (b + 1) (n + pos) = (n + pos, (Utf8.decode s (n + pos)).1) :: crs s b (n + pos + (Utf8.decode s (n + pos)).2) by simp [crs, hp]]
      rw [show crs (s.extract n s.size) (b + 1) pos = (pos, (Utf8.decode (s.extract n s.size) pos).1) :: crs (s.extract n s.size) b (pos + (Utf8.decode (s.extract n s.size) pos).2) by simp [crs, hz]; omega]
      rw [tail_decode, List.map_cons, List.map_cons, crs_tail s n hn b, Nat.add_assoc]
    · rw [crs_end (by omega), crs_end (by omega)]
theorem crs_fuel (s : ByteArray) : ∀ (b b' pos : Nat), s.size ≤ pos + b → s.size ≤ pos + b' → crs s b pos = crs s b' pos
  | b, b', pos, h, h' => by
    induction b generalizing b' pos with
    | zero => rw [crs_end (by omega), crs_end (by omega)]
    | succ b ih =>
      by_cases hp : pos < s.size
      · have := wid_pos s pos hp
        obtain ⟨b2, rfl⟩ : ∃ k, b' = k + 1 := ⟨b' - 1, by omega⟩
        rw [show crs s (b + 1) pos = (pos, (Utf8.decode s pos).1) :: crs s b (pos + (Utf8.decode s pos).2) by simp [crs, hp], show crs s (b2 + 1) pos = (pos, (Utf8.decode s pos).1) :: crs s b2 (pos + (Utf8.decode s pos).2) by simp [crs, hp], ih b2 _ (by omega) (by omega)]
      · rw [crs_end hp, crs_end hp]
theorem rns_nil {s : ByteArray} (h : s.size = 0) : rns s = [] := by
  unfold rns chs
  rw [crs_end (by omega)]
  rfl
theorem rns_cons {s : ByteArray} (h : 0 < s.size) : rns s = (Utf8.decode s 0).1 :: rns (s.extract (Utf8.decode s 0).2 s.size) := by
  have hw := wid_pos s 0 h
  have hwd := decode_wd s 0 h
  have hz : (s.extract (Utf8.decode s 0).2 s.size).size = s.size - (Utf8.decode s 0).2 := by rw [ByteArray.size_extract]; omega
  obtain ⟨b, hb, e⟩ := crs_go (s := s) (b := s.size) (pos := 0) h (by omega)
  unfold rns chs
  rw [e, List.map_cons, crs_tail s _ (by omega), Nat.add_zero, hz, Nat.zero_add]
  congr 2
  exact crs_fuel s _ _ _ (by omega) (by omega)
/-- A text begins with a character. -/
theorem pre_rune (s : ByteArray) {c : Nat} (hc : Vr c) (hb : c ≠ 65533) : preB s (tx [c]) = decide ((rns s).head? = some c) := by
  have hw := wr_pos c
  have hts : (tx [c]).size = wr c := by rw [tx_size, wl_cons, wl_nil, Nat.add_zero]
  have htd : (tx [c]).data.toList = encodeRune (c : Int) := by rw [tx_data]; simp [enL]
  rw [Bool.eq_iff_iff, decide_eq_true_iff]
  constructor
  · intro h
    have ht := pre_take h
    rw [hts, htd] at ht
    have hs : 0 < s.size := by have := preB_le h; omega
    have e3 : s.data.toList = encodeRune (c : Int) ++ s.data.toList.drop (wr c) := by
      rw [← ht]
      exact (List.take_append_drop _ _).symm
    have hd := decodeL_drop s 0
    rw [List.drop_zero, e3, decodeL_enc hc] at hd
    rw [rns_cons hs, ← hd]
    rfl
  · intro h
    by_cases hs : 0 < s.size
    · rw [rns_cons hs] at h
      simp only [List.head?_cons, Option.some.injEq] at h
      have hd := decodeL_drop s 0
      rw [List.drop_zero] at hd
      have hne : s.data.toList ≠ [] := by
        intro g
        have := congrArg List.length g
        rw [Array.length_toList] at this
        have : s.size = 0 := this
        omega
      have he := encode_decode s.data.toList hne (by rw [hd, h]; intro g; exact hb g.1)
      rw [hd, h] at he
      have hle := decodeL_le s.data.toList hne
      rw [hd] at hle
      have hl : wr c = (Utf8.decode s 0).2 := by
        unfold wr
        rw [he, List.length_take]
        omega
      unfold preB
      rw [hts]
      have hsz : s.data.toList.length = s.size := Array.length_toList
      rw [decide_eq_true (by omega : wr c ≤ s.size), Bool.true_and, beq_iff_eq, ByteArray.toList_eq, ByteArray.toList_eq, htd, he, ← hl, ByteArray.data_extract, Array.toList_extract]
      simp
    · rw [rns_nil (by omega)] at h
      simp at h
theorem hy_tx : hyB = tx [45] := rfl
theorem mi_tx : miB = tx [8722] := rfl
theorem sgn_runes (s : ByteArray) : rns (sgn s).1 = rrest (rns s) ∧ (sgn s).2 = rminus (rns s) := by
  unfold sgn rrest
  have h1 := pre_rune s (c := 45) (.inl (by decide)) (by decide)
  have h2 := pre_rune s (c := 8722) (.inl (by decide)) (by decide)
  rw [← hy_tx] at h1
  rw [← mi_tx] at h2
  rw [h1, h2]
  by_cases g1 : (rns s).head? = some 45
  · have hm : rminus (rns s) = true := by unfold rminus; exact decide_eq_true (.inl g1)
    rw [if_pos (by simpa using g1), hm, if_pos rfl]
    refine ⟨?_, rfl⟩
    have hs : 0 < s.size := by
      rcases Nat.eq_zero_or_pos s.size with h | h
      · rw [rns_nil h] at g1; simp at g1
      · exact h
    have e := rns_cons hs
    rw [e] at g1
    simp only [List.head?_cons, Option.some.injEq] at g1
    have hd : (Utf8.decode s 0).2 = 1 := by
      by_cases ha : (s[0]'hs).toNat < 128
      · rw [decode_ascii s 0 hs ha]
      · have := (decode_high s 0 hs (by omega)).1
        omega
    rw [e, hd]
    rfl
  · rw [if_neg (by simpa using g1)]
    by_cases g2 : (rns s).head? = some 8722
    · have hm : rminus (rns s) = true := by unfold rminus; exact decide_eq_true (.inr g2)
      rw [if_pos (by simpa using g2), hm, if_pos rfl]
      refine ⟨?_, rfl⟩
      have hs : 0 < s.size := by
        rcases Nat.eq_zero_or_pos s.size with h | h
        · rw [rns_nil h] at g2; simp at g2
        · exact h
      have e := rns_cons hs
      have hp : preB s (tx [8722]) = true := by rw [← mi_tx, h2]; simpa using g2
      have ht := pre_take hp
      have hd : (Utf8.decode s 0).2 = 3 := by
        have e3 : s.data.toList = encodeRune ((8722 : Nat) : Int) ++ s.data.toList.drop 3 := by
          have : encodeRune ((8722 : Nat) : Int) = (tx [8722]).data.toList := rfl
          rw [this, ← ht]
          exact (List.take_append_drop _ _).symm
        have hd := decodeL_drop s 0
        rw [List.drop_zero, e3, decodeL_enc (.inl (by decide))] at hd
        rw [← hd]
        rfl
      rw [e, hd]
      rfl
    · have hm : rminus (rns s) = false := by unfold rminus; exact decide_eq_false (fun g => g.elim g1 g2)
      rw [if_neg (by simpa using g2), hm, if_neg (by simp)]
      exact ⟨rfl, rfl⟩
theorem scr_rs (c : Nat) : scr (c : Int) = if rs c = 0 then none else some (rs c : Int) := by
  unfold scr rs inS
  simp only [decide_eq_true_eq]
  by_cases h1 : 48 ≤ c ∧ c ≤ 57
  · rw [if_pos (by omega), if_pos h1]; rfl
  · rw [if_neg (by omega), if_neg h1]
    by_cases h2 : 1632 ≤ c ∧ c ≤ 1641
    · rw [if_pos (by omega), if_pos h2]; rfl
    · rw [if_neg (by omega), if_neg h2]
      by_cases h3 : 65296 ≤ c ∧ c ≤ 65305
      · rw [if_pos (by omega), if_pos h3]; rfl
      · rw [if_neg (by omega), if_neg h3]; rfl
theorem ins_rs (c d : Nat) (h : rs d ≠ 0) : inS (c : Int) (rs d : Int) = decide (rs c = rs d) := by
  unfold inS
  rw [Bool.eq_iff_iff, decide_eq_true_iff, decide_eq_true_iff]
  unfold rs at h ⊢
  by_cases h1 : 48 ≤ d ∧ d ≤ 57
  · simp only [if_pos h1] at h ⊢
    constructor
    · intro g; rw [if_pos (by omega)]
    · intro g
      split at g
      · omega
      · split at g
        · omega
        · split at g <;> omega
  · simp only [if_neg h1] at h ⊢
    by_cases h2 : 1632 ≤ d ∧ d ≤ 1641
    · simp only [if_pos h2] at h ⊢
      constructor
      · intro g; rw [if_neg (by omega), if_pos (by omega)]
      · intro g
        split at g
        · omega
        · split at g
          · omega
          · split at g <;> omega
    · simp only [if_neg h2] at h ⊢
      by_cases h3 : 65296 ≤ d ∧ d ≤ 65305
      · simp only [if_pos h3] at h ⊢
        constructor
        · intro g; rw [if_neg (by omega), if_neg (by omega), if_pos (by omega)]
        · intro g
          split at g
          · omega
          · split at g
            · omega
            · split at g <;> omega
      · simp only [if_neg h3] at h
        exact absurd rfl h
theorem nat_rnum (d : Nat) (hd : rs d ≠ 0) : ∀ (l : List Nat) (np nr : Nat), nr = min np 1152921504606846977 → (natL l (rs d : Int) true np).2 = (rnum (rs d) l nr).2 ∧ ((rnum (rs d) l nr).2 = true → (rnum (rs d) l nr).1 = min (natL l (rs d : Int) true np).1 1152921504606846977)
  | [], np, nr, h => ⟨rfl, fun _ => h⟩
  | c :: l, np, nr, h => by
    rw [natL, rnum, ins_rs c d hd]
    by_cases hc : rs c = rs d
    · rw [if_pos (by simpa using hc), if_neg (by simpa using hc)]
      have hdg := rs_digit (c := c) (by rw [hc]; exact hd)
      refine nat_rnum d hd l _ _ ?_
      unfold dig
      rw [hc] at hdg ⊢
      split
      · omega
      · omega
    · rw [if_neg (by simpa using hc), if_pos hc]
      exact ⟨rfl, fun g => by simp at g⟩
/-- What the document's Number answers. -/
def rNumR (s : ByteArray) : Int × Int :=
  if (rnumL (rns s)).2.2 = false then (0, 9)
  else if (rnumL (rns s)).2.1 = true ∧ (rnumL (rns s)).1 ≤ 1152921504606846976 then (-((rnumL (rns s)).1 : Int), 0)
  else if 1152921504606846975 < (rnumL (rns s)).1 then (0, 11)
  else ((rnumL (rns s)).1, 0)
theorem num_same (s : ByteArray) : rNumR s = numR s ∧ ((numR s).2 = 9 ↔ (rnumL (rns s)).2.2 = false) := by
  obtain ⟨h1, h2⟩ := sgn_runes s
  unfold rNumR numR rnumL
  rw [h1, h2]
  have key : ∀ (l : List Nat) (mn : Bool), (rnumM mn l).2.1 = mn ∧ (natL l 0 false 0).2 = (rnumM mn l).2.2 ∧ ((rnumM mn l).2.2 = true → (rnumM mn l).1 = min (natL l 0 false 0).1 1152921504606846977) := by
    intro l mn
    cases l with
    | nil => exact ⟨rfl, rfl, fun g => by simp [rnumM] at g⟩
    | cons c l =>
      rw [rnumM, natL, scr_rs]
      by_cases hc : rs c = 0
      · rw [if_pos hc, if_pos hc]
        exact ⟨rfl, rfl, fun g => by simp at g⟩
      · rw [if_neg hc, if_neg hc]
        have hdg := rs_digit hc
        rw [rnum, if_neg (by simp)]
        have := nat_rnum c hc l (dig 0 c (rs c : Int)) (min (10 * 0 + (c - rs c)) 1152921504606846977) (by unfold dig; rw [if_pos (by omega)]; omega)
        exact ⟨rfl, this.1, this.2⟩
  obtain ⟨k1, k2, k3⟩ := key (rrest (rns s)) (rminus (rns s))
  obtain ⟨p, hp⟩ : ∃ p, p = natL (rrest (rns s)) 0 false 0 := ⟨_, rfl⟩
  obtain ⟨r, hr⟩ : ∃ r, r = rnumM (rminus (rns s)) (rrest (rns s)) := ⟨_, rfl⟩
  rw [← hp, ← hr] at k2 k3
  rw [← hr] at k1
  rw [← hp, ← hr]
  obtain ⟨pn, po⟩ := p
  obtain ⟨rn, rm, ro⟩ := r
  clear hp hr h1 h2 key
  obtain ⟨mn, hmn⟩ : ∃ mn, mn = rminus (rns s) := ⟨_, rfl⟩
  rw [← hmn] at k1 ⊢
  clear hmn
  dsimp only at k1 k2 k3 ⊢
  subst k1
  subst k2
  cases po with
  | false => exact ⟨rfl, by simp⟩
  | true =>
    have k4 := k3 rfl
    clear k3
    have f1 : ¬ (true = false) := by simp
    rw [if_neg f1, if_neg f1]
    cases rm with
    | true =>
      by_cases hle : pn ≤ 1152921504606846976
      · have : rn = pn := by omega
        subst this
        rw [if_pos ⟨rfl, hle⟩, if_pos ⟨rfl, hle⟩]
        simp
      · have h3 : ¬ (true = true ∧ rn ≤ 1152921504606846976) := fun g => by have := g.2; omega
        have h4 : ¬ (true = true ∧ pn ≤ 1152921504606846976) := fun g => hle g.2
        have h5 : 1152921504606846975 < rn := by omega
        have h6 : ¬ (true = false ∧ pn ≤ 1152921504606846975) := fun g => by simp at g
        rw [if_neg h3, if_neg h4, if_pos h5, if_neg h6]
        simp
    | false =>
      have h3 : ∀ x : Nat, ¬ (false = true ∧ x ≤ 1152921504606846976) := fun x g => by simp at g
      rw [if_neg (h3 rn), if_neg (h3 pn)]
      by_cases hle : pn ≤ 1152921504606846975
      · have : rn = pn := by omega
        subst this
        rw [if_neg (by omega), if_pos ⟨rfl, hle⟩]
        simp
      · have h5 : 1152921504606846975 < rn := by omega
        have h6 : ¬ (false = false ∧ pn ≤ 1152921504606846975) := fun g => hle g.2
        rw [if_pos h5, if_neg h6]
        simp
end Go.Proofs.YtfecmpebnianpaaGreatDoor
namespace Go.Proofs.YtfecmpebnianpaaGreatDoor
open Go.RowKit Go.Lib
set_option linter.unusedSimpArgs false
set_option linter.unusedVariables false
theorem rnum_le (nt : Nat) : ∀ (l : List Nat) (n : Nat), n ≤ 1152921504606846977 → (rnum nt l n).1 ≤ 1152921504606846977
  | [], n, h => h
  | c :: l, n, h => by
    rw [rnum]
    split
    · exact Nat.zero_le _
    · exact rnum_le nt l _ (by omega)
theorem rnumL_le (l : List Nat) : (rnumL l).1 ≤ 1152921504606846977 := by
  unfold rnumL
  cases rrest l with
  | nil => exact Nat.zero_le _
  | cons c r =>
    rw [rnumM]
    split
    · exact Nat.zero_le _
    · exact rnum_le _ _ _ (Nat.zero_le _)
set_option maxRecDepth 100000 in
set_option maxHeartbeats 1000000 in
theorem rNumber_any (s : ByteArray) (hs : s.size ≤ 4000000) (w : World) :
    Calls Tryz.prog 72 #[.string s] w fun e w' => e = .returned (.tuple #[.int .i64 (numR s).1, .int .i64 (numR s).2]) ∧ Only (fun _ => False) w w' := by
  have HC : Hid (Calls Tryz.prog 67 #[.string s] w fun e w' => ∃ v, e = .returned v ∧ Hid (ChrAt w' w.heap.size v (chrL s) ∧ Below w.heap.size w w')) := chars_any s hs w
  have HN : Hid (∀ v w1, RdC w1 v (chrL s) → Calls Tryz.prog 69 #[v] w1 fun e w' => e = .returned (rnV (rnumL (rns s))) ∧ Only (fun _ => False) w1 w') := fun v w1 h => by
    have := rnumber_any (chrL s) (by have := chrL_len s; omega) v w1 h
    rwa [chr_runes] at this
  have hle := rnumL_le (rns s)
  have hsame := (num_same s).1
  unfold rNumR at hsame
  rw [← hsame]
  obtain ⟨x, hx⟩ : ∃ x, x = rnumL (rns s) := ⟨_, rfl⟩
  rw [← hx] at HN hle ⊢
  clear hx hsame
  obtain ⟨n, mn, ok⟩ := x
  dsimp only at hle ⊢
  simp only [rnV] at HN
  obtain ⟨Z, hZ⟩ : ∃ Z : Int × Int, Z = if ok = false then (0, 9) else if mn = true ∧ n ≤ 1152921504606846976 then (-(n : Int), 0) else if 1152921504606846975 < n then (0, 11) else ((n : Int), 0) := ⟨_, rfl⟩
  have HZ : Hid (Z = if ok = false then (0, 9) else if mn = true ∧ n ≤ 1152921504606846976 then (-(n : Int), 0) else if 1152921504606846975 < n then (0, 11) else ((n : Int), 0)) := hZ
  rw [← hZ]
  clear hZ
  go_enter Tryz.func72, Tryz.ntmps72
  go_wp2_with fail
  refine (show Calls Tryz.prog 67 _ _ _ from HC.out).mono ?_
  rintro e w1 ⟨v, rfl, g⟩
  have O1 : Hid (Only (fun _ => False) w w1) := below_only g.out.2
  have T1 : Hid (RdC w1 v (chrL s)) := rdc_chr g.out.1
  clear HC g
  go_wp2_with fail
  refine (show Calls Tryz.prog 69 _ _ _ from HN.out _ _ T1.out).mono ?_
  rintro e2 w2 ⟨rfl, o2⟩
  have O2 : Hid (Only (fun _ => False) w w2) := O1.out.trans o2 (fun _ _ x => x)
  clear HN T1 O1 o2
  cases ok with
  | false =>
    have HE : Hid (Z = (0, 9)) := by
      show Z = _
      rw [HZ.out, if_pos rfl]
    clear HZ
    go_wp2
    go_ret2
    exact ⟨by rw [show Z = _ from HE.out]; rfl, O2.out⟩
  | true =>
    cases mn with
    | true =>
      by_cases h1 : n ≤ 1152921504606846976
      · have HE : Hid (Z = (-(n : Int), 0)) := by
          show Z = _
          rw [HZ.out, if_neg (by simp), if_pos ⟨rfl, h1⟩]
        have i1 : (n : Int) ≤ 1152921504606846976 := by omega
        have r1 : IntKind.i64.wrap (n : Int) = (n : Int) := by rw [IntKind.wrap_i64]; omega
        have r2 : IntKind.i64.wrap (-(n : Int)) = -(n : Int) := by rw [IntKind.wrap_i64]; omega
        clear HZ
        go_wp2
        go_ret2
        exact ⟨by rw [show Z = _ from HE.out]; rfl, O2.out⟩
      · have HE : Hid (Z = (0, 11)) := by
          show Z = _
          rw [HZ.out, if_neg (by simp), if_neg (fun g => h1 g.2), if_pos (by omega)]
        have i1 : decide ((n : Int) ≤ 1152921504606846976) = false := decide_eq_false (by omega)
        have i2 : (1152921504606846975 : Int) < (n : Int) := by omega
        clear HZ
        go_wp2
        go_ret2
        exact ⟨by rw [show Z = _ from HE.out]; rfl, O2.out⟩
    | false =>
      by_cases h1 : 1152921504606846975 < n
      · have HE : Hid (Z = (0, 11)) := by
          show Z = _
          rw [HZ.out, if_neg (by simp), if_neg (fun g => by simp at g), if_pos h1]
        have i2 : (1152921504606846975 : Int) < (n : Int) := by omega
        clear HZ
        go_wp2
        go_ret2
        exact ⟨by rw [show Z = _ from HE.out]; rfl, O2.out⟩
      · have HE : Hid (Z = ((n : Int), 0)) := by
          show Z = _
          rw [HZ.out, if_neg (by simp), if_neg (fun g => by simp at g), if_neg h1]
        have i2 : decide ((1152921504606846975 : Int) < (n : Int)) = false := decide_eq_false (by omega)
        have r1 : IntKind.i64.wrap (n : Int) = (n : Int) := by rw [IntKind.wrap_i64]; omega
        clear HZ
        go_wp2
        go_ret2
        exact ⟨by rw [show Z = _ from HE.out]; rfl, O2.out⟩
/-- What a name is, by its characters. -/
theorem nmL_all : ∀ (l : List Nat) (k : Nat), k + l.length ≤ 32 → nmL l k = (decide (0 < k + l.length) && l.all ofN)
  | [], k, h => by simp [nmL]
  | c :: l, k, h => by
    rw [List.length_cons] at h
    rw [nmL, List.all_cons, List.length_cons]
    by_cases hc : ofN c = false
    · rw [if_pos (.inr hc), hc]; simp
    · rw [if_neg (fun g => g.elim (by omega) hc), nmL_all l (k + 1) (by omega)]
      simp only [Bool.not_eq_false] at hc
      rw [hc, Bool.true_and, decide_eq_true (by omega), decide_eq_true (by omega)]
theorem nmL_long : ∀ (l : List Nat) (k : Nat), k ≤ 32 → 32 < k + l.length → nmL l k = false
  | [], k, h0, h => by simp at h; omega
  | c :: l, k, h0, h => by
    rw [nmL]
    rw [List.length_cons] at h
    split
    · rfl
    · rename_i g
      exact nmL_long l (k + 1) (by omega) (by omega)
theorem qu_tx : quB = tx [34] := rfl
theorem name_eq (s : ByteArray) : nameB s = (!(s.toList == [33]) && !decide ((rns s).head? = some 34) && decide (0 < (rns s).length) && decide ((rns s).length ≤ 32) && (rns s).all ofN && !(rnumL (rns s)).2.2) := by
  unfold nameB nmdB
  have h1 := (num_same s).2
  have h2 := pre_rune s (c := 34) (.inl (by decide)) (by decide)
  rw [← qu_tx] at h2
  rw [h2]
  have h3 : decide ((numR s).2 = 9) = !(rnumL (rns s)).2.2 := by
    rw [Bool.eq_iff_iff, decide_eq_true_iff, h1]
    simp
  rw [h3]
  cases s.toList == [33] with
  | true => simp
  | false =>
    by_cases h34 : (rns s).head? = some 34
    · simp [h34]
    · simp only [Bool.false_eq_true, if_false, decide_eq_false h34, Bool.not_false, Bool.true_and]
      by_cases hl : (rns s).length ≤ 32
      · rw [nmL_all _ 0 (by omega), decide_eq_true hl, Nat.zero_add, Bool.and_true, Bool.and_comm]
      · rw [nmL_long _ 0 (by omega) (by omega), decide_eq_false hl]
        simp
end Go.Proofs.YtfecmpebnianpaaGreatDoor
