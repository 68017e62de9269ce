/- The document's number. -/
import Derived.Test.YtbijiigobbjlcaaDoorLx34
import Derived.Deep.QuietTactic
namespace Go.Proofs.YtbijiigobbjlcaaDoor
open Go.RowKit Go.Lib
set_option linter.unusedSimpArgs false
set_option linter.unusedVariables false
def rnV (x : Nat × Bool × Bool) : Value := .tuple #[.int .u64 (x.1 : Int), .bool x.2.1, .bool x.2.2]
theorem chr_rest (g o k c : Nat) (hk : 1 ≤ k) (hc : k ≤ c) : ∃ a2 c2, (∀ w, (Instr.slice 44 (.slice (some ⟨g, o, none⟩) k c) (some (.int .i64 1)) none none).run Tryd.prog w = .ok (.slice a2 (k - 1) c2) w) ∧ (a2 = some ⟨g, o + 4, none⟩ ∨ k = 1) ∧ k - 1 ≤ c2 := by
  have k0 : (1 : Int) ≤ (k : Int) := by omega
  have kc : (k : Int) ≤ (c : Int) := by omega
  have e1 : ((k : Int) - 1).toNat = k - 1 := by omega
  have e2 : ((c : Int) - 1).toNat = c - 1 := by omega
  by_cases e : c = 1
  · have ek : k = 1 := by omega
    subst e ek
    exact ⟨some ⟨g, o, none⟩, 0, fun w => by go_simp, .inr rfl, by omega⟩
  · have ec : ¬ c - 1 = 0 := by omega
    refine ⟨some ⟨g, o + 4, none⟩, c - 1, fun w => ?_, .inl rfl, by omega⟩
    go_simp
set_option maxRecDepth 100000 in
set_option maxHeartbeats 1000000 in
theorem rnumber_any (l : List Chr) (hl : l.length ≤ 4000000) (v : Value) (w : World) (h : RdC w v l) :
    Calls Tryd.prog 27 #[v] w fun e w' => e = .returned (rnV (rnumL (l.map (·.r)))) ∧ Only (fun _ => False) w w' := by
  obtain ⟨ao, cap, rfl, hcap, fL⟩ := h
  obtain ⟨Z, hZ⟩ : ∃ Z, Z = rnumL (l.map (·.r)) := ⟨_, rfl⟩
  rw [← hZ]
  have O0 : Hid (Only (fun _ => False) w w) := Only.refl _ _
  by_cases hmin : rminus (l.map (·.r)) = true
  · obtain ⟨t1, L, hlL⟩ : ∃ t1 L, l = t1 :: L := by
      cases l with
      | nil => simp [rminus] at hmin
      | cons x y => exact ⟨x, y, rfl⟩
    have HZ : Hid (Z = rnumM true (L.map (·.r))) := by
      show Z = _
      rw [hZ]
      unfold rnumL rrest
      rw [if_pos hmin, hmin, hlL]
      rfl
    have hsign : t1.r = 45 ∨ t1.r = 8722 := by
      rw [hlL] at hmin
      simpa [rminus] using hmin
    clear hZ hmin
    subst hlL
    obtain ⟨g1, o1, rfl, hg1, z0, _, _, _⟩ := fL 0 t1 rfl
    simp only [Nat.zero_mul, Nat.add_zero] at z0
    obtain ⟨K, hK⟩ : ∃ K, K = (t1 :: L).length := ⟨_, rfl⟩
    have hKL : K - 1 = L.length := by rw [hK]; simp
    rw [← hK] at hcap hl ⊢
    have hK1 : 1 ≤ K := by rw [hK]; simp
    obtain ⟨ao, cap2, hsl, hao, hcap2⟩ := chr_rest g1 o1 K cap hK1 hcap
    rw [hKL] at hsl hcap2
    have fL2 : ∀ i t, L[i]? = some t → ∃ g o, ao = some ⟨g, o, none⟩ ∧ g < w.heap.size ∧ w.cell? ⟨g, o + i * 4, none⟩ = some (.int .i32 (t.r : Int)) ∧ w.cell? ⟨g, o + i * 4 + 1, none⟩ = some (.int .i64 (t.a : Int)) ∧ w.cell? ⟨g, o + i * 4 + 2, none⟩ = some (.int .i64 (t.z : Int)) ∧ w.cell? ⟨g, o + i * 4 + 3, none⟩ = some (.bool t.b) := fun i t ht => by
      have hi : i < L.length := (List.getElem?_eq_some_iff.1 ht).1
      obtain ⟨g, o, e, hg, c⟩ := fL (i + 1) t (by simpa using ht)
      injection e with e
      injection e with e1 e2
      subst e1
      subst e2
      refine ⟨g1, o1 + 4, by rcases hao with h | h <;> first | exact h | omega, hg, ?_⟩
      rw [show o1 + 4 + i * 4 = o1 + (i + 1) * 4 by omega]
      exact c
    have hl2 : L.length ≤ 4000000 := by omega
    have hN0 : (0 : Int) < (K : Int) := by omega
    clear fL hao hK hKL
    obtain ⟨fL, hl3⟩ : (∀ i t, L[i]? = some t → ∃ g o, ao = some ⟨g, o, none⟩ ∧ g < w.heap.size ∧ w.cell? ⟨g, o + i * 4, none⟩ = some (.int .i32 (t.r : Int)) ∧ w.cell? ⟨g, o + i * 4 + 1, none⟩ = some (.int .i64 (t.a : Int)) ∧ w.cell? ⟨g, o + i * 4 + 2, none⟩ = some (.int .i64 (t.z : Int)) ∧ w.cell? ⟨g, o + i * 4 + 3, none⟩ = some (.bool t.b)) ∧ True := ⟨fL2, trivial⟩
    clear fL2 hl3
    obtain ⟨cs, hcs⟩ : ∃ cs, cs = t1.r := ⟨_, rfl⟩
    rw [← hcs] at z0 hsign
    clear hcs
    rcases hsign with hsg | hsg
    · have s45 : ((cs : Int) == 45) = true := by rw [hsg]; rfl
      clear hsg
      obtain hL | ⟨t0, L', hL⟩ : L = [] ∨ ∃ t0 L', L = t0 :: L' := by
        cases L with
        | nil => exact .inl rfl
        | cons x y => exact .inr ⟨x, y, rfl⟩
      · subst hL
        have HE : Hid (Z = (0, true, false)) := HZ.out
        go_enter Tryd.func27, Tryd.ntmps27
        go_wp2
        go_ret3
        exact ⟨by rw [show Z = _ from HE.out]; rfl, O0.out⟩
      · have h0 : L[0]? = some t0 := by rw [hL]; rfl
        have hlen : 0 < L.length := by rw [hL]; simp
        skip
        obtain ⟨g, o, rfl, hg, x0, x1, x2, x3⟩ := fL 0 t0 h0
        simp only [Nat.zero_mul, Nat.add_zero] at x0
        obtain ⟨F, hF⟩ : ∃ F : Nat → Nat, F = rs := ⟨_, rfl⟩
        have HSc : Hid (∀ (c : Nat) w1, Calls Tryd.prog 42 #[.int .i32 (c : Int)] w1 fun e w' => e = .returned (.int .i32 (F c : Int)) ∧ w' = w1) := fun c w1 => by rw [hF]; exact rscript_any c w1
        have HFd : Hid (∀ c, F c ≠ 0 → F c ≤ c ∧ c - F c ≤ 9) := fun c => by rw [hF]; exact rs_digit
        have HFr : Hid (F = rs) := hF
        obtain ⟨m, hm⟩ : ∃ m, m = L.length := ⟨_, rfl⟩
        obtain ⟨c0, hc0⟩ : ∃ c0, c0 = t0.r := ⟨_, rfl⟩
        obtain ⟨s0, hs0⟩ : ∃ s0, s0 = F c0 := ⟨_, rfl⟩
        have HZ2 : Hid (Z = if rs c0 = 0 then (0, true, false) else ((rnum (rs c0) (L.map (·.r)) 0).1, true, (rnum (rs c0) (L.map (·.r)) 0).2)) := by
          show Z = _
          rw [HZ.out, hL, hc0]
          rfl
        rw [← hc0] at x0
        rw [← hF, ← hs0] at HZ2
        have HS00 : Hid (s0 = F c0) := hs0
        have hm0 : (0 : Int) < (m : Int) := by omega
        have hm1 : ((m : Int) == 0) = false := by simp; omega
        have hmm : m ≤ 4000000 := by omega
        have HMm : Hid (m = L.length) := hm
        have HF : Hid (∀ i t, L[i]? = some t → ∃ g' o', some (⟨g, o, none⟩ : Addr) = some ⟨g', o', none⟩ ∧ g' < w.heap.size ∧ w.cell? ⟨g', o' + i * 4, none⟩ = some (.int .i32 (t.r : Int)) ∧ w.cell? ⟨g', o' + i * 4 + 1, none⟩ = some (.int .i64 (t.a : Int)) ∧ w.cell? ⟨g', o' + i * 4 + 2, none⟩ = some (.int .i64 (t.z : Int)) ∧ w.cell? ⟨g', o' + i * 4 + 3, none⟩ = some (.bool t.b)) := fL
        rw [← hm] at hsl hcap2
        clear fL h0 x1 x2 x3 hg hL hm hlen hc0 HZ hF
        subst hs0
        clear HS00
        go_enter Tryd.func27, Tryd.ntmps27
        by_cases hz0 : F c0 = 0
        · have HE : Hid (Z = (0, true, false)) := by
            show Z = _
            rw [HZ2.out, if_pos hz0]
          have hb0 : ((F c0 : Int) == 0) = true := by rw [hz0]; rfl
          clear HZ2 hz0
          go_wp2_with fail
          refine (show Calls Tryd.prog 42 _ _ _ from HSc.out c0 _).mono ?_
          rintro e1 w1 ⟨rfl, hw1⟩
          subst w1
          go_wp2
          go_ret3
          exact ⟨by rw [show Z = _ from HE.out]; rfl, O0.out⟩
        · have hb0 : ((F c0 : Int) == 0) = false := by simp; omega
          have HE : Hid (Z = ((rnum (F c0) (L.map (·.r)) 0).1, true, (rnum (F c0) (L.map (·.r)) 0).2)) := by
            show Z = _
            rw [HZ2.out, if_neg hz0]
          clear HZ2
          go_wp2_with fail
          refine (show Calls Tryd.prog 42 _ _ _ from HSc.out c0 _).mono ?_
          rintro e1 w1 ⟨rfl, hw1⟩
          subst w1
          go_wp2
          go_loopw [2, 3, 5] (fun r2 r3 r5 wr => ∃ (k n : Nat), k ≤ m ∧ n ≤ 1152921504606846977 ∧ r2 = .int .u64 (n : Int) ∧ r3 = .bool true ∧ r5 = .int .i64 (k : Int) ∧ Hid (Only (fun _ => False) w wr ∧ Z = ((rnum (F c0) ((L.drop k).map (·.r)) n).1, true, (rnum (F c0) ((L.drop k).map (·.r)) n).2))) (fun _ _ r5 _ => m - uOf r5)
          case atStart => exact ⟨0, 0, Nat.zero_le _, by omega, rfl, rfl, rfl, Only.refl _ _, HE.out⟩
          case round =>
            obtain ⟨k, n, hk, hn, rfl, rfl, rfl, HI⟩ := hrel
            obtain ⟨w5, rfl⟩ : ∃ w5, w5 = wr := ⟨_, rfl⟩
            clear HE
            by_cases hlt : k < m
            · have hlt2 : k < L.length := by have : m = L.length := HMm.out; omega
              obtain ⟨t, ht⟩ : ∃ t, t = L[k]'hlt2 := ⟨_, rfl⟩
              have ht2 : L[k]? = some t := by rw [ht]; exact List.getElem?_eq_getElem _
              obtain ⟨g', o', eg, hg', y0, _, _, _⟩ := HF.out k t ht2
              injection eg with eg
              injection eg with eg1 eg2
              subst eg1
              subst eg2
              have X0 := HI.out.1.cell x0 (fun x => x)
              have Y0 := HI.out.1.cell y0 (fun x => x)
              have hd : L.drop k = t :: L.drop (k + 1) := by
                rw [ht]
                exact List.drop_eq_getElem_cons hlt2
              have hst := HFd.out t.r
              obtain ⟨c, hc⟩ : ∃ c, c = t.r := ⟨_, rfl⟩
              have HZ3 : Hid (Z = if F c ≠ F c0 then (0, true, false) else ((rnum (F c0) ((L.drop (k + 1)).map (·.r)) (min (10 * n + (c - F c)) 1152921504606846977)).1, true, (rnum (F c0) ((L.drop (k + 1)).map (·.r)) (min (10 * n + (c - F c)) 1152921504606846977)).2)) := by
                show Z = _
                rw [HI.out.2, hd, List.map_cons, rnum, ← hc, show rs = F from HFr.out.symm]
                split <;> rfl
              rw [← hc] at Y0 hst
              have HO : Hid (Only (fun _ => False) w w5) := HI.out.1
              clear HI hd ht ht2 y0 hc hlt2
              have k0 : (0 : Int) ≤ (k : Int) := Int.natCast_nonneg _
              have k1 : (k : Int) < (m : Int) := by omega
              by_cases hqs : F c = F c0
              · have hst2 := hst (by rw [hqs]; exact hz0)
                have HZ4 : Hid (Z = ((rnum (F c0) ((L.drop (k + 1)).map (·.r)) (min (10 * n + (c - F c)) 1152921504606846977)).1, true, (rnum (F c0) ((L.drop (k + 1)).map (·.r)) (min (10 * n + (c - F c)) 1152921504606846977)).2)) := by
                  show Z = _
                  rw [HZ3.out, if_neg (by simp [hqs])]
                have hqb : ((F c : Int) == (F c0 : Int)) = true := by rw [hqs]; simp
                clear HZ3 hst hqs
                go_wp2_with fail
                go_quiet (first | (go_at_call 42; refine Calls.quiet_of_same (HSc.out _ _)))
                go_wp2_with fail
                obtain ⟨W6, hW6⟩ : ∃ W6, W6 = w5.drewN nq := ⟨_, rfl⟩
                rw [← hW6]
                have Y6 : W6.cell? ⟨g, o + k * 4, none⟩ = some (.int .i32 (c : Int)) := by rw [hW6]; exact Y0
                have HO6 : Hid (Only (fun _ => False) w W6) := by rw [hW6]; exact HO.out.drewN _
                clear hW6 X0 Y0 HO hqb
                have r1 : IntKind.i32.wrap ((c : Int) - (F c : Int)) = ((c - F c : Nat) : Int) := by rw [IntKind.wrap_i32]; omega
                have r2 : IntKind.u64.wrap ((c - F c : Nat) : Int) = ((c - F c : Nat) : Int) := by rw [IntKind.wrap_u64]; omega
                have r3 : IntKind.u64.wrap (10 * (n : Int)) = 10 * (n : Int) := by rw [IntKind.wrap_u64]; omega
                have r4 : IntKind.u64.wrap (10 * (n : Int) + ((c - F c : Nat) : Int)) = 10 * (n : Int) + ((c - F c : Nat) : Int) := by rw [IntKind.wrap_u64]; omega
                go_quiet (first | (go_at_call 42; refine Calls.quiet_of_same (HSc.out _ _)))
                rw [show min (10 * (n : Int) + ((c - F c : Nat) : Int)) 1152921504606846977 = ((min (10 * n + (c - F c)) 1152921504606846977 : Nat) : Int) by omega]
                obtain ⟨n2, hn2⟩ : ∃ n2, n2 = min (10 * n + (c - F c)) 1152921504606846977 := ⟨_, rfl⟩
                have hn3 : n2 ≤ 1152921504606846977 := by omega
                rw [← hn2] at HZ4 ⊢
                clear hn2 r1 r2 r3 r4
                go_wp2
                go_roundw
                case rel => exact ⟨k + 1, n2, by omega, hn3, rfl, rfl, by go_num, HO6.out.drewN _, HZ4.out⟩
                case measure => simp only [uOf]; omega
              · have hqb : ((F c : Int) == (F c0 : Int)) = false := by simp; omega
                have HZ4 : Hid (Z = (0, true, false)) := by
                  show Z = _
                  rw [HZ3.out, if_pos hqs]
                clear HZ3 hst hqs
                go_wp2_with fail
                go_quiet (first | (go_at_call 42; refine Calls.quiet_of_same (HSc.out _ _)))
                go_wp2
                go_ret3
                exact ⟨by rw [show Z = _ from HZ4.out]; rfl, HO.out.drewN _⟩
            · have HZ4 : Hid (Z = (n, true, true)) := by
                show Z = _
                rw [HI.out.2, List.drop_eq_nil_of_le (by have : m = L.length := HMm.out; omega)]
                rfl
              have k1 : ¬ (k : Int) < (m : Int) := by omega
              go_wp2
              go_ret3
              exact ⟨by rw [show Z = _ from HZ4.out]; rfl, HI.out.1⟩
    · have s45 : ((cs : Int) == 45) = false := by rw [hsg]; rfl
      have s87 : ((cs : Int) == 8722) = true := by rw [hsg]; rfl
      clear hsg
      obtain hL | ⟨t0, L', hL⟩ : L = [] ∨ ∃ t0 L', L = t0 :: L' := by
        cases L with
        | nil => exact .inl rfl
        | cons x y => exact .inr ⟨x, y, rfl⟩
      · subst hL
        have HE : Hid (Z = (0, true, false)) := HZ.out
        go_enter Tryd.func27, Tryd.ntmps27
        go_wp2
        go_ret3
        exact ⟨by rw [show Z = _ from HE.out]; rfl, O0.out⟩
      · have h0 : L[0]? = some t0 := by rw [hL]; rfl
        have hlen : 0 < L.length := by rw [hL]; simp
        skip
        obtain ⟨g, o, rfl, hg, x0, x1, x2, x3⟩ := fL 0 t0 h0
        simp only [Nat.zero_mul, Nat.add_zero] at x0
        obtain ⟨F, hF⟩ : ∃ F : Nat → Nat, F = rs := ⟨_, rfl⟩
        have HSc : Hid (∀ (c : Nat) w1, Calls Tryd.prog 42 #[.int .i32 (c : Int)] w1 fun e w' => e = .returned (.int .i32 (F c : Int)) ∧ w' = w1) := fun c w1 => by rw [hF]; exact rscript_any c w1
        have HFd : Hid (∀ c, F c ≠ 0 → F c ≤ c ∧ c - F c ≤ 9) := fun c => by rw [hF]; exact rs_digit
        have HFr : Hid (F = rs) := hF
        obtain ⟨m, hm⟩ : ∃ m, m = L.length := ⟨_, rfl⟩
        obtain ⟨c0, hc0⟩ : ∃ c0, c0 = t0.r := ⟨_, rfl⟩
        obtain ⟨s0, hs0⟩ : ∃ s0, s0 = F c0 := ⟨_, rfl⟩
        have HZ2 : Hid (Z = if rs c0 = 0 then (0, true, false) else ((rnum (rs c0) (L.map (·.r)) 0).1, true, (rnum (rs c0) (L.map (·.r)) 0).2)) := by
          show Z = _
          rw [HZ.out, hL, hc0]
          rfl
        rw [← hc0] at x0
        rw [← hF, ← hs0] at HZ2
        have HS00 : Hid (s0 = F c0) := hs0
        have hm0 : (0 : Int) < (m : Int) := by omega
        have hm1 : ((m : Int) == 0) = false := by simp; omega
        have hmm : m ≤ 4000000 := by omega
        have HMm : Hid (m = L.length) := hm
        have HF : Hid (∀ i t, L[i]? = some t → ∃ g' o', some (⟨g, o, none⟩ : Addr) = some ⟨g', o', none⟩ ∧ g' < w.heap.size ∧ w.cell? ⟨g', o' + i * 4, none⟩ = some (.int .i32 (t.r : Int)) ∧ w.cell? ⟨g', o' + i * 4 + 1, none⟩ = some (.int .i64 (t.a : Int)) ∧ w.cell? ⟨g', o' + i * 4 + 2, none⟩ = some (.int .i64 (t.z : Int)) ∧ w.cell? ⟨g', o' + i * 4 + 3, none⟩ = some (.bool t.b)) := fL
        rw [← hm] at hsl hcap2
        clear fL h0 x1 x2 x3 hg hL hm hlen hc0 HZ hF
        subst hs0
        clear HS00
        go_enter Tryd.func27, Tryd.ntmps27
        by_cases hz0 : F c0 = 0
        · have HE : Hid (Z = (0, true, false)) := by
            show Z = _
            rw [HZ2.out, if_pos hz0]
          have hb0 : ((F c0 : Int) == 0) = true := by rw [hz0]; rfl
          clear HZ2 hz0
          go_wp2_with fail
          refine (show Calls Tryd.prog 42 _ _ _ from HSc.out c0 _).mono ?_
          rintro e1 w1 ⟨rfl, hw1⟩
          subst w1
          go_wp2
          go_ret3
          exact ⟨by rw [show Z = _ from HE.out]; rfl, O0.out⟩
        · have hb0 : ((F c0 : Int) == 0) = false := by simp; omega
          have HE : Hid (Z = ((rnum (F c0) (L.map (·.r)) 0).1, true, (rnum (F c0) (L.map (·.r)) 0).2)) := by
            show Z = _
            rw [HZ2.out, if_neg hz0]
          clear HZ2
          go_wp2_with fail
          refine (show Calls Tryd.prog 42 _ _ _ from HSc.out c0 _).mono ?_
          rintro e1 w1 ⟨rfl, hw1⟩
          subst w1
          go_wp2
          go_loopw [2, 3, 5] (fun r2 r3 r5 wr => ∃ (k n : Nat), k ≤ m ∧ n ≤ 1152921504606846977 ∧ r2 = .int .u64 (n : Int) ∧ r3 = .bool true ∧ r5 = .int .i64 (k : Int) ∧ Hid (Only (fun _ => False) w wr ∧ Z = ((rnum (F c0) ((L.drop k).map (·.r)) n).1, true, (rnum (F c0) ((L.drop k).map (·.r)) n).2))) (fun _ _ r5 _ => m - uOf r5)
          case atStart => exact ⟨0, 0, Nat.zero_le _, by omega, rfl, rfl, rfl, Only.refl _ _, HE.out⟩
          case round =>
            obtain ⟨k, n, hk, hn, rfl, rfl, rfl, HI⟩ := hrel
            obtain ⟨w5, rfl⟩ : ∃ w5, w5 = wr := ⟨_, rfl⟩
            clear HE
            by_cases hlt : k < m
            · have hlt2 : k < L.length := by have : m = L.length := HMm.out; omega
              obtain ⟨t, ht⟩ : ∃ t, t = L[k]'hlt2 := ⟨_, rfl⟩
              have ht2 : L[k]? = some t := by rw [ht]; exact List.getElem?_eq_getElem _
              obtain ⟨g', o', eg, hg', y0, _, _, _⟩ := HF.out k t ht2
              injection eg with eg
              injection eg with eg1 eg2
              subst eg1
              subst eg2
              have X0 := HI.out.1.cell x0 (fun x => x)
              have Y0 := HI.out.1.cell y0 (fun x => x)
              have hd : L.drop k = t :: L.drop (k + 1) := by
                rw [ht]
                exact List.drop_eq_getElem_cons hlt2
              have hst := HFd.out t.r
              obtain ⟨c, hc⟩ : ∃ c, c = t.r := ⟨_, rfl⟩
              have HZ3 : Hid (Z = if F c ≠ F c0 then (0, true, false) else ((rnum (F c0) ((L.drop (k + 1)).map (·.r)) (min (10 * n + (c - F c)) 1152921504606846977)).1, true, (rnum (F c0) ((L.drop (k + 1)).map (·.r)) (min (10 * n + (c - F c)) 1152921504606846977)).2)) := by
                show Z = _
                rw [HI.out.2, hd, List.map_cons, rnum, ← hc, show rs = F from HFr.out.symm]
                split <;> rfl
              rw [← hc] at Y0 hst
              have HO : Hid (Only (fun _ => False) w w5) := HI.out.1
              clear HI hd ht ht2 y0 hc hlt2
              have k0 : (0 : Int) ≤ (k : Int) := Int.natCast_nonneg _
              have k1 : (k : Int) < (m : Int) := by omega
              by_cases hqs : F c = F c0
              · have hst2 := hst (by rw [hqs]; exact hz0)
                have HZ4 : Hid (Z = ((rnum (F c0) ((L.drop (k + 1)).map (·.r)) (min (10 * n + (c - F c)) 1152921504606846977)).1, true, (rnum (F c0) ((L.drop (k + 1)).map (·.r)) (min (10 * n + (c - F c)) 1152921504606846977)).2)) := by
                  show Z = _
                  rw [HZ3.out, if_neg (by simp [hqs])]
                have hqb : ((F c : Int) == (F c0 : Int)) = true := by rw [hqs]; simp
                clear HZ3 hst hqs
                go_wp2_with fail
                go_quiet (first | (go_at_call 42; refine Calls.quiet_of_same (HSc.out _ _)))
                go_wp2_with fail
                obtain ⟨W6, hW6⟩ : ∃ W6, W6 = w5.drewN nq := ⟨_, rfl⟩
                rw [← hW6]
                have Y6 : W6.cell? ⟨g, o + k * 4, none⟩ = some (.int .i32 (c : Int)) := by rw [hW6]; exact Y0
                have HO6 : Hid (Only (fun _ => False) w W6) := by rw [hW6]; exact HO.out.drewN _
                clear hW6 X0 Y0 HO hqb
                have r1 : IntKind.i32.wrap ((c : Int) - (F c : Int)) = ((c - F c : Nat) : Int) := by rw [IntKind.wrap_i32]; omega
                have r2 : IntKind.u64.wrap ((c - F c : Nat) : Int) = ((c - F c : Nat) : Int) := by rw [IntKind.wrap_u64]; omega
                have r3 : IntKind.u64.wrap (10 * (n : Int)) = 10 * (n : Int) := by rw [IntKind.wrap_u64]; omega
                have r4 : IntKind.u64.wrap (10 * (n : Int) + ((c - F c : Nat) : Int)) = 10 * (n : Int) + ((c - F c : Nat) : Int) := by rw [IntKind.wrap_u64]; omega
                go_quiet (first | (go_at_call 42; refine Calls.quiet_of_same (HSc.out _ _)))
                rw [show min (10 * (n : Int) + ((c - F c : Nat) : Int)) 1152921504606846977 = ((min (10 * n + (c - F c)) 1152921504606846977 : Nat) : Int) by omega]
                obtain ⟨n2, hn2⟩ : ∃ n2, n2 = min (10 * n + (c - F c)) 1152921504606846977 := ⟨_, rfl⟩
                have hn3 : n2 ≤ 1152921504606846977 := by omega
                rw [← hn2] at HZ4 ⊢
                clear hn2 r1 r2 r3 r4
                go_wp2
                go_roundw
                case rel => exact ⟨k + 1, n2, by omega, hn3, rfl, rfl, by go_num, HO6.out.drewN _, HZ4.out⟩
                case measure => simp only [uOf]; omega
              · have hqb : ((F c : Int) == (F c0 : Int)) = false := by simp; omega
                have HZ4 : Hid (Z = (0, true, false)) := by
                  show Z = _
                  rw [HZ3.out, if_pos hqs]
                clear HZ3 hst hqs
                go_wp2_with fail
                go_quiet (first | (go_at_call 42; refine Calls.quiet_of_same (HSc.out _ _)))
                go_wp2
                go_ret3
                exact ⟨by rw [show Z = _ from HZ4.out]; rfl, HO.out.drewN _⟩
            · have HZ4 : Hid (Z = (n, true, true)) := by
                show Z = _
                rw [HI.out.2, List.drop_eq_nil_of_le (by have : m = L.length := HMm.out; omega)]
                rfl
              have k1 : ¬ (k : Int) < (m : Int) := by omega
              go_wp2
              go_ret3
              exact ⟨by rw [show Z = _ from HZ4.out]; rfl, HI.out.1⟩
  · have HZ : Hid (Z = rnumM false (l.map (·.r))) := by
      show Z = _
      rw [hZ]
      unfold rnumL rrest
      rw [if_neg hmin, Bool.eq_false_iff.2 hmin]
    have HM : Hid (∀ t, l[0]? = some t → ¬ t.r = 45 ∧ ¬ t.r = 8722) := fun t ht => by
      cases l with
      | nil => simp at ht
      | cons x l =>
        simp only [List.getElem?_cons_zero, Option.some.injEq] at ht
        subst ht
        simp only [rminus, List.map_cons, List.head?_cons, decide_eq_true_eq, Option.some.injEq] at hmin
        omega
    clear hZ hmin
    obtain ⟨L, hLL⟩ : ∃ L, L = l := ⟨_, rfl⟩
    rw [← hLL] at HZ HM fL hcap hl ⊢
    clear hLL
    obtain hL | ⟨t0, L', hL⟩ : L = [] ∨ ∃ t0 L', L = t0 :: L' := by
      cases L with
      | nil => exact .inl rfl
      | cons x y => exact .inr ⟨x, y, rfl⟩
    · subst hL
      have HE : Hid (Z = (0, false, false)) := HZ.out
      go_enter Tryd.func27, Tryd.ntmps27
      go_wp2
      go_ret3
      exact ⟨by rw [show Z = _ from HE.out]; rfl, O0.out⟩
    · have h0 : L[0]? = some t0 := by rw [hL]; rfl
      have hlen : 0 < L.length := by rw [hL]; simp
      obtain ⟨i45, i8722⟩ : ((t0.r : Int) == 45) = false ∧ ((t0.r : Int) == 8722) = false := by have := HM.out t0 h0; simp; omega
      obtain ⟨g, o, rfl, hg, x0, x1, x2, x3⟩ := fL 0 t0 h0
      simp only [Nat.zero_mul, Nat.add_zero] at x0
      obtain ⟨F, hF⟩ : ∃ F : Nat → Nat, F = rs := ⟨_, rfl⟩
      have HSc : Hid (∀ (c : Nat) w1, Calls Tryd.prog 42 #[.int .i32 (c : Int)] w1 fun e w' => e = .returned (.int .i32 (F c : Int)) ∧ w' = w1) := fun c w1 => by rw [hF]; exact rscript_any c w1
      have HFd : Hid (∀ c, F c ≠ 0 → F c ≤ c ∧ c - F c ≤ 9) := fun c => by rw [hF]; exact rs_digit
      have HFr : Hid (F = rs) := hF
      obtain ⟨m, hm⟩ : ∃ m, m = L.length := ⟨_, rfl⟩
      obtain ⟨c0, hc0⟩ : ∃ c0, c0 = t0.r := ⟨_, rfl⟩
      obtain ⟨s0, hs0⟩ : ∃ s0, s0 = F c0 := ⟨_, rfl⟩
      have HZ2 : Hid (Z = if rs c0 = 0 then (0, false, false) else ((rnum (rs c0) (L.map (·.r)) 0).1, false, (rnum (rs c0) (L.map (·.r)) 0).2)) := by
        show Z = _
        rw [HZ.out, hL, hc0]
        rfl
      rw [← hc0] at x0 i45 i8722
      rw [← hF, ← hs0] at HZ2
      have HS00 : Hid (s0 = F c0) := hs0
      have hm0 : (0 : Int) < (m : Int) := by omega
      have hm1 : ((m : Int) == 0) = false := by simp; omega
      have hmm : m ≤ 4000000 := by omega
      have HMm : Hid (m = L.length) := hm
      have HF : Hid (∀ i t, L[i]? = some t → ∃ g' o', some (⟨g, o, none⟩ : Addr) = some ⟨g', o', none⟩ ∧ g' < w.heap.size ∧ w.cell? ⟨g', o' + i * 4, none⟩ = some (.int .i32 (t.r : Int)) ∧ w.cell? ⟨g', o' + i * 4 + 1, none⟩ = some (.int .i64 (t.a : Int)) ∧ w.cell? ⟨g', o' + i * 4 + 2, none⟩ = some (.int .i64 (t.z : Int)) ∧ w.cell? ⟨g', o' + i * 4 + 3, none⟩ = some (.bool t.b)) := fL
      rw [← hm]
      clear fL h0 x1 x2 x3 hg hL hm hlen hc0 HZ hF
      subst hs0
      clear HS00
      go_enter Tryd.func27, Tryd.ntmps27
      by_cases hz0 : F c0 = 0
      · have HE : Hid (Z = (0, false, false)) := by
          show Z = _
          rw [HZ2.out, if_pos hz0]
        have hb0 : ((F c0 : Int) == 0) = true := by rw [hz0]; rfl
        clear HZ2 hz0
        go_wp2_with fail
        refine (show Calls Tryd.prog 42 _ _ _ from HSc.out c0 _).mono ?_
        rintro e1 w1 ⟨rfl, hw1⟩
        subst w1
        go_wp2
        go_ret3
        exact ⟨by rw [show Z = _ from HE.out]; rfl, O0.out⟩
      · have hb0 : ((F c0 : Int) == 0) = false := by simp; omega
        have HE : Hid (Z = ((rnum (F c0) (L.map (·.r)) 0).1, false, (rnum (F c0) (L.map (·.r)) 0).2)) := by
          show Z = _
          rw [HZ2.out, if_neg hz0]
        clear HZ2
        go_wp2_with fail
        refine (show Calls Tryd.prog 42 _ _ _ from HSc.out c0 _).mono ?_
        rintro e1 w1 ⟨rfl, hw1⟩
        subst w1
        go_wp2
        go_loopw [2, 3, 5] (fun r2 r3 r5 wr => ∃ (k n : Nat), k ≤ m ∧ n ≤ 1152921504606846977 ∧ r2 = .int .u64 (n : Int) ∧ r3 = .bool false ∧ r5 = .int .i64 (k : Int) ∧ Hid (Only (fun _ => False) w wr ∧ Z = ((rnum (F c0) ((L.drop k).map (·.r)) n).1, false, (rnum (F c0) ((L.drop k).map (·.r)) n).2))) (fun _ _ r5 _ => m - uOf r5)
        case atStart => exact ⟨0, 0, Nat.zero_le _, by omega, rfl, rfl, rfl, Only.refl _ _, HE.out⟩
        case round =>
          obtain ⟨k, n, hk, hn, rfl, rfl, rfl, HI⟩ := hrel
          obtain ⟨w5, rfl⟩ : ∃ w5, w5 = wr := ⟨_, rfl⟩
          clear HE
          by_cases hlt : k < m
          · have hlt2 : k < L.length := by have : m = L.length := HMm.out; omega
            obtain ⟨t, ht⟩ : ∃ t, t = L[k]'hlt2 := ⟨_, rfl⟩
            have ht2 : L[k]? = some t := by rw [ht]; exact List.getElem?_eq_getElem _
            obtain ⟨g', o', eg, hg', y0, _, _, _⟩ := HF.out k t ht2
            injection eg with eg
            injection eg with eg1 eg2
            subst eg1
            subst eg2
            have X0 := HI.out.1.cell x0 (fun x => x)
            have Y0 := HI.out.1.cell y0 (fun x => x)
            have hd : L.drop k = t :: L.drop (k + 1) := by
              rw [ht]
              exact List.drop_eq_getElem_cons hlt2
            have hst := HFd.out t.r
            obtain ⟨c, hc⟩ : ∃ c, c = t.r := ⟨_, rfl⟩
            have HZ3 : Hid (Z = if F c ≠ F c0 then (0, false, false) else ((rnum (F c0) ((L.drop (k + 1)).map (·.r)) (min (10 * n + (c - F c)) 1152921504606846977)).1, false, (rnum (F c0) ((L.drop (k + 1)).map (·.r)) (min (10 * n + (c - F c)) 1152921504606846977)).2)) := by
              show Z = _
              rw [HI.out.2, hd, List.map_cons, rnum, ← hc, show rs = F from HFr.out.symm]
              split <;> rfl
            rw [← hc] at Y0 hst
            have HO : Hid (Only (fun _ => False) w w5) := HI.out.1
            clear HI hd ht ht2 y0 hc hlt2
            have k0 : (0 : Int) ≤ (k : Int) := Int.natCast_nonneg _
            have k1 : (k : Int) < (m : Int) := by omega
            by_cases hqs : F c = F c0
            · have hst2 := hst (by rw [hqs]; exact hz0)
              have HZ4 : Hid (Z = ((rnum (F c0) ((L.drop (k + 1)).map (·.r)) (min (10 * n + (c - F c)) 1152921504606846977)).1, false, (rnum (F c0) ((L.drop (k + 1)).map (·.r)) (min (10 * n + (c - F c)) 1152921504606846977)).2)) := by
                show Z = _
                rw [HZ3.out, if_neg (by simp [hqs])]
              have hqb : ((F c : Int) == (F c0 : Int)) = true := by rw [hqs]; simp
              clear HZ3 hst hqs
              go_wp2_with fail
              go_quiet (first | (go_at_call 42; refine Calls.quiet_of_same (HSc.out _ _)))
              go_wp2_with fail
              obtain ⟨W6, hW6⟩ : ∃ W6, W6 = w5.drewN nq := ⟨_, rfl⟩
              rw [← hW6]
              have Y6 : W6.cell? ⟨g, o + k * 4, none⟩ = some (.int .i32 (c : Int)) := by rw [hW6]; exact Y0
              have HO6 : Hid (Only (fun _ => False) w W6) := by rw [hW6]; exact HO.out.drewN _
              clear hW6 X0 Y0 HO hqb
              have r1 : IntKind.i32.wrap ((c : Int) - (F c : Int)) = ((c - F c : Nat) : Int) := by rw [IntKind.wrap_i32]; omega
              have r2 : IntKind.u64.wrap ((c - F c : Nat) : Int) = ((c - F c : Nat) : Int) := by rw [IntKind.wrap_u64]; omega
              have r3 : IntKind.u64.wrap (10 * (n : Int)) = 10 * (n : Int) := by rw [IntKind.wrap_u64]; omega
              have r4 : IntKind.u64.wrap (10 * (n : Int) + ((c - F c : Nat) : Int)) = 10 * (n : Int) + ((c - F c : Nat) : Int) := by rw [IntKind.wrap_u64]; omega
              go_quiet (first | (go_at_call 42; refine Calls.quiet_of_same (HSc.out _ _)))
              rw [show min (10 * (n : Int) + ((c - F c : Nat) : Int)) 1152921504606846977 = ((min (10 * n + (c - F c)) 1152921504606846977 : Nat) : Int) by omega]
              obtain ⟨n2, hn2⟩ : ∃ n2, n2 = min (10 * n + (c - F c)) 1152921504606846977 := ⟨_, rfl⟩
              have hn3 : n2 ≤ 1152921504606846977 := by omega
              rw [← hn2] at HZ4 ⊢
              clear hn2 r1 r2 r3 r4
              go_wp2
              go_roundw
              case rel => exact ⟨k + 1, n2, by omega, hn3, rfl, rfl, by go_num, HO6.out.drewN _, HZ4.out⟩
              case measure => simp only [uOf]; omega
            · have hqb : ((F c : Int) == (F c0 : Int)) = false := by simp; omega
              have HZ4 : Hid (Z = (0, false, false)) := by
                show Z = _
                rw [HZ3.out, if_pos hqs]
              clear HZ3 hst hqs
              go_wp2_with fail
              go_quiet (first | (go_at_call 42; refine Calls.quiet_of_same (HSc.out _ _)))
              go_wp2
              go_ret3
              exact ⟨by rw [show Z = _ from HZ4.out]; rfl, HO.out.drewN _⟩
          · have HZ4 : Hid (Z = (n, false, true)) := by
              show Z = _
              rw [HI.out.2, List.drop_eq_nil_of_le (by have : m = L.length := HMm.out; omega)]
              rfl
            have k1 : ¬ (k : Int) < (m : Int) := by omega
            go_wp2
            go_ret3
            exact ⟨by rw [show Z = _ from HZ4.out]; rfl, HI.out.1⟩
end Go.Proofs.YtbijiigobbjlcaaDoor
