/- The document's Name. -/
import Derived.Test.YtbijiigobbjlcaaDoorLx37
namespace Go.Proofs.YtbijiigobbjlcaaDoor
open Go.RowKit Go.Lib
set_option linter.unusedSimpArgs false
set_option linter.unusedVariables false
theorem all_drop {l : List Nat} {k : Nat} (h : k < l.length) (P : Nat → Bool) : (l.drop k).all P = (P (l[k]'h) && (l.drop (k + 1)).all P) := by
  rw [List.drop_eq_getElem_cons h, List.all_cons]
set_option maxRecDepth 100000 in
set_option maxHeartbeats 1000000 in
theorem rName_any (s : ByteArray) (hs : s.size ≤ 4000000) (w : World) :
    Calls Tryd.prog 18 #[.string s] w fun e w' => e = .returned (.bool (nameB s)) ∧ Only (fun _ => False) w w' := by
  have HC : Hid (Calls Tryd.prog 25 #[.string s] w fun e w' => ∃ v, e = .returned v ∧ Hid (ChrAt w' w.heap.size v (chrL s) ∧ Below w.heap.size w w')) := chars_any s hs w
  have HN : Hid (∀ v w1, RdC w1 v (chrL s) → Calls Tryd.prog 27 #[v] w1 fun e w' => e = .returned (rnV (rnumL (rns s))) ∧ Only (fun _ => False) w1 w') := fun v w1 h => by
    have := rnumber_any (chrL s) (by have := chrL_len s; omega) v w1 h
    rwa [chr_runes] at this
  have HB : Hid (∀ (c : Nat) w1, Calls Tryd.prog 20 #[.int .i32 (c : Int)] w1 fun e w' => e = .returned (.bool (blk c)) ∧ w' = w1) := fun c w1 => rblank_any c w1
  obtain ⟨Z, hZ⟩ : ∃ Z, Z = nameB s := ⟨_, rfl⟩
  have hZ2 := hZ
  rw [name_eq] at hZ2
  rw [← hZ]
  have hlen := chrL_len s
  have hrun := chr_runes s
  obtain ⟨x, hx⟩ : ∃ x, x = rnumL (rns s) := ⟨_, rfl⟩
  rw [← hx] at HN hZ2
  obtain ⟨l, hl⟩ : ∃ l, l = chrL s := ⟨_, rfl⟩
  rw [← hl] at HC HN hlen hrun
  rw [← hrun] at hZ2
  have HZ : Hid (Z = (!(s.toList == [33]) && !decide ((l.map (·.r)).head? = some 34) && decide (0 < (l.map (·.r)).length) && decide ((l.map (·.r)).length ≤ 32) && (l.map (·.r)).all ofN && !x.2.2)) := hZ2
  clear hZ hZ2 hx hl hrun
  obtain ⟨xn, xm, xo⟩ := x
  simp only [rnV] at HN
  dsimp only at HZ
  go_enter Tryd.func18, Tryd.ntmps18
  go_wp2_with fail
  refine (show Calls Tryd.prog 25 _ _ _ from HC.out).mono ?_
  rintro e w1 ⟨v, rfl, g⟩
  have O1 : Hid (Only (fun _ => False) w w1) := below_only g.out.2
  have T1 : Hid (RdC w1 v l) := rdc_chr g.out.1
  clear HC g
  obtain ⟨ao, cap, rfl, hcap, fL⟩ := T1.out
  obtain rfl | ⟨t0, l', hl'⟩ : l = [] ∨ ∃ t0 l', l = t0 :: l' := by
    cases l with
    | nil => exact .inl rfl
    | cons a b => exact .inr ⟨a, b, rfl⟩
  · have HE : Hid (Z = false) := by show Z = _; rw [HZ.out]; simp
    clear HZ fL
    go_wp2
    go_ret
    exact ⟨by rw [show Z = _ from HE.out]; rfl, O1.out⟩
  · obtain ⟨L, hL⟩ : ∃ L, L = l.length := ⟨_, rfl⟩
    have HL : Hid (L = l.length) := hL
    have hL1 : 1 ≤ L := by rw [hL, hl']; simp
    have hLm : L ≤ 4000000 := by omega
    have hml : (l.map (·.r)).length = L := by rw [List.length_map, hL]
    have hhd : (l.map (·.r)).head? = some t0.r := by rw [hl']; rfl
    rw [← hL]
    have b1 : decide ((L : Int) < 1) = false := decide_eq_false (by omega)
    by_cases h32 : L ≤ 32
    · have b2 : decide ((32 : Int) < (L : Int)) = false := decide_eq_false (by omega)
      obtain ⟨g0, o0, rfl, hg0, x0, _, _, _⟩ := fL 0 t0 (by rw [hl']; rfl)
      simp only [Nat.zero_mul, Nat.add_zero] at x0
      have j0 : (0 : Int) < (L : Int) := by omega
      obtain ⟨c0, hc0⟩ : ∃ c0, c0 = t0.r := ⟨_, rfl⟩
      rw [← hc0] at x0 hhd
      by_cases h34 : c0 = 34
      · have HE : Hid (Z = false) := by show Z = _; rw [HZ.out, hhd, h34]; simp
        have s34 : ((c0 : Int) == 34) = true := by rw [h34]; rfl
        clear HZ fL h34 hc0 hhd hml hL hl'
        go_wp2
        go_ret
        exact ⟨by rw [show Z = _ from HE.out]; rfl, O1.out⟩
      · have s34 : ((c0 : Int) == 34) = false := by simp; omega
        by_cases h33 : s.toList = [33]
        · have HE : Hid (Z = false) := by show Z = _; rw [HZ.out, h33]; simp
          have s33 : (s.toList == [33]) = true := by rw [h33]; rfl
          clear HZ fL h34 hc0 hhd hml hL hl' h33
          go_wp2
          go_ret
          exact ⟨by rw [show Z = _ from HE.out]; rfl, O1.out⟩
        · have s33 : (s.toList == [33]) = false := by simpa using h33
          have HE : Hid (Z = (((l.map (·.r)).drop 0).all ofN && !xo)) := by
            show Z = _
            rw [HZ.out, hhd, s33, hml, decide_eq_false (by simpa using h34 : ¬ some c0 = some 34), decide_eq_true (by omega : 0 < L), decide_eq_true h32, List.drop_zero]
            simp
          have HF : Hid (∀ i t, l[i]? = some t → ∃ g o, some (⟨g0, o0, none⟩ : Addr) = some ⟨g, o, none⟩ ∧ g < w1.heap.size ∧ w1.cell? ⟨g, o + i * 4, none⟩ = some (.int .i32 (t.r : Int)) ∧ w1.cell? ⟨g, o + i * 4 + 1, none⟩ = some (.int .i64 (t.a : Int)) ∧ w1.cell? ⟨g, o + i * 4 + 2, none⟩ = some (.int .i64 (t.z : Int)) ∧ w1.cell? ⟨g, o + i * 4 + 3, none⟩ = some (.bool t.b)) := fL
          clear HZ fL h34 hc0 hhd hml hL hl' h33
          go_wp2
          clear b1 b2 s33 s34 x0 j0
          go_loopw [4] (fun r4 wr => ∃ k : Nat, k ≤ L ∧ r4 = .int .i64 (k : Int) ∧ wr = w1 ∧ Hid (Z = (((l.map (·.r)).drop k).all ofN && !xo))) (fun r4 _ => L - uOf r4)
          case atStart => exact ⟨0, Nat.zero_le _, rfl, rfl, HE.out⟩
          case round =>
            obtain ⟨k, hk, rfl, hwr, HI⟩ := hrel
            subst wr
            clear HE
            by_cases hlt : k < L
            · have hlt2 : k < l.length := by have : L = l.length := HL.out; omega
              obtain ⟨t, ht⟩ : ∃ t, t = l[k]'hlt2 := ⟨_, rfl⟩
              have ht2 : l[k]? = some t := by rw [ht]; exact List.getElem?_eq_getElem _
              obtain ⟨g, o, eg, hg, y0, _, _, _⟩ := HF.out k t ht2
              injection eg with eg
              injection eg with eg1 eg2
              subst eg1
              subst eg2
              have hd : ((l.map (·.r)).drop k).all ofN = (ofN t.r && ((l.map (·.r)).drop (k + 1)).all ofN) := by
                rw [all_drop (by rw [List.length_map]; exact hlt2), List.getElem_map, ← ht]
              obtain ⟨c, hc⟩ : ∃ c, c = t.r := ⟨_, rfl⟩
              rw [← hc] at y0 hd
              have HI2 : Hid (Z = (ofN c && ((l.map (·.r)).drop (k + 1)).all ofN && !xo)) := by show Z = _; rw [HI.out, hd]
              clear HI hd ht ht2 hc hlt2
              have k0 : (0 : Int) ≤ (k : Int) := Int.natCast_nonneg _
              have k1 : (k : Int) < (L : Int) := by omega
              have HBc := HB.out c w1
              have ho : ofN c = (!blk c && decide (31 < c) && !(c == 127) && !(c == 65533)) := rfl
              cases hb : blk c with
              | true =>
                rw [hb] at HBc ho
                have HE : Hid (Z = false) := by show Z = _; rw [HI2.out, ho]; simp
                have HB1 : Hid (Calls Tryd.prog 20 _ _ _) := HBc
                clear HI2 ho hb HBc
                go_wp2_with fail
                refine (show Calls Tryd.prog 20 _ _ _ from HB1.out).mono ?_
                rintro e3 wz ⟨rfl, hwz⟩
                subst wz
                go_wp2
                go_ret
                exact ⟨by rw [show Z = _ from HE.out]; rfl, O1.out⟩
              | false =>
                rw [hb] at HBc ho
                have HB1 : Hid (Calls Tryd.prog 20 _ _ _) := HBc
                clear hb HBc
                by_cases h31 : 31 < c
                · have i1 : decide ((c : Int) < 32) = false := decide_eq_false (by omega)
                  by_cases h127 : c = 127
                  · have HE : Hid (Z = false) := by show Z = _; rw [HI2.out, ho, h127]; simp
                    have i2 : ((c : Int) == 127) = true := by rw [h127]; rfl
                    clear HI2 ho h127 h31
                    go_wp2_with fail
                    refine (show Calls Tryd.prog 20 _ _ _ from HB1.out).mono ?_
                    rintro e3 wz ⟨rfl, hwz⟩
                    subst wz
                    go_wp2
                    go_ret
                    exact ⟨by rw [show Z = _ from HE.out]; rfl, O1.out⟩
                  · have i2 : ((c : Int) == 127) = false := by simp; omega
                    by_cases hfd : c = 65533
                    · have HE : Hid (Z = false) := by show Z = _; rw [HI2.out, ho, hfd]; simp
                      have i3 : ((c : Int) == 65533) = true := by rw [hfd]; rfl
                      clear HI2 ho h127 h31 hfd
                      go_wp2_with fail
                      refine (show Calls Tryd.prog 20 _ _ _ from HB1.out).mono ?_
                      rintro e3 wz ⟨rfl, hwz⟩
                      subst wz
                      go_wp2
                      go_ret
                      exact ⟨by rw [show Z = _ from HE.out]; rfl, O1.out⟩
                    · have i3 : ((c : Int) == 65533) = false := by simp; omega
                      have HE : Hid (Z = (((l.map (·.r)).drop (k + 1)).all ofN && !xo)) := by
                        show Z = _
                        rw [HI2.out, ho, show (c == 127) = false by simpa using h127, show (c == 65533) = false by simpa using hfd, decide_eq_true h31]
                        simp
                      clear HI2 ho h127 h31 hfd
                      go_wp2_with fail
                      refine (show Calls Tryd.prog 20 _ _ _ from HB1.out).mono ?_
                      rintro e3 wz ⟨rfl, hwz⟩
                      subst wz
                      go_wp2
                      go_roundw
                      case rel => exact ⟨k + 1, by omega, by go_num, by simp, HE⟩
                      case measure => simp only [uOf]; omega
                · have i1 : (c : Int) < 32 := by omega
                  have HE : Hid (Z = false) := by show Z = _; rw [HI2.out, ho, decide_eq_false h31]; simp
                  clear HI2 ho h31
                  go_wp2_with fail
                  refine (show Calls Tryd.prog 20 _ _ _ from HB1.out).mono ?_
                  rintro e3 wz ⟨rfl, hwz⟩
                  subst wz
                  go_wp2
                  go_ret
                  exact ⟨by rw [show Z = _ from HE.out]; rfl, O1.out⟩
            · have k1 : ¬ (k : Int) < (L : Int) := by omega
              have HE : Hid (Z = !xo) := by
                show Z = _
                rw [HI.out, List.drop_eq_nil_of_le (by rw [List.length_map]; have : L = l.length := HL.out; omega)]
                simp
              have HR : Hid (RdC w1 (.slice (some ⟨g0, o0, none⟩) L cap) l) := ⟨_, _, by rw [show L = l.length from HL.out], hcap, HF.out⟩
              clear HI
              go_wp2_with fail
              refine (show Calls Tryd.prog 27 _ _ _ from HN.out _ _ HR.out).mono ?_
              rintro e2 w2 ⟨rfl, o2⟩
              have O2 : Hid (Only (fun _ => False) w w2) := O1.out.trans o2 (fun _ _ x => x)
              clear HN HR o2
              go_wp2
              go_ret
              exact ⟨by rw [show Z = _ from HE.out]; rfl, O2.out⟩
    · have b2 : decide ((32 : Int) < (L : Int)) = true := decide_eq_true (by omega)
      have HE : Hid (Z = false) := by show Z = _; rw [HZ.out, hml, decide_eq_false h32]; simp
      clear HZ fL hhd hml hL hl' h32
      go_wp2
      go_ret
      exact ⟨by rw [show Z = _ from HE.out]; rfl, O1.out⟩
end Go.Proofs.YtbijiigobbjlcaaDoor
