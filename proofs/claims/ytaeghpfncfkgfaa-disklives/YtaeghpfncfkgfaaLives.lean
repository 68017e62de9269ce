/- The walk of the law DiskLives. -/
import Derived.Test.YtaeghpfncfkgfaaT14
namespace Go.Proofs.Ytaeghpfncfkgfaa
open Go.RowKit
set_option linter.unusedSimpArgs false
set_option linter.unusedVariables false

theorem sliceOne (z : Int) (w : World) : (Instr.buildSlice 31 1 #[(0, .int .u8 z)]).run Try.prog w = .ok (.slice (some ⟨w.heap.size, 0, none⟩) 1 1) (w.alloc (.cells #[.int .u8 z] 5)) := by kernel_rfl

/-- How many sectors the disk at p has. -/
def HasLen (w : World) (p S n : Nat) : Prop := ∃ c, w.cell? ⟨p, 0, none⟩ = some (.slice (some ⟨S, 0, none⟩) n c)
theorem len_has (p S n : Nat) (w : World) (h : HasLen w p S n) : Calls Try.prog 15 #[.pointer (some ⟨p, 0, none⟩)] w fun e w' => e = .returned (.int .i64 n) ∧ w' = w := by
  obtain ⟨c, h⟩ := h
  exact len_any p S n c w h
theorem rem_run (a b : Int) (w : World) (hb : ¬ b = 0) (ha : 0 ≤ a) : (Op.intDiv .rem .i64 a b).run Try.prog w = .ok (.int .i64 (a % b)) w := by
  simp [Op.intDiv, hb, Int.tmod_eq_emod_of_nonneg ha]
set_option maxRecDepth 100000 in
set_option maxHeartbeats 2000000 in
theorem lives_walk (s : Int) (v vb : Value) (n : Int) (os : List OpD) (ks : List Bool) (w : World) (hs : ScriptAt w v os) (hb : FlagsIn w vb ks) (hn0 : 0 ≤ n) (hn1 : n ≤ 255) :
    Calls Try.prog 6 #[.int .i64 s, v, .int .u8 n, vb] w fun e w' => e = .returned (.bool true) ∧ Below w.heap.size w w' := by
  have hlen : os.length * 88 ≤ 140737488351232 := hs.2.1
  have hkl : ks.length ≤ 140737488351232 := hb.2
  obtain ⟨ak, ck, hvb⟩ : ∃ a c, vb = .slice a ks.length c := by
    rcases hb.1 with ⟨h, h0⟩ | ⟨ad, c, h, _⟩
    · exact ⟨none, 0, by rw [h, h0]⟩
    · exact ⟨_, _, h⟩
  go_enter Try.func6, Try.ntmps6
  go_wp2_with fail
  refine (grown_any s v os w hs).mono ?_
  rintro e w1 ⟨p, S, pv, d, rfl, d1, hdn, hdl, hdp, o1⟩
  go_wp2_with fail
  refine (awake_any w1).mono ?_
  rintro e w2 ⟨rfl, o2⟩
  have d2 := d1.frame o2 (fun _ _ e => e)
  have O2 : Hid (Only (fun _ => False) w w2) := o1.trans o2 (fun _ _ e => e)
  clear o1 o2 d1
  go_wp2_with fail
  refine (live_any p S _ pv d n w2 d2 (by omega) (by omega)).mono ?_
  rintro e w3 ⟨rfl, d3, o3⟩
  have O3 : Hid (Only (fun _ => False) w w3) := O2.out.trans o3 (fun k hk e => by have := d2.pB; omega)
  have HD3 : Hid _ := d3
  clear d2 d3 o3 O2
  subst hvb
  go_wp2_with fail
  go_loopw [10] (fun t wr => ∃ i : Nat, i ≤ ks.length ∧ t = .int .i64 i ∧ (∃ pv d', DiskAt wr w.heap.size p S pv d' ∧ d'.n = d.n ∧ d'.life = (if (i : Int) < n then n - i else 0) ∧ d'.pend.length + d'.life.toNat ≤ os.length + n.toNat) ∧ Only (fun _ => False) w wr) (fun t _ => ks.length - (intOf t).toNat)
  case atStart => exact ⟨0, Nat.zero_le _, rfl, ⟨_, _, HD3.out, rfl, by simp; omega, by simp; omega⟩, O3.out⟩
  case round =>
    obtain ⟨i, hi, rfl, ⟨pv, d', hd, hn', hl', hp'⟩, ho⟩ := hrel
    by_cases hlt : i < ks.length
    · obtain ⟨g, o, c', hv, hcell, hg⟩ := hb.1.at (by omega)
      simp only [Value.slice.injEq] at hv
      obtain ⟨rfl, _, rfl⟩ := hv
      have hbi : wr.cell? ⟨g, o + i, none⟩ = some (.bool (ks.getD i false)) := ho.cell (hcell i (by omega)) (fun e => e)
      have i0 : (0 : Int) ≤ (i : Int) := Int.natCast_nonneg _
      have i1 : (i : Int) < (ks.length : Int) := by omega
      clear hcell hb
      have HD : Hid (DiskAt wr w.heap.size p S pv d') := hd
      have HO : Hid (Only (fun _ => False) w wr) := ho
      have HL : Hid (d'.life = (if (i : Int) < n then n - i else 0)) := hl'
      have HN : Hid (d'.n = d.n) := hn'
      clear hd ho hl' hn'
      cases hk : ks.getD i false with
      | true =>
        rw [hk] at hbi
        by_cases hin : (i : Int) < n
        · have hlife : d'.life = n - i := by rw [HL.out, if_pos hin]
          have hne : d'.life ≠ 0 := by omega
          have HC := barrier_any p S _ pv d' wr HD.out hne
          have HH : Hid (d'.life = n - i) := hlife
          clear hlife hne
          go_wp2_with (go_at_call 17; refine HC.mono ?_; rintro e w5 ⟨rfl, d5, o5⟩)
          go_roundw
          case rel => exact ⟨i + 1, by omega, by go_num, ⟨_, _, d5, HN.out, by have := HH.out; simp only [aged]; split <;> split <;> omega, by have := HH.out; simp only [aged, List.length_nil]; split <;> omega⟩, HO.out.trans o5 (fun k hk e => by have := HD.out.pB; omega)⟩
          case measure => simp [intOf]; omega
        · have hlife : d'.life = 0 := by rw [HL.out, if_neg hin]
          have HC := barrier_dead p wr (by rw [← hlife]; exact HD.out.c2)
          have HH : Hid (d'.life = 0) := hlife
          clear hlife
          go_wp2_with (go_at_call 17; refine HC.mono ?_; rintro e w5 ⟨rfl, hw5⟩)
          subst hw5
          go_roundw
          case rel => exact ⟨i + 1, by omega, by go_num, ⟨_, _, HD.out, HN.out, by rw [HH.out, if_neg (by omega)], hp'⟩, HO.out⟩
          case measure => simp [intOf]; omega
      | false =>
        rw [hk] at hbi
        by_cases hin : (i : Int) < n
        · have hlife : d'.life = n - i := by rw [HL.out, if_pos hin]
          have HH : Hid (d'.life = n - i) := hlife
          have hpl : d'.pend.length ≤ os.length + 255 := by omega
          clear hlife
          have hdn1 : (1 : Int) ≤ (d'.n : Int) := by have := HD.out.n1; omega
          obtain ⟨c0, y0⟩ := HD.out.c0
          have hdn0 : (0 : Int) < (d'.n : Int) := by omega
          have hso := sliceOne
          have hnz : ¬ (d'.n : Int) = 0 := by omega
          have hrem := fun w => rem_run (i : Int) (d'.n : Int) w hnz i0
          have hnzN : ¬ d'.n = 0 := by omega
          have KE : Hid (0 ≤ (i : Int) % (d'.n : Int) ∧ (i : Int) % (d'.n : Int) < (d'.n : Int)) := ⟨Int.emod_nonneg _ hnz, Int.emod_lt_of_pos _ hdn0⟩
          have KT : Hid (0 ≤ (i : Int).tmod (d'.n : Int) ∧ (i : Int).tmod (d'.n : Int) < (d'.n : Int)) := ⟨Int.tmod_nonneg _ i0, Int.tmod_lt_of_pos _ hdn0⟩
          have KN : Hid (0 ≤ ((i % d'.n : Nat) : Int) ∧ ((i % d'.n : Nat) : Int) < (d'.n : Int)) := ⟨Int.natCast_nonneg _, Int.ofNat_lt.2 (Nat.mod_lt _ (by omega))⟩
          have oA : ∀ z : Int, Only (fun _ => False) wr ((wr.alloc (.cells #[.int .u8 z] 5)).drew) := fun z => ((Only.refl _ wr).alloc _).drew
          have HF : Hid (∀ (z : Int), Calls Try.prog 24 #[.slice (some ⟨wr.heap.size, 0, none⟩) 1 1] ((wr.alloc (.cells #[.int .u8 z] 5)).drew) fun e w2 => ∃ g2, e = .returned (.slice (some ⟨g2, 0, none⟩) 32 32) ∧ HasLen w2 p S d'.n ∧
              Hid (∀ k : Int, (0 ≤ k ∧ k < d'.n) → Calls Try.prog 21 #[.pointer (some ⟨p, 0, none⟩), .int .i64 k, .slice (some ⟨g2, 0, none⟩) 32 32] w2 fun e w3 => e = .returned (.int .i64 0) ∧ HasLen w3 p S d'.n ∧ Hid ((∃ pv'' d'', DiskAt w3 w.heap.size p S pv'' d'' ∧ d''.n = d.n ∧ d''.life = (if ((i + 1 : Nat) : Int) < n then n - ((i + 1 : Nat) : Int) else 0) ∧ d''.pend.length + d''.life.toNat ≤ os.length + n.toNat) ∧ Only (fun _ => False) w w3))) := by
            intro z
            refine (full_any wr.heap.size 0 1 1 (fun _ => z) _ (by decide) (fun j hj => ?_) (by simp)).mono ?_
            · have : j = 0 := by omega
              subst this
              exact (cell_of_row _ wr.heap.size _ _ _ _ (show (wr.alloc (.cells #[.int .u8 z] 5)).drew.heap[wr.heap.size]? = _ from heap_alloc_new wr _)).trans rfl
            rintro e w2 ⟨rfl, hw2⟩
            have o2 : Only (fun _ => False) wr w2 := by rw [hw2]; exact (oA z).alloc _
            refine ⟨_, rfl, ⟨c0, o2.cell y0 (fun e => e)⟩, ?_⟩
            rintro k ⟨k0, k1⟩
            have hrow : RowAt w2 (.slice (some ⟨((wr.alloc (.cells #[.int .u8 z] 5)).drew).heap.size, 0, none⟩) 32 32) 32 1 (fun j => .int .u8 (fullF (fun _ => z) 1 j)) := by
              refine .inr ⟨_, 32, rfl, fun j hj => ?_⟩
              rw [Addr.add_mid, Nat.zero_add, hw2, cell_of_row _ _ _ _ _ _ (heap_alloc_new ((wr.alloc (.cells #[.int .u8 z] 5)).drew) _)]
              have hj' : j < 32 := by omega
              simp [secL, hj']
            refine (write_all p S 32 32 _ _ pv d' k _ w2 (HD.out.frame o2 (fun _ _ e => e)) hrow (by have := o2.size; have := HO.out.size; omega) (by omega) (by omega)).mono ?_
            rintro e w3 ⟨rfl, pv'', d3, o3, _⟩
            have hwr : d'.write k (fullF (fun _ => z) 1) 32 = (0, { d' with sec := upd d'.sec k.toNat (fullF (fun _ => z) 1), pend := d'.pend ++ [⟨k.toNat, d'.sec k.toNat, fullF (fun _ => z) 1⟩], life := aged d'.life }) := by
              have h1 : d'.life ≠ 0 := by have := HH.out; omega
              have h2 : ¬ (k < 0 ∨ (d'.n : Int) ≤ k) := by omega
              simp [DS.write, h1, h2]
            rw [hwr] at d3 ⊢
            refine ⟨rfl, d3.c0, ⟨pv'', _, d3, HN.out, ?_, ?_⟩, (HO.out.trans o2 (fun _ _ e => e)).trans o3 (fun q hq e => by have := (HD.out.lt q e).1; omega)⟩
            · have := HH.out; simp only [aged]; split <;> split <;> omega
            · have := HH.out; simp only [aged, List.length_append, List.length_cons, List.length_nil]; split <;> omega
          have E1 : HasLen wr.drew p S d'.n := ⟨c0, by simpa using y0⟩
          have EA : ∀ z : Int, HasLen ((wr.alloc (.cells #[.int .u8 z] 5)).drew) p S d'.n := fun z => ⟨c0, (oA z).cell y0 (fun e => e)⟩
          clear oA y0
          have HD0 := HD
          go_wp2_with fail
          go_region_held3 (fun w' => HasLen w' p S d'.n) (first | assumption | exact E1 | exact EA _)
            (first
              | (go_at_call 15; refine (len_has p S d'.n _ ‹_›).mono ?_; rintro e wl ⟨rfl, rfl⟩)
              | (go_at_call 24; refine (HF.out _).mono ?_; rintro e w2 ⟨g2, rfl, y2, HC⟩)
              | (go_at_call 21; refine (HC.out _ (by first | exact KE.out | exact KT.out | exact KN.out)).mono ?_; rintro e w3 ⟨rfl, y3, HP⟩))
          all_goals
            clear HC HF hrem hso E1 EA
            go_wp2
            go_roundw
            case rel => exact ⟨i + 1, by omega, by go_num, HP.out.1, HP.out.2⟩
            case measure => simp [intOf]; omega
        · have hlife : d'.life = 0 := by rw [HL.out, if_neg hin]
          have HH : Hid (d'.life = 0) := hlife
          have hpl : d'.pend.length ≤ os.length + 255 := by omega
          clear hlife
          have hdn1 : (1 : Int) ≤ (d'.n : Int) := by have := HD.out.n1; omega
          obtain ⟨c0, y0⟩ := HD.out.c0
          have hdn0 : (0 : Int) < (d'.n : Int) := by omega
          have hso := sliceOne
          have hnz : ¬ (d'.n : Int) = 0 := by omega
          have hrem := fun w => rem_run (i : Int) (d'.n : Int) w hnz i0
          have hnzN : ¬ d'.n = 0 := by omega
          have KE : Hid (0 ≤ (i : Int) % (d'.n : Int) ∧ (i : Int) % (d'.n : Int) < (d'.n : Int)) := ⟨Int.emod_nonneg _ hnz, Int.emod_lt_of_pos _ hdn0⟩
          have KT : Hid (0 ≤ (i : Int).tmod (d'.n : Int) ∧ (i : Int).tmod (d'.n : Int) < (d'.n : Int)) := ⟨Int.tmod_nonneg _ i0, Int.tmod_lt_of_pos _ hdn0⟩
          have KN : Hid (0 ≤ ((i % d'.n : Nat) : Int) ∧ ((i % d'.n : Nat) : Int) < (d'.n : Int)) := ⟨Int.natCast_nonneg _, Int.ofNat_lt.2 (Nat.mod_lt _ (by omega))⟩
          have oA : ∀ z : Int, Only (fun _ => False) wr ((wr.alloc (.cells #[.int .u8 z] 5)).drew) := fun z => ((Only.refl _ wr).alloc _).drew
          have HF : Hid (∀ (z : Int), Calls Try.prog 24 #[.slice (some ⟨wr.heap.size, 0, none⟩) 1 1] ((wr.alloc (.cells #[.int .u8 z] 5)).drew) fun e w2 => ∃ g2, e = .returned (.slice (some ⟨g2, 0, none⟩) 32 32) ∧ HasLen w2 p S d'.n ∧
              Hid (∀ k : Int, (0 ≤ k ∧ k < d'.n) → Calls Try.prog 21 #[.pointer (some ⟨p, 0, none⟩), .int .i64 k, .slice (some ⟨g2, 0, none⟩) 32 32] w2 fun e w3 => e = .returned (.int .i64 3) ∧ HasLen w3 p S d'.n ∧ Hid ((∃ pv'' d'', DiskAt w3 w.heap.size p S pv'' d'' ∧ d''.n = d.n ∧ d''.life = (if ((i + 1 : Nat) : Int) < n then n - ((i + 1 : Nat) : Int) else 0) ∧ d''.pend.length + d''.life.toNat ≤ os.length + n.toNat) ∧ Only (fun _ => False) w w3))) := by
            intro z
            refine (full_any wr.heap.size 0 1 1 (fun _ => z) _ (by decide) (fun j hj => ?_) (by simp)).mono ?_
            · have : j = 0 := by omega
              subst this
              exact (cell_of_row _ wr.heap.size _ _ _ _ (show (wr.alloc (.cells #[.int .u8 z] 5)).drew.heap[wr.heap.size]? = _ from heap_alloc_new wr _)).trans rfl
            rintro e w2 ⟨rfl, hw2⟩
            have o2 : Only (fun _ => False) wr w2 := by rw [hw2]; exact (oA z).alloc _
            refine ⟨_, rfl, ⟨c0, o2.cell y0 (fun e => e)⟩, ?_⟩
            rintro k ⟨k0, k1⟩
            have hrow : RowAt w2 (.slice (some ⟨((wr.alloc (.cells #[.int .u8 z] 5)).drew).heap.size, 0, none⟩) 32 32) 32 1 (fun j => .int .u8 (fullF (fun _ => z) 1 j)) := by
              refine .inr ⟨_, 32, rfl, fun j hj => ?_⟩
              rw [Addr.add_mid, Nat.zero_add, hw2, cell_of_row _ _ _ _ _ _ (heap_alloc_new ((wr.alloc (.cells #[.int .u8 z] 5)).drew) _)]
              have hj' : j < 32 := by omega
              simp [secL, hj']
            refine (write_all p S 32 32 _ _ pv d' k _ w2 (HD.out.frame o2 (fun _ _ e => e)) hrow (by have := o2.size; have := HO.out.size; omega) (by omega) (by omega)).mono ?_
            rintro e w3 ⟨rfl, pv'', d3, o3, _⟩
            have hwr : d'.write k (fullF (fun _ => z) 1) 32 = (3, d') := by simp [DS.write, HH.out]
            rw [hwr] at d3 ⊢
            exact ⟨rfl, d3.c0, ⟨pv'', _, d3, HN.out, by rw [HH.out, if_neg (by omega)], hp'⟩, (HO.out.trans o2 (fun _ _ e => e)).trans o3 (fun q hq e => by have := (HD.out.lt q e).1; omega)⟩
          have E1 : HasLen wr.drew p S d'.n := ⟨c0, by simpa using y0⟩
          have EA : ∀ z : Int, HasLen ((wr.alloc (.cells #[.int .u8 z] 5)).drew) p S d'.n := fun z => ⟨c0, (oA z).cell y0 (fun e => e)⟩
          clear oA y0
          have HD0 := HD
          go_wp2_with fail
          go_region_held3 (fun w' => HasLen w' p S d'.n) (first | assumption | exact E1 | exact EA _)
            (first
              | (go_at_call 15; refine (len_has p S d'.n _ ‹_›).mono ?_; rintro e wl ⟨rfl, rfl⟩)
              | (go_at_call 24; refine (HF.out _).mono ?_; rintro e w2 ⟨g2, rfl, y2, HC⟩)
              | (go_at_call 21; refine (HC.out _ (by first | exact KE.out | exact KT.out | exact KN.out)).mono ?_; rintro e w3 ⟨rfl, y3, HP⟩))
          all_goals
            clear HC HF hrem hso E1 EA
            go_wp2
            go_roundw
            case rel => exact ⟨i + 1, by omega, by go_num, HP.out.1, HP.out.2⟩
            case measure => simp [intOf]; omega
    · obtain rfl : i = ks.length := by omega
      have HO : Hid (Only (fun _ => False) w wr) := ho
      have HD : Hid (DiskAt wr w.heap.size p S pv d') := hd
      have hpl : d'.pend.length ≤ os.length + 255 := by omega
      have hn1' := hd.n1
      clear ho hd hb hn'
      by_cases hin : (ks.length : Int) < n
      · have hlife : d'.life = n - ks.length := by rw [hl', if_pos hin]
        have HH : Hid (d'.life = n - ks.length) := hlife
        have hne : d'.life ≠ 0 := by omega
        have HNE : Hid (d'.life ≠ 0) := hne
        clear hlife hne hl'
        go_wp2_with fail
        refine (read_any p S 0 _ pv d' wr HD.out HNE.out (by omega)).mono ?_
        rintro e w4 ⟨rfl, hw4⟩
        have o4 : Only (fun _ => False) wr w4 := by rw [hw4]; exact (Only.refl _ wr).alloc _
        have d4 := HD.out.frame o4 (fun _ _ e => e)
        clear hw4
        go_wp2_with fail
        refine (copy_any p S _ w.heap.size pv d' w4 d4 (by omega) (by have := o4.size; have := HO.out.size; omega)).mono ?_
        rintro e w5 ⟨p5, S5, pv5, rfl, d5, f5, o5⟩
        go_wp2_with fail
        refine (read_any p5 S5 0 _ pv5 d' w5 d5 HNE.out (by omega)).mono ?_
        rintro e w6 ⟨rfl, hw6⟩
        have o6 : Only (fun _ => False) w5 w6 := by rw [hw6]; exact (Only.refl _ w5).alloc _
        have o46 : Only (fun _ => False) w w6 := ((HO.out.trans o4 (fun _ _ e => e)).trans o5 (fun _ _ e => e)).trans o6 (fun _ _ e => e)
        have d6 := (d4.frame o5 (fun _ _ e => e)).frame o6 (fun _ _ e => e)
        have HO6 : Hid (Only (fun _ => False) w w6) := o46
        have HD6 : Hid (DiskAt w6 w.heap.size p S pv d') := d6
        clear hw6 o4 o5 o6 o46 d4 d5 d6
        go_wp2_with fail
        refine (crash_any p S _ 0 0 pv (.slice none 0 0) (fun _ => false) 0 d' w6 HD6.out (by omega) ⟨none, 0, rfl, Nat.zero_le _, fun i hi => by omega⟩).mono ?_
        rintro e w7 ⟨rfl, d7, o7⟩
        have HO7 : Hid (Only (fun _ => False) w w7) := HO6.out.trans o7 (fun q hq e => by have h1 := HD6.out.pB; have h2 := HD6.out.SB; omega)
        clear o7
        go_wp2_with fail
        refine (read_any p S 0 _ _ _ w7 d7 (by simp) (by simp only; omega)).mono ?_
        rintro e w8 ⟨rfl, hw8⟩
        have o8 : Only (fun _ => False) w7 w8 := by rw [hw8]; exact (Only.refl _ w7).alloc _
        have d8 := d7.frame o8 (fun _ _ e => e)
        have HO8 : Hid (Only (fun _ => False) w w8) := HO7.out.trans o8 (fun _ _ e => e)
        clear hw8 o8 d7
        have HD8 : Hid _ := d8
        clear d8
        go_wp2_with fail
        refine (barrier_any p S _ _ _ w8 HD8.out (by simp)).mono ?_
        rintro e w9 ⟨rfl, d9, o9⟩
        have HO9 : Hid (Only (fun _ => False) w w9) := HO8.out.trans o9 (fun q hq e => by have h1 := HD6.out.pB; omega)
        clear d9 o9
        go_wp2
        go_ret
        exact ⟨rfl, HO9.out.below (fun _ e => e.elim) (Nat.le_refl _)⟩
      · have hlife : d'.life = 0 := by rw [hl', if_neg hin]
        have HH : Hid (d'.life = 0) := hlife
        have c2 : wr.cell? ⟨p, 2, none⟩ = some (.int .i64 0) := by rw [← hlife]; exact HD.out.c2
        clear hlife hl'
        go_wp2_with fail
        refine (read_dead p 0 wr c2).mono ?_
        rintro e w4 ⟨rfl, hw4⟩
        subst hw4
        go_wp2_with fail
        refine (copy_any p S _ w.heap.size pv d' w4 HD.out (by omega) (by have := HO.out.size; omega)).mono ?_
        rintro e w5 ⟨p5, S5, pv5, rfl, d5, f5, o5⟩
        have c5 : w5.cell? ⟨p5, 2, none⟩ = some (.int .i64 0) := by rw [← HH.out]; exact d5.c2
        have HO6 : Hid (Only (fun _ => False) w w5) := HO.out.trans o5 (fun _ _ e => e)
        have d6 := HD.out.frame o5 (fun _ _ e => e)
        have HD6 : Hid (DiskAt w5 w.heap.size p S pv d') := d6
        clear o5 d6 d5 f5
        go_wp2_with fail
        refine (read_dead p5 0 w5 c5).mono ?_
        rintro e w6 ⟨rfl, hw6⟩
        subst hw6
        go_wp2_with fail
        refine (crash_any p S _ 0 0 pv (.slice none 0 0) (fun _ => false) 0 d' w6 HD6.out (by omega) ⟨none, 0, rfl, Nat.zero_le _, fun i hi => by omega⟩).mono ?_
        rintro e w7 ⟨rfl, d7, o7⟩
        have HO7 : Hid (Only (fun _ => False) w w7) := HO6.out.trans o7 (fun q hq e => by have h1 := HD6.out.pB; have h2 := HD6.out.SB; omega)
        clear o7
        go_wp2_with fail
        refine (read_any p S 0 _ _ _ w7 d7 (by simp) (by simp only; omega)).mono ?_
        rintro e w8 ⟨rfl, hw8⟩
        have o8 : Only (fun _ => False) w7 w8 := by rw [hw8]; exact (Only.refl _ w7).alloc _
        have d8 := d7.frame o8 (fun _ _ e => e)
        have HO8 : Hid (Only (fun _ => False) w w8) := HO7.out.trans o8 (fun _ _ e => e)
        clear hw8 o8 d7
        have HD8 : Hid _ := d8
        clear d8
        go_wp2_with fail
        refine (barrier_any p S _ _ _ w8 HD8.out (by simp)).mono ?_
        rintro e w9 ⟨rfl, d9, o9⟩
        have HO9 : Hid (Only (fun _ => False) w w9) := HO8.out.trans o9 (fun q hq e => by have h1 := HD6.out.pB; omega)
        clear d9 o9
        go_wp2
        go_ret
        exact ⟨rfl, HO9.out.below (fun _ e => e.elim) (Nat.le_refl _)⟩
end Go.Proofs.Ytaeghpfncfkgfaa
