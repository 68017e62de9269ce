/- The walk of PagesFirst. -/
import Derived.Test.YtdcflnfdaijpdaaF1
import Derived.Test.YtdcflnfdaijpdaaNil
namespace Go.Proofs.Ytdcflnfdaijpdaa
open Go.RowKit
set_option linter.unusedSimpArgs false
set_option linter.unusedVariables false

theorem info4 : (Try.prog.info? 4).map (fun i => (i.zero, i.size, i.bytes)) = some (some (.bool false), 1, 1) := by kernel_rfl
theorem empty24 (w : World) : (Instr.buildSlice 24 0 #[]).run Try.prog w = .ok (.slice (some ⟨w.heap.size, 0, none⟩) 0 0) (w.alloc (.cells #[] 4)) := by kernel_rfl
/-- append([]bool{}, v...). -/
theorem flags_copy {w : World} {v : Value} {F : List Bool} (h : FlagsAt w v F) :
    ∃ a cap w', (∀ ty, (Builtin.append_ #[24, 24] ty #[.slice (some ⟨w.heap.size, 0, none⟩) 0 0, v]).run Try.prog (w.alloc (.cells #[] 4)) = .ok (.slice a F.length cap) w') ∧ FlagsAt w' (.slice a F.length cap) F ∧ Only (fun _ => False) w w' := by
  obtain ⟨i0, hi0, hz0, hz1, hz2⟩ := info_parts info4
  obtain ⟨a, cap, w', hr, own, ho⟩ := app_copy 24 4 i0 _ 1 Try.underlying24 hi0 hz0 hz1 hz2 rfl rfl w v F.length _ h.1 (fun j => rfl) (by have := h.2; omega)
  exact ⟨a, cap, w', hr, ⟨rowAt_own own, h.2⟩, ho⟩
theorem fr_prefix (F : List Bool) (n k : Nat) : ∀ j, ∃ t, fr F n (k + j) = fr F n k ++ t
  | 0 => ⟨[], by simp⟩
  | j + 1 => by
    obtain ⟨t, ht⟩ := fr_prefix F n k j
    show ∃ t, (if (fr F n (k + j)).length = n ∨ F.getD (k + j) false = true then fr F n (k + j) else fr F n (k + j) ++ [k + j]) = _ ++ t
    split
    · exact ⟨t, ht⟩
    · exact ⟨t ++ [k + j], by rw [ht, List.append_assoc]⟩
theorem fr_at (F : List Bool) (n i m : Nat) (hi : i < m) (hf : F.getD i false = false) (hn : (fr F n i).length ≠ n) : (fr F n m).getD (fr F n i).length 0 = i ∧ (fr F n i).length < (fr F n m).length := by
  obtain ⟨t, ht⟩ := fr_prefix F n (i + 1) (m - (i + 1))
  rw [show i + 1 + (m - (i + 1)) = m by omega, fr_free F n i hf hn, List.append_assoc] at ht
  rw [ht]
  constructor
  · simp [List.getD]
  · simp

theorem i64_bounds {z : Int} (h : (Lit.int .i64 z).wf = true) : -9223372036854775808 ≤ z ∧ z ≤ 9223372036854775807 := by
  have h' : IntKind.i64.min ≤ z ∧ z ≤ IntKind.i64.max := by simpa [Lit.wf] using h
  exact h'

set_option maxRecDepth 100000 in
set_option maxHeartbeats 2000000 in
theorem first_any (v : Value) (n : Int) (F : List Bool) (w : World) (h : FlagsAt w v F) (hF : F.length ≤ 1048576) (hn : (Lit.int .i64 n).wf = true) :
    Calls Try.prog 7 #[v, .int .i64 n] w fun e w' => e = .returned (.bool true) ∧ Below w.heap.size w w' := by
  have hnb := i64_bounds hn
  obtain ⟨a, c, rfl, hcap, hc⟩ := h.form
  have HC : Hid _ := hc
  have HFL : Hid (FlagsAt w (.slice a F.length c) F) := h
  obtain ⟨m, hm⟩ : ∃ m, m = F.length := ⟨_, rfl⟩
  have HM : Hid (m = F.length) := hm
  have hem := empty24
  rw [← hm] at hF HFL
  rw [← hm]
  clear h hc hcap hm hn
  go_enter Try.func7, Try.ntmps7
  go_wp2_with fail
  refine (awake_any w).mono ?_
  rintro e w1 ⟨rfl, ho⟩
  have HO1 : Hid (Only (fun _ => False) w w1) := ho
  obtain ⟨a2, c2, w2, hr2, hf2, ho2⟩ := flags_copy (HFL.out.frame ho)
  rw [← HM.out] at hr2 hf2
  have HR2 : Hid _ := hr2
  have HF2 : Hid (FlagsAt w2 (.slice a2 m c2) F) := hf2
  have HO2 : Hid (Only (fun _ => False) w w2) := ho.trans ho2 (fun _ _ e => e)
  clear ho hr2 hf2 ho2 HO1
  by_cases hneg : n < 0
  · go_wp2_with (first | (at_builtin; go_must (refine wpList_append_run rfl _ _ 24 rfl _ _ (.slice a2 m c2) rfl rfl HR2.out ?_)) | (go_at_call 15; refine (first_bad _ n w2 hneg).mono ?_; rintro e w3 ⟨rfl, rfl⟩))
    go_ret
    exact ⟨rfl, HO2.out.below (fun _ h => h.elim) (Nat.le_refl _)⟩
  · obtain ⟨N, rfl⟩ : ∃ N : Nat, n = N := ⟨n.toNat, by omega⟩
    have H1 : Hid (Calls Try.prog 15 #[.slice a2 m c2, .int .i64 N] w2 fun e w' => FirstIs (fr F N F.length) N w2 e w') := first_ok _ F N w2 HF2.out (by have := HM.out; omega)
    rw [← HM.out] at H1
    go_wp2_with (first | (at_builtin; go_must (refine wpList_append_run rfl _ _ 24 rfl _ _ (.slice a2 m c2) rfl rfl HR2.out ?_)) | fail)
    refine (show Calls Try.prog 15 _ _ _ from H1.out).mono ?_
    intro e w3 hU
    clear H1 HR2 HF2
    rcases hU with ⟨hl, rfl, ho3⟩ | ⟨hl, u, rfl, hf3, ho3⟩
    · have HE : Hid (Only (fun _ => False) w w3) := HO2.out.trans ho3 (fun _ _ e => e)
      have hN : (0 : Int) < (N : Int) := by omega
      clear ho3 hl
      go_wp2
      go_ret
      exact ⟨by simp [show 0 < N by omega], HE.out.below (fun _ h => h.elim) (Nat.le_refl _)⟩
    · obtain ⟨a3, c3, rfl, hcl⟩ := hf3.form
      have HL : Hid ((fr F N m).length = N) := hl
      rw [hl] at hcl
      rw [hl]
      have hN : N ≤ 1048576 := hl ▸ hf3.2
      have HCL : Hid _ := hcl
      have HO3 : Hid (Only (fun _ => False) w w3) := HO2.out.trans ho3 (fun _ _ e => e)
      clear hf3 ho3 hcl hl HO2
      go_wp2
      go_loopw [7, 8] (fun q t wr => ∃ i : Nat, i ≤ m ∧ t = .int .i64 i ∧ q = .int .i64 ((fr F N i).length : Nat) ∧ w3 = wr) (fun _ t _ => m - (intOf t).toNat)
      case atStart => exact ⟨0, by omega, rfl, rfl, rfl⟩
      case round =>
        obtain ⟨i, hi, rfl, rfl, rfl⟩ := hrel
        have hle := fr_le F N i
        have HFS : Hid _ := fr_free F N i
        have HFT : Hid _ := fr_taken F N i
        have HFA : Hid _ := fr_at F N i m
        obtain ⟨q, hq⟩ : ∃ q, q = (fr F N i).length := ⟨_, rfl⟩
        have HQ : Hid (q = (fr F N i).length) := hq
        rw [← hq] at hle HFA HFS
        rw [← hq]
        clear hq
        by_cases hlt : i < m
        · have k1 : (i : Int) < (m : Int) := by omega
          have k0 : (0 : Int) ≤ (i : Int) := by omega
          by_cases hqn : q = N
          · have hn2 : ¬ (q : Int) < (N : Int) := by omega
            have he : ((q : Int) == (N : Int)) = true := by simp [hqn]
            have HQN : Hid (q = N) := hqn
            clear hqn
            go_wp2
            go_ret
            exact ⟨rfl, HO3.out.below (fun _ h => h.elim) (Nat.le_refl _)⟩
          · have hn2 : (q : Int) < (N : Int) := by omega
            have q0 : (0 : Int) ≤ (q : Int) := by omega
            obtain ⟨g, o, rfl, hcell⟩ := HC.out i (by have := HM.out; omega)
            have y1 := HO3.out.cell hcell (fun e => e)
            cases hb : F.getD i false with
            | true =>
              rw [hb] at y1
              have HT : Hid (fr F N (i + 1) = fr F N i) := HFT.out hb
              clear hcell hb
              go_wp2
              go_roundw
              case rel => exact ⟨i + 1, by omega, by go_num, by rw [HT.out, ← HQ.out], trivial⟩
              case measure => simp [intOf]; omega
            | false =>
              rw [hb] at y1
              have HT : Hid (fr F N (i + 1) = fr F N i ++ [i]) := HFS.out hb hqn
              obtain ⟨hA, hB⟩ := HFA.out hlt hb hqn
              obtain ⟨g3, rfl, hx3⟩ := HCL.out q (by omega)
              rw [hA] at hx3
              have he : ((i : Int) != (i : Int)) = false := by simp
              clear hcell hb hA hB hqn
              go_wp2
              go_roundw
              case rel => exact ⟨i + 1, by omega, by go_num, by rw [HT.out, List.length_append, ← HQ.out]; go_num, trivial⟩
              case measure => simp [intOf]; omega
        · obtain rfl : i = m := by omega
          have k1 : ¬ (i : Int) < (i : Int) := by omega
          have he : ((q : Int) == (N : Int)) = true := by have h1 := HQ.out; have h2 := HL.out; simp; omega
          go_wp2
          go_ret
          exact ⟨rfl, HO3.out.below (fun _ h => h.elim) (Nat.le_refl _)⟩
end Go.Proofs.Ytdcflnfdaijpdaa
