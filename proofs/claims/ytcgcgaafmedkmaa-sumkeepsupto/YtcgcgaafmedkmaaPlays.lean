/- The walk of SumPlays. -/
import Derived.Test.YtcgcgaafmedkmaaS9
namespace Go.Proofs.Ytcgcgaafmedkmaa
open Go.RowKit
set_option linter.unusedSimpArgs false
set_option linter.unusedVariables false

/-- Both Reads answer the same. -/
theorem reads_alike (v u : Value) (p : Int) (zs : List Nat) (w : World) (hu : BytesAt w u zs) (hv : BytesAt w v zs) (hp : (Lit.int .i64 p).wf = true) :
    ∃ x y z : Int, (Calls Try.prog 16 #[u, .int .i64 p] w fun e w1 => e = .returned (.tuple #[.int .u64 x, .int .i64 y, .int .i64 z]) ∧ Hid (Only (fun _ => False) w w1)) ∧
      ∀ w1, Only (fun _ => False) w w1 → Calls Try.prog 17 #[v, .int .i64 p] w1 fun e w2 => e = .returned (.tuple #[.int .u64 x, .int .i64 y, .int .i64 z]) ∧ w2 = w1 := by
  by_cases h : p < 0 ∨ (zs.length : Int) < p
  · obtain ⟨a, c, rfl, _, _⟩ := hu.form
    obtain ⟨a', c', rfl, _, _⟩ := hv.form
    refine ⟨0, 0, 2, (read_bad a _ c p w h).mono ?_, fun w1 o => rread_bad a' _ c' p w1 h⟩
    rintro e w1 ⟨rfl, ho⟩
    exact ⟨rfl, ho⟩
  · obtain ⟨P, rfl⟩ : ∃ P : Nat, p = P := ⟨p.toNat, by omega⟩
    have hr : ∃ x y z : Int, rdV (rd zs P 0 0) = .tuple #[.int .u64 x, .int .i64 y, .int .i64 z] := by
      cases rd zs P 0 0 with
      | none => exact ⟨_, _, _, rfl⟩
      | some q => obtain ⟨m, q⟩ := q; exact ⟨_, _, _, rfl⟩
    obtain ⟨x, y, z, hr⟩ := hr
    refine ⟨x, y, z, (read_any u P zs w hu (by omega)).mono ?_, fun w1 o => (rread_any v P zs w1 (hv.frame o) (by omega)).mono ?_⟩
    · rintro e w1 ⟨rfl, ho⟩
      exact ⟨by rw [hr], ho⟩
    · rintro e w2 ⟨rfl, rfl⟩
      exact ⟨by rw [hr], rfl⟩

theorem u64_bounds {z : Int} (h : (Lit.int .u64 z).wf = true) : 0 ≤ z ∧ z ≤ 18446744073709551615 := by
  have h' : IntKind.u64.min ≤ z ∧ z ≤ IntKind.u64.max := by simpa [Lit.wf] using h
  exact h'

set_option maxRecDepth 100000 in
set_option maxHeartbeats 2000000 in
theorem plays_any (vb : Value) (n p : Int) (Z : List Nat) (w : World) (hb : BytesAt w vb Z) (hn : (Lit.int .u64 n).wf = true) (hp : (Lit.int .i64 p).wf = true) :
    Calls Try.prog 3 #[vb, .int .u64 n, .int .i64 p] w fun e w' => e = .returned (.bool true) ∧ Below w.heap.size w w' := by
  have hn2 := u64_bounds hn
  obtain ⟨X, rfl⟩ : ∃ X : Nat, n = X := ⟨n.toNat, by omega⟩
  have HB : Hid (BytesAt w vb Z) := hb
  have HP : Hid ((Lit.int .i64 p).wf = true) := hp
  have hX : X < 18446744073709551616 := by omega
  clear hn hp hb hn2
  go_enter Try.func3, Try.ntmps3
  go_wp2_with fail
  refine (awake_any w).mono ?_
  rintro e w1 ⟨rfl, ho⟩
  have O1 : Hid (Only (fun _ => False) w w1) := ho
  clear ho
  go_wp2_with fail
  refine (own_any vb Z w1 (HB.out.frame O1.out)).mono ?_
  rintro e w2 ⟨u, rfl, hf, ho⟩
  have O2 : Hid (Only (fun _ => False) w w2) := O1.out.trans ho (fun _ _ e => e)
  have HF : Hid _ := hf
  clear ho O1 hf
  go_wp2_with fail
  refine (sum_any u Z w2 (Fresh.bytes HF.out)).mono ?_
  rintro e w3 ⟨rfl, rfl⟩
  go_wp2_with fail
  refine (rsum_any vb Z _ (HB.out.frame O2.out)).mono ?_
  rintro e w4 ⟨rfl, rfl⟩
  go_wp2_with fail
  refine (number_any X _ hX).mono ?_
  rintro e w5 ⟨u5, rfl, hf, ho⟩
  have O5 : Hid (Only (fun _ => False) w w5) := O2.out.trans ho (fun _ _ e => e)
  have HF5 : Hid _ := hf
  clear ho O2 hf HF
  go_wp2_with fail
  refine (rnumber_any X _ hX).mono ?_
  rintro e w6 ⟨u6, rfl, hf, ho⟩
  have O6 : Hid (Only (fun _ => False) w w6) := O5.out.trans ho (fun _ _ e => e)
  have HF6 : Hid _ := hf
  have HF56 : Hid _ := Fresh.frame HF5.out ho
  clear ho O5 hf HF5
  go_wp2_with fail
  refine (same_any u5 u6 _ w6 (Fresh.bytes HF56.out) (Fresh.bytes HF6.out)).mono ?_
  rintro e w7 ⟨rfl, ho⟩
  have O7 : Hid (Only (fun _ => False) w w7) := O6.out.trans ho (fun _ _ e => e)
  clear ho O6 HF6 HF56
  go_wp2_with fail
  refine (own_any vb Z w7 (HB.out.frame O7.out)).mono ?_
  rintro e w8 ⟨u8, rfl, hf, ho⟩
  have O8 : Hid (Only (fun _ => False) w w8) := O7.out.trans ho (fun _ _ e => e)
  obtain ⟨x, y, z, hc1, hc2⟩ := reads_alike vb u8 p Z w8 hf.bytes (HB.out.frame O8.out) HP.out
  clear ho O7 hf
  go_wp2_with fail
  refine hc1.mono ?_
  rintro e w9 ⟨rfl, HO9⟩
  go_wp2_with fail
  refine (hc2 w9 HO9.out).mono ?_
  rintro e w10 ⟨rfl, rfl⟩
  have O9 : Hid (Only (fun _ => False) w w10) := O8.out.trans HO9.out (fun _ _ e => e)
  clear hc1 hc2 HO9 O8
  go_wp2
  go_ret
  exact ⟨rfl, O9.out.below (fun _ h => h.elim) (Nat.le_refl _)⟩
end Go.Proofs.Ytcgcgaafmedkmaa
