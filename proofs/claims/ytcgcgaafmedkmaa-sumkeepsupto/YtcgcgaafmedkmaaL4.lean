/- What readPart answers. -/
import Derived.Test.YtcgcgaafmedkmaaL3
import Derived.Test.YtcgcgaafmedkmaaSp
import Derived.Laws.CopyOwn
namespace Go.Proofs.Ytcgcgaafmedkmaa
open Go.RowKit
set_option linter.unusedSimpArgs false
set_option linter.unusedVariables false

theorem read_none {v : Value} {p : Nat} {zs : List Nat} {w : World} (h : BytesAt w v zs) (hp : p ≤ zs.length) (hr : rd zs p 0 0 = none) :
    Calls Try.prog 16 #[v, .int .i64 p] w fun e w' => e = .returned (.tuple #[.int .u64 0, .int .i64 0, .int .i64 9]) ∧ Only (fun _ => False) w w' := by
  have := read_any v p zs w h hp
  rwa [hr] at this
theorem read_some {v : Value} {p m q : Nat} {zs : List Nat} {w : World} (h : BytesAt w v zs) (hp : p ≤ zs.length) (hr : rd zs p 0 0 = some (m, q)) :
    Calls Try.prog 16 #[v, .int .i64 p] w fun e w' => e = .returned (.tuple #[.int .u64 (m : Nat), .int .i64 (q : Nat), .int .i64 0]) ∧ Only (fun _ => False) w w' := by
  have := read_any v p zs w h hp
  rwa [hr] at this
theorem rread_none {v : Value} {p : Nat} {zs : List Nat} {w : World} (h : BytesAt w v zs) (hp : p ≤ zs.length) (hr : rd zs p 0 0 = none) :
    Calls Try.prog 17 #[v, .int .i64 p] w fun e w' => e = .returned (.tuple #[.int .u64 0, .int .i64 0, .int .i64 9]) ∧ w' = w := by
  have := rread_any v p zs w h hp
  rwa [hr] at this
theorem rread_some {v : Value} {p m q : Nat} {zs : List Nat} {w : World} (h : BytesAt w v zs) (hp : p ≤ zs.length) (hr : rd zs p 0 0 = some (m, q)) :
    Calls Try.prog 17 #[v, .int .i64 p] w fun e w' => e = .returned (.tuple #[.int .u64 (m : Nat), .int .i64 (q : Nat), .int .i64 0]) ∧ w' = w := by
  have := rread_any v p zs w h hp
  rwa [hr] at this

theorem makeU (s : Nat) (hn : s ≤ 140737488355328) : ∃ M : List Value, M.length = s ∧ ∀ w : World, (Instr.makeSlice 22 (.int .u64 s) (.int .u64 s)).run Try.prog w = .ok (.slice (some ⟨w.heap.size, 0, none⟩) s s) (w.alloc (.cells M.toArray 5)) := by
  obtain ⟨i0, hi0, hz0, hz1, hz2⟩ := info_parts info5
  refine ⟨(madeCells (Value.int .u8 0).cells s).toList, by simp [madeCells], fun w => ?_⟩
  have := run_make (P := Try.prog) w 22 5 i0 _ Try.underlying22 hi0 hz0 .u64 .u64 (s : Int) (s : Int) (by omega) (Int.le_refl _) (by rw [hz2]; omega) (by omega)
  rw [hz1, show ((s : Int)).toNat = s by omega, Nat.mul_one] at this
  simpa using this
theorem size5 : (Try.prog.info? 5).map (·.size) = some 1 := by kernel_rfl

set_option maxHeartbeats 1000000 in
theorem part_none {v : Value} {p : Nat} {zs : List Nat} {w : World} (h : BytesAt w v zs) (hp : p ≤ zs.length) (hr : rd zs p 0 0 = none) :
    Calls Try.prog 29 #[v, .int .i64 p] w fun e w' => e = .returned (.tuple #[.slice none 0 0, .int .i64 0, .int .i64 9]) ∧ Only (fun _ => False) w w' := by
  have HC := read_none h hp hr
  clear h hp hr
  go_enter Try.func29, Try.ntmps29
  go_wp2_with fail
  refine HC.mono ?_
  rintro e w1 ⟨rfl, ho⟩
  have HO : Hid (Only (fun _ => False) w w1) := ho
  clear HC ho
  go_wp2
  go_ret3
  exact ⟨rfl, HO.out⟩
set_option maxHeartbeats 1000000 in
theorem part_large {v : Value} {p s q : Nat} {zs : List Nat} {w : World} (h : BytesAt w v zs) (hp : p ≤ zs.length) (hr : rd zs p 0 0 = some (s, q)) (hs : zs.length - q < s) :
    Calls Try.prog 29 #[v, .int .i64 p] w fun e w' => e = .returned (.tuple #[.slice none 0 0, .int .i64 0, .int .i64 9]) ∧ Only (fun _ => False) w w' := by
  have HC := read_some h hp hr
  obtain ⟨h1, h2, h3⟩ := rd_ok hr
  obtain ⟨a, c, rfl, _, _⟩ := h.form
  have hn := h.2.1
  obtain ⟨n, hn'⟩ : ∃ n, n = zs.length := ⟨_, rfl⟩
  rw [← hn'] at hn h3 hs HC
  rw [← hn']
  have e1 : IntKind.i64.wrap ((n : Int) - (q : Int)) = (n : Int) - (q : Int) := by rw [IntKind.wrap_i64]; omega
  have e2 : IntKind.u64.wrap ((n : Int) - (q : Int)) = (n : Int) - (q : Int) := by simp [IntKind.wrap, IntKind.bits, IntKind.signed]; omega
  have e3 : (n : Int) - (q : Int) < (s : Int) := by omega
  clear h hp hr hn'
  go_enter Try.func29, Try.ntmps29
  go_wp2_with fail
  refine HC.mono ?_
  rintro e w1 ⟨rfl, ho⟩
  have HO : Hid (Only (fun _ => False) w w1) := ho
  clear HC ho
  go_wp2
  go_ret3
  exact ⟨rfl, HO.out⟩
set_option maxRecDepth 100000 in
set_option maxHeartbeats 2000000 in
theorem part_ok {v : Value} {p s q : Nat} {zs : List Nat} {w : World} (h : BytesAt w v zs) (hp : p ≤ zs.length) (hr : rd zs p 0 0 = some (s, q)) (hs : ¬ zs.length - q < s) :
    Calls Try.prog 29 #[v, .int .i64 p] w fun e w' => ∃ u, e = .returned (.tuple #[u, .int .i64 ((q + s : Nat) : Int), .int .i64 0]) ∧ Fresh w' w.heap.size u ((zs.drop q).take s) ∧ Only (fun _ => False) w w' := by
  have HC := read_some h hp hr
  obtain ⟨h1, h2, h3⟩ := rd_ok hr
  have HBY : Hid (BytesAt w v zs) := h
  obtain ⟨a, c, rfl, hcap, hcl⟩ := h.form
  have hn := h.2.1
  obtain ⟨g0, o0, rfl, _⟩ := hcl 0 (by omega)
  obtain ⟨n, hn'⟩ : ∃ n, n = zs.length := ⟨_, rfl⟩
  have HN : Hid (n = zs.length) := hn'
  rw [← hn'] at hn h3 hs HC hcap HBY
  rw [← hn']
  have e1 : IntKind.i64.wrap ((n : Int) - (q : Int)) = (n : Int) - (q : Int) := by rw [IntKind.wrap_i64]; omega
  have e2 : IntKind.u64.wrap ((n : Int) - (q : Int)) = (n : Int) - (q : Int) := by simp [IntKind.wrap, IntKind.bits, IntKind.signed]; omega
  have e3 : ¬ (n : Int) - (q : Int) < (s : Int) := by omega
  have e4 : (q : Int) ≤ (n : Int) := by omega
  have e5 : (0 : Int) ≤ (q : Int) := by omega
  have e6 : IntKind.i64.wrap ((q : Int) + (s : Int)) = (q : Int) + (s : Int) := by rw [IntKind.wrap_i64]; omega
  obtain ⟨M, hM, hmk⟩ := makeU s (by omega)
  have hcs : ((zs.drop q).take s).length = s := by rw [List.length_take, List.length_drop]; have := HN.out; omega
  obtain ⟨Z, hZ⟩ : ∃ Z, Z = BL ((zs.drop q).take s) := ⟨_, rfl⟩
  have hZl : Z.length = s := by rw [hZ, BL_length, hcs]
  have HZL : Hid (Z.length = s) := hZl
  have HZ1 : Hid (∀ u ∈ Z, u.oneCell' = true) := by rw [hZ]; exact BL_one _
  have HZ : Hid (Z = BL ((zs.drop q).take s)) := hZ
  have HCS : Hid (((zs.drop q).take s).length = s) := hcs
  have HM : Hid (M.length = s) := hM
  have HSRC : Hid (∀ w1, Only (fun _ => False) w w1 → ∀ j u, Z[j]? = some u → w1.cell? ⟨g0, o0 + q + j, none⟩ = some u) := fun w1 o1 j u hu => by
    rw [hZ] at hu
    have hj : j < s := by have := (List.getElem?_eq_some_iff.1 hu).1; rwa [BL_length, hcs] at this
    rw [BL_get _ _ (by omega)] at hu
    obtain ⟨g', o', ha, hcell⟩ := hcl (q + j) (by omega)
    simp only [Option.some.injEq, Addr.mk.injEq, and_true] at ha
    obtain ⟨rfl, rfl⟩ := ha
    have := o1.cell hcell (fun e => e)
    rw [Nat.add_assoc, this, ← hu]
    have hq : q + j < zs.length := by omega
    simp [List.getD, hq]
  clear h hp hr hn' hM hcs hZ hZl hcl
  go_enter Try.func29, Try.ntmps29
  go_wp2_with fail
  refine HC.mono ?_
  rintro e w1 ⟨rfl, ho⟩
  have HO : Hid (Only (fun _ => False) w w1) := ho
  have HS1 : Hid _ := HSRC.out _ (ho.alloc (.cells M.toArray 5))
  have HSZ : Hid (w.heap.size ≤ w1.heap.size) := ho.size
  clear HC ho HSRC
  have fin : ∀ w3 : World, Hid (w3.heap[w1.heap.size]? = some (.cells (splice M 0 Z).toArray 5 (0, 0))) → Below w1.heap.size (w1.alloc (.cells M.toArray 5)) w3 → Fresh w3 w.heap.size (.slice (some ⟨w1.heap.size, 0, none⟩) s s) ((zs.drop q).take s) ∧ Only (fun _ => False) w w3 := by
    intro w3 hG hB
    have hsp : splice M 0 Z = Z := by
      unfold splice
      have h1 := HZL.out
      have h2 := HM.out
      rw [List.take_zero, List.nil_append, List.drop_eq_nil_of_le (by omega), List.append_nil]
    have hg := hG.out
    rw [hsp] at hg
    refine ⟨⟨⟨?_, .inr ⟨w1.heap.size, s, Z.toArray, ?_, HSZ.out, hg, Nat.le_of_eq HCS.out, by unfold maxLen; omega, ?_, ?_⟩⟩, ?_, ?_⟩, ?_⟩
    · rw [BL_length, Nat.mul_one]
    · rw [HCS.out]
    · simp [HZL.out]
    · rw [HCS.out, Nat.mul_one, ← HZ.out]
      have := HZL.out
      simp [← this]
    · rw [HCS.out]; omega
    · intro z hz
      exact HBY.out.2.2 z (List.mem_of_mem_drop (List.mem_of_mem_take hz))
    · have o1 : Only (fun i => w1.heap.size ≤ i) (w1.alloc (.cells M.toArray 5)) w3 := ⟨hB.os, hB.tape, hB.output, hB.size, fun k hk hn => hB.block k (by omega)⟩
      exact (HO.out.alloc _).trans o1 (fun i hi e => by have := HSZ.out; omega)
  have FIN : Hid _ := fin
  clear fin
  by_cases hcq : c = q
  · have hs0 : s = 0 := by omega
    have HS0 : Hid (s = 0) := hs0
    clear hs0
    go_wp2_with (refine wpList_copy_splice rfl _ _ 22 22 rfl 5 Try.underlying22 size5 _ _ _ _ _ _ rfl rfl w1.heap.size 0 M 5 (heap_alloc_new w1 _) Z (by have h1 := HZL.out; have h2 := HS0.out; show Z.length = min _ s; omega) (fun h0 => by have h1 := HZL.out; have h2 := HS0.out; omega) (by have h1 := HZL.out; have h2 := HM.out; omega) HZ1.out w1.heap.size (w1.alloc (.cells M.toArray 5)) (Below.refl _ _) (Nat.le_refl _) ?_; intro w3 HG3 hB3)
    have HE : Hid _ := FIN.out w3 HG3 hB3
    clear HG3 hB3
    go_ret3
    exact ⟨_, rfl, HE.out⟩
  · go_wp2_with (refine wpList_copy_splice rfl _ _ 22 22 rfl 5 Try.underlying22 size5 _ _ _ _ _ _ rfl rfl w1.heap.size 0 M 5 (heap_alloc_new w1 _) Z (by have h1 := HZL.out; show Z.length = min (n - q) s; omega) (fun _ => ⟨rfl, _, rfl, fun j u hu => by rw [Addr.add_mid]; exact HS1.out j u hu⟩) (by have h1 := HZL.out; have h2 := HM.out; omega) HZ1.out w1.heap.size (w1.alloc (.cells M.toArray 5)) (Below.refl _ _) (Nat.le_refl _) ?_; intro w3 HG3 hB3)
    have HE : Hid _ := FIN.out w3 HG3 hB3
    clear HG3 hB3
    go_ret3
    exact ⟨_, rfl, HE.out⟩
end Go.Proofs.Ytcgcgaafmedkmaa
