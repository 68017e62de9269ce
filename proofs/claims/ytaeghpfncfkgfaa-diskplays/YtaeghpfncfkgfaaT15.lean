/- What the law's helper 'all' answers of a disk that lives; that SameBytes of the same bytes is true. -/
import Derived.Test.YtaeghpfncfkgfaaT14
namespace Go.Proofs.Ytaeghpfncfkgfaa
open Go.RowKit
set_option linter.unusedSimpArgs false
set_option linter.unusedVariables false

def HasN (w : World) (p S n : Nat) : Prop := ∃ c, w.cell? ⟨p, 0, none⟩ = some (.slice (some ⟨S, 0, none⟩) n c)
theorem lenN (p S n : Nat) (w : World) (h : HasN w p S n) : Calls Try.prog 15 #[.pointer (some ⟨p, 0, none⟩)] w fun e w' => e = .returned (.int .i64 n) ∧ w' = w := by
  obtain ⟨c, h⟩ := h
  exact len_any p S n c w h
theorem allL_succ (k : Nat) (sec : Nat → Nat → Int) : allL (k + 1) sec = allL k sec ++ secL (sec k) := by
  simp only [allL, secL]
  rw [show (k + 1) * 32 = k * 32 + 32 by omega, List.range_add, List.map_append, List.map_map]
  congr 1
  apply List.map_congr_left
  intro j hj
  have hj' : j < 32 := by simpa using hj
  simp only [Function.comp]
  rw [show (k * 32 + j) / 32 = k by omega, show (k * 32 + j) % 32 = j by omega]
theorem allL_congr (n : Nat) (f g : Nat → Nat → Int) (h : ∀ i, i < n → ∀ j, j < 32 → f i j = g i j) : allL n f = allL n g := by
  simp only [allL]
  apply List.map_congr_left
  intro k hk
  have hk' : k < n * 32 := by simpa using hk
  rw [h (k / 32) (by omega) (k % 32) (by omega)]

set_option maxRecDepth 100000 in
set_option maxHeartbeats 2000000 in
theorem all_any (p S B : Nat) (pv : Value) (d : DS) (w : World) (h : DiskAt w B p S pv d) (hl : d.life ≠ 0) :
    Calls Try.prog 18 #[.pointer (some ⟨p, 0, none⟩)] w fun e w' => ∃ a cap, e = .returned (.slice a (d.n * 32) cap) ∧ w'.ownsRow w.heap.size 5 1 (.slice a (d.n * 32) cap) (d.n * 32) (allL d.n d.sec) ∧ Only (fun _ => False) w w' := by
  obtain ⟨i0, hi0, hz0, hz1, hz2⟩ := info_parts info5
  have hn2 := h.n2
  have HH : Hid (DiskAt w B p S pv d) := h
  have HL : Hid (d.life ≠ 0) := hl
  clear h hl
  go_enter Try.func18, Try.ntmps18
  go_wp2_with fail
  go_loopw [3, 4] (fun b t wr => ∃ k : Nat, k ≤ d.n ∧ t = .int .i64 k ∧ wr.ownsRow w.heap.size 5 1 b (k * 32) (allL k d.sec) ∧ Only (fun _ => False) w wr) (fun _ t _ => d.n - (intOf t).toNat)
  case atStart => exact ⟨0, Nat.zero_le _, rfl, World.ownsRow_nil _ _ _ _, Only.refl _ _⟩
  case round =>
    obtain ⟨k, hk, rfl, hown, ho⟩ := hrel
    have dr := HH.out.frame ho (fun _ _ e => e)
    have hlen : HasN wr p S d.n := dr.c0
    by_cases hlt : k < d.n
    · have k1 : (k : Int) < (d.n : Int) := by omega
      have HR := read_any p S k _ pv d wr dr HL.out hlt
      have hnews : ∀ j u, (secL (d.sec k))[j]? = some u → (wr.alloc (.cells (secL (d.sec k)).toArray 68)).cell? ((⟨wr.heap.size, 0, none⟩ : Addr).add j) = some u := World.news_of_block (heap_alloc_new wr _)
      have HN : Hid _ := hnews
      have HOW : Hid _ := hown
      have HO : Hid (Only (fun _ => False) w wr) := ho
      clear hnews dr ho
      have hown2 := hown.alloc (.cells (secL (d.sec k)).toArray 68)
      clear hown
      have hsb : w.heap.size ≤ wr.heap.size := HO.out.size
      go_wp2_with (first | (go_at_call 15; refine (lenN p S d.n _ hlen).mono ?_; rintro e wl ⟨rfl, hwl⟩; have hwl2 := hwl.symm; clear hwl; subst hwl2) | (go_at_call 25; refine HR.mono ?_; rintro e w2 ⟨rfl, rfl⟩) | (at_builtin; refine wpList_append_own_at _ rfl _ _ 31 rfl w.heap.size 5 i0 _ 1 1 Try.underlying31 hi0 hz0 hz1 hz2 rfl (by omega) _ (k * 32) _ rfl hown2 ⟨wr.heap.size, 0, none⟩ 32 32 (secL (d.sec k)) rfl (by rw [secL_length]) HN.out (secL_one _) (by unfold maxLen; omega) (by omega) (by simp; omega) ?_; intro v' w3 own3 hg3 _ hb3))
      have e1 : (k + 1) * 32 = k * 32 + 32 := by omega
      have HG : Hid _ := hg3
      have HO3 : Hid (w3.ownsRow w.heap.size 5 1 v' (k * 32 + 32) (allL k d.sec ++ secL (d.sec k))) := own3
      clear hg3 own3 hb3
      go_roundw
      case rel => exact ⟨k + 1, by omega, by go_num, by rw [allL_succ, e1]; exact HO3.out, (HO.out.alloc _).grown HG.out (fun q e hq => by have := (World.ownsRow.lt HOW.out q e).1; omega)⟩
      case measure => simp [intOf]; omega
    · obtain rfl : k = d.n := by omega
      obtain ⟨a, c, rfl⟩ := ownsRow_slice hown
      go_wp2_with (go_at_call 15; refine (lenN p S d.n _ hlen).mono ?_; rintro e wl ⟨rfl, hwl⟩; have hwl2 := hwl.symm; clear hwl; subst hwl2)
      go_ret
      exact ⟨a, c, rfl, hown, ho⟩
/-- all: the bytes of all sectors, in new memory. -/
theorem all_rng (p S B : Nat) (pv : Value) (d : DS) (w : World) (h : DiskAt w B p S pv d) (hl : d.life ≠ 0) :
    Calls Try.prog 18 #[.pointer (some ⟨p, 0, none⟩)] w fun e w' => ∃ g cap, e = .returned (.slice (some ⟨g, 0, none⟩) (d.n * 32) cap) ∧ w.heap.size ≤ g ∧ g < w'.heap.size ∧ w'.rangeAt g 0 (allL d.n d.sec) ∧ Only (fun _ => False) w w' := by
  have hn1 := h.n1
  refine (all_any p S B pv d w h hl).mono ?_
  rintro e w' ⟨a, cap, rfl, own, ho⟩
  obtain ⟨g, c, hv, h1, h2⟩ := own.form (by omega)
  simp only [Value.slice.injEq] at hv
  obtain ⟨rfl, _, rfl⟩ := hv
  refine ⟨g, cap, rfl, h1, h2, fun j v hv => ?_, ho⟩
  have hj : j < d.n * 32 := by have := (List.getElem?_eq_some_iff.1 hv).1; rwa [allL_length] at this
  rw [Nat.zero_add, own.cellAt j (by omega)]
  exact hv

set_option maxRecDepth 100000 in
set_option maxHeartbeats 1000000 in
theorem same_core (a1 a2 : Option Addr) (m c1 c2 : Nat) (f : Nat → Int) (w : World) (hm : m ≤ 140737488355328) (h1 : ∀ j, j < m → ∃ g o, a1 = some ⟨g, o, none⟩ ∧ w.cell? ⟨g, o + j, none⟩ = some (.int .u8 (f j))) (h2 : ∀ j, j < m → ∃ g o, a2 = some ⟨g, o, none⟩ ∧ w.cell? ⟨g, o + j, none⟩ = some (.int .u8 (f j))) :
    Calls Try.prog 20 #[.slice a1 m c1, .slice a2 m c2] w fun e w' => e = .returned (.bool true) ∧ Only (fun _ => False) w w' := by
  go_enter Try.func20, Try.ntmps20
  go_wp2
  go_loopw [5] (fun t wr => ∃ k : Nat, k ≤ m ∧ t = .int .i64 k ∧ Only (fun _ => False) w wr) (fun t _ => m - (intOf t).toNat)
  case atStart => exact ⟨0, Nat.zero_le _, rfl, Only.refl _ _⟩
  case round =>
    obtain ⟨k, hk, rfl, ho⟩ := hrel
    by_cases hlt : k < m
    · obtain ⟨g1, o1, rfl, x1⟩ := h1 k hlt
      obtain ⟨g2, o2, rfl, x2⟩ := h2 k hlt
      have y1 := ho.cell x1 (fun e => e)
      have y2 := ho.cell x2 (fun e => e)
      have k0 : (0 : Int) ≤ (k : Int) := Int.natCast_nonneg _
      have k1 : (k : Int) < (m : Int) := by omega
      have HO : Hid (Only (fun _ => False) w wr) := ho
      clear h1 h2 x1 x2 ho
      go_wp2_with fail
      go_region_held3 (fun w' => w'.cell? ⟨g1, o1 + k, none⟩ = some (.int .u8 (f k)) ∧ w'.cell? ⟨g2, o2 + k, none⟩ = some (.int .u8 (f k))) (go_keep) (fail)
      go_wp2
      go_roundw
      case rel => exact ⟨k + 1, by omega, by go_num, HO.out.drew⟩
      case measure => simp [intOf]; omega
    · obtain rfl : k = m := by omega
      clear h1 h2
      go_wp2
      go_ret
      exact ⟨rfl, ho⟩
/-- SameBytes of the same bytes. -/
theorem same_rng (g1 g2 c1 c2 n : Nat) (s1 s2 : Nat → Nat → Int) (w : World) (hn : n ≤ 8192) (h1 : w.rangeAt g1 0 (allL n s1)) (h2 : w.rangeAt g2 0 (allL n s2)) (hs : ∀ i, i < n → ∀ j, j < 32 → s1 i j = s2 i j) :
    Calls Try.prog 20 #[.slice (some ⟨g1, 0, none⟩) (n * 32) c1, .slice (some ⟨g2, 0, none⟩) (n * 32) c2] w fun e w' => e = .returned (.bool true) ∧ Only (fun _ => False) w w' := by
  rw [← allL_congr n s1 s2 hs] at h2
  refine same_core _ _ (n * 32) c1 c2 (fun k => s1 (k / 32) (k % 32)) w (by omega) (fun j hj => ⟨g1, 0, rfl, h1 j _ ?_⟩) (fun j hj => ⟨g2, 0, rfl, h2 j _ ?_⟩)
  · simp [allL, hj]
  · simp [allL, hj]
end Go.Proofs.Ytaeghpfncfkgfaa
