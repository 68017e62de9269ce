import Derived.Test.YtlcglapcmdpkfaaGreatD23
namespace Go.Proofs.YtlcglapcmdpkfaaGreat
open Go.RowKit
set_option linter.unusedSimpArgs false
set_option linter.unusedVariables false
theorem kept_set {w : World} {K n k i : Nat} {s : Nat → Nat → Int} {f : Nat → Int} (hk : k < n) (hi : i < 32) (hr : w.rangeAt K 0 (allL n (upd s k (mix i f (s k))))) (ht : w.there K 0 (n * 32)) :
  (w.setCell ⟨K, k * 32 + i, none⟩ (.int .u8 (f i))).rangeAt K 0 (allL n (upd s k (mix (i + 1) f (s k)))) ∧ (w.setCell ⟨K, k * 32 + i, none⟩ (.int .u8 (f i))).there K 0 (n * 32) := by
 have hs : w.setCell ⟨K, k * 32 + i, none⟩ (.int .u8 (f i)) = w.setCells K (k * 32 + i) [.int .u8 (f i)] := rfl
 refine ⟨fun q v hv => ?_, by rw [hs]; exact World.there_setCells ht _ _ _⟩
 obtain ⟨hq, hv⟩ := List.getElem?_eq_some_iff.1 hv
 simp only [allL, List.length_map, List.length_range] at hq
 simp only [allL, List.getElem_map, List.getElem_range] at hv
 subst hv
 rw [hs, Nat.zero_add]
 by_cases e : q = k * 32 + i
 ·subst e
  have e1 : (k * 32 + i) / 32 = k := by omega
  have e2 : (k * 32 + i) % 32 = i := by omega
  have := World.cell?_setCells_in K [.int .u8 (f i)] (k * 32 + i) w (fun j hj => by simp at hj; subst hj; have := (ht (k * 32 + i) (by omega)).1; simpa using this) 0 (by simp)
  rw [e1, e2]
  simpa [upd, mix] using this
 ·rw [World.cell?_setCells_out K _ _ _ _ (fun _ _ => by simp; omega)]
  have := hr q (.int .u8 (upd s k (mix i f (s k)) (q / 32) (q % 32))) (by simp [allL, hq])
  rw [Nat.zero_add] at this
  rw [this]
  congr 2
  simp only [upd]
  by_cases ek : q / 32 = k
  ·simp only [ek, if_true, mix]
   have : q % 32 ≠ i := fun e' => e (by omega)
   by_cases h1 : q % 32 < i
   ·rw [if_pos h1, if_pos (by omega)]
   ·rw [if_neg h1, if_neg (by omega)]
  ·simp only [ek, if_false]
theorem upd_self (s : Nat → Nat → Int) (k : Nat) (f : Nat → Int) : upd s k (mix 0 f (s k)) = s := by
 funext i
 by_cases e : i = k
 ·subst e; funext j; simp [upd, mix]
 ·simp [upd, e]
set_option maxRecDepth 100000 in
set_option maxHeartbeats 1000000 in
theorem done_any (r K n c g cg k m : Nat) (s : Nat → Nat → Int) (f : Nat → Int) (w : World) (h1 : w.cell? ⟨r, 1, none⟩ = some (.slice (some ⟨K, 0, none⟩) (n * 32) c)) (hk : k < n) (hn : n ≤ 8192) (hm : m ≤ 32)
  (hr : w.rangeAt K 0 (allL n s)) (ht : w.there K 0 (n * 32)) (hg : w.rangeAt g 0 (secL f)) (hrK : r ≠ K) (hgK : g ≠ K) :
  Calls Tryz.prog 69 #[.pointer (some ⟨r, 0, none⟩), .agg #[.int .i64 k, .slice (some ⟨g, 0, none⟩) 32 cg], .int .i64 m] w fun e w' => e = .returned (.tuple #[]) ∧ w'.rangeAt K 0 (allL n (upd s k (mix m f (s k)))) ∧ w'.there K 0 (n * 32) ∧ Only (fun b => b = K) w w' := by
 have hKl : K < w.heap.size := range_lt (by omega) hr
 obtain ⟨wB, hB⟩ : ∃ x, x = w.alloc (.cells #[.int .i64 k, .slice (some ⟨g, 0, none⟩) 32 cg] 69) := ⟨_, rfl⟩
 obtain ⟨b, hb⟩ : ∃ x, x = w.heap.size := ⟨_, rfl⟩
 have bB : wB.heap[b]? = some (.cells #[.int .i64 k, .slice (some ⟨g, 0, none⟩) 32 cg] 69 (0, 0)) := by rw [hB, hb]; exact heap_alloc_new w _
 have oB : Only (fun b => b = K) w wB := by rw [hB]; exact (Only.refl _ w).alloc _
 have oB' : Only (fun _ => False) w wB := by rw [hB]; exact (Only.refl _ w).alloc _
 have b0 : wB.cell? ⟨b, 0, none⟩ = some (.int .i64 k) := by rw [cell_of_row _ _ _ _ _ _ bB]; rfl
 have b1 : wB.cell? ⟨b, 1, none⟩ = some (.slice (some ⟨g, 0, none⟩) 32 cg) := by rw [cell_of_row _ _ _ _ _ _ bB]; rfl
 have hbK : b ≠ K := by omega
 have HB : Hid (wB = w.alloc (.cells #[.int .i64 k, .slice (some ⟨g, 0, none⟩) 32 cg] 69)) := hB
 have Hb : Hid (b = w.heap.size) := hb
 have OB : Hid (Only (fun b => b = K) w wB) := oB
 have HR : Hid (wB.rangeAt K 0 (allL n s)) := oB'.range hr (fun e => e)
 have HT : Hid (wB.there K 0 (n * 32)) := oB'.there ht (fun e => e)
 have HG : Hid (wB.rangeAt g 0 (secL f)) := oB'.range hg (fun e => e)
 have h1B := oB'.cell h1 (fun e => e)
 clear hB hb bB oB oB' hr ht hg
 go_enter Tryz.func69, Tryz.ntmps69
 go_wp2_with fail
 rw [← HB.out, ← Hb.out]
 go_loopw [6] (fun t wr => ∃ i : Nat, i ≤ m ∧ t = .int .i64 i ∧ wr.rangeAt K 0 (allL n (upd s k (mix i f (s k)))) ∧ wr.there K 0 (n * 32) ∧ Only (fun b => b = K) wB wr) (fun t _ => m - (intOf t).toNat)
 case atStart => exact ⟨0, Nat.zero_le _, rfl, by rw [upd_self]; exact HR.out, HT.out, Only.refl _ _⟩
 case round =>
  obtain ⟨i, hi, rfl, hri, hti, hoi⟩ := hrel
  by_cases hlt : i < m
  ·have i0 : (0 : Int) ≤ (i : Int) := Int.natCast_nonneg _
   have i1 : (i : Int) < (m : Int) := by omega
   have i2 : (i : Int) < 32 := by omega
   have k0 : (0 : Int) ≤ (k : Int) := Int.natCast_nonneg _
   have w1 : IntKind.i64.wrap ((k : Int) * 32) = (k : Int) * 32 := by rw [IntKind.wrap_i64]; omega
   have w2 : IntKind.i64.wrap ((k : Int) * 32 + (i : Int)) = (k : Int) * 32 + (i : Int) := by rw [IntKind.wrap_i64]; omega
   have j0 : (0 : Int) ≤ (k : Int) * 32 + (i : Int) := by omega
   have j1 : (k : Int) * 32 + (i : Int) < ((n * 32 : Nat) : Int) := by omega
   have y1 := hoi.cell h1B hrK
   have z0 := hoi.cell b0 hbK
   have z1 := hoi.cell b1 hbK
   have y2 := hoi.cell (HG.out i _ (secL_get f i (by omega))) hgK
   rw [Nat.zero_add] at y2
   have j2 : (k : Int) * 32 + (i : Int) < (n : Int) * 32 := by omega
   have j3 : k * 32 + i < n * 32 := by omega
   have tn : ((k : Int) * 32 + (i : Int)).toNat = k * 32 + i := by omega
   obtain ⟨ov, q0⟩ := Option.isSome_iff_exists.1 (hti (k * 32 + i) (by omega)).1
   have q1 := (hti (k * 32 + i) (by omega)).2
   rw [Nat.zero_add] at q0 q1
   have HN : Hid _ := kept_set hk (by omega) hri hti
   have HOI : Hid (Only (fun b => b = K) wB (wr.setCell ⟨K, k * 32 + i, none⟩ (.int .u8 (f i))).drew) := (hoi.setCell ⟨K, k * 32 + i, none⟩ (.int .u8 (f i)) (fun _ => rfl)).drew
   clear hri hti hoi
   go_wp2_with fail
   go_region_held3 (fun w' => w'.cell? ⟨r, 1, none⟩ = some (.slice (some ⟨K, 0, none⟩) (n * 32) c) ∧ w'.cell? ⟨b, 0, none⟩ = some (.int .i64 k) ∧ w'.cell? ⟨b, 1, none⟩ = some (.slice (some ⟨g, 0, none⟩) 32 cg) ∧ w'.cell? ⟨g, i, none⟩ = some (.int .u8 (f i))) (first | (refine ⟨(World.cell?_setCell_other _ _ _ _ (fun e => hrK (by injection e with e; exact e.symm))).trans y1, (World.cell?_setCell_other _ _ _ _ (fun e => hbK (by injection e with e; exact e.symm))).trans z0, (World.cell?_setCell_other _ _ _ _ (fun e => hbK (by injection e with e; exact e.symm))).trans z1, (World.cell?_setCell_other _ _ _ _ (fun e => hgK (by injection e with e; exact e.symm))).trans y2⟩) | go_keep) (fail)
   go_wp2
   go_roundw
   case rel => exact ⟨i + 1, by omega, by go_num, HN.out.1, HN.out.2, HOI.out⟩
   case measure => simp [intOf]; omega
  ·obtain rfl : i = m := by omega
   go_wp2
   go_end0
   exact ⟨rfl, hri, hti, OB.out.trans hoi (fun _ _ e => e)⟩
end Go.Proofs.YtlcglapcmdpkfaaGreat
