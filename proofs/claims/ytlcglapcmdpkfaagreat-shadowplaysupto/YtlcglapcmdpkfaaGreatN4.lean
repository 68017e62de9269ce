import Derived.Test.YtlcglapcmdpkfaaGreatS3
import Derived.Test.YtlcglapcmdpkfaaGreatW1
import Derived.Test.YtlcglapcmdpkfaaGreatNum
import Derived.Laws.Bits64b
namespace Go.Proofs.YtlcglapcmdpkfaaGreat
open Go.RowKit
set_option linter.unusedSimpArgs false
set_option linter.unusedVariables false
set_option maxRecDepth 10000 in
theorem bor8 (n : Nat) : bits .or .u8 ((n : Int) % 256) 128 = ((n % 128 + 128 : Nat) : Int) := by
 have k : ∀ x, x < 256 → x ||| 128 = x % 128 + 128 := by decide
 have e1 : (n % 256) % 2 ^ IntKind.u8.bits = n % 256 := Nat.mod_eq_of_lt (by show n % 256 < 256; omega)
 have e3 : 128 % 2 ^ IntKind.u8.bits = 128 := rfl
 have e4 : ((n : Int) % 256) = ((n % 256 : Nat) : Int) := by omega
 have e2 : (128 : Int) = ((128 : Nat) : Int) := rfl
 rw [e4, e2]
 simp only [bits, BitVec.ofInt_natCast, BitVec.toNat_or, BitVec.toNat_ofNat, e1, e3]
 rw [IntKind.wrap_u8, k _ (by omega)]
 omega
theorem band63 (n : Nat) (h : n < 18446744073709551616) : bits .and .u64 (n : Int) 9223372036854775807 = ((n % 9223372036854775808 : Nat) : Int) := by
 have := bits_and_u64_nat n 9223372036854775807 h (by omega)
 rw [show (9223372036854775807 : Int) = ((9223372036854775807 : Nat) : Int) from rfl, this]
 rw [show 9223372036854775807 = 2 ^ 63 - 1 from rfl, Nat.and_two_pow_sub_one_eq_mod]
set_option maxRecDepth 100000 in
set_option maxHeartbeats 1000000 in
theorem appnum_any (v : Value) (zs : List Nat) (B n : Nat) (w : World) (h : Fresh w B v zs) (hB : B ≤ w.heap.size) (hn : n < 18446744073709551616) (hl : zs.length + 9 ≤ 140737488355328) :
  Calls Tryz.prog 122 #[v, .int .u64 n] w fun e w' => ∃ u, e = .returned u ∧ Fresh w' B u (zs ++ num (n % 9223372036854775808)) ∧ Only (fun i => B ≤ i) w w' := by
 obtain ⟨i0, hi0, hz0, hz1, hz2⟩ := info_parts info5
 have hb := band63 n hn
 obtain ⟨m, hm⟩ : ∃ m, m = n % 9223372036854775808 := ⟨_, rfl⟩
 rw [← hm] at hb
 rw [← hm]
 have hm2 : m < 9223372036854775808 := by omega
 have H9 : Hid ((num m).length ≤ 9) := num_nine hm2
 have HF : Hid (Fresh w B v zs) := h
 have HB : Hid (B ≤ w.heap.size) := hB
 clear h hm
 go_enter Tryz.func122, Tryz.ntmps122
 go_wp2
 clear hb
 go_loopw [0, 1] (fun b t wr => ∃ (q : Nat) (pre : List Nat), q ≤ m ∧ t = .int .u64 q ∧ num m = pre ++ num q ∧ Fresh wr B b (zs ++ pre) ∧ Only (fun i => B ≤ i) w wr) (fun _ t _ => (intOf t).toNat)
 case atStart => exact ⟨m, [], Nat.le_refl _, rfl, rfl, by simpa using HF.out, Only.refl _ _⟩
 case round =>
  obtain ⟨q, pre, hq, rfl, hnum, hfr, ho⟩ := hrel
  obtain ⟨w2, rfl⟩ : ∃ w2, w2 = wr := ⟨_, rfl⟩
  have HN : Hid (num m = pre ++ num q) := hnum
  have HFR : Hid (Fresh w2 B u0 (zs ++ pre)) := hfr
  have HO : Hid (Only (fun i => B ≤ i) w w2) := ho
  have hpl : pre.length + (num q).length ≤ 9 := by have := H9.out; rw [hnum] at this; simpa using this
  have hq1 := num_pos q
  have hlen : (zs ++ pre).length = zs.length + pre.length := List.length_append
  have hown := hfr.1
  clear hnum hfr ho
  have hsz : B ≤ w2.heap.size := by have := HO.out.size; have := HB.out; omega
  by_cases hlt : q < 128
  ·have q1 : (q : Int) < 128 := by omega
   have hc8 : (q : Int) % 256 = q := by omega
   have hown2 := hown.alloc (.cells #[.int .u8 q] 5)
   have hnews : ∀ j u, [Value.int .u8 q][j]? = some u → (w2.alloc (.cells #[.int .u8 q] 5)).cell? ((⟨w2.heap.size, 0, none⟩ : Addr).add j) = some u := World.news_of_block (heap_alloc_new w2 _)
   have HNW : Hid _ := hnews
   clear hnews hown
   go_wp2_with (at_builtin; go_must (refine wpList_append_own_at _ rfl _ _ 37 rfl B 5 i0 _ 1 1 Tryz.underlying37 hi0 hz0 hz1 hz2 rfl (by omega) _ (zs ++ pre).length _ rfl hown2 ⟨w2.heap.size, 0, none⟩ 1 1 [.int .u8 q] rfl rfl HNW.out (by simp [Value.oneCell']) (by unfold maxLen; omega) (by omega) (by simp; omega) ?_); intro v' w3 own3 hg3 _ hb3)
   have HG : Hid _ := hg3
   have HO3 : Hid (w3.ownsRow B 5 1 v' ((zs ++ pre).length + 1) (BL (zs ++ pre) ++ [.int .u8 q])) := own3
   clear hg3 own3 hb3
   go_wp2
   go_ret
   refine ⟨v', rfl, ?_, (HO.out.alloc _).grown HG.out (fun k e hk => (World.ownsRow.lt HFR.out.1 k e).1)⟩
   rw [HN.out, num_small hlt, ← List.append_assoc]
   exact Fresh.more (l := [q]) HO3.out (by simp at hlen ⊢; omega) HFR.out.2.2 (fun z hz => by simp at hz; omega)
  ·have q1 : ¬ (q : Int) < 128 := by omega
   have q2 : (128 : Int) ≤ (q : Int) := by omega
   have hor := bor8 q
   have hnb : num q = (q % 128 + 128) :: num (q / 128) := num_big hlt
   have hown2 := hown.alloc (.cells #[.int .u8 ((q % 128 + 128 : Nat) : Int)] 5)
   have hnews : ∀ j u, [Value.int .u8 ((q % 128 + 128 : Nat) : Int)][j]? = some u → (w2.alloc (.cells #[.int .u8 ((q % 128 + 128 : Nat) : Int)] 5)).cell? ((⟨w2.heap.size, 0, none⟩ : Addr).add j) = some u := World.news_of_block (heap_alloc_new w2 _)
   have HNB : Hid _ := hnb
   obtain ⟨c, hc⟩ : ∃ c, c = q % 128 + 128 := ⟨_, rfl⟩
   have hc2 : c < 256 := by omega
   rw [← hc] at hnews hown2 hor
   have HC : Hid (c = q % 128 + 128) := hc
   have HNW : Hid _ := hnews
   clear hnews hnb hc hown
   go_wp2_with (at_builtin; go_must (refine wpList_append_own_at _ rfl _ _ 37 rfl B 5 i0 _ 1 1 Tryz.underlying37 hi0 hz0 hz1 hz2 rfl (by omega) _ (zs ++ pre).length _ rfl hown2 ⟨w2.heap.size, 0, none⟩ 1 1 [.int .u8 c] rfl rfl HNW.out (by simp [Value.oneCell']) (by unfold maxLen; omega) (by omega) (by simp; omega) ?_); intro v' w3 own3 hg3 _ hb3)
   have HG : Hid _ := hg3
   have HO3 : Hid (w3.ownsRow B 5 1 v' ((zs ++ pre).length + 1) (BL (zs ++ pre) ++ [.int .u8 c])) := own3
   clear hg3 own3 hb3
   go_wp2
   go_roundw
   case rel =>
    refine ⟨q / 128, pre ++ [c], by omega, by go_num, by rw [HN.out, HNB.out, HC.out]; simp, ?_, (HO.out.alloc _).grown HG.out (fun k e hk => (World.ownsRow.lt HFR.out.1 k e).1)⟩
    rw [← List.append_assoc]
    exact Fresh.more (l := [c]) HO3.out (by simp at hlen ⊢; omega) HFR.out.2.2 (fun z hz => by simp at hz; omega)
   case measure => simp [intOf]; omega
set_option maxHeartbeats 400000 in
theorem number_any (n : Nat) (w : World) (hn : n < 18446744073709551616) :
  Calls Tryz.prog 105 #[.int .u64 n] w fun e w' => ∃ u, e = .returned u ∧ Fresh w' w.heap.size u (num (n % 9223372036854775808)) ∧ Only (fun _ => False) w w' := by
 go_enter Tryz.func105, Tryz.ntmps105
 go_wp2_with fail
 refine (appnum_any _ [] w.heap.size n w (Fresh.nil _ _) (Nat.le_refl _) hn (by simp)).mono ?_
 rintro e w' ⟨u, rfl, hf, ho⟩
 have HF : Hid (Fresh w' w.heap.size u (num (n % 9223372036854775808))) := hf
 have HO : Hid (Only (fun i => w.heap.size ≤ i) w w') := ho
 clear hf ho
 go_wp2
 go_ret
 exact ⟨u, rfl, HF.out, HO.out.mono (fun k hk e => by omega)⟩
set_option maxRecDepth 100000 in
set_option maxHeartbeats 1000000 in
theorem rnumber_any (n : Nat) (w : World) (hn : n < 18446744073709551616) :
  Calls Tryz.prog 111 #[.int .u64 n] w fun e w' => ∃ u, e = .returned u ∧ Fresh w' w.heap.size u (num (n % 9223372036854775808)) ∧ Only (fun _ => False) w w' := by
 obtain ⟨i0, hi0, hz0, hz1, hz2⟩ := info_parts info5
 obtain ⟨m, hm⟩ : ∃ m, m = n % 9223372036854775808 := ⟨_, rfl⟩
 have hb : (n : Int) % 9223372036854775808 = m := by omega
 rw [← hm]
 have hm2 : m < 9223372036854775808 := by omega
 have H9 : Hid ((num m).length ≤ 9) := num_nine hm2
 clear hm
 go_enter Tryz.func111, Tryz.ntmps111
 go_wp2
 have HBB : Hid ((n : Int) % 9223372036854775808 = m) := hb
 clear hb
 go_loopw [3, 0] (fun b t wr => ∃ (q : Nat) (pre : List Nat), q ≤ m ∧ t = .int .u64 q ∧ num m = pre ++ num q ∧ Fresh wr w.heap.size b pre ∧ Only (fun _ => False) w wr) (fun _ t _ => (intOf t).toNat)
 case atStart => exact ⟨m, [], Nat.le_refl _, by rw [HBB.out], rfl, Fresh.nil _ _, Only.refl _ _⟩
 case round =>
  obtain ⟨q, pre, hq, rfl, hnum, hfr, ho⟩ := hrel
  obtain ⟨w2, rfl⟩ : ∃ w2, w2 = wr := ⟨_, rfl⟩
  have HN : Hid (num m = pre ++ num q) := hnum
  have HFR : Hid (Fresh w2 w.heap.size u3 pre) := hfr
  have HO : Hid (Only (fun _ => False) w w2) := ho
  have hpl : pre.length + (num q).length ≤ 9 := by have := H9.out; rw [hnum] at this; simpa using this
  have hq1 := num_pos q
  have hown := hfr.1
  clear hnum hfr ho
  have hsz : w.heap.size ≤ w2.heap.size := HO.out.size
  by_cases hlt : q < 128
  ·have q1 : (q : Int) < 128 := by omega
   have hc8 : (q : Int) % 256 = q := by omega
   have hown2 := hown.alloc (.cells #[.int .u8 q] 5)
   have hnews : ∀ j u, [Value.int .u8 q][j]? = some u → (w2.alloc (.cells #[.int .u8 q] 5)).cell? ((⟨w2.heap.size, 0, none⟩ : Addr).add j) = some u := World.news_of_block (heap_alloc_new w2 _)
   have HNW : Hid _ := hnews
   clear hnews hown
   go_wp2_with (at_builtin; go_must (refine wpList_append_own_at _ rfl _ _ 37 rfl w.heap.size 5 i0 _ 1 1 Tryz.underlying37 hi0 hz0 hz1 hz2 rfl (by omega) _ pre.length _ rfl hown2 ⟨w2.heap.size, 0, none⟩ 1 1 [.int .u8 q] rfl rfl HNW.out (by simp [Value.oneCell']) (by unfold maxLen; omega) (by omega) (by simp; omega) ?_); intro v' w3 own3 hg3 _ hb3)
   have HG : Hid _ := hg3
   have HO3 : Hid (w3.ownsRow w.heap.size 5 1 v' (pre.length + 1) (BL pre ++ [.int .u8 q])) := own3
   clear hg3 own3 hb3
   go_wp2
   go_ret
   refine ⟨v', rfl, ?_, (HO.out.alloc _).grown HG.out (fun k e hk => by have := (World.ownsRow.lt HFR.out.1 k e).1; omega)⟩
   rw [HN.out, num_small hlt]
   exact Fresh.more (l := [q]) HO3.out (by simp; omega) HFR.out.2.2 (fun z hz => by simp at hz; omega)
  ·have q1 : ¬ (q : Int) < 128 := by omega
   have q2 : (128 : Int) ≤ (q : Int) := by omega
   have hnb : num q = (q % 128 + 128) :: num (q / 128) := num_big hlt
   have hown2 := hown.alloc (.cells #[.int .u8 ((q % 128 + 128 : Nat) : Int)] 5)
   have hnews : ∀ j u, [Value.int .u8 ((q % 128 + 128 : Nat) : Int)][j]? = some u → (w2.alloc (.cells #[.int .u8 ((q % 128 + 128 : Nat) : Int)] 5)).cell? ((⟨w2.heap.size, 0, none⟩ : Addr).add j) = some u := World.news_of_block (heap_alloc_new w2 _)
   have HNB : Hid _ := hnb
   obtain ⟨c, hc⟩ : ∃ c, c = q % 128 + 128 := ⟨_, rfl⟩
   have hc2 : c < 256 := by omega
   have hcq : (128 : Int) + (q : Int) % 128 = c := by omega
   rw [← hc] at hnews hown2
   have HC : Hid (c = q % 128 + 128) := hc
   have HNW : Hid _ := hnews
   clear hnews hnb hc hown
   go_wp2_with (at_builtin; go_must (refine wpList_append_own_at _ rfl _ _ 37 rfl w.heap.size 5 i0 _ 1 1 Tryz.underlying37 hi0 hz0 hz1 hz2 rfl (by omega) _ pre.length _ rfl hown2 ⟨w2.heap.size, 0, none⟩ 1 1 [.int .u8 c] rfl rfl HNW.out (by simp [Value.oneCell']) (by unfold maxLen; omega) (by omega) (by simp; omega) ?_); intro v' w3 own3 hg3 _ hb3)
   have HG : Hid _ := hg3
   have HO3 : Hid (w3.ownsRow w.heap.size 5 1 v' (pre.length + 1) (BL pre ++ [.int .u8 c])) := own3
   clear hg3 own3 hb3
   go_wp2
   go_roundw
   case rel =>
    refine ⟨q / 128, pre ++ [c], by omega, by go_num, by rw [HN.out, HNB.out, HC.out]; simp, ?_, (HO.out.alloc _).grown HG.out (fun k e hk => by have := (World.ownsRow.lt HFR.out.1 k e).1; omega)⟩
    exact Fresh.more (l := [c]) HO3.out (by simp; omega) HFR.out.2.2 (fun z hz => by simp at hz; omega)
   case measure => simp [intOf]; omega
end Go.Proofs.YtlcglapcmdpkfaaGreat
