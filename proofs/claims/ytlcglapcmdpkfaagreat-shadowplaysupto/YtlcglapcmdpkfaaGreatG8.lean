import Derived.Test.YtlcglapcmdpkfaaGreatG4
import Derived.Test.YtlcglapcmdpkfaaGreatA2
import Derived.Test.YtlcglapcmdpkfaaGreatE2
namespace Go.Proofs.YtlcglapcmdpkfaaGreat
open Go.RowKit
set_option linter.unusedSimpArgs false
set_option linter.unusedVariables false
section
variable {w : World} {rk : Nat → Prop} {B r q : Nat} {tv kv nv : Value} {x : SS} {lk ln : List RPg}
theorem RsAt.page (h : RsAt w rk B r q tv kv nv x lk ln) (k : Nat) (hk : k < x.now.length) :
  ∃ g c, nv = .slice (some ⟨g, 0, none⟩) x.now.length c ∧ w.cell? ⟨g, k * 3, none⟩ = some (.int .i64 (x.now[k]).1) ∧ w.cell? ⟨g, k * 3 + 1, none⟩ = some (.int .i64 ((x.now[k]).2.1 : Nat)) := by
 obtain ⟨a, c, hnv, _⟩ := h.now.form
 have hl := h.nowLen
 have hkl : k < ln.length := by omega
 have hn := h.now
 rw [hnv] at hn
 obtain ⟨g, rfl, z0, z1, z2⟩ := hn.at k hkl
 have e : x.now[k] = (ln[k]).p := by
  have := h.nowE
  simp only [← this, List.getElem_map]
 rw [e]
 exact ⟨g, c, by rw [hnv, hl], z0, z1⟩
theorem RsAt.keptAt (h : RsAt w rk B r q tv kv nv x lk ln) (k : Nat) (hk : k < x.com.length) :
  ∃ g c, kv = .slice (some ⟨g, 0, none⟩) x.com.length c ∧ w.cell? ⟨g, k * 3 + 1, none⟩ = some (.int .i64 ((x.com[k]).2.1 : Nat)) ∧ g < w.heap.size := by
 obtain ⟨a, c, hnv, _⟩ := h.kept.form
 have hl := h.comLen
 have hkl : k < lk.length := by omega
 have hn := h.kept
 rw [hnv] at hn
 obtain ⟨g, rfl, z0, z1, z2⟩ := hn.at k hkl
 have e : x.com[k] = (lk[k]).p := by
  have := h.comE
  simp only [← this, List.getElem_map]
 rw [e]
 exact ⟨g, c, by rw [hnv, hl], z1, World.block_lt_of_cell? w _ z1⟩
theorem RsAt.nowForm (h : RsAt w rk B r q tv kv nv x lk ln) : ∃ a c, nv = .slice a x.now.length c := by
 obtain ⟨a, c, hnv, _⟩ := h.now.form
 exact ⟨a, c, by rw [hnv, h.nowLen]⟩
theorem RsAt.comForm (h : RsAt w rk B r q tv kv nv x lk ln) : ∃ a c, kv = .slice a x.com.length c := by
 obtain ⟨a, c, hnv, _⟩ := h.kept.form
 exact ⟨a, c, by rw [hnv, h.comLen]⟩
theorem RsAt.n728 (h : RsAt w rk B r q tv kv nv x lk ln) : x.now.length ≤ 728 := pgs_len h.nowR (fun p hp => (h.wf.now p hp).1)
theorem RsAt.k728 (h : RsAt w rk B r q tv kv nv x lk ln) : x.com.length ≤ 728 := pgs_len h.comR (fun p hp => (h.wf.com p hp).1)
theorem freshN_take {l : Pgs} {k : Nat} (hk : k < l.length) : (freshN (l.take (k + 1))).length = (freshN (l.take k)).length + (if (l[k]).2.1 = 0 then 1 else 0) := by
 rw [List.take_succ_eq_append_getElem hk]
 simp only [freshN, List.filter_append, List.map_append, List.length_append, List.length_map]
 by_cases e : (l[k]).2.1 = 0 <;> simp [e]
set_option maxRecDepth 100000 in
set_option maxHeartbeats 1000000 in
theorem rfresh_any (h : RsAt w rk B r q tv kv nv x lk ln) :
  Calls Tryz.prog 87 #[.pointer (some ⟨r, 0, none⟩)] w fun e w' => e = .returned (.int .i64 ((freshN x.now).length : Nat)) ∧ w' = w := by
 have HH : Hid (RsAt w rk B r q tv kv nv x lk ln) := h
 obtain ⟨a, c, hnv⟩ := h.nowForm
 have c5 := h.c5
 have hn7 := h.n728
 obtain ⟨n, hn⟩ : ∃ n, n = x.now.length := ⟨_, rfl⟩
 rw [← hn] at hnv hn7
 have HN : Hid (n = x.now.length ∧ nv = .slice a n c) := ⟨hn, hnv⟩
 rw [hnv] at c5
 clear h hnv hn
 go_enter Tryz.func87, Tryz.ntmps87
 go_wp2_with fail
 go_loopw [3, 4] (fun f t wr => ∃ k m : Nat, k ≤ n ∧ m ≤ k ∧ t = .int .i64 k ∧ f = .int .i64 m ∧ Hid (m = (freshN (x.now.take k)).length) ∧ w = wr) (fun _ t _ => n - (intOf t).toNat)
 case atStart => exact ⟨0, 0, Nat.zero_le _, Nat.le_refl _, rfl, rfl, by show 0 = _; simp [freshN], rfl⟩
 case round =>
  obtain ⟨k, m, hk, hmk, rfl, rfl, HM, rfl⟩ := hrel
  by_cases hlt : k < n
  ·have hkx : k < x.now.length := by rw [← HN.out.1]; exact hlt
   obtain ⟨g, c', hv, z0, z1⟩ := HH.out.page k hkx
   rw [HN.out.2] at hv
   simp only [Value.slice.injEq] at hv
   obtain ⟨rfl, _, rfl⟩ := hv
   have i0 : (0 : Int) ≤ (k : Int) := Int.natCast_nonneg _
   have i1 : (k : Int) < (n : Int) := by omega
   have HS : Hid (_ = _) := freshN_take hkx
   obtain ⟨A, hA⟩ : ∃ A, A = (x.now[k]).2.1 := ⟨_, rfl⟩
   rw [← hA] at z1 HS
   clear z0 hA
   by_cases h0 : A = 0
   ·subst h0
    rw [if_pos rfl] at HS
    go_wp2
    go_roundw
    case rel => exact ⟨k + 1, m + 1, by omega, by omega, by go_num, by go_num, by show _ = _; rw [HS.out, HM.out], trivial⟩
    case measure => simp [intOf]; omega
   ·have hb : ((A : Int) == 0) = false := by simp; omega
    rw [if_neg h0] at HS
    go_wp2
    go_roundw
    case rel => exact ⟨k + 1, m, by omega, by omega, by go_num, rfl, by show _ = _; rw [HS.out, HM.out]; rfl, trivial⟩
    case measure => simp [intOf]; omega
  ·obtain rfl : k = n := by omega
   have HF : Hid (m = (freshN x.now).length) := by have := HM.out; rw [List.take_of_length_le (by rw [HN.out.1]; exact Nat.le_refl _)] at this; exact this
   clear HM
   go_wp2
   go_ret
   rw [← HF.out]
   exact ⟨rfl, rfl⟩
theorem tables_any (n : Nat) (w : World) (hn : n ≤ 1000000) : Calls Tryz.prog 89 #[.int .i64 (n : Nat)] w fun e w' => e = .returned (.int .i64 (tabN n : Nat)) ∧ w' = w := by
 have e : wrap64 (((n : Int) + 111).tdiv 112) = (tabN n : Nat) := by
  rw [Int.tdiv_eq_ediv_of_nonneg (by omega)]
  unfold tabN wrap64
  omega
 have e3 : ((n : Int) + 111) / 112 = (tabN n : Nat) := by unfold tabN; omega
 go_enter Tryz.func89, Tryz.ntmps89
 go_wp2
 go_ret
 exact ⟨rfl, rfl⟩
set_option maxRecDepth 100000 in
set_option maxHeartbeats 1000000 in
theorem rpages_any (h : RsAt w rk B r q tv kv nv x lk ln) :
  Calls Tryz.prog 51 #[.pointer (some ⟨r, 0, none⟩)] w fun e w' => ∃ a c, e = .returned (.slice a x.now.length c) ∧ Hid (FreshI w' w.heap.size (.slice a x.now.length c) (x.now.map fun p => p.1.toNat) ∧ Only (fun _ => False) w w') := by
 have HH : Hid (RsAt w rk B r q tv kv nv x lk ln) := h
 obtain ⟨a, c, hnv⟩ := h.nowForm
 have c5 := h.c5
 have c6 := h.c6
 have hn7 := h.n728
 have hlt0 := h.lt
 obtain ⟨n, hn⟩ : ∃ n, n = x.now.length := ⟨_, rfl⟩
 rw [← hn] at hnv hn7
 rw [← hn]
 have HN : Hid (n = x.now.length ∧ nv = .slice a n c) := ⟨hn, hnv⟩
 rw [hnv] at c5
 clear h hnv hn
 go_enter Tryz.func51, Tryz.ntmps51
 go_wp2_with fail
 go_loopw [3, 4] (fun f t wr => ∃ k : Nat, k ≤ n ∧ t = .int .i64 k ∧ Hid (∃ (a : Option Addr) (c : Nat), f = .slice a k c ∧ FreshI wr w.heap.size (.slice a k c) ((x.now.take k).map fun p => p.1.toNat) ∧ Only (fun _ => False) w wr)) (fun _ t _ => n - (intOf t).toNat)
 case atStart => exact ⟨0, Nat.zero_le _, rfl, none, 0, rfl, by simpa using FreshI.nil _ _, Only.refl _ _⟩
 case round =>
  obtain ⟨k, hk, rfl, HI⟩ := hrel
  obtain ⟨a2, c2, rfl, hfr, ho⟩ := HI.out
  clear HI
  obtain ⟨wq, rfl⟩ : ∃ q, q = wr := ⟨_, rfl⟩
  have y5 := ho.cell c5 (fun e => e)
  have y6 := ho.cell c6 (fun e => e)
  by_cases hlt : k < n
  ·have hkx : k < x.now.length := by rw [← HN.out.1]; exact hlt
   obtain ⟨g, c', hv, z0, z1⟩ := HH.out.page k hkx
   rw [HN.out.2] at hv
   simp only [Value.slice.injEq] at hv
   obtain ⟨rfl, _, rfl⟩ := hv
   have i0 : (0 : Int) ≤ (k : Int) := Int.natCast_nonneg _
   have i1 : (k : Int) < (n : Int) := by omega
   have h01 := (HH.out.wf.now _ (List.getElem_mem hkx)).1
   obtain ⟨I, hI⟩ : ∃ I : Nat, (I : Int) = (x.now[k]).1 := ⟨(x.now[k]).1.toNat, by omega⟩
   have hlen : ((x.now.take k).map fun p => p.1.toNat).length = k := by simp; omega
   obtain ⟨a3, c3, w3, hr3, hf3, ho3⟩ := app_int1 hfr (by have := ho.size; omega) I (by rw [hlen]; omega)
   rw [hlen] at hr3 hf3
   have y0 := ho.cell z0 (fun e => e)
   rw [← hI] at y0
   have HR : Hid _ := hr3
   have HF : Hid (FreshI w3 w.heap.size (.slice a3 (k + 1) c3) ((x.now.take (k + 1)).map fun p => p.1.toNat) ∧ Only (fun _ => False) w w3) := by
    refine ⟨?_, ho.trans ho3 (fun b hb e => by have := hfr.1.lt b e; omega)⟩
    have e : ((x.now.take (k + 1)).map fun p => p.1.toNat) = ((x.now.take k).map fun p => p.1.toNat) ++ [I] := by
     rw [List.take_succ_eq_append_getElem hkx, List.map_append]
     simp only [List.map_cons, List.map_nil]
     rw [← hI]; simp
    rw [e]
    exact hf3
   clear hr3 hf3 ho3 hfr ho z0 z1 hI h01 hkx hlen
   go_wp2_with (at_builtin; refine wpList_append_run rfl _ _ 76 rfl _ _ (.slice a3 (k + 1) c3) rfl rfl HR.out ?_)
   go_roundw
   case rel => exact ⟨k + 1, by omega, by go_num, a3, c3, rfl, HF.out.1, HF.out.2⟩
   case measure => simp [intOf]; omega
  ·obtain rfl : k = n := by omega
   have HF : Hid (FreshI wq w.heap.size (.slice a2 k c2) (x.now.map fun p => p.1.toNat) ∧ Only (fun _ => False) w wq) := by
    rw [List.take_of_length_le (by rw [HN.out.1]; exact Nat.le_refl _)] at hfr
    exact ⟨hfr, ho⟩
   clear hfr ho
   go_wp2
   go_ret
   exact ⟨_, _, rfl, HF⟩
set_option maxHeartbeats 1000000 in
theorem rpages_dead (r : Nat) (a : Option Addr) (n c : Nat) (w : World) (h5 : w.cell? ⟨r, 5, none⟩ = some (.slice a n c)) (h6 : w.cell? ⟨r, 6, none⟩ = some (.bool true)) :
  Calls Tryz.prog 51 #[.pointer (some ⟨r, 0, none⟩)] w fun e w' => e = .returned (.slice none 0 0) ∧ w' = w := by
 go_enter Tryz.func51, Tryz.ntmps51
 go_wp2_with fail
 refine wp_loop_rounds 1 ?_; rw [rounds_succ]
 by_cases h0 : (0 : Int) < (n : Int)
 ·go_wp2
  go_ret
  exact ⟨rfl, rfl⟩
 ·have hd : decide ((0 : Int) < (n : Int)) = false := by simpa using h0
  go_wp2
  go_ret
  exact ⟨rfl, rfl⟩
end
end Go.Proofs.YtlcglapcmdpkfaaGreat
