/- What owns, SameLists of the same lists, Join and the document's Join answer. -/
import Derived.Test.YtcgcgaafmedkmaaL1
namespace Go.Proofs.Ytcgcgaafmedkmaa
open Go.RowKit
set_option linter.unusedSimpArgs false
set_option linter.unusedVariables false

theorem own_lt {w : World} {B : Nat} {v : Value} {zs : List Nat} (h : Fresh w B v zs) (b : Nat) (hb : v.ownBlock = some b) : B ≤ b ∧ b < w.heap.size := h.1.lt b hb

set_option maxRecDepth 100000 in
set_option maxHeartbeats 2000000 in
theorem owns_any (v : Value) (L : List (List Nat)) (w : World) (h : LL w v L) (hL : L.length ≤ 1048576) :
    Calls Try.prog 19 #[v] w fun e w' => ∃ u us, e = .returned u ∧ FL w' w.heap.size u us L ∧ Only (fun _ => False) w w' := by
  obtain ⟨i0, hi0, hz0, hz1, hz2⟩ := info_parts info22
  obtain ⟨a, c, rfl, hc⟩ := h.form
  have HC : Hid _ := hc
  obtain ⟨n, hn⟩ : ∃ n, n = L.length := ⟨_, rfl⟩
  have HN : Hid (n = L.length) := hn
  rw [← hn]
  rw [← hn] at hL
  clear h hc hn
  go_enter Try.func19, Try.ntmps19
  go_wp2_with fail
  go_loopw [3, 4] (fun b t wr => ∃ (k : Nat) (us : List Value), k ≤ n ∧ t = .int .i64 k ∧ FL wr w.heap.size b us (L.take k) ∧ Only (fun _ => False) w wr) (fun _ t _ => n - (intOf t).toNat)
  case atStart => exact ⟨0, [], Nat.zero_le _, rfl, FL.nil _ _, Only.refl _ _⟩
  case round =>
    obtain ⟨k, us, hk, rfl, hfl, ho⟩ := hrel
    obtain ⟨w2, rfl⟩ : ∃ w2, w2 = wr := ⟨_, rfl⟩
    obtain ⟨out, rfl⟩ : ∃ x, x = u3 := ⟨_, rfl⟩
    have HF : Hid (FL w2 w.heap.size out us (L.take k)) := hfl
    have HO : Hid (Only (fun _ => False) w w2) := ho
    have hlk : (L.take k).length = k := by have := HN.out; rw [List.length_take]; omega
    have hul : us.length = k := by rw [hfl.len, hlk]
    clear hfl
    by_cases hlt : k < n
    · have k0 : (0 : Int) ≤ (k : Int) := Int.natCast_nonneg _
      have k1 : (k : Int) < (n : Int) := by omega
      obtain ⟨g, o, u, rfl, hcell, hby⟩ := HC.out k (by have := HN.out; omega)
      have x1 := ho.cell hcell (fun e => e)
      have HBY : Hid (BytesAt w2 u (L.getD k [])) := hby.frame ho
      clear ho hcell hby
      go_wp2_with fail
      refine (own_any u (L.getD k []) w2 HBY.out).mono ?_
      rintro e w3 ⟨u2, rfl, hfr, ho3⟩
      obtain ⟨a2, c2, hu2⟩ := hfr.form
      obtain ⟨m2, hm2⟩ : ∃ m2, m2 = (L.getD k []).length := ⟨_, rfl⟩
      rw [← hm2] at hu2
      subst hu2
      have HFR : Hid (Fresh w3 w2.heap.size (.slice a2 m2 c2) (L.getD k [])) := hfr
      have HF3 : Hid (FL w3 w.heap.size out us (L.take k)) := HF.out.frame ho3
      have HO3 : Hid (Only (fun _ => False) w w3) := HO.out.trans ho3 (fun _ _ e => e)
      have hs : w.heap.size ≤ w2.heap.size := HO.out.size
      have hs3 : w2.heap.size ≤ w3.heap.size := ho3.size
      have oA : Only (fun _ => False) w3 (w3.alloc (.cells #[.slice a2 m2 c2] 22)) := (Only.refl _ w3).alloc _
      have hF4 : FL (w3.alloc (.cells #[.slice a2 m2 c2] 22)) w.heap.size out us (L.take k) := HF3.out.frame oA
      have HF4 : Hid _ := hF4
      have HFR4 : Hid (Fresh (w3.alloc (.cells #[.slice a2 m2 c2] 22)) w.heap.size (.slice a2 m2 c2) (L.getD k [])) := (hfr.frame oA).low hs
      have hown := hF4.own
      rw [hlk] at hown
      have hnews : ∀ j x, [Value.slice a2 m2 c2][j]? = some x → (w3.alloc (.cells #[.slice a2 m2 c2] 22)).cell? ((⟨w3.heap.size, 0, none⟩ : Addr).add j) = some x := World.news_of_block (heap_alloc_new w3 _)
      have HNW : Hid _ := hnews
      clear hfr ho3 x1 hnews oA hF4 hm2
      go_wp2_with (at_builtin; go_must (refine wpList_append_own_at _ rfl _ _ 34 rfl w.heap.size 22 i0 _ 1 24 Try.underlying34 hi0 hz0 hz1 hz2 rfl (by omega) _ k _ rfl hown ⟨w3.heap.size, 0, none⟩ 1 1 [.slice a2 m2 c2] rfl rfl HNW.out (by simp [Value.oneCell']) (by unfold maxLen; omega) (by omega) (by simp; omega) ?_); intro v' w5 own5 hg5 _ hb5)
      have HFL : Hid (FL w5 w.heap.size v' (us ++ [.slice a2 m2 c2]) (L.take (k + 1))) := by
        have := FL.more HF4.out HFR4.out (fun j b hj hb hb2 => by
          have h1 := (own_lt (HF.out.at_ j hj) b hb).2
          have h2 := (own_lt HFR.out b hb2).1
          omega) (by rw [hlk]; exact own5) hg5
        rw [List.take_succ_eq_append_getElem (by have := HN.out; omega)]
        have e : L.getD k [] = L[k]'(by have := HN.out; omega) := by simp [List.getD, (by have := HN.out; omega : k < L.length)]
        rw [e] at this
        exact this
      have HO5 : Hid (Only (fun _ => False) w w5) := (HO3.out.alloc _).grown hg5 (fun q e hq => by have := (World.ownsRow.lt HF3.out.own q e).1; omega)
      clear own5 hg5 hb5 hown HF4 HFR4 HF3 HFR HF HNW
      go_wp2
      go_roundw
      case rel => exact ⟨k + 1, _, by omega, by go_num, HFL.out, HO5.out⟩
      case measure => simp [intOf]; omega
    · obtain rfl : k = n := by omega
      clear ho
      go_wp2
      go_ret
      refine ⟨out, us, rfl, ?_, HO.out⟩
      have := HF.out
      rwa [HN.out, List.take_length] at this
set_option maxRecDepth 100000 in
set_option maxHeartbeats 2000000 in
/-- SameLists of the same lists. -/
theorem samel_any (v1 v2 : Value) (L : List (List Nat)) (w : World) (h1 : LL w v1 L) (h2 : LL w v2 L) (hL : L.length ≤ 140737488355328) :
    Calls Try.prog 23 #[v1, v2] w fun e w' => e = .returned (.bool true) ∧ Only (fun _ => False) w w' := by
  obtain ⟨a1, c1, rfl, f1⟩ := h1.form
  obtain ⟨a2, c2, rfl, f2⟩ := h2.form
  obtain ⟨m, hm⟩ : ∃ m, m = L.length := ⟨_, rfl⟩
  rw [← hm] at hL f1 f2
  rw [← hm]
  have F1 : Hid _ := f1
  have F2 : Hid _ := f2
  clear h1 h2 hm f1 f2
  go_enter Try.func23, Try.ntmps23
  go_wp2
  go_loopw [5] (fun t wr => ∃ k : Nat, k ≤ m ∧ t = .int .i64 k ∧ Only (fun _ => False) w wr) (fun t _ => m - (intOf t).toNat)
  case atStart => exact ⟨0, Nat.zero_le _, rfl, Only.refl _ _⟩
  case round =>
    obtain ⟨k, hk, rfl, ho⟩ := hrel
    obtain ⟨w2, rfl⟩ : ∃ w2, w2 = wr := ⟨_, rfl⟩
    by_cases hlt : k < m
    · obtain ⟨g1, o1, u1, rfl, x1, b1⟩ := F1.out k hlt
      obtain ⟨g2, o2, u2, rfl, x2, b2⟩ := F2.out k hlt
      have y1 := ho.cell x1 (fun e => e)
      have y2 := ho.cell x2 (fun e => e)
      have k0 : (0 : Int) ≤ (k : Int) := Int.natCast_nonneg _
      have k1 : (k : Int) < (m : Int) := by omega
      have oD : Only (fun _ => False) w w2.drew := ho.drew
      have HS : Hid (Calls Try.prog 13 #[u1, u2] w2.drew fun e w3 => e = .returned (.bool true) ∧ w3.cell? ⟨g1, o1 + k, none⟩ = some u1 ∧ w3.cell? ⟨g2, o2 + k, none⟩ = some u2 ∧ Hid (Only (fun _ => False) w w3)) := by
        refine (same_any u1 u2 _ w2.drew (b1.frame oD) (b2.frame oD)).mono ?_
        rintro e w3 ⟨rfl, h3⟩
        exact ⟨rfl, h3.cell y1 (fun e => e), h3.cell y2 (fun e => e), oD.trans h3 (fun _ _ e => e)⟩
      clear x1 x2 b1 b2 ho oD
      go_wp2_with fail
      go_region_held3 (fun w' => w'.cell? ⟨g1, o1 + k, none⟩ = some u1 ∧ w'.cell? ⟨g2, o2 + k, none⟩ = some u2) (first | exact ⟨z1, z2⟩ | go_keep)
        (first | (go_at_call 13; refine HS.out.mono ?_; rintro e w3 ⟨rfl, z1, z2, HO3⟩))
      clear HS
      go_wp2
      go_roundw
      case rel => exact ⟨k + 1, by omega, by go_num, HO3.out⟩
      case measure => simp [intOf]; omega
    · obtain rfl : k = m := by omega
      go_wp2
      go_ret
      exact ⟨rfl, ho⟩
end Go.Proofs.Ytcgcgaafmedkmaa
