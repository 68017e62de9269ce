/- SameBytes; flags that are copied. -/
import Derived.Test.YtdcflnfdaijpdabP5
import Derived.Test.YtdcflnfdaijpdabF1
namespace Go.Proofs.Ytdcflnfdaijpdab
open Go.RowKit
set_option linter.unusedSimpArgs false
set_option linter.unusedVariables false

theorem take_one (l : List Nat) (k : Nat) (h : k < l.length) : l.take (k + 1) = l.take k ++ [l.getD k 0] := by
  rw [List.take_succ_eq_append_getElem h]
  simp [List.getD, h]
set_option maxRecDepth 100000 in
set_option maxHeartbeats 1000000 in
/-- SameBytes of two lists of one length. -/
theorem same_dec (v1 v2 : Value) (A B : List Nat) (w : World) (h1 : BytesAt w v1 A) (h2 : BytesAt w v2 B) :
    Calls Try.prog 8 #[v1, v2] w fun e w' => e = .returned (.bool (decide (A = B))) ∧ Only (fun _ => False) w w' := by
  obtain ⟨a1, c1, rfl, _, f1⟩ := h1.form
  obtain ⟨a2, c2, rfl, _, f2⟩ := h2.form
  by_cases hlen : A.length = B.length
  · rw [← hlen] at f2
    rw [← hlen]
    obtain ⟨m, hm⟩ : ∃ m, m = A.length := ⟨_, rfl⟩
    have HM : Hid (m = A.length ∧ m = B.length) := ⟨hm, hm.trans hlen⟩
    have hm2 : m ≤ 140737488355328 := hm ▸ h1.2.1
    rw [← hm]
    rw [← hm] at f1 f2
    have F1 : Hid _ := f1
    have F2 : Hid _ := f2
    clear h1 h2 hm hlen f1 f2
    go_enter Try.func8, Try.ntmps8
    go_wp2
    go_loopw [5] (fun t wr => ∃ k : Nat, k ≤ m ∧ t = .int .i64 k ∧ A.take k = B.take k ∧ Only (fun _ => False) w wr) (fun t _ => m - (intOf t).toNat)
    case atStart => exact ⟨0, Nat.zero_le _, rfl, rfl, Only.refl _ _⟩
    case round =>
      obtain ⟨k, hk, rfl, htk, ho⟩ := hrel
      have HTK : Hid (A.take k = B.take k) := htk
      clear htk
      by_cases hlt : k < m
      · obtain ⟨g1, o1, rfl, x1⟩ := F1.out k hlt
        obtain ⟨g2, o2, rfl, x2⟩ := F2.out k hlt
        have y1 := ho.cell x1 (fun e => e)
        have y2 := ho.cell x2 (fun e => e)
        have k0 : (0 : Int) ≤ (k : Int) := Int.natCast_nonneg _
        have k1 : (k : Int) < (m : Int) := by omega
        obtain ⟨z1, hz1⟩ : ∃ z, z = A.getD k 0 := ⟨_, rfl⟩
        obtain ⟨z2, hz2⟩ : ∃ z, z = B.getD k 0 := ⟨_, rfl⟩
        rw [← hz1] at y1
        rw [← hz2] at y2
        have HZ : Hid (z1 = A.getD k 0 ∧ z2 = B.getD k 0) := ⟨hz1, hz2⟩
        have HO : Hid (Only (fun _ => False) w wr) := ho
        clear x1 x2 ho hz1 hz2
        by_cases hzz : z1 = z2
        · have he : ((z1 : Int) != (z2 : Int)) = false := by simp [hzz]
          have HZZ : Hid (z1 = z2) := hzz
          clear hzz
          go_wp2_with fail
          go_region_held3 (fun w' => w'.cell? ⟨g1, o1 + k, none⟩ = some (.int .u8 (z1 : Nat)) ∧ w'.cell? ⟨g2, o2 + k, none⟩ = some (.int .u8 (z2 : Nat))) (go_keep) (fail)
          go_wp2
          go_roundw
          case rel =>
            refine ⟨k + 1, by omega, by go_num, ?_, HO.out.drew⟩
            rw [take_one A k (by have := HM.out; omega), take_one B k (by have := HM.out; omega), HTK.out, ← HZ.out.1, ← HZ.out.2, HZZ.out]
          case measure => simp [intOf]; omega
        · have he : ((z1 : Int) != (z2 : Int)) = true := by simp; omega
          have HNE : Hid (A ≠ B) := fun e => hzz (by rw [HZ.out.1, HZ.out.2, e])
          go_wp2_with fail
          go_region_held3 (fun w' => w'.cell? ⟨g1, o1 + k, none⟩ = some (.int .u8 (z1 : Nat)) ∧ w'.cell? ⟨g2, o2 + k, none⟩ = some (.int .u8 (z2 : Nat))) (go_keep) (fail)
          go_wp2
          go_ret
          exact ⟨by rw [decide_eq_false HNE.out]; rfl, HO.out.drew⟩
      · obtain rfl : k = m := by omega
        have HE : Hid (A = B) := by
          have := HTK.out
          show _ = _
          rwa [List.take_of_length_le (by have := HM.out; omega), List.take_of_length_le (by have := HM.out; omega)] at this
        have HO : Hid (Only (fun _ => False) w wr) := ho
        clear ho
        go_wp2
        go_ret
        exact ⟨by rw [decide_eq_true HE.out]; rfl, HO.out⟩
  · have he : ((A.length : Int) != (B.length : Int)) = true := by simp; omega
    have HNE : Hid (A ≠ B) := fun e => hlen (by rw [e])
    obtain ⟨n1, hn1⟩ : ∃ n, n = A.length := ⟨_, rfl⟩
    obtain ⟨n2, hn2⟩ : ∃ n, n = B.length := ⟨_, rfl⟩
    rw [← hn1, ← hn2] at he
    rw [← hn1, ← hn2]
    clear h1 h2 f1 f2 hlen hn1 hn2
    go_enter Try.func8, Try.ntmps8
    go_wp2
    go_ret
    exact ⟨by rw [decide_eq_false HNE.out]; rfl, Only.refl _ _⟩
theorem same_any (v1 v2 : Value) (zs : List Nat) (w : World) (h1 : BytesAt w v1 zs) (h2 : BytesAt w v2 zs) :
    Calls Try.prog 8 #[v1, v2] w fun e w' => e = .returned (.bool true) ∧ Only (fun _ => False) w w' := by
  have := same_dec v1 v2 zs zs w h1 h2
  simpa using this
theorem info4 : (Try.prog.info? 4).map (fun i => (i.zero, i.size, i.bytes)) = some (some (.bool false), 1, 1) := by kernel_rfl
theorem empty24 (w : World) : (Instr.buildSlice 24 0 #[]).run Try.prog w = .ok (.slice (some ⟨w.heap.size, 0, none⟩) 0 0) (w.alloc (.cells #[] 4)) := by kernel_rfl
/-- append([]bool{}, v...). -/
theorem flags_copy {w : World} {v : Value} {F : List Bool} (h : FlagsAt w v F) :
    ∃ a cap w', (∀ ty, (Builtin.append_ #[24, 24] ty #[.slice (some ⟨w.heap.size, 0, none⟩) 0 0, v]).run Try.prog (w.alloc (.cells #[] 4)) = .ok (.slice a F.length cap) w') ∧ FlagsAt w' (.slice a F.length cap) F ∧ Only (fun _ => False) w w' := by
  obtain ⟨i0, hi0, hz0, hz1, hz2⟩ := info_parts info4
  obtain ⟨a, cap, w', hr, own, ho⟩ := app_copy 24 4 i0 _ 1 Try.underlying24 hi0 hz0 hz1 hz2 rfl rfl w v F.length _ h.1 (fun j => rfl) (by have := h.2; omega)
  exact ⟨a, cap, w', hr, ⟨rowAt_own own, h.2⟩, ho⟩
theorem i64_bounds {z : Int} (h : (Lit.int .i64 z).wf = true) : -9223372036854775808 ≤ z ∧ z ≤ 9223372036854775807 := by
  have h' : IntKind.i64.min ≤ z ∧ z ≤ IntKind.i64.max := by simpa [Lit.wf] using h
  exact h'
theorem Fresh.nil (w : World) (B : Nat) : Fresh w B (.slice none 0 0) [] := ⟨World.ownsRow_nil _ _ _ _, by simp, fun z h => by cases h⟩
theorem own_lt {w : World} {B : Nat} {v : Value} {zs : List Nat} (h : Fresh w B v zs) (b : Nat) (hb : v.ownBlock = some b) : B ≤ b ∧ b < w.heap.size := h.1.lt b hb
/-- append(v, u...) where v was made since B. -/
theorem app_fresh {w : World} {B : Nat} {v u : Value} {zs ys : List Nat} (h : Fresh w B v zs) (hu : BytesAt w u ys) (hB : B ≤ w.heap.size) (hl : zs.length + ys.length ≤ 140737488355328) :
    ∃ a cap w', (∀ ty, (Builtin.append_ #[23, 23] ty #[v, u]).run Try.prog w = .ok (.slice a (zs.length + ys.length) cap) w') ∧ Fresh w' B (.slice a (zs.length + ys.length) cap) (zs ++ ys) ∧ Only (fun i => B ≤ i) w w' := by
  obtain ⟨i0, hi0, hz0, hz1, hz2⟩ := info_parts info5
  rcases hu.1 with ⟨rfl, h0⟩ | ⟨ad, c, rfl, hkc, hc⟩
  · obtain rfl : ys = [] := List.eq_nil_of_length_eq_zero h0
    obtain ⟨a, cap, rfl⟩ := h.form
    refine ⟨a, cap, w, fun ty => run_append_owned_none _ B 23 ty 5 i0 1 Try.underlying23 hi0 _ zs.length (BL zs) h.1, by simpa using h, Only.refl _ _⟩
  · have hnews : ∀ j x, (BL ys)[j]? = some x → w.cell? (ad.add j) = some x := fun j x hx => by
      have hj : j < ys.length := by have := (List.getElem?_eq_some_iff.1 hx).1; rwa [BL_length] at this
      rw [hc j (by omega)]
      rw [BL_get _ _ hj] at hx
      rw [← hx]
      simp [List.getD, hj]
    have key := fun ty => run_append_own_at (P := Try.prog) w B 23 ty 5 i0 _ 1 1 Try.underlying23 hi0 hz0 hz1 hz2 rfl (by omega) v zs.length (BL zs) h.1 ad ys.length c (BL ys) (by rw [BL_length]; omega) hnews (BL_one ys) (by unfold maxLen; omega) (by omega) hB
    obtain ⟨v', w', hr, own', hg, _, _⟩ := key 0
    obtain ⟨a, cap, rfl⟩ := ownsRow_slice own'
    exact ⟨a, cap, w', fun ty => by rw [← hr]; rfl, Fresh.more own' hl h.2.2 hu.2.2, (Only.refl _ w).grown hg (fun k e hk => (own_lt h k e).1)⟩
theorem one_byte (w : World) (q : Nat) (hq : q < 256) : BytesAt (w.alloc (.cells #[.int .u8 (q : Int)] 5)) (.slice (some ⟨w.heap.size, 0, none⟩) 1 1) [q] := by
  refine ⟨.inr ⟨_, _, rfl, by simp, fun j hj => ?_⟩, by simp, by simpa using hq⟩
  have : j = 0 := by simp at hj; omega
  subst this
  rw [Addr.add_mid, cell_of_row _ _ _ _ _ _ (heap_alloc_new w _)]
  rfl
/-- append(v, q) where v was made since B. -/
theorem app_one {w : World} {B : Nat} {v : Value} {zs : List Nat} (h : Fresh w B v zs) (hB : B ≤ w.heap.size) (q : Nat) (hq : q < 256) (hl : zs.length + 1 ≤ 140737488355328) :
    ∃ a cap w', (∀ ty, (Builtin.append_ #[23, 23] ty #[v, .slice (some ⟨w.heap.size, 0, none⟩) 1 1]).run Try.prog (w.alloc (.cells #[.int .u8 (q : Int)] 5)) = .ok (.slice a (zs.length + 1) cap) w') ∧ Fresh w' B (.slice a (zs.length + 1) cap) (zs ++ [q]) ∧ Only (fun i => B ≤ i) w w' := by
  have o1 : Only (fun _ => False) w (w.alloc (.cells #[.int .u8 (q : Int)] 5)) := (Only.refl _ w).alloc _
  obtain ⟨a, cap, w', hr, hf, ho⟩ := app_fresh (h.frame o1) (one_byte w q hq) (by have := o1.size; omega) hl
  exact ⟨a, cap, w', hr, hf, (o1.mono (fun _ _ e => e.elim)).trans ho (fun _ _ e => e)⟩

theorem u32_bounds {z : Int} (h : (Lit.int .u32 z).wf = true) : 0 ≤ z ∧ z ≤ 4294967295 := by
  have h' : IntKind.u32.min ≤ z ∧ z ≤ IntKind.u32.max := by simpa [Lit.wf] using h
  exact h'
end Go.Proofs.Ytdcflnfdaijpdab
