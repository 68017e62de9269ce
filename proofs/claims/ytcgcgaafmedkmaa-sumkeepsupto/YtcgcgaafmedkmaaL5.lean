/- What Split answers. -/
import Derived.Test.YtcgcgaafmedkmaaL4
namespace Go.Proofs.Ytcgcgaafmedkmaa
open Go.RowKit
set_option linter.unusedSimpArgs false
set_option linter.unusedVariables false

/-- What Split answers. -/
def SplitIs (r : Option (List (List Nat))) (B : Nat) (e : Ending) (w' : World) : Prop :=
  (∃ L u us, r = some L ∧ e = .returned (.tuple #[u, .int .i64 0]) ∧ FL w' B u us L) ∨ (r = none ∧ e = .returned (.tuple #[.slice none 0 0, .int .i64 9]))

set_option maxRecDepth 100000 in
set_option maxHeartbeats 4000000 in
theorem split_any (v : Value) (zs : List Nat) (w : World) (h : BytesAt w v zs) (hz : zs.length ≤ 20000000) :
    Calls Try.prog 21 #[v] w fun e w' => SplitIs (split zs) w.heap.size e w' ∧ Only (fun _ => False) w w' := by
  obtain ⟨i0, hi0, hz0, hz1, hz2⟩ := info_parts info22
  have HBY : Hid (BytesAt w v zs) := h
  obtain ⟨a, c, rfl, hcap, hcl⟩ := h.form
  obtain ⟨n, hn⟩ : ∃ n, n = zs.length := ⟨_, rfl⟩
  have HN : Hid (n = zs.length) := hn
  rw [← hn]
  rw [← hn] at hz HBY
  cases hr : rd zs 0 0 0 with
  | none =>
    have HC := read_none h (Nat.zero_le _) hr
    rw [← hn] at HC
    have HS : Hid (split zs = none) := by show _ = _; simp only [split, hr]
    clear h hcap hcl hn hr
    go_enter Try.func21, Try.ntmps21
    go_wp2_with fail
    refine HC.mono ?_
    rintro e w1 ⟨rfl, ho⟩
    have HO : Hid (Only (fun _ => False) w w1) := ho
    clear HC ho
    go_wp2
    go_ret2
    exact ⟨.inr ⟨HS.out, rfl⟩, HO.out⟩
  | some x =>
    obtain ⟨cnt, p0⟩ := x
    have HC := read_some h (Nat.zero_le _) hr
    rw [← hn] at HC
    have HS : Hid (rest zs [] cnt p0 = split zs) := by show _ = _; rw [rest_start]; simp only [split, hr]
    obtain ⟨r1, r2, r3⟩ := rd_ok hr
    rw [← hn] at r3
    clear h hcap hcl hn hr
    go_enter Try.func21, Try.ntmps21
    go_wp2_with fail
    refine HC.mono ?_
    rintro e w1 ⟨rfl, ho⟩
    have HO : Hid (Only (fun _ => False) w w1) := ho
    clear HC ho
    go_wp2_with fail
    go_loopw [5, 7, 20] (fun t b d wr => ∃ (k p : Nat) (A : List (List Nat)) (us : List Value), k ≤ cnt ∧ p ≤ n ∧ A.length ≤ p ∧ t = .int .i64 p ∧ d = .int .u64 k ∧ FL wr w.heap.size b us A ∧ rest zs A (cnt - k) p = split zs ∧ Only (fun _ => False) w wr) (fun _ _ d _ => cnt - (intOf d).toNat)
    case atStart => exact ⟨0, p0, [], [], Nat.zero_le _, r3, Nat.zero_le _, rfl, rfl, FL.nil _ _, HS.out, HO.out⟩
    case round =>
      obtain ⟨k, p, A, us, hk, hp, hAp, rfl, rfl, hfl, hrest, ho⟩ := hrel
      obtain ⟨w2, rfl⟩ : ∃ w2, w2 = wr := ⟨_, rfl⟩
      obtain ⟨b, rfl⟩ : ∃ x, x = u7 := ⟨_, rfl⟩
      have HF : Hid (FL w2 w.heap.size b us A) := hfl
      have HR : Hid (rest zs A (cnt - k) p = split zs) := hrest
      have HO2 : Hid (Only (fun _ => False) w w2) := ho
      have hb2 := HBY.out.frame ho
      clear hfl hrest ho
      by_cases hlt : k < cnt
      · have k0 : (0 : Int) ≤ (k : Int) := by omega
        have k1 : (k : Int) < (cnt : Int) := by omega
        have HCK : Hid (cnt - k = (cnt - (k + 1)) + 1) := by show _ = _; omega
        cases hr : rd zs p 0 0 with
        | none =>
          have HC := part_none hb2 (by have := HN.out; omega) hr
          have HS2 : Hid (split zs = none) := by show _ = _; rw [← HR.out, HCK.out, rest_none hr]
          clear hb2 hr
          go_wp2_with fail
          refine HC.mono ?_
          rintro e w3 ⟨rfl, ho⟩
          have HO3 : Hid (Only (fun _ => False) w w3) := HO2.out.trans ho (fun _ _ e => e)
          clear HC ho
          go_wp2
          go_ret2
          exact ⟨.inr ⟨HS2.out, rfl⟩, HO3.out⟩
        | some x =>
          obtain ⟨s, q⟩ := x
          obtain ⟨t1, t2, t3⟩ := rd_ok hr
          have t3' : q ≤ n := by have := HN.out; omega
          by_cases hlg : zs.length - q < s
          · have HC := part_large hb2 (by have := HN.out; omega) hr hlg
            have HS2 : Hid (split zs = none) := by show _ = _; rw [← HR.out, HCK.out, rest_large hr hlg]
            clear hb2 hr
            go_wp2_with fail
            refine HC.mono ?_
            rintro e w3 ⟨rfl, ho⟩
            have HO3 : Hid (Only (fun _ => False) w w3) := HO2.out.trans ho (fun _ _ e => e)
            clear HC ho
            go_wp2
            go_ret2
            exact ⟨.inr ⟨HS2.out, rfl⟩, HO3.out⟩
          · have HC := part_ok hb2 (by have := HN.out; omega) hr hlg
            have HR2 : Hid (rest zs (A ++ [(zs.drop q).take s]) (cnt - (k + 1)) (q + s) = split zs) := by show _ = _; rw [← HR.out, HCK.out, rest_more hr hlg]
            have hqs : q + s ≤ n := by have := HN.out; omega
            clear hb2 hr t3
            go_wp2_with fail
            refine HC.mono ?_
            rintro e w3 ⟨u, rfl, hfr, ho⟩
            obtain ⟨a2, c2, hu⟩ := hfr.form
            obtain ⟨m2, hm2⟩ : ∃ m, m = ((zs.drop q).take s).length := ⟨_, rfl⟩
            rw [← hm2] at hu
            subst hu
            have HFR : Hid (Fresh w3 w2.heap.size (.slice a2 m2 c2) ((zs.drop q).take s)) := hfr
            have HO3 : Hid (Only (fun _ => False) w w3) := HO2.out.trans ho (fun _ _ e => e)
            have hs : w.heap.size ≤ w2.heap.size := HO2.out.size
            have hs3 : w2.heap.size ≤ w3.heap.size := ho.size
            have oA : Only (fun _ => False) w3 (w3.alloc (.cells #[.slice a2 m2 c2] 22)) := (Only.refl _ w3).alloc _
            have HF3 : Hid (FL w3 w.heap.size b us A) := HF.out.frame ho
            have hF4 : FL (w3.alloc (.cells #[.slice a2 m2 c2] 22)) w.heap.size b us A := HF3.out.frame oA
            have HF4 : Hid (FL (w3.alloc (.cells #[.slice a2 m2 c2] 22)) w.heap.size b us A) := hF4
            have HFR4 : Hid (Fresh (w3.alloc (.cells #[.slice a2 m2 c2] 22)) w.heap.size (.slice a2 m2 c2) ((zs.drop q).take s)) := (hfr.frame oA).low hs
            have hown := hF4.own
            have hnews : ∀ j x, [Value.slice a2 m2 c2][j]? = some x → (w3.alloc (.cells #[.slice a2 m2 c2] 22)).cell? ((⟨w3.heap.size, 0, none⟩ : Addr).add j) = some x := World.news_of_block (heap_alloc_new w3 _)
            have HNW : Hid _ := hnews
            clear hfr ho hnews oA hF4 hm2 HC
            go_wp2_with (at_builtin; go_must (refine wpList_append_own_at _ rfl _ _ 34 rfl w.heap.size 22 i0 _ 1 24 Try.underlying34 hi0 hz0 hz1 hz2 rfl (by omega) _ A.length _ rfl hown ⟨w3.heap.size, 0, none⟩ 1 1 [.slice a2 m2 c2] rfl rfl HNW.out (by simp [Value.oneCell']) (by unfold maxLen; omega) (by omega) (by simp; omega) ?_); intro v' w5 own5 hg5 _ hb5)
            have HFL : Hid (FL w5 w.heap.size v' (us ++ [.slice a2 m2 c2]) (A ++ [(zs.drop q).take s])) :=
              FL.more HF4.out HFR4.out (fun j b hj hb hb2 => by
                have h1 := (own_lt (HF.out.at_ j hj) b hb).2
                have h2 := (own_lt HFR.out b hb2).1
                omega) own5 hg5
            have HO5 : Hid (Only (fun _ => False) w w5) := (HO3.out.alloc _).grown hg5 (fun q e hq => by have := (World.ownsRow.lt HF3.out.own q e).1; omega)
            clear own5 hg5 hb5 hown HF4 HFR4 HF3 HFR HF HNW
            go_wp2
            go_roundw
            case rel => exact ⟨k + 1, q + s, A ++ [(zs.drop q).take s], _, by omega, by omega, by simp; omega, rfl, by go_num, HFL.out, HR2.out, HO5.out⟩
            case measure => simp [intOf]; omega
      · obtain rfl : k = cnt := by omega
        clear hb2
        by_cases hpn : p = n
        · have hb : ((p : Int) == (n : Int)) = true := by simp; omega
          have hb3 : ((p : Int) != (n : Int)) = false := by simp; omega
          have HS2 : Hid (split zs = some A) := by
            show _ = _
            have h1 := HR.out
            rw [Nat.sub_self, hpn, HN.out, rest_end] at h1
            exact h1.symm
          have HPN : Hid (p = n) := hpn
          clear hpn
          go_wp2
          go_ret2
          exact ⟨.inl ⟨A, b, us, HS2.out, rfl, HF.out⟩, HO2.out⟩
        · have hb3 : ((p : Int) != (n : Int)) = true := by simp; omega
          have HS2 : Hid (split zs = none) := by
            show _ = _
            have h1 := HR.out
            rw [Nat.sub_self, rest_over (by have := HN.out; omega)] at h1
            exact h1.symm
          go_wp2
          go_ret2
          exact ⟨.inr ⟨HS2.out, rfl⟩, HO2.out⟩
end Go.Proofs.Ytcgcgaafmedkmaa
