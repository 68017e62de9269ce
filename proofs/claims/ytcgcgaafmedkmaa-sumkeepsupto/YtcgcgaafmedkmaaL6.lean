/- What the document's Split answers. -/
import Derived.Test.YtcgcgaafmedkmaaL5
namespace Go.Proofs.Ytcgcgaafmedkmaa
open Go.RowKit
set_option linter.unusedSimpArgs false
set_option linter.unusedVariables false

/-- A cut out of bytes. -/
theorem BytesAt.cut {w : World} {g o n c q s : Nat} {zs : List Nat} (h : BytesAt w (.slice (some ⟨g, o, none⟩) n c) zs) (hq : q + s ≤ n) (d : Nat) (hd : s ≤ d) : BytesAt w (.slice (some ⟨g, o + q, none⟩) s d) ((zs.drop q).take s) := by
  rcases h.1 with ⟨hv, _⟩ | ⟨ad, c', hv, hkc, hc⟩
  · simp at hv
  · simp only [Value.slice.injEq, Option.some.injEq] at hv
    obtain ⟨rfl, rfl, rfl⟩ := hv
    have e : ((zs.drop q).take s).length = s := by rw [List.length_take, List.length_drop]; omega
    refine ⟨.inr ⟨_, d, by rw [e], by rw [e]; exact hd, fun j hj => ?_⟩, by rw [e]; have := h.2.1; omega, fun z hz => h.2.2 z (List.mem_of_mem_drop (List.mem_of_mem_take hz))⟩
    rw [e] at hj
    have := hc (q + j) (by omega)
    rw [Addr.add_mid] at this
    rw [Addr.add_mid, Nat.add_assoc, this]
    have h1 : q + j < zs.length := by omega
    have h2 : j < s := by omega
    simp [List.getD, List.getElem?_take_of_lt h2, h1]
theorem BytesAt.none_cut {w : World} {a : Addr} {zs : List Nat} (d : Nat) : BytesAt w (.slice (some a) 0 d) ((zs.drop zs.length).take 0) :=
  ⟨.inr ⟨a, d, by simp, by simp, fun j hj => by simp at hj⟩, by simp, fun z hz => by simp at hz⟩

set_option maxRecDepth 100000 in
set_option maxHeartbeats 4000000 in
theorem rsplit_any (v : Value) (zs : List Nat) (w : World) (h : BytesAt w v zs) (hz : zs.length ≤ 20000000) :
    Calls Try.prog 22 #[v] w fun e w' => SplitIs (split zs) w.heap.size e w' ∧ Only (fun _ => False) w w' := by
  obtain ⟨i0, hi0, hz0, hz1, hz2⟩ := info_parts info22
  obtain ⟨i5, hi5, hz50, hz51, hz52⟩ := info_parts info5
  have HBY : Hid (BytesAt w v zs) := h
  obtain ⟨a, c, rfl, hcap, hcl⟩ := h.form
  have HCL : Hid _ := hcl
  obtain ⟨n, hn⟩ : ∃ n, n = zs.length := ⟨_, rfl⟩
  have HN : Hid (n = zs.length) := hn
  rw [← hn]
  rw [← hn] at hz HBY hcap
  cases hr : rd zs 0 0 0 with
  | none =>
    have HC := rread_none h (Nat.zero_le _) hr
    rw [← hn] at HC
    have HS : Hid (split zs = none) := by show _ = _; simp only [split, hr]
    clear h hcl hn hr HCL
    go_enter Try.func22, Try.ntmps22
    go_wp2_with fail
    refine HC.mono ?_
    rintro e w1 ⟨rfl, rfl⟩
    clear HC
    go_wp2
    go_ret2
    exact ⟨.inr ⟨HS.out, rfl⟩, Only.refl _ _⟩
  | some x =>
    obtain ⟨cnt, p0⟩ := x
    have HC := rread_some h (Nat.zero_le _) hr
    rw [← hn] at HC
    have HS : Hid (rest zs [] cnt p0 = split zs) := by show _ = _; rw [rest_start]; simp only [split, hr]
    obtain ⟨r1, r2, r3⟩ := rd_ok hr
    rw [← hn] at r3
    clear h hcl hn hr
    by_cases hbig : n < cnt
    · have c1 : (n : Int) < (cnt : Int) := by omega
      have HS2 : Hid (split zs = none) := by
        show _ = _
        rw [← HS.out, rest_start]
        cases h1 : splitAt zs cnt p0 with
        | none => rfl
        | some L => have := splitAt_le cnt p0 h1; have := HN.out; omega
      clear HCL
      go_enter Try.func22, Try.ntmps22
      go_wp2_with fail
      refine HC.mono ?_
      rintro e w1 ⟨rfl, rfl⟩
      clear HC
      go_wp2
      go_ret2
      exact ⟨.inr ⟨HS2.out, rfl⟩, Only.refl _ _⟩
    · have c1 : ¬ (n : Int) < (cnt : Int) := by omega
      have ci : IntKind.i64.wrap (cnt : Int) = (cnt : Int) := by rw [IntKind.wrap_i64]; omega
      have hem := empty22
      go_enter Try.func22, Try.ntmps22
      go_wp2_with fail
      refine HC.mono ?_
      rintro e w1 ⟨rfl, hw1⟩
      have hw1' := hw1.symm
      clear hw1
      subst hw1'
      clear HC
      go_wp2_with fail
      go_loopw [5, 7, 8] (fun t b d wr => ∃ (k p : Nat) (A : List (List Nat)) (us : List Value), k ≤ cnt ∧ p ≤ n ∧ A.length ≤ p ∧ t = .int .i64 p ∧ d = .int .i64 k ∧ FL wr w.heap.size b us A ∧ rest zs A (cnt - k) p = split zs ∧ Only (fun _ => False) w wr) (fun _ _ d _ => cnt - (intOf d).toNat)
      case atStart => exact ⟨0, p0, [], [], Nat.zero_le _, r3, Nat.zero_le _, rfl, rfl, FL.nil _ _, HS.out, Only.refl _ _⟩
      case round =>
        obtain ⟨k, p, A, us, hk, hp, hAp, rfl, rfl, hfl, hrest, ho⟩ := hrel
        obtain ⟨w2, rfl⟩ : ∃ w2, w2 = wr := ⟨_, rfl⟩
        obtain ⟨b, rfl⟩ : ∃ x, x = u7 := ⟨_, rfl⟩
        have HF : Hid (FL w2 w.heap.size b us A) := hfl
        have HR : Hid (rest zs A (cnt - k) p = split zs) := hrest
        have HO2 : Hid (Only (fun _ => False) w w2) := ho
        have hb2 := HBY.out.frame ho
        clear hfl hrest ho
        by_cases hlt : k < cnt
        · have k0 : (0 : Int) ≤ (k : Int) := by omega
          have k1 : (k : Int) < (cnt : Int) := by omega
          have HCK : Hid (cnt - k = (cnt - (k + 1)) + 1) := by show _ = _; omega
          cases hr : rd zs p 0 0 with
          | none =>
            have HC := rread_none hb2 (by have := HN.out; omega) hr
            have HS2 : Hid (split zs = none) := by show _ = _; rw [← HR.out, HCK.out, rest_none hr]
            clear hb2 hr
            go_wp2_with fail
            refine HC.mono ?_
            rintro e w3 ⟨rfl, rfl⟩
            clear HC
            go_wp2
            go_ret2
            exact ⟨.inr ⟨HS2.out, rfl⟩, HO2.out⟩
          | some x =>
            obtain ⟨s, q⟩ := x
            obtain ⟨t1, t2, t3⟩ := rd_ok hr
            have t3' : q ≤ n := by have := HN.out; omega
            have e1 : IntKind.i64.wrap ((n : Int) - (q : Int)) = (n : Int) - (q : Int) := by rw [IntKind.wrap_i64]; omega
            have e2 : IntKind.u64.wrap ((n : Int) - (q : Int)) = (n : Int) - (q : Int) := by simp [IntKind.wrap, IntKind.bits, IntKind.signed]; omega
            have HC := rread_some hb2 (by have := HN.out; omega) hr
            by_cases hlg : zs.length - q < s
            · have HS2 : Hid (split zs = none) := by show _ = _; rw [← HR.out, HCK.out, rest_large hr hlg]
              have e3 : (n : Int) - (q : Int) < (s : Int) := by have := HN.out; omega
              clear hb2 hr hlg
              go_wp2_with fail
              refine HC.mono ?_
              rintro e w3 ⟨rfl, rfl⟩
              clear HC
              go_wp2
              go_ret2
              exact ⟨.inr ⟨HS2.out, rfl⟩, HO2.out⟩
            · have HR2 : Hid (rest zs (A ++ [(zs.drop q).take s]) (cnt - (k + 1)) (q + s) = split zs) := by show _ = _; rw [← HR.out, HCK.out, rest_more hr hlg]
              have hqs : q + s ≤ n := by have := HN.out; omega
              have e3 : ¬ (n : Int) - (q : Int) < (s : Int) := by omega
              have e4 : IntKind.i64.wrap (s : Int) = (s : Int) := by rw [IntKind.wrap_i64]; omega
              have e5 : IntKind.i64.wrap ((q : Int) + (s : Int)) = (q : Int) + (s : Int) := by rw [IntKind.wrap_i64]; omega
              have e6 : ((q : Int) + (s : Int)).toNat = q + s := by omega
              have e7 : (q : Int) + (s : Int) ≤ (c : Int) := by omega
              have e8 : (q : Int) ≤ (q : Int) + (s : Int) := by omega
              have e9 : (0 : Int) ≤ (q : Int) := by omega
              obtain ⟨g0, o0, rfl, _⟩ := HCL.out 0 (by have := HN.out; omega)
              have HLS : Hid (((zs.drop q).take s).length = s) := by show _ = _; rw [List.length_take, List.length_drop]; have := HN.out; omega
              clear hr t3 hlg
              go_wp2_with fail
              refine HC.mono ?_
              rintro e w3 ⟨rfl, hw3⟩
              have hw3' := hw3.symm
              clear hw3
              subst hw3'
              clear HC
              have KEY : Hid (∀ V, BytesAt w2 V ((zs.drop q).take s) → ∃ a2 cap w3, (∀ ty, (Builtin.append_ #[22, 22] ty #[.slice (some ⟨w2.heap.size, 0, none⟩) 0 0, V]).run Try.prog (w2.alloc (.cells #[] 5)) = .ok (.slice a2 s cap) w3) ∧ Fresh w3 w2.heap.size (.slice a2 s cap) ((zs.drop q).take s) ∧ Only (fun _ => False) w2 w3) := fun V hV => by
                obtain ⟨a2, cap, w3, hr2, own, ho3⟩ := app_copy 22 5 i5 _ 1 Try.underlying22 hi5 hz50 hz51 hz52 rfl rfl w2 V ((zs.drop q).take s).length _ hV.1 (fun j => rfl) hV.2.1
                rw [← BL_getD] at own
                have hf2 : Fresh w3 w2.heap.size (.slice a2 ((zs.drop q).take s).length cap) ((zs.drop q).take s) := ⟨own, hV.2⟩
                rw [HLS.out] at hr2 hf2
                exact ⟨a2, cap, w3, hr2, hf2, ho3⟩
              by_cases hcq : c = q
              · have HS0 : Hid (s = 0) := by show _ = _; omega
                have hqq : c - q = 0 := by omega
                have HCQ : Hid (c = q) := hcq
                have hcq2 : (c = q) = True := by simp [hcq]
                clear hcq
                obtain ⟨a2, c2, w3, hr2, hf2, ho3⟩ := KEY.out (.slice (some ⟨g0, o0, none⟩) s 0) (by rw [HS0.out, show q = zs.length by have := HN.out; omega]; exact BytesAt.none_cut 0)
                have HR3 : Hid _ := hr2
                have HFR : Hid (Fresh w3 w2.heap.size (.slice a2 s c2) ((zs.drop q).take s)) := hf2
                have HO3 : Hid (Only (fun _ => False) w w3) := HO2.out.trans ho3 (fun _ _ e => e)
                have hs : w.heap.size ≤ w2.heap.size := HO2.out.size
                have hs3 : w2.heap.size ≤ w3.heap.size := ho3.size
                have oA : Only (fun _ => False) w3 (w3.alloc (.cells #[.slice a2 s c2] 22)) := (Only.refl _ w3).alloc _
                have HF3 : Hid (FL w3 w.heap.size b us A) := HF.out.frame ho3
                have hF4 : FL (w3.alloc (.cells #[.slice a2 s c2] 22)) w.heap.size b us A := HF3.out.frame oA
                have HF4 : Hid (FL (w3.alloc (.cells #[.slice a2 s c2] 22)) w.heap.size b us A) := hF4
                have HFR4 : Hid (Fresh (w3.alloc (.cells #[.slice a2 s c2] 22)) w.heap.size (.slice a2 s c2) ((zs.drop q).take s)) := (hf2.frame oA).low hs
                have hown := hF4.own
                have hnews : ∀ j x, [Value.slice a2 s c2][j]? = some x → (w3.alloc (.cells #[.slice a2 s c2] 22)).cell? ((⟨w3.heap.size, 0, none⟩ : Addr).add j) = some x := World.news_of_block (heap_alloc_new w3 _)
                have HNW : Hid _ := hnews
                clear hf2 ho3 hnews oA hF4 hr2 hb2
                go_wp2_with (at_builtin; first
                  | (refine wpList_append_run rfl _ _ 22 rfl _ _ (.slice a2 s c2) rfl rfl HR3.out ?_)
                  | (refine wpList_append_own_at _ rfl _ _ 34 rfl w.heap.size 22 i0 _ 1 24 Try.underlying34 hi0 hz0 hz1 hz2 rfl (by omega) _ A.length _ rfl hown ⟨w3.heap.size, 0, none⟩ 1 1 [.slice a2 s c2] rfl rfl HNW.out (by simp [Value.oneCell']) (by unfold maxLen; omega) (by omega) (by simp; omega) ?_; intro v' w5 own5 hg5 _ hb5))
                have HFL : Hid (FL w5 w.heap.size v' (us ++ [.slice a2 s c2]) (A ++ [(zs.drop q).take s])) :=
                  FL.more HF4.out HFR4.out (fun j b hj hb hb2 => by
                    have h1 := (own_lt (HF.out.at_ j hj) b hb).2
                    have h2 := (own_lt HFR.out b hb2).1
                    omega) own5 hg5
                have HO5 : Hid (Only (fun _ => False) w w5) := (HO3.out.alloc _).grown hg5 (fun q e hq => by have := (World.ownsRow.lt HF3.out.own q e).1; omega)
                clear own5 hg5 hb5 hown HF4 HFR4 HF3 HFR HF HNW
                go_wp2
                go_roundw
                case rel => exact ⟨k + 1, q + s, A ++ [(zs.drop q).take s], _, by omega, by omega, by simp; omega, by first | rfl | go_num, by go_num, HFL.out, HR2.out, HO5.out⟩
                case measure => simp [intOf]; omega
              · have hcq' : ¬ c = q := hcq
                obtain ⟨a2, c2, w3, hr2, hf2, ho3⟩ := KEY.out (.slice (some ⟨g0, o0 + q, none⟩) s (c - q)) (BytesAt.cut hb2 hqs (c - q) (by omega))
                have HR3 : Hid _ := hr2
                have HFR : Hid (Fresh w3 w2.heap.size (.slice a2 s c2) ((zs.drop q).take s)) := hf2
                have HO3 : Hid (Only (fun _ => False) w w3) := HO2.out.trans ho3 (fun _ _ e => e)
                have hs : w.heap.size ≤ w2.heap.size := HO2.out.size
                have hs3 : w2.heap.size ≤ w3.heap.size := ho3.size
                have oA : Only (fun _ => False) w3 (w3.alloc (.cells #[.slice a2 s c2] 22)) := (Only.refl _ w3).alloc _
                have HF3 : Hid (FL w3 w.heap.size b us A) := HF.out.frame ho3
                have hF4 : FL (w3.alloc (.cells #[.slice a2 s c2] 22)) w.heap.size b us A := HF3.out.frame oA
                have HF4 : Hid (FL (w3.alloc (.cells #[.slice a2 s c2] 22)) w.heap.size b us A) := hF4
                have HFR4 : Hid (Fresh (w3.alloc (.cells #[.slice a2 s c2] 22)) w.heap.size (.slice a2 s c2) ((zs.drop q).take s)) := (hf2.frame oA).low hs
                have hown := hF4.own
                have hnews : ∀ j x, [Value.slice a2 s c2][j]? = some x → (w3.alloc (.cells #[.slice a2 s c2] 22)).cell? ((⟨w3.heap.size, 0, none⟩ : Addr).add j) = some x := World.news_of_block (heap_alloc_new w3 _)
                have HNW : Hid _ := hnews
                clear hf2 ho3 hnews oA hF4 hr2 hb2
                go_wp2_with (at_builtin; first
                  | (refine wpList_append_run rfl _ _ 22 rfl _ _ (.slice a2 s c2) rfl rfl HR3.out ?_)
                  | (refine wpList_append_own_at _ rfl _ _ 34 rfl w.heap.size 22 i0 _ 1 24 Try.underlying34 hi0 hz0 hz1 hz2 rfl (by omega) _ A.length _ rfl hown ⟨w3.heap.size, 0, none⟩ 1 1 [.slice a2 s c2] rfl rfl HNW.out (by simp [Value.oneCell']) (by unfold maxLen; omega) (by omega) (by simp; omega) ?_; intro v' w5 own5 hg5 _ hb5))
                have HFL : Hid (FL w5 w.heap.size v' (us ++ [.slice a2 s c2]) (A ++ [(zs.drop q).take s])) :=
                  FL.more HF4.out HFR4.out (fun j b hj hb hb2 => by
                    have h1 := (own_lt (HF.out.at_ j hj) b hb).2
                    have h2 := (own_lt HFR.out b hb2).1
                    omega) own5 hg5
                have HO5 : Hid (Only (fun _ => False) w w5) := (HO3.out.alloc _).grown hg5 (fun q e hq => by have := (World.ownsRow.lt HF3.out.own q e).1; omega)
                clear own5 hg5 hb5 hown HF4 HFR4 HF3 HFR HF HNW
                go_wp2
                go_roundw
                case rel => exact ⟨k + 1, q + s, A ++ [(zs.drop q).take s], _, by omega, by omega, by simp; omega, by first | rfl | go_num, by go_num, HFL.out, HR2.out, HO5.out⟩
                case measure => simp [intOf]; omega
        · obtain rfl : k = cnt := by omega
          clear hb2
          by_cases hpn : p = n
          · have hb3 : ((p : Int) != (n : Int)) = false := by simp; omega
            have HS2 : Hid (split zs = some A) := by
              show _ = _
              have h1 := HR.out
              rw [Nat.sub_self, hpn, HN.out, rest_end] at h1
              exact h1.symm
            have HPN : Hid (p = n) := hpn
            clear hpn
            go_wp2
            go_ret2
            exact ⟨.inl ⟨A, b, us, HS2.out, rfl, HF.out⟩, HO2.out⟩
          · have hb3 : ((p : Int) != (n : Int)) = true := by simp; omega
            have HS2 : Hid (split zs = none) := by
              show _ = _
              have h1 := HR.out
              rw [Nat.sub_self, rest_over (by have := HN.out; omega)] at h1
              exact h1.symm
            go_wp2
            go_ret2
            exact ⟨.inr ⟨HS2.out, rfl⟩, HO2.out⟩
end Go.Proofs.Ytcgcgaafmedkmaa
