/- The walk of SumBack. -/
import Derived.Test.YtcgcgaafmedkmaaBk
import Derived.Test.YtcgcgaafmedkmaaLists
import Derived.Test.YtcgcgaafmedkmaaPlays
namespace Go.Proofs.Ytcgcgaafmedkmaa
open Go.RowKit
set_option linter.unusedSimpArgs false
set_option linter.unusedVariables false

theorem u16_bounds {z : Int} (h : (Lit.int .u16 z).wf = true) : 0 ≤ z ∧ z ≤ 65535 := by
  have h' : IntKind.u16.min ≤ z ∧ z ≤ IntKind.u16.max := by simpa [Lit.wf] using h
  exact h'
theorem split_yes {r : Option (List (List Nat))} {B : Nat} {e : Ending} {w : World} {L : List (List Nat)} (h : SplitIs r B e w) (hr : r = some L) : ∃ u us, e = .returned (.tuple #[u, .int .i64 0]) ∧ FL w B u us L := by
  rcases h with ⟨M, u, us, h1, h2, h3⟩ | ⟨h1, _⟩
  · rw [hr] at h1; cases h1; exact ⟨u, us, h2, h3⟩
  · rw [hr] at h1; cases h1
theorem split_no {r : Option (List (List Nat))} {B : Nat} {e : Ending} {w : World} (h : SplitIs r B e w) (hr : r = none) : e = .returned (.tuple #[.slice none 0 0, .int .i64 9]) := by
  rcases h with ⟨M, u, us, h1, h2, h3⟩ | ⟨h1, h2⟩
  · rw [hr] at h1; cases h1
  · exact h2
theorem zero_bytes (w : World) : BytesAt (w.alloc (.cells #[.int .u8 0] 5)) (.slice (some ⟨w.heap.size, 0, none⟩) 1 1) [0] := by
  refine ⟨.inr ⟨_, _, rfl, by simp, fun j hj => ?_⟩, by simp, by simp⟩
  have : j = 0 := by simp at hj; omega
  subst this
  rw [Addr.add_mid, cell_of_row _ _ _ _ _ _ (heap_alloc_new w _)]
  rfl
theorem parts_ge (L : List (List Nat)) : total L + L.length ≤ (parts L).length := by
  induction L with
  | nil => simp [parts, total]
  | cons z r ih =>
    have h1 := num_pos z.length
    simp only [parts, total, List.flatMap_cons, List.length_append, List.map_cons, List.sum_cons, List.length_cons] at ih ⊢
    omega
theorem join_ge (L : List (List Nat)) : total L + L.length + 1 ≤ (join L).length := by
  have h1 := parts_ge L
  have h2 := num_pos L.length
  unfold join
  rw [List.length_append]
  omega
theorem join_le (L : List (List Nat)) (hl : L.length ≤ 1048576) (ht : total L ≤ 1048576) (hb : ∀ z ∈ L, z.length ≤ 140737488355328) : (join L).length ≤ 11000000 := by
  have h1 := parts_len L (fun z hz => by have := hb z hz; omega)
  have h2 := num_nine (n := L.length) (by omega)
  unfold join
  rw [List.length_append]
  omega

set_option maxRecDepth 100000 in
set_option maxHeartbeats 4000000 in
theorem back_any (vb vl : Value) (n cut : Int) (Z : List Nat) (L : List (List Nat)) (w : World) (hb : BytesAt w vb Z) (hz : Z.length ≤ 1048576) (hn : (Lit.int .u64 n).wf = true) (hl : ListsIn w vl L) (hc : (Lit.int .u16 cut).wf = true) :
    Calls Try.prog 5 #[vb, .int .u64 n, vl, .int .u16 cut] w fun e w' => e = .returned (.bool true) ∧ Below w.heap.size w w' := by
  have hn2 := u64_bounds hn
  have hc2 := u16_bounds hc
  obtain ⟨X, rfl⟩ : ∃ X : Nat, n = X := ⟨n.toNat, by omega⟩
  obtain ⟨C, rfl⟩ : ∃ C : Nat, cut = C := ⟨cut.toNat, by omega⟩
  obtain ⟨hl, hl1, hl2⟩ := hl
  have hX : X < 18446744073709551616 := by omega
  have hC : C ≤ 65535 := by omega
  obtain ⟨N, hN⟩ : ∃ N, N = X % 9223372036854775808 := ⟨_, rfl⟩
  have hNi : (X : Int) % 9223372036854775808 = (N : Int) := by omega
  have hN2 : N < 9223372036854775808 := by omega
  have HN : Hid (N = X % 9223372036854775808) := hN
  have HNI : Hid ((X : Int) % 9223372036854775808 = (N : Int)) := hNi
  have HL : Hid (LL w vl L) := hl
  have HBY : Hid (∀ z ∈ L, (∀ y ∈ z, y < 256) ∧ z.length ≤ 140737488355328) := hl.byte
  have HB : Hid (BytesAt w vb Z) := hb
  obtain ⟨ab, cb, hvb, _, _⟩ := hb.form
  obtain ⟨zl, hzl⟩ : ∃ z, z = Z.length := ⟨_, rfl⟩
  rw [← hzl] at hvb
  have HZL : Hid (zl = Z.length) := hzl
  have hzl2 : zl ≤ 1048576 := by omega
  subst hvb
  clear hn hc hn2 hc2 hl hb hN hzl hz
  go_enter Try.func5, Try.ntmps5
  go_wp2_with fail
  refine (awake_any w).mono ?_
  rintro e w1 ⟨rfl, ho⟩
  have O1 : Hid (Only (fun _ => False) w w1) := ho
  clear ho hNi
  go_wp2_with fail
  refine (own_any _ Z w1 (HB.out.frame O1.out)).mono ?_
  rintro e w2 ⟨u1, rfl, hf1, ho⟩
  have O2 : Hid (Only (fun _ => False) w w2) := O1.out.trans ho (fun _ _ e => e)
  have HF1 : Hid (Fresh w2 w1.heap.size u1 Z) := hf1
  have HS1 : Hid (w1.heap.size ≤ w2.heap.size ∧ w.heap.size ≤ w1.heap.size) := ⟨ho.size, O1.out.size⟩
  clear ho O1 hf1
  go_wp2_with fail
  refine (number_any X w2 hX).mono ?_
  rintro e w3 ⟨u2, rfl, hf2, ho⟩
  have O3 : Only (fun _ => False) w w3 := O2.out.trans ho (fun _ _ e => e)
  rw [← HN.out] at hf2
  have h9 := num_nine hN2
  have hzle := HZL.out
  obtain ⟨a4, c4, w4, hr4, hf4, hg4⟩ := app_fresh (Fresh.frame HF1.out ho) hf2.bytes (by have := HS1.out.1; have := ho.size; omega) (by omega)
  have O4 : Hid (Only (fun _ => False) w w4) := O3.grown hg4 (fun q e hq => by have h1 := (own_lt HF1.out q e).1; have h2 := HS1.out.2; omega)
  obtain ⟨nl, hnl⟩ : ∃ x, x = (num N).length := ⟨_, rfl⟩
  rw [← hnl] at h9
  rw [← HZL.out, ← hnl] at hr4 hf4
  have HNL : Hid (nl = (num N).length) := hnl
  have HR4 : Hid _ := hr4
  have hrd : rd (Z ++ num N) zl 0 0 = some (N, zl + nl) := by
    have := rd_num' (zs := Z ++ num N) (post := []) (p := zl) hN2 (by rw [HZL.out, List.drop_left, List.append_nil])
    rw [← hnl] at this
    exact this
  have HC4 := read_some hf4.bytes (by rw [HZL.out]; simp) hrd
  clear ho O2 O3 hf2 hf4 hg4 hr4 hrd hzle hnl HF1 HS1
  go_wp2_with (at_builtin; refine wpList_append_run rfl _ _ 22 rfl _ _ (.slice a4 (zl + nl) c4) rfl rfl HR4.out ?_)
  refine HC4.mono ?_
  rintro e w5 ⟨rfl, ho⟩
  have O5 : Hid (Only (fun _ => False) w w5) := O4.out.trans ho (fun _ _ e => e)
  have hNi := HNI.out
  clear ho HC4 HR4 O4
  go_wp2_with fail
  refine (number_any X w5 hX).mono ?_
  rintro e w6 ⟨u6, rfl, hf6, ho⟩
  have O6 : Hid (Only (fun _ => False) w w6) := O5.out.trans ho (fun _ _ e => e)
  obtain ⟨a6, c6, hu6⟩ := hf6.form
  rw [← HN.out, ← HNL.out] at hu6
  subst hu6
  have hwr : IntKind.i64.wrap ((zl : Int) + (nl : Int)) = (zl : Int) + (nl : Int) := by rw [IntKind.wrap_i64]; omega
  clear ho hf6 O5
  go_wp2_with fail
  refine (owns_any vl L w6 (HL.out.frame O6.out) hl1).mono ?_
  rintro e w7 ⟨u7, us7, rfl, hf7, ho⟩
  have O7 : Hid (Only (fun _ => False) w w7) := O6.out.trans ho (fun _ _ e => e)
  have HF7 : Hid (LL w7 u7 L) := hf7.lists
  clear ho hf7 O6 hwr hNi
  go_wp2_with fail
  refine (join_any u7 L w7 HF7.out hl1 hl2).mono ?_
  rintro e w8 ⟨u8, rfl, hf8, ho⟩
  have O8 : Hid (Only (fun _ => False) w w8) := O7.out.trans ho (fun _ _ e => e)
  have hj1 := join_ge L
  have hj2 := join_le L hl1 hl2 (fun z hz => (HBY.out z hz).2)
  obtain ⟨jl, hjl⟩ : ∃ x, x = (join L).length := ⟨_, rfl⟩
  obtain ⟨g8, c8, hv8, hg8, hg8'⟩ := hf8.1.form (by omega)
  have hcap8 : jl ≤ c8 := by
    obtain ⟨a, c, hv, hk, _⟩ := hf8.bytes.form
    rw [hv8] at hv
    simp only [Value.slice.injEq] at hv
    omega
  rw [← hjl] at hv8 hj1 hj2
  subst hv8
  have HJL : Hid (jl = (join L).length) := hjl
  have HJ8 : Hid (BytesAt w8 (.slice (some ⟨g8, 0, none⟩) jl c8) (join L)) := hf8.bytes
  have hj0 : ((jl : Int) == 0) = false := by simp; omega
  have hjp : 0 < jl := by omega
  clear ho hf8 O7 HF7 hjl hg8 hg8' hj1
  go_wp2_with fail
  refine (own_any _ (join L) w8 HJ8.out).mono ?_
  rintro e w9 ⟨u9, rfl, hf9, ho⟩
  have O9 : Hid (Only (fun _ => False) w w9) := O8.out.trans ho (fun _ _ e => e)
  have HJ9 : Hid (BytesAt w9 (.slice (some ⟨g8, 0, none⟩) jl c8) (join L)) := HJ8.out.frame ho
  have HF9 : Hid (BytesAt w9 u9 (join L)) := hf9.bytes
  clear ho hf9 O8 HJ8
  go_wp2_with fail
  refine (split_any u9 (join L) w9 HF9.out (by have := HJL.out; omega)).mono ?_
  rintro e w10 ⟨hs, ho⟩
  have hlb : ∀ z ∈ L, z.length < 9223372036854775808 := fun z hz => by have := (HBY.out z hz).2; omega
  have HLB : Hid (∀ z ∈ L, z.length < 9223372036854775808) := hlb
  obtain ⟨u10, us10, rfl, hf10⟩ := split_yes hs (by have := split_join (L := L) (post := []) (by omega) hlb; rw [List.append_nil, if_pos rfl] at this; exact this)
  have O10 : Hid (Only (fun _ => False) w w10) := O9.out.trans ho (fun _ _ e => e)
  have HJ10 : Hid (BytesAt w10 (.slice (some ⟨g8, 0, none⟩) jl c8) (join L)) := HJ9.out.frame ho
  have HY10 : Hid (LL w10 u10 L) := hf10.lists
  clear ho hs hf10 O9 HJ9 HF9 hlb
  go_wp2_with fail
  refine (own_any _ (join L) w10 HJ10.out).mono ?_
  rintro e w11 ⟨u11, rfl, hf11, ho⟩
  have oA : Only (fun _ => False) w11 (w11.alloc (.cells #[.int .u8 0] 5)) := (Only.refl _ w11).alloc _
  have o11 : Only (fun _ => False) w10 (w11.alloc (.cells #[.int .u8 0] 5)) := ho.trans oA (fun _ _ e => e)
  obtain ⟨a12, c12, w12, hr12, hf12, hg12⟩ := app_fresh (hf11.frame oA) (zero_bytes w11) (by have := o11.size; omega) (by have := HJL.out; simp; omega)
  have o12 : Only (fun _ => False) w10 w12 := o11.grown hg12 (fun q e hq => by have h1 := (own_lt hf11 q e).1; omega)
  rw [← HJL.out] at hr12 hf12
  have HR12 : Hid _ := hr12
  have HF12 : Hid (BytesAt w12 (.slice a12 (jl + [0].length) c12) (join L ++ [0])) := hf12.bytes
  have O12 : Hid (Only (fun _ => False) w w12) := O10.out.trans o12 (fun _ _ e => e)
  have HJ12 : Hid (BytesAt w12 (.slice (some ⟨g8, 0, none⟩) jl c8) (join L)) := HJ10.out.frame o12
  have HY12 : Hid (LL w12 u10 L) := HY10.out.frame o12
  clear ho oA o11 hf11 hf12 hg12 hr12 o12 O10 HJ10 HY10
  go_wp2_with (at_builtin; refine wpList_append_run rfl _ _ 22 rfl _ _ (.slice a12 (jl + [0].length) c12) rfl rfl HR12.out ?_)
  refine (split_any _ (join L ++ [0]) w12 HF12.out (by have := HJL.out; simp; omega)).mono ?_
  rintro e w13 ⟨hs, ho⟩
  obtain rfl := split_no hs (by rw [split_join (L := L) (post := [0]) (by omega) HLB.out]; rfl)
  have O13 : Hid (Only (fun _ => False) w w13) := O12.out.trans ho (fun _ _ e => e)
  have HJ13 : Hid (BytesAt w13 (.slice (some ⟨g8, 0, none⟩) jl c8) (join L)) := HJ12.out.frame ho
  have HY13 : Hid (LL w13 u10 L) := HY12.out.frame ho
  obtain ⟨r, hr⟩ : ∃ r, r = C % jl := ⟨_, rfl⟩
  have hri : (C : Int) % (jl : Int) = (r : Int) := by rw [hr]; simp
  have hrl : r < jl := by rw [hr]; exact Nat.mod_lt _ hjp
  have hr0 : (0 : Int) ≤ (r : Int) := by omega
  have hrc : (r : Int) ≤ (c8 : Int) := by omega
  have HCUT : Hid (split ((join L).take r) = none) := by
    show _ = _
    refine split_cut (fun z hz => HJ13.out.2.2 z hz) (by omega) HLB.out (by have := HJL.out; omega)
  clear ho hs O12 HJ12 HY12 HR12 HF12 hr
  go_wp2_with fail
  refine (own_any _ ((join L).take r) w13 (BytesAt.take HJ13.out (by omega))).mono ?_
  rintro e w14 ⟨u14, rfl, hf14, ho⟩
  have O14 : Hid (Only (fun _ => False) w w14) := O13.out.trans ho (fun _ _ e => e)
  have HF14 : Hid (BytesAt w14 u14 ((join L).take r)) := hf14.bytes
  have HY14 : Hid (LL w14 u10 L) := HY13.out.frame ho
  clear ho hf14 O13 HJ13 HY13 hri
  go_wp2_with fail
  refine (split_any u14 _ w14 HF14.out (by have := HJL.out; rw [List.length_take]; omega)).mono ?_
  rintro e w15 ⟨hs, ho⟩
  obtain rfl := split_no hs HCUT.out
  have O15 : Hid (Only (fun _ => False) w w15) := O14.out.trans ho (fun _ _ e => e)
  have HY15 : Hid (LL w15 u10 L) := HY14.out.frame ho
  clear ho hs O14 HF14 HY14 HCUT
  go_wp2_with fail
  refine (samel_any u10 vl L w15 HY15.out (HL.out.frame O15.out) (by omega)).mono ?_
  rintro e w16 ⟨rfl, ho⟩
  have O16 : Hid (Only (fun _ => False) w w16) := O15.out.trans ho (fun _ _ e => e)
  clear ho O15 HY15
  go_wp2_with fail
  refine (own_any _ Z w16 (HB.out.frame O16.out)).mono ?_
  rintro e w17 ⟨u17, rfl, hf17, ho⟩
  have O17 : Hid (Only (fun _ => False) w w17) := O16.out.trans ho (fun _ _ e => e)
  have HF17 : Hid (BytesAt w17 u17 Z) := hf17.bytes
  clear ho hf17 O16
  go_wp2_with fail
  refine (split_any u17 Z w17 HF17.out (by have := HZL.out; omega)).mono ?_
  rintro e w18 ⟨hs, ho⟩
  have O18 : Hid (Only (fun _ => False) w w18) := O17.out.trans ho (fun _ _ e => e)
  clear ho O17 HF17
  cases hsp : split Z with
  | none =>
    obtain rfl := split_no hs hsp
    have HE : Hid (Below w.heap.size w w18) := O18.out.below (fun _ h => h.elim) (Nat.le_refl _)
    clear hs hsp O18
    go_wp2
    go_ret
    exact ⟨rfl, HE.out⟩
  | some M =>
    obtain ⟨u18, us18, rfl, hf18⟩ := split_yes hs hsp
    obtain ⟨m1, m2, m3⟩ := join_split HB.out.2.2 hsp
    have hmg := join_ge M
    rw [m1] at hmg
    obtain ⟨a18, c18, hu18⟩ := hf18.slice
    obtain ⟨ml, hml⟩ : ∃ x, x = M.length := ⟨_, rfl⟩
    rw [← hml] at hu18
    subst hu18
    have HML : Hid (ml = M.length) := hml
    have HM1 : Hid (join M = Z) := m1
    have HC := join_any _ M w18 hf18.lists (by have := HZL.out; omega) (by have := HZL.out; omega)
    rw [m1] at HC
    clear hs hsp hf18 m1 m2 m3 hmg hml
    go_wp2_with fail
    refine HC.mono ?_
    rintro e w19 ⟨u19, rfl, hf19, ho⟩
    have O19 : Only (fun _ => False) w w19 := O18.out.trans ho (fun _ _ e => e)
    have HS := same_any u19 _ Z w19 hf19.bytes (HB.out.frame O19)
    have HO19 : Hid (Only (fun _ => False) w w19) := O19
    clear HC hf19 ho O19
    go_wp2_with fail
    refine HS.mono ?_
    rintro e w20 ⟨rfl, ho⟩
    have HE : Hid (Below w.heap.size w w20) := (HO19.out.trans ho (fun _ _ e => e)).below (fun _ h => h.elim) (Nat.le_refl _)
    clear HS ho HO19
    go_wp2
    go_ret
    exact ⟨rfl, HE.out⟩
end Go.Proofs.Ytcgcgaafmedkmaa
