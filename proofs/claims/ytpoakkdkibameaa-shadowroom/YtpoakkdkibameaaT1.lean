/- What told and same answer. -/
import Derived.Test.YtpoakkdkibameaaA11
namespace Go.Proofs.Ytpoakkdkibameaa
open Go.RowKit Go.Maps Go.Shelf
set_option linter.unusedSimpArgs false
set_option linter.unusedVariables false

/-- Pages as they are told: numbers, slices of data. -/
def tdL (rs : List (Int × Value)) : List Value := rs.flatMap fun q => [.int .i64 q.1, q.2]
theorem tdL_length (rs : List (Int × Value)) : (tdL rs).length = rs.length * 2 := by
  induction rs with
  | nil => rfl
  | cons q r ih => simp only [tdL, List.flatMap_cons, List.length_append, List.length_cons, List.length_nil] at *; omega
theorem tdL_snoc (rs : List (Int × Value)) (q : Int × Value) : tdL (rs ++ [q]) = tdL rs ++ [.int .i64 q.1, q.2] := by simp [tdL]
theorem tdL_get : ∀ (rs : List (Int × Value)) (k : Nat) (h : k < rs.length), (tdL rs)[k * 2]? = some (.int .i64 rs[k].1) ∧ (tdL rs)[k * 2 + 1]? = some rs[k].2
  | q :: r, 0, _ => ⟨rfl, rfl⟩
  | q :: r, k + 1, h => by
    have ih := tdL_get r k (by simpa using h)
    have e : tdL (q :: r) = .int .i64 q.1 :: q.2 :: tdL r := rfl
    rw [e, show (k + 1) * 2 = k * 2 + 1 + 1 by omega]
    simpa using ih
/-- The slice v holds the pages l, told as rs; all of it was made since B. -/
structure TdAt (W : World) (B : Nat) (v : Value) (rs : List (Int × Value)) (l : List (Int × List Nat)) : Prop where
  own : W.ownsRow B 64 2 v rs.length (tdL rs)
  len : rs.length = l.length
  key : ∀ j (h1 : j < rs.length) (h2 : j < l.length), rs[j].1 = l[j].1 ∧ BytesAt W rs[j].2 l[j].2 ∧ ∀ b, rs[j].2.ownBlock = some b → (B ≤ b ∧ b < W.heap.size) ∧ ¬ v.ownBlock = some b
theorem TdAt.frame {W W' : World} {B : Nat} {v : Value} {rs : List (Int × Value)} {l : List (Int × List Nat)} {bs : Nat → Prop} (h : TdAt W B v rs l) (ho : Only bs W W') (hb : ∀ k, B ≤ k → k < W.heap.size → ¬ bs k) : TdAt W' B v rs l where
  own := ho.owns h.own (fun b e e' => hb b (h.own.lt b e).1 (h.own.lt b e).2 e')
  len := h.len
  key := fun j h1 h2 => by
    obtain ⟨q1, q2, q3⟩ := h.key j h1 h2
    exact ⟨q1, q2.keep ho (fun b e => hb b (q3 b e).1.1 (q3 b e).1.2), fun b e => ⟨⟨(q3 b e).1.1, Nat.lt_of_lt_of_le (q3 b e).1.2 ho.size⟩, (q3 b e).2⟩⟩
theorem infoP : (Try.prog.info? 64).map (fun i => (i.zero, i.size, i.bytes)) = some (some (.agg #[.int .i64 0, .slice none 0 0]), 2, 32) := by kernel_rfl
/-- append(v, page{i, u}) -/
theorem app_td {w : World} {B : Nat} {v : Value} {rs : List (Int × Value)} (h : w.ownsRow B 64 2 v rs.length (tdL rs)) (hB : B ≤ w.heap.size) (i : Int) (a : Option Addr) (n c : Nat) (hl : rs.length + 1 ≤ 1048576) :
    ∃ a' cap w', (∀ ty, (Builtin.append_ #[35, 35] ty #[v, .slice (some ⟨w.heap.size, 0, none⟩) 1 1]).run Try.prog (w.alloc (.cells #[.int .i64 i, .slice a n c] 64)) = .ok (.slice a' (rs.length + 1) cap) w') ∧ w'.ownsRow B 64 2 (.slice a' (rs.length + 1) cap) (rs.length + 1) (tdL (rs ++ [(i, .slice a n c)])) ∧ Only (fun k => v.ownBlock = some k) w w' ∧ ((Value.slice a' (rs.length + 1) cap).ownBlock = v.ownBlock ∨ (Value.slice a' (rs.length + 1) cap).ownBlock = some (w.heap.size + 1)) := by
  obtain ⟨i0, hi0, hz0, hz1, hz2⟩ := info_parts infoP
  have o1 : Only (fun _ => False) w (w.alloc (.cells #[.int .i64 i, .slice a n c] 64)) := (Only.refl _ w).alloc _
  have h2 := o1.owns h (fun _ _ e => e)
  have key := fun ty => run_append_own_at (P := Try.prog) (w.alloc (.cells #[.int .i64 i, .slice a n c] 64)) B 35 ty 64 i0 _ 2 32 Try.underlying35 hi0 hz0 hz1 hz2 rfl (by omega) v rs.length (tdL rs) h2 ⟨w.heap.size, 0, none⟩ 1 1 [.int .i64 i, .slice a n c] rfl (World.news_of_block (heap_alloc_new w _)) (by simp [Value.oneCell']) (by unfold maxLen; omega) (by omega) (by have := o1.size; omega)
  obtain ⟨v', w', hr, own', hg, _, hbk⟩ := key 0
  obtain ⟨a', cap, rfl⟩ := ownsRow_slice own'
  refine ⟨a', cap, w', fun ty => by rw [← hr]; rfl, ?_, (o1.mono (fun _ _ e => e.elim)).trans ((Only.refl _ _).grown hg (fun k e hk => e)) (fun _ _ e => e), by simpa using hbk⟩
  rw [tdL_snoc]
  exact own'
theorem own_cells {w : World} {B n : Nat} {v : Value} {zs : List Int} (h : w.ownsRow B 3 1 v n (zs.map (Value.int .i64))) (hn : zs.length = n) : ∃ a c, v = .slice a n c ∧ ∀ j, j < n → ∃ g, a = some ⟨g, 0, none⟩ ∧ w.cell? ⟨g, j, none⟩ = some (.int .i64 (zs.getD j 0)) := by
  rcases h.2 with ⟨rfl, h0⟩ | ⟨g, cap, cur, rfl, _⟩
  · exact ⟨none, 0, by rw [h0], fun j hj => by omega⟩
  · refine ⟨some ⟨g, 0, none⟩, cap, rfl, fun j hj => ⟨g, rfl, ?_⟩⟩
    rw [h.cellAt j (by omega)]
    simp [List.getD, hn, hj]
theorem build_td (i : Int) (a : Option Addr) (n c : Nat) (w : World) : (Instr.build 64 #[(0, .int .i64 i), (1, .slice a n c)]).run Try.prog w = .ok (.agg #[.int .i64 i, .slice a n c]) w := by kernel_rfl
/-- What a store tells. -/
def tells (x : SS) : List (Int × List Nat) := x.now.map fun p => (p.1, p.2.2)
set_option maxRecDepth 100000 in
set_option maxHeartbeats 2000000 in
theorem told_any {w : World} {dk : Nat → Prop} {s p mc mn : Nat} {tv : Value} {x : SS} (h : StAt w dk s p mc mn tv x) :
    Calls Try.prog 10 #[.pointer (some ⟨s, 0, none⟩)] w fun e w' => ∃ v rs, e = .returned (.tuple #[v, .bool true]) ∧ Hid (TdAt w' w.heap.size v rs (tells x) ∧ Only (fun _ => False) w w') := by
  obtain ⟨zs, hzs⟩ : ∃ q, q = x.now.map (·.1) := ⟨_, rfl⟩
  have hlen := st_len h
  have hzl : zs.length = x.now.length := by rw [hzs, List.length_map]
  have HL : Hid (Calls Try.prog 22 _ _ _) := (callsIn_wide (n := 6)).1 (listed_core zs (by omega) (some ⟨s, 0, none⟩) w (fun w1 ho => by rw [hzs]; exact (callsIn_wide (n := 5)).2 (pages_ok (h.still ho))))
  have HS : Hid (StAt w dk s p mc mn tv x) := h
  have HZ : Hid (zs = x.now.map (·.1)) := hzs
  obtain ⟨n, hn⟩ : ∃ n, n = zs.length := ⟨_, rfl⟩
  have HN : Hid (n = zs.length ∧ n = x.now.length) := ⟨hn, by omega⟩
  have hn7 : n ≤ 728 := by omega
  rw [← hn] at HL
  clear h hzs hzl hn hlen
  go_enter Try.func10, Try.ntmps10
  go_wp2_with fail
  refine (show Calls Try.prog 22 _ _ _ from HL.out).mono ?_
  rintro e w1 ⟨v, rfl, hrow, ho1⟩
  obtain ⟨al, cl, rfl, hcl⟩ := own_cells hrow HN.out.1.symm
  have HC : Hid _ := hcl
  have HO1 : Hid (Only (fun _ => False) w w1) := ho1
  clear HL hrow ho1 hcl
  go_wp2_with fail
  go_loopw [5, 6, 7] (fun ok out t W => ∃ (k : Nat) (rs : List (Int × Value)), k ≤ n ∧ ok = .bool true ∧ t = .int .i64 k ∧ TdAt W w1.heap.size out rs ((tells x).take k) ∧ Only (fun _ => False) w1 W) (fun _ _ t _ => n - (intOf t).toNat)
  case atStart => exact ⟨0, [], Nat.zero_le _, rfl, rfl, { own := World.ownsRow_nil _ _ _ _, len := rfl, key := fun j h1 _ => by simp at h1 }, Only.refl _ _⟩
  case round =>
    obtain ⟨k, rs, hk, rfl, rfl, ht, ho⟩ := hrel
    obtain ⟨W, rfl⟩ : ∃ W, W = wr := ⟨_, rfl⟩
    obtain ⟨out, rfl⟩ : ∃ q, q = u6 := ⟨_, rfl⟩
    obtain ⟨ao, co, rfl⟩ := ownsRow_slice ht.own
    have hrl : rs.length = k := by rw [ht.len, List.length_take]; unfold tells; rw [List.length_map, ← HN.out.2]; omega
    by_cases hlt : k < n
    · have hkx : k < x.now.length := by have := HN.out.2; omega
      obtain ⟨g, rfl, hcell⟩ := HC.out k hlt
      have y1 := ho.cell hcell (fun e => e)
      obtain ⟨q, hq⟩ : ∃ q, q = x.now[k] := ⟨_, rfl⟩
      have hqm : q ∈ x.now := by rw [hq]; exact List.getElem_mem hkx
      have hzq : zs.getD k 0 = q.1 := by rw [HZ.out, hq]; simp [List.getD, hkx]
      rw [hzq] at y1
      have hsW : StAt W dk s p mc mn tv x := (HS.out.still HO1.out).still ho
      have hi := (hsW.wf.now q hqm).1
      have hpg : pgAt x.now q.1 = some q.2 := (getL_mem hsW.now.rise q.1 q.2).2 hqm
      have HG : Hid (Calls Try.prog 15 _ _ _) := get_all hsW q.1
      have ge : gErr x q.1 = 0 := by unfold gErr; rw [if_pos hi, hpg]; rfl
      have gd : gDat x q.1 = q.2.2 := by unfold gDat; rw [if_pos hi, hpg]; rfl
      rw [ge, gd] at HG
      have HT : Hid (TdAt W w1.heap.size (.slice ao rs.length co) rs ((tells x).take k) ∧ Only (fun _ => False) w1 W) := ⟨ht, ho⟩
      have HQ : Hid (q = x.now[k]) := hq
      obtain ⟨i, hie⟩ : ∃ i, i = q.1 := ⟨_, rfl⟩
      have HIE : Hid (i = q.1) := hie
      rw [← hie] at y1 HG
      have k0 : (0 : Int) ≤ (k : Int) := by omega
      have k1 : (k : Int) < (n : Int) := by omega
      rw [hrl] at HT ⊢
      have HRL : Hid (rs.length = k) := hrl
      have hcW : W.cell? ⟨g, k, none⟩ = some (.int .i64 i) := y1
      clear ht ho hcell hsW hpg ge gd hq hie hzq hqm y1 hi hrl
      go_wp2_with fail
      refine (show Calls Try.prog 15 _ _ _ from HG.out).mono ?_
      rintro e W2 ⟨u, rfl, HU⟩
      clear HG
      obtain ⟨au, cu, rfl⟩ := HU.out.1.form
      have hc2 : W2.cell? ⟨g, k, none⟩ = some (.int .i64 i) := HU.out.2.cell hcW (fun e => e)
      obtain ⟨nu, hnu⟩ : ∃ nu, nu = q.2.2.length := ⟨_, rfl⟩
      rw [← hnu] at HU ⊢
      have hB2 : w1.heap.size ≤ W2.heap.size := Nat.le_trans HT.out.2.size HU.out.2.size
      have hT2 := HT.out.1.frame HU.out.2 (fun _ _ _ e => e)
      have hrl := HRL.out
      obtain ⟨a5, c5, W5, hr5, hown5, ho5, hbk5⟩ := app_td (rs := rs) (by have := hT2.own; rw [hrl] at this ⊢; exact this) hB2 i au nu cu (by omega)
      rw [hrl] at hr5 hown5 hbk5
      have HR5 : Hid _ := hr5
      have hbt := build_td i au nu cu
      have HE5 : Hid (TdAt W5 w1.heap.size (.slice a5 (k + 1) c5) (rs ++ [(i, .slice au nu cu)]) ((tells x).take (k + 1)) ∧ Only (fun _ => False) w1 W5) := by
        have ow5 : Only (fun _ => False) w1 W5 := ((HT.out.2.trans HU.out.2 (fun _ _ e => e))).trans ho5 (fun b hb e => by have := (HT.out.1.own.lt b e).1; omega)
        have htk : (tells x).take (k + 1) = (tells x).take k ++ [(i, q.2.2)] := by
          have hkt : k < (tells x).length := by unfold tells; rw [List.length_map]; exact hkx
          rw [List.take_succ_eq_append_getElem hkt]
          congr 1
          simp [tells, ← HQ.out, HIE.out]
        refine ⟨{ own := by rw [List.length_append, hrl]; exact hown5, len := by rw [htk]; simp only [List.length_append, List.length_cons, List.length_nil]; have := hT2.len; omega, key := fun j h1 h2 => ?_ }, ow5⟩
        have hl0 : ((tells x).take k).length = k := by have := hT2.len; omega
        by_cases hj : j < k
        · have e1 : (rs ++ [(i, .slice au nu cu)])[j] = rs[j]'(by omega) := List.getElem_append_left _
          have e2 : ((tells x).take (k + 1))[j] = ((tells x).take k)[j]'(by omega) := by simp only [htk]; exact List.getElem_append_left _
          rw [e1, e2]
          obtain ⟨q1, q2, q3⟩ := hT2.key j (by omega) (by omega)
          have q3' : ∀ b, (rs[j]'(by omega)).2.ownBlock = some b → (w1.heap.size ≤ b ∧ b < W2.heap.size) ∧ ¬ (Value.slice ao k co).ownBlock = some b := fun b e => q3 b e
          refine ⟨q1, q2.keep ho5 (fun b e => (q3' b e).2), fun b e => ⟨⟨(q3' b e).1.1, Nat.lt_of_lt_of_le (q3' b e).1.2 ho5.size⟩, fun e' => ?_⟩⟩
          rcases hbk5 with h5 | h5
          · rw [h5] at e'; exact (q3' b e).2 e'
          · rw [h5] at e'
            injection e' with e'
            have := (q3' b e).1.2
            omega
        · have hjk : j = k := by simp only [List.length_append, List.length_cons, List.length_nil] at h1; omega
          subst hjk
          have e1 : (rs ++ [(i, .slice au nu cu)])[j] = (i, .slice au nu cu) := by simp [← hrl]
          have e2 : ((tells x).take (j + 1))[j] = (i, q.2.2) := by simp only [htk]; rw [List.getElem_append_right (by omega)]; simp [hl0]
          rw [e1, e2]
          have hub := HU.out.1
          have hno : ∀ b, (Value.slice au nu cu).ownBlock = some b → ¬ (Value.slice ao j co).ownBlock = some b := fun b e e' => by
            have h9 := (hub.1.lt b e).1
            have h8 := (HT.out.1.own.lt b e').2
            omega
          refine ⟨rfl, hub.bytes.keep ho5 hno, fun b e => ⟨⟨by have := (hub.1.lt b e).1; have := HT.out.2.size; omega, Nat.lt_of_lt_of_le (hub.1.lt b e).2 ho5.size⟩, fun e' => ?_⟩⟩
          rcases hbk5 with h5 | h5
          · rw [h5] at e'; exact hno b e e'
          · rw [h5] at e'
            injection e' with e'
            have := (hub.1.lt b e).2
            omega
      clear hT2 hown5 ho5 hr5 hrl hbk5 hnu
      go_wp2_with (at_builtin; go_must (refine wpList_append_run rfl _ _ 35 rfl _ _ (.slice a5 (k + 1) c5) rfl rfl HR5.out ?_))
      go_roundw
      case rel => exact ⟨k + 1, rs ++ [(i, .slice au nu cu)], by omega, rfl, by go_num, HE5.out.1, HE5.out.2⟩
      case measure => simp [intOf]; omega
    · have e : n = k := by omega
      subst e
      have HE : Hid (TdAt W w1.heap.size (.slice ao rs.length co) rs ((tells x).take n) ∧ Only (fun _ => False) w1 W) := ⟨ht, ho⟩
      have hfull : (tells x).take n = tells x := List.take_of_length_le (by unfold tells; rw [List.length_map, ← HN.out.2]; omega)
      rw [hfull] at HE
      clear ht ho hfull
      go_wp2
      go_ret2
      refine ⟨_, rs, rfl, ?_, HO1.out.trans HE.out.2 (fun _ _ e => e)⟩
      have s1 := HO1.out.size
      refine ⟨ownsRow_base HE.out.1.own s1, HE.out.1.len, fun j h1 h2 => ?_⟩
      obtain ⟨q1, q2, q3⟩ := HE.out.1.key j h1 h2
      exact ⟨q1, q2, fun b e => ⟨⟨by have := (q3 b e).1.1; omega, (q3 b e).1.2⟩, (q3 b e).2⟩⟩
end Go.Proofs.Ytpoakkdkibameaa
