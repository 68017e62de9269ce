/- The walk of the law DiskTears. -/
import Derived.Test.YtaeghpfncfkgfaaT17
import Derived.BigQuiet
namespace Go.Proofs.Ytaeghpfncfkgfaa
open Go.RowKit
set_option linter.unusedSimpArgs false
set_option linter.unusedVariables false

theorem Only.drewN {bs : Nat → Prop} {a w : World} (h : Only bs a w) (n : Nat) : Only bs a (w.drewN n) := ⟨h.os, h.tape, h.output, h.size, h.block⟩
/-- Between two rounds: the disk, the snapshots, and what ties them. -/
def TearAt (w wr : World) (n p S : Nat) (s0 : Nat → Nat → Int) (mv : Value) (i : Nat) : Prop :=
  ∃ pv d l, DiskAt wr w.heap.size p S pv d ∧ d.n = n ∧ d.life = -1 ∧ d.pend.length ≤ i ∧ MayAt wr w.heap.size n mv l ∧ l.length ≤ i + 1 ∧ Tear s0 d l ∧ (∀ k, diskB p S pv k → ¬ mayB mv l k) ∧ Only (fun _ => False) w wr
/-- Behind a write, ahead of its snapshot. -/
def MidAt (w wr : World) (n p S : Nat) (s0 : Nat → Nat → Int) (mv : Value) (i : Nat) : Prop :=
  ∃ pv d l, DiskAt wr w.heap.size p S pv d ∧ d.n = n ∧ d.life = -1 ∧ d.pend.length ≤ i ∧ MayAt wr w.heap.size n mv l ∧ l.length ≤ i ∧ (∀ x : Snap, x.s = d.sec → Tear s0 d (l ++ [x])) ∧ (∀ k, diskB p S pv k → ¬ mayB mv l k) ∧ Only (fun _ => False) w wr
/-- The calls behind a write: all, and the snapshot is put to the others. -/
theorem mid_all {w wr : World} {n p S i : Nat} {s0 : Nat → Nat → Int} {mv : Value} (h : MidAt w wr n p S s0 mv i) :
    Calls Try.prog 18 #[.pointer (some ⟨p, 0, none⟩)] wr fun e w4 => ∃ g cap, e = .returned (.slice (some ⟨g, 0, none⟩) (n * 32) cap) ∧ ∃ q, q ≤ i ∧ Hid (∃ xs, w4.ownsRow w.heap.size 31 1 mv q xs ∧ w.heap.size ≤ w4.heap.size ∧
      ∀ w5 v' o, w5.ownsRow w.heap.size 31 1 v' (q + 1) (xs ++ [.slice (some ⟨g, 0, none⟩) (n * 32) cap]) → (w4.alloc o).grownBy w5 mv.ownBlock → (v'.ownBlock = mv.ownBlock ∨ v'.ownBlock = some (w4.alloc o).heap.size) → TearAt w w5 n p S s0 v' i) := by
  obtain ⟨pv, d, l, hd, hn, hl, hp, hm, hll, ht, hdb, ho⟩ := h
  subst hn
  refine (all_rng p S _ pv d wr hd (by rw [hl]; decide)).mono ?_
  rintro e w4 ⟨g, cap, rfl, hg1, hg2, hr, o4⟩
  refine ⟨g, cap, rfl, l.length, hll, mayL d.n l, (hm.frame o4 (fun _ _ e => e)).own, by have := ho.size; have := o4.size; omega, ?_⟩
  intro w5 v' o own hgr hb
  have m4 := hm.frame o4 (fun _ _ e => e)
  have d4 := hd.frame o4 (fun _ _ e => e)
  obtain ⟨m5, hb5, o5⟩ := may_more ⟨g, cap, d.sec⟩ m4 (by have := ho.size; simp only; omega) hr (fun e => by have := (hm.lt _ e).2; simp only at this; omega) own hgr hb
  have hdm : ∀ k, diskB p S pv k → ¬ mv.ownBlock = some k := fun k hk e => hdb k hk (.inl e)
  refine ⟨pv, d, _, d4.frame o5 hdm, rfl, hl, hp, m5, by simp; omega, ht _ rfl, ?_, ?_⟩
  · intro k hk e
    rcases hb5 k e with h | h | h
    · exact hdb k hk h
    · have := (hd.lt k hk).2; simp only at h; omega
    · have := (hd.lt k hk).2; have := o4.size; omega
  · exact (ho.trans o4 (fun _ _ e => e)).trans o5 (fun k hk e => by have := (hm.lt k (.inl e)).1; omega)
/-- Whether one of the first q snapshots has the byte. -/
def Found (l : List Snap) (v : Int) (i j q : Nat) (b : Bool) : Prop := b = false → ∀ r (h : r < l.length), r < q → l[r].s i j ≠ v
theorem found_no {l : List Snap} {v : Int} {i j q : Nat} (h : q < l.length) (h0 : Found l v i j q false) (hn : l[q].s i j ≠ v) : Found l v i j (q + 1) false := by
  intro _ r hr hq
  by_cases e : r = q
  · subst e; exact hn
  · exact h0 rfl r hr (by omega)
theorem found_yes {l : List Snap} {v : Int} {i j q : Nat} : Found l v i j q true := fun h => by cases h
theorem found_end {l : List Snap} {v : Int} {i j : Nat} (h : ∃ x ∈ l, x.s i j = v) (h0 : Found l v i j l.length false) : False := by
  obtain ⟨x, hx, e⟩ := h
  obtain ⟨r, hr, rfl⟩ := List.getElem_of_mem hx
  exact h0 rfl r hr hr e

set_option maxRecDepth 100000 in
set_option maxHeartbeats 2000000 in
theorem tears_bad (s torn cut : Int) (v v2 vk : Value) (os : List OpD) (w : World) (hs : ScriptAt w v os) (hc : cut < 0 ∨ 32 < cut) :
    Calls Try.prog 5 #[.int .i64 s, v, v2, vk, .int .i64 torn, .int .i64 cut] w fun e w' => e = .returned (.bool true) ∧ Below w.heap.size w w' := by
  have fin : ∀ w2 w3 : World, Only (fun _ => False) w w2 → Only (fun _ => False) w2 w3 → Below w.heap.size w w3 := fun w2 w3 a b => (a.trans b (fun _ _ e => e)).below (fun _ e => e.elim) (Nat.le_refl _)
  rcases hc with hc | hc
  · go_enter Try.func5, Try.ntmps5
    go_wp2_with fail
    refine (grown_any s v os w hs).mono ?_
    rintro e w1 ⟨p, S, pv, d, rfl, d1, hdn, hdl, hdp, o1⟩
    clear d1
    go_wp2_with fail
    refine (awake_any w1).mono ?_
    rintro e w2 ⟨rfl, o2⟩
    have O2 : Hid (Only (fun _ => False) w w2) := o1.trans o2 (fun _ _ e => e)
    clear o1 o2
    go_wp2_with fail
    refine (awake_any w2).mono ?_
    rintro e w3 ⟨rfl, o3⟩
    have O3 : Hid (Below w.heap.size w w3) := fin w2 w3 O2.out o3
    clear o3 O2
    go_wp2
    go_ret
    exact ⟨rfl, O3.out⟩
  · have hc' : ¬ cut < 0 := by omega
    go_enter Try.func5, Try.ntmps5
    go_wp2_with fail
    refine (grown_any s v os w hs).mono ?_
    rintro e w1 ⟨p, S, pv, d, rfl, d1, hdn, hdl, hdp, o1⟩
    clear d1
    go_wp2_with fail
    refine (awake_any w1).mono ?_
    rintro e w2 ⟨rfl, o2⟩
    have O2 : Hid (Only (fun _ => False) w w2) := o1.trans o2 (fun _ _ e => e)
    clear o1 o2
    go_wp2_with fail
    refine (awake_any w2).mono ?_
    rintro e w3 ⟨rfl, o3⟩
    have O3 : Hid (Below w.heap.size w w3) := fin w2 w3 O2.out o3
    clear o3 O2
    go_wp2
    go_ret
    exact ⟨rfl, O3.out⟩

set_option maxRecDepth 100000 in
set_option maxHeartbeats 4000000 in
theorem tears_walk (s torn : Int) (cut : Nat) (v v2 vk : Value) (os os2 : List OpD) (ks : List Bool) (w : World) (hs : ScriptAt w v os) (hs2 : ScriptAt w v2 os2) (hk : FlagsIn w vk ks) (hcut : (cut : Int) ≤ 32) :
    Calls Try.prog 5 #[.int .i64 s, v, v2, vk, .int .i64 torn, .int .i64 cut] w fun e w' => e = .returned (.bool true) ∧ Below w.heap.size w w' := by
  have hc1 : ¬ (cut : Int) < 0 := by omega
  have hc2 : ¬ (32 : Int) < (cut : Int) := by omega
  have hlen : os.length * 88 ≤ 140737488351232 := hs.2.1
  have hlen2 : os2.length * 88 ≤ 140737488351232 := hs2.2.1
  obtain ⟨a2, c2, hv2⟩ := hs2.form
  obtain ⟨i4, hi4, hz40, hz41, hz42⟩ := info_parts info4
  obtain ⟨i31, hi31, hz310, hz311, hz312⟩ := info_parts info31
  have HS2 : Hid (ScriptAt w v2 os2) := hs2
  have HK : Hid (FlagsIn w vk ks) := hk
  clear hs2 hk
  go_enter Try.func5, Try.ntmps5
  go_wp2_with fail
  refine (grown_any s v os w hs).mono ?_
  rintro e w1 ⟨p, S, pv, d, rfl, d1, hdn, hdl, hdp, o1⟩
  go_wp2_with fail
  refine (awake_any w1).mono ?_
  rintro e w2 ⟨rfl, o2⟩
  have d2 := d1.frame o2 (fun _ _ e => e)
  have O2 : Hid (Only (fun _ => False) w w2) := o1.trans o2 (fun _ _ e => e)
  clear o1 o2 d1
  go_wp2_with fail
  refine (barrier_any p S _ pv d w2 d2 (by rw [hdl]; decide)).mono ?_
  rintro e w3 ⟨rfl, d3, o3⟩
  have O3 : Hid (Only (fun _ => False) w w3) := O2.out.trans o3 (fun k hk e => by have := d2.pB; omega)
  clear o3 O2 d2
  obtain ⟨n, hn⟩ : ∃ n, n = d.n := ⟨_, rfl⟩
  obtain ⟨s0, hs0⟩ : ∃ q, q = d.sec := ⟨_, rfl⟩
  have d3' : DiskAt w3 w.heap.size p S (.slice none 0 0) ⟨n, s0, [], -1⟩ := by
    have e1 : aged d.life = -1 := by simp [aged, hdl]
    rw [hn, hs0, ← e1]; exact d3
  have hn64 : n ≤ 64 := by omega
  have hn1 : 1 ≤ n := d3'.n1
  clear d3 hn hs0 hdn hdl hdp
  have HD3 : Hid (DiskAt w3 w.heap.size p S (.slice none 0 0) ⟨n, s0, [], -1⟩) := d3'
  clear d3'
  go_wp2_with fail
  refine (all_rng p S _ _ _ w3 HD3.out (by simp)).mono ?_
  rintro e w4 ⟨gB, capB, rfl, hg1, hg2, rB, o4⟩
  have O4 : Hid (Only (fun _ => False) w w4) := O3.out.trans o4 (fun _ _ e => e)
  have HT0 : Hid (TearAt w (w4.alloc (.cells #[.slice (some ⟨gB, 0, none⟩) (n * 32) capB] 31)) n p S s0 (.slice (some ⟨w4.heap.size, 0, none⟩) 1 1) 0) := by
    have hB : w.heap.size ≤ gB := by have := O3.out.size; omega
    have oA : Only (fun _ => False) w4 (w4.alloc (.cells #[.slice (some ⟨gB, 0, none⟩) (n * 32) capB] 31)) := (Only.refl _ w4).alloc _
    refine ⟨_, ⟨n, s0, [], -1⟩, [⟨gB, capB, s0⟩], (HD3.out.frame o4 (fun _ _ e => e)).frame oA (fun _ _ e => e), rfl, rfl, Nat.le_refl _, may_one ⟨gB, capB, s0⟩ hB hn1 O4.out.size rB, by simp, tear_nil _ _ _ _ rfl, ?_, O4.out.trans oA (fun _ _ e => e)⟩
    intro k hk e
    have h1 := (HD3.out.lt k hk).2
    rcases e with e | ⟨x, hx, rfl⟩
    · simp [Value.ownBlock] at e; omega
    · obtain rfl : x = ⟨gB, capB, s0⟩ := by simpa using hx
      simp only at h1; omega
  clear o4 rB HD3 O3 O4 hg1 hg2
  subst hv2
  go_wp2_with fail
  go_loopw [14, 15] (fun b t wr => ∃ i : Nat, i ≤ os2.length ∧ t = .int .i64 i ∧ TearAt w wr n p S s0 b i) (fun _ t _ => os2.length - (intOf t).toNat)
  case atStart => exact ⟨0, Nat.zero_le _, rfl, HT0.out⟩
  case round =>
    clear HT0
    obtain ⟨i, hi, rfl, hta⟩ := hrel
    by_cases hlt : i < os2.length
    · have HREL : Hid (TearAt w wr n p S s0 u14 (i + 1)) := by
        obtain ⟨pv, d, l, h1, h2, h3, h4, h5, h6, h7⟩ := hta
        exact ⟨pv, d, l, h1, h2, h3, by omega, h5, by omega, h7⟩
      obtain ⟨pv', d', l, hd, hdn, hdl, hdp, hm, hll, ht, hdb, ho⟩ := hta
      obtain ⟨x, hx⟩ : ∃ x, x = os2[i] := ⟨_, rfl⟩
      obtain ⟨g, o, c', hv, hrange⟩ := HS2.out.get i hlt
      simp only [Value.slice.injEq] at hv
      obtain ⟨rfl, _, rfl⟩ := hv
      rw [← hx] at hrange
      have hrw := ho.range hrange (fun e => e)
      have hxok : x.ok wr := (HS2.out.2.2 x (by rw [hx]; exact List.getElem_mem _)).frame ho
      clear hx
      obtain ⟨kind, sx, nx, cutx, odd, xb, keepx, vb, vk⟩ := x
      have i0 : (0 : Int) ≤ (i : Int) := Int.natCast_nonneg _
      have i1 : (i : Int) < (os2.length : Int) := by omega
      have hvbk : (∃ a m c, vb = .slice a m c) ∧ (∃ a m c, vk = .slice a m c) := by
        refine ⟨?_, ?_⟩
        · rcases hxok.1.1 with ⟨h, _⟩ | ⟨ad, c, h, _⟩ <;> exact ⟨_, _, _, h⟩
        · rcases hxok.2.1.1 with ⟨h, _⟩ | ⟨ad, c, h, _⟩ <;> exact ⟨_, _, _, h⟩
      obtain ⟨⟨ab, mb, cb, hvb⟩, ⟨ak, mk, ck, hvk⟩⟩ := hvbk
      subst hvb hvk
      have hgl : g < w.heap.size := by
        have := World.block_lt_of_cell? w _ (hrange 0 _ rfl)
        exact this
      simp only [OpD.cells] at hrw
      have y0 : wr.cell? ⟨g, o + i * 7, none⟩ = some (.int .i64 kind) := hrw 0 _ rfl
      have y1 : wr.cell? ⟨g, o + i * 7 + 1, none⟩ = some (.int .i64 sx) := hrw 1 _ rfl
      have y2 : wr.cell? ⟨g, o + i * 7 + 2, none⟩ = some (.int .i64 nx) := hrw 2 _ rfl
      have y3 : wr.cell? ⟨g, o + i * 7 + 3, none⟩ = some (.int .i64 cutx) := hrw 3 _ rfl
      have y4 : wr.cell? ⟨g, o + i * 7 + 4, none⟩ = some (.bool odd) := hrw 4 _ rfl
      have y5 : wr.cell? ⟨g, o + i * 7 + 5, none⟩ = some (.slice ab mb cb) := hrw 5 _ rfl
      have y6 : wr.cell? ⟨g, o + i * 7 + 6, none⟩ = some (.slice ak mk ck) := hrw 6 _ rfl
      have oD : Only (fun _ => False) wr wr.drew := (Only.refl _ wr).drew
      have hgn : ∀ q, diskB p S pv' q → ¬ g = q := fun q hq e => by have := (hd.lt q hq).1; omega
      have HC2 : Calls Try.prog 22 #[.agg #[.int .i64 kind, .int .i64 sx, .int .i64 nx, .int .i64 cutx, .bool odd, .slice ab mb cb, .slice ak mk ck]] wr.drew fun e w2 => ∃ a2 m2 cap2, e = .returned (.slice a2 m2 cap2) ∧ Hid (∀ a v, wr.cell? a = some v → w2.cell? a = some v) ∧
          Hid (Calls Try.prog 21 #[.pointer (some ⟨p, 0, none⟩), .int .i64 sx, .slice a2 m2 cap2] w2 fun e w3 => (∃ q, e = .returned (.int .i64 q)) ∧ Hid (MidAt w w3 n p S s0 u14 (i + 1)) ∧
            Hid (∀ v j, wr.cell? ⟨g, j, none⟩ = some v → w3.cell? ⟨g, j, none⟩ = some v)) := by
        refine (op_write p S _ pv' d' ⟨kind, sx, nx, cutx, odd, xb, keepx, .slice ab mb cb, .slice ak mk ck⟩ wr.drew (hd.frame oD (fun _ _ e => e)) (by have := ho.size; exact this) (hxok.frame oD) (by omega)).mono ?_
        rintro e w2 ⟨a2, m2, cap2, rfl, O2, HC⟩
        refine ⟨a2, m2, cap2, rfl, fun a v h => O2.out.cell (by simpa using h) (fun e => e), ?_⟩
        refine HC.out.mono ?_
        rintro e w3 ⟨hq, hP⟩
        obtain ⟨pv3, d3, o3, hb3⟩ := hP.out
        have oR3 : Only (diskB p S pv') wr w3 := (oD.mono (fun _ _ e => e.elim)).trans o3 (fun _ _ e => e)
        have hml : ∀ k, mayB u14 l k → k < wr.heap.size := fun k hk => (hm.lt k hk).2
        refine ⟨hq, ⟨pv3, _, l, d3, (write_n _ _ _ _).trans hdn, write_life _ _ _ _ hdl, by have := write_len2 d' sx (fun j => (OpD.bytes ⟨kind, sx, nx, cutx, odd, xb, keepx, .slice ab mb cb, .slice ak mk ck⟩).getD j 0) (OpD.bytes ⟨kind, sx, nx, cutx, odd, xb, keepx, .slice ab mb cb, .slice ak mk ck⟩).length; simp only at this ⊢; omega, hm.frame oR3 (fun k hk e => hdb k e hk), hll, fun x hx => tear_write _ _ _ _ _ _ ht x hx, ?_, ho.trans oR3 (fun q hq e => by have := (hd.lt q e).1; omega)⟩, fun v j h => oR3.cell h (fun e => hgn _ e rfl)⟩
        rintro k (rfl | rfl | hk)
        · exact hdb _ (.inl rfl)
        · exact hdb _ (.inr (.inl rfl))
        · rcases hb3 k hk with h | h
          · exact hdb k (.inr (.inr h))
          · have : wr.drew.heap.size = wr.heap.size := rfl
            intro e
            have := hml k e
            omega
      clear hd ho hdb hm ht hrw hrange hxok oD hgn hdn hdl hdp hll
      by_cases hk1 : kind < 1
      · clear HREL
        go_wp2_with fail
        go_region_held3 (fun w' => w'.cell? ⟨g, o + i * 7, none⟩ = some (.int .i64 kind) ∧ w'.cell? ⟨g, o + i * 7 + 1, none⟩ = some (.int .i64 sx) ∧ w'.cell? ⟨g, o + i * 7 + 2, none⟩ = some (.int .i64 nx) ∧ w'.cell? ⟨g, o + i * 7 + 3, none⟩ = some (.int .i64 cutx) ∧ w'.cell? ⟨g, o + i * 7 + 4, none⟩ = some (.bool odd) ∧ w'.cell? ⟨g, o + i * 7 + 5, none⟩ = some (.slice ab mb cb) ∧ w'.cell? ⟨g, o + i * 7 + 6, none⟩ = some (.slice ak mk ck)) (first | go_keep | (exact ⟨HA3.out _ _ y0, HA3.out _ _ y1, HA3.out _ _ y2, HA3.out _ _ y3, HA3.out _ _ y4, HA3.out _ _ y5, HA3.out _ _ y6⟩) | (exact ⟨HA2.out _ _ y0, HA2.out _ _ y1, HA2.out _ _ y2, HA2.out _ _ y3, HA2.out _ _ y4, HA2.out _ _ y5, HA2.out _ _ y6⟩))
          (first
            | (go_at_call 22; refine HC2.mono ?_; rintro e w2 ⟨a2, m2, cap2, rfl, HA2, HC3⟩)
            | (go_at_call 21; refine HC3.out.mono ?_; rintro e w3 ⟨⟨xe, rfl⟩, hP3, HA3⟩))
        clear HC2 HC3 y0 y1 y2 y3 y4 y5 y6
        have HALL := mid_all hP3.out
        go_wp2_with fail
        refine HALL.mono ?_
        rintro e w4 ⟨g4, cap4, rfl, q4, hq4, HE⟩
        clear HALL hP3
        obtain ⟨xs4, own4, hsz4, HE5⟩ := HE.out
        have hown5 := own4.alloc (.cells #[.slice (some ⟨g4, 0, none⟩) (n * 32) cap4] 31)
        have hnew : ∀ j u, [Value.slice (some ⟨g4, 0, none⟩) (n * 32) cap4][j]? = some u → (w4.alloc (.cells #[.slice (some ⟨g4, 0, none⟩) (n * 32) cap4] 31)).cell? ((⟨w4.heap.size, 0, none⟩ : Addr).add j) = some u := World.news_of_block (heap_alloc_new w4 _)
        have HN : Hid _ := hnew
        have HE6 : Hid _ := HE5
        clear hnew HE5 HE own4
        go_wp2_with (at_builtin; go_must (refine wpList_append_own_at _ rfl _ _ 50 rfl w.heap.size 31 i31 _ 1 24 Try.underlying50 hi31 hz310 hz311 hz312 rfl (by omega) _ q4 _ rfl hown5 ⟨w4.heap.size, 0, none⟩ 1 1 [Value.slice (some ⟨g4, 0, none⟩) (n * 32) cap4] rfl rfl HN.out (by simp [Value.oneCell']) (by unfold maxLen; omega) (by omega) (by simp; omega) ?_); intro v' w5 own5 hg5 _ hb5)
        have HT : Hid (TearAt w w5 n p S s0 v' (i + 1)) := HE6.out w5 v' _ own5 hg5 hb5
        clear own5 hg5 hb5 HE6 HN hown5
        go_roundw
        case rel => exact ⟨i + 1, by omega, by go_num, HT.out⟩
        case measure => simp [intOf]; omega
      · by_cases hk5 : 5 < kind
        · clear HREL
          go_wp2_with fail
          go_region_held3 (fun w' => w'.cell? ⟨g, o + i * 7, none⟩ = some (.int .i64 kind) ∧ w'.cell? ⟨g, o + i * 7 + 1, none⟩ = some (.int .i64 sx) ∧ w'.cell? ⟨g, o + i * 7 + 2, none⟩ = some (.int .i64 nx) ∧ w'.cell? ⟨g, o + i * 7 + 3, none⟩ = some (.int .i64 cutx) ∧ w'.cell? ⟨g, o + i * 7 + 4, none⟩ = some (.bool odd) ∧ w'.cell? ⟨g, o + i * 7 + 5, none⟩ = some (.slice ab mb cb) ∧ w'.cell? ⟨g, o + i * 7 + 6, none⟩ = some (.slice ak mk ck)) (first | go_keep | (exact ⟨HA3.out _ _ y0, HA3.out _ _ y1, HA3.out _ _ y2, HA3.out _ _ y3, HA3.out _ _ y4, HA3.out _ _ y5, HA3.out _ _ y6⟩) | (exact ⟨HA2.out _ _ y0, HA2.out _ _ y1, HA2.out _ _ y2, HA2.out _ _ y3, HA2.out _ _ y4, HA2.out _ _ y5, HA2.out _ _ y6⟩))
            (first
              | (go_at_call 22; refine HC2.mono ?_; rintro e w2 ⟨a2, m2, cap2, rfl, HA2, HC3⟩)
              | (go_at_call 21; refine HC3.out.mono ?_; rintro e w3 ⟨⟨xe, rfl⟩, hP3, HA3⟩))
          clear HC2 HC3 y0 y1 y2 y3 y4 y5 y6
          have HALL := mid_all hP3.out
          go_wp2_with fail
          refine HALL.mono ?_
          rintro e w4 ⟨g4, cap4, rfl, q4, hq4, HE⟩
          clear HALL hP3
          obtain ⟨xs4, own4, hsz4, HE5⟩ := HE.out
          have hown5 := own4.alloc (.cells #[.slice (some ⟨g4, 0, none⟩) (n * 32) cap4] 31)
          have hnew : ∀ j u, [Value.slice (some ⟨g4, 0, none⟩) (n * 32) cap4][j]? = some u → (w4.alloc (.cells #[.slice (some ⟨g4, 0, none⟩) (n * 32) cap4] 31)).cell? ((⟨w4.heap.size, 0, none⟩ : Addr).add j) = some u := World.news_of_block (heap_alloc_new w4 _)
          have HN : Hid _ := hnew
          have HE6 : Hid _ := HE5
          clear hnew HE5 HE own4
          go_wp2_with (at_builtin; go_must (refine wpList_append_own_at _ rfl _ _ 50 rfl w.heap.size 31 i31 _ 1 24 Try.underlying50 hi31 hz310 hz311 hz312 rfl (by omega) _ q4 _ rfl hown5 ⟨w4.heap.size, 0, none⟩ 1 1 [Value.slice (some ⟨g4, 0, none⟩) (n * 32) cap4] rfl rfl HN.out (by simp [Value.oneCell']) (by unfold maxLen; omega) (by omega) (by simp; omega) ?_); intro v' w5 own5 hg5 _ hb5)
          have HT : Hid (TearAt w w5 n p S s0 v' (i + 1)) := HE6.out w5 v' _ own5 hg5 hb5
          clear own5 hg5 hb5 HE6 HN hown5
          go_roundw
          case rel => exact ⟨i + 1, by omega, by go_num, HT.out⟩
          case measure => simp [intOf]; omega
        · clear HC2
          go_wp2
          go_roundw
          case rel => exact ⟨i + 1, by omega, by go_num, HREL.out⟩
          case measure => simp [intOf]; omega
    · obtain rfl : i = os2.length := by omega
      obtain ⟨pv', d', l, hd, hdn, hdl, hdp, hm, hll, ht, hdb, ho⟩ := hta
      obtain ⟨nn, sec, pend, life⟩ := d'
      simp only at hdn hdl hdp
      subst hdn hdl
      have hfk : FlagsIn wr vk ks := ⟨HK.out.1.frame ho (fun _ e => e.elim), HK.out.2⟩
      obtain ⟨aF, capF, w6, hrF, ownF, o6⟩ := app_copy 32 4 i4 _ 1 Try.underlying32 hi4 hz40 hz41 hz42 rfl rfl wr vk ks.length _ hfk.1 (fun j => rfl) hfk.2
      have hSl := hd.lt S (.inr (.inl rfl))
      have fl := flags_own (S := S) ownF (by have := hfk.2; unfold maxLen; omega) (by omega)
      have d6 := hd.frame o6 (fun _ _ e => e)
      have HCX := crash_any p S _ ks.length cut pv' (.slice aF ks.length capF) (fun j => ks.getD j false) torn _ w6 d6 (by omega) fl
      have hLm : l.length ≤ os2.length + 1 := hll
      have HRF : Hid _ := hrF
      have hem := empty32
      have HM6 : Hid (MayAt w6 w.heap.size nn u14 l) := hm.frame o6 (fun _ _ e => e)
      have HDB : Hid (∀ k, diskB p S pv' k → ¬ mayB u14 l k) := hdb
      have HTE : Hid (Tear s0 ⟨nn, sec, pend, -1⟩ l) := ht
      have HD6 : Hid (∀ k, diskB p S pv' k → w.heap.size ≤ k) := fun k hk => (hd.lt k hk).1
      have O6 : Hid (Only (fun _ => False) w w6) := ho.trans o6 (fun _ _ e => e)
      clear hrF ownF o6 fl hfk d6 hd hm ht hdb ho hSl HS2 HK hlt hll hdp
      go_wp2_with (first | (refine wpList_append_runG _ _ 32 rfl rfl _ _ (.slice aF ks.length capF) rfl rfl HRF.out ?_))
      refine HCX.mono ?_
      rintro e w7 ⟨rfl, d7, o7⟩
      have nB : ∀ k, (k = p ∨ k = S) → diskB p S pv' k := fun k hk => hk.elim (fun e => .inl e) (fun e => .inr (.inl e))
      have O7 : Hid (Only (fun _ => False) w w7) := O6.out.trans o7 (fun k hk e => by have := HD6.out k (nB k e); omega)
      have HM7 : Hid (MayAt w7 w.heap.size nn u14 l) := HM6.out.frame o7 (fun k hk e => HDB.out k (nB k e) hk)
      obtain ⟨sC, hsC⟩ : ∃ q, q = crashTo (fun i => decide (i < ks.length) && ks.getD i false) torn cut pend (undoW pend sec) pend.length := ⟨_, rfl⟩
      have HTC : Hid (∀ i j, ∃ x ∈ l, x.s i j = sC i j) := fun i j => by rw [hsC]; exact tear_crash HTE.out _ _ _ i j _
      have d7' : DiskAt w7 w.heap.size p S (.slice none 0 0) ⟨nn, sC, [], -1⟩ := by rw [hsC]; exact d7
      have HD7 : Hid (DiskAt w7 w.heap.size p S (.slice none 0 0) ⟨nn, sC, [], -1⟩) := d7'
      clear d7 d7' hsC o7 HCX HRF hem HM6 O6 HD6 HDB HTE nB
      go_wp2_with fail
      refine (all_rng p S _ _ _ w7 HD7.out (by simp)).mono ?_
      rintro e w8 ⟨gN, cN, rfl, _, _, rN, o8⟩
      have O8 : Hid (Only (fun _ => False) w w8) := O7.out.trans o8 (fun _ _ e => e)
      have HM8 : Hid (MayAt w8 w.heap.size nn u14 l) := HM7.out.frame o8 (fun _ _ e => e)
      have HRN : Hid (w8.rangeAt gN 0 (allL nn sC)) := rN
      obtain ⟨gM, cM, hmv⟩ := HM8.out.form
      subst hmv
      have hL := HM8.out.own.2
      obtain ⟨m, hm⟩ : ∃ m, m = nn * 32 := ⟨_, rfl⟩
      have HMM : Hid (m = nn * 32) := hm
      have hmb : m ≤ 2048 := by omega
      simp only [← hm]
      clear hm hL rN o8 HM7 HD7 O7
      go_wp2_with fail
      go_loopw [17] (fun t wr => ∃ k : Nat, k ≤ m ∧ t = .int .i64 k ∧ Only (fun _ => False) w8 wr) (fun t _ => m - (intOf t).toNat)
      case atStart => exact ⟨0, Nat.zero_le _, rfl, Only.refl _ _⟩
      case round =>
        obtain ⟨k, hk, rfl, hok⟩ := hrel
        by_cases hlk : k < m
        · have k0 : (0 : Int) ≤ (k : Int) := Int.natCast_nonneg _
          have k1 : (k : Int) < (m : Int) := by omega
          have HOK : Hid (Only (fun _ => False) w8 wr) := hok
          clear hok
          go_wp2_with fail
          go_loopw [18, 19] (fun b t wr => ∃ q : Nat, q ≤ l.length ∧ t = .int .i64 q ∧ (∃ f, b = .bool f ∧ Found l (sC (k / 32) (k % 32)) (k / 32) (k % 32) q f) ∧ Only (fun _ => False) w8 wr) (fun _ t _ => l.length - (intOf t).toNat)
          case atStart => exact ⟨0, Nat.zero_le _, rfl, ⟨false, rfl, fun _ r _ h => absurd h (Nat.not_lt_zero _)⟩, HOK.out⟩
          case round =>
            obtain ⟨q, hq, rfl, ⟨f, rfl, hf⟩, hoq⟩ := hrel
            cases f with
            | true =>
              clear hf
              by_cases hlq : q < l.length
              · have q1 : (q : Int) < (l.length : Int) := by omega
                go_wp2
                go_roundw
                case rel => exact ⟨k + 1, by omega, by go_num, hoq⟩
                case measure => simp [intOf]; omega
              · obtain rfl : q = l.length := by omega
                go_wp2
                go_roundw
                case rel => exact ⟨k + 1, by omega, by go_num, hoq⟩
                case measure => simp [intOf]; omega
            | false =>
              by_cases hlq : q < l.length
              · have q0 : (0 : Int) ≤ (q : Int) := Int.natCast_nonneg _
                have q1 : (q : Int) < (l.length : Int) := by omega
                obtain ⟨xv, hxv⟩ : ∃ xv, xv = l[q].s (k / 32) (k % 32) := ⟨_, rfl⟩
                obtain ⟨sv, hsv⟩ : ∃ sv, sv = sC (k / 32) (k % 32) := ⟨_, rfl⟩
                have hkj : k < nn * 32 := by have := HMM.out; omega
                have z1 : wr.cell? ⟨gM, q, none⟩ = some (.slice (some ⟨l[q].g, 0, none⟩) m l[q].c) := by
                  rw [HMM.out, ← mayL_get nn l q hlq, ← HM8.out.own.cellAt q (by omega)]
                  rw [HM8.out.own.cellAt q (by omega), mayL_get nn l q hlq]
                  exact hoq.cell (by rw [HM8.out.own.cellAt q (by omega), mayL_get nn l q hlq]) (fun e => e)
                have z2 : wr.cell? ⟨l[q].g, k, none⟩ = some (.int .u8 xv) := by
                  have := (HM8.out.at_ _ (List.getElem_mem hlq)).2 k (.int .u8 xv) (by rw [hxv]; simp [allL, hkj])
                  rw [Nat.zero_add] at this
                  exact hoq.cell this (fun e => e)
                have z3 : wr.cell? ⟨gN, k, none⟩ = some (.int .u8 sv) := by
                  have := HRN.out k (.int .u8 sv) (by rw [hsv]; simp [allL, hkj])
                  rw [Nat.zero_add] at this
                  exact hoq.cell this (fun e => e)
                obtain ⟨gx, hgx⟩ : ∃ g, g = l[q].g := ⟨_, rfl⟩
                obtain ⟨cx, hcx⟩ : ∃ g, g = l[q].c := ⟨_, rfl⟩
                rw [← hgx, ← hcx] at z1
                rw [← hgx] at z2
                have HOQ : Hid (Only (fun _ => False) w8 wr) := hoq
                have HF : Hid (∀ f, (f = true ↔ xv = sv) → Found l (sC (k / 32) (k % 32)) (k / 32) (k % 32) (q + 1) f) := fun f hff => by
                  cases f with
                  | true => exact found_yes
                  | false => exact found_no hlq hf (by rw [← hxv, ← hsv]; intro e; exact absurd (hff.2 e) (by decide))
                clear hxv hsv hgx hcx hoq hf hkj
                have hmm : decide ((m : Int) = (m : Int)) = true := by simp
                by_cases hv : xv = sv
                · subst hv
                  go_wp2_with fail
                  go_quiet (fail)
                  go_wp2
                  go_roundw
                  case rel => exact ⟨q + 1, by omega, by go_num, ⟨_, rfl, HF.out _ (by simp)⟩, HOQ.out.drewN _⟩
                  case measure => simp [intOf]; omega
                · have hv' : decide (xv = sv) = false := by simp [hv]
                  go_wp2_with fail
                  go_quiet (fail)
                  go_wp2
                  go_roundw
                  case rel => exact ⟨q + 1, by omega, by go_num, ⟨_, rfl, HF.out _ (by simp [hv])⟩, HOQ.out.drewN _⟩
                  case measure => simp [intOf]; omega
              · obtain rfl : q = l.length := by omega
                exact (found_end (HTC.out _ _) hf).elim
        · obtain rfl : k = m := by omega
          go_wp2
          go_ret
          exact ⟨rfl, (O8.out.trans hok (fun _ _ e => e)).below (fun _ e => e.elim) (Nat.le_refl _)⟩
/-- DiskTears, whatever it is given. -/
theorem tears_any (s torn cut : Int) (v v2 vk : Value) (os os2 : List OpD) (ks : List Bool) (w : World) (hs : ScriptAt w v os) (hs2 : ScriptAt w v2 os2) (hk : FlagsIn w vk ks) :
    Calls Try.prog 5 #[.int .i64 s, v, v2, vk, .int .i64 torn, .int .i64 cut] w fun e w' => e = .returned (.bool true) ∧ Below w.heap.size w w' := by
  by_cases hc : cut < 0 ∨ 32 < cut
  · exact tears_bad s torn cut v v2 vk os w hs hc
  · have e : cut = (cut.toNat : Int) := by omega
    have := tears_walk s torn cut.toNat v v2 vk os os2 ks w hs hs2 hk (by omega)
    rw [← e] at this
    exact this
end Go.Proofs.Ytaeghpfncfkgfaa
