/- The walk of the law DiskPlays. -/
import Derived.Test.YtaeghpfncfkgfaaT30
import Derived.Deep.RegionWith
namespace Go.Proofs.Ytaeghpfncfkgfaa
open Go.RowKit
set_option linter.unusedSimpArgs false
set_option linter.unusedVariables false

/-- Between two calls of the script. -/
def PlayAt (w0 w : World) (p r K n i : Nat) : Prop := ∃ S pv rv rs d, Both w0 w p S pv r K rv rs d w.heap.size ∧ d.n = n ∧ d.pend.length ≤ i
/-- What is seen of it at once. -/
theorem PlayAt.see {w0 w : World} {p r K n i : Nat} (h : PlayAt w0 w p r K n i) : ∃ m a1 c1 a2 c2 S, w.cell? ⟨p, 1, none⟩ = some (.slice a1 m c1) ∧ w.cell? ⟨r, 2, none⟩ = some (.slice a2 m c2) ∧ HasN w p S n := by
  obtain ⟨S, pv, rv, rs, d, hb, rfl, hp⟩ := h
  have b := hb
  obtain ⟨a2, c2, hv⟩ := b.ref.form
  have hl := b.ref.len
  have h2 := b.ref.c2
  rw [hv, hl] at h2
  rcases b.disk.own.2 with ⟨e, e0⟩ | ⟨g, cap, cur, e, _⟩
  · exact ⟨d.pend.length, none, 0, a2, c2, S, by rw [b.disk.c1, e, e0], h2, b.disk.c0⟩
  · exact ⟨d.pend.length, _, cap, a2, c2, S, by rw [b.disk.c1, e], h2, b.disk.c0⟩
theorem playAt_copy {w0 w : World} {p r K n i : Nat} (h : PlayAt w0 w p r K n i) (hi : i * 72 ≤ 140737488355328) :
    Calls Try.prog 12 #[.pointer (some ⟨p, 0, none⟩)] w fun e w' => ∃ p', e = .returned (.pointer (some ⟨p', 0, none⟩)) ∧ Hid (PlayAt w0 w' p' r K n i) := by
  obtain ⟨S, pv, rv, rs, d, hb, hn, hp⟩ := h
  have b := hb
  refine (copy_any p S _ w0.heap.size pv d w b.disk (by omega) b.only.size).mono ?_
  rintro e w' ⟨p', S', pv', rfl, d', hb', o'⟩
  refine ⟨p', rfl, S', pv', rv, rs, d, ?_, hn, hp⟩
  have r' := b.ref.frame o' (fun _ _ e => e)
  exact ⟨d', r', b.good, fun q hq e => by have := (b.ref.lt q e).2; have := hb' q hq; omega, b.only.trans o' (fun _ _ e => e), fun e => by have := (d'.lt _ e).2; omega, fun e => by have := (r'.lt _ e).2; omega⟩
theorem playAt_step {w0 w : World} {p r K n i : Nat} (h : PlayAt w0 w p r K n i) (hi : (i + 1) * 72 ≤ 140737488355328) (x : OpD) (hx : x.ok w0) :
    Calls Try.prog 13 #[.pointer (some ⟨p, 0, none⟩), .pointer (some ⟨r, 0, none⟩), .agg x.cells.toArray] w.drew fun e w2 => e = .returned (.bool true) ∧ ∃ m a1 c1 a2 c2 S, w2.cell? ⟨p, 1, none⟩ = some (.slice a1 m c1) ∧ w2.cell? ⟨r, 2, none⟩ = some (.slice a2 m c2) ∧ HasN w2 p S n ∧ Hid (PlayAt w0 w2 p r K n (i + 1)) := by
  obtain ⟨S, pv, rv, rs, d, hb, hn, hp⟩ := h
  have b := hb.frame ((Only.refl (fun _ => False) w).drew)
  refine (step_any b (by omega) x hx).mono ?_
  rintro e w2 ⟨rfl, HN⟩
  obtain ⟨pv', rv', rs', d', hb', hn', hp'⟩ := HN.out
  have hP : PlayAt w0 w2 p r K n (i + 1) := ⟨S, pv', rv', rs', d', hb', hn'.trans hn, by omega⟩
  obtain ⟨m, a1, c1, a2, c2, S', q1, q2, q3⟩ := hP.see
  exact ⟨rfl, m, a1, c1, a2, c2, S', q1, q2, q3, hP⟩
/-- Both disks are new. -/
theorem playAt_new {w0 w1 w2 : World} {p S r K n : Nat} (hd : DiskAt w1 w0.heap.size p S (.slice none 0 0) ⟨n, fun _ _ => 0, [], -1⟩) (o1 : Only (fun _ => False) w0 w1) (hr : RefAt w2 w1.heap.size r K (.slice none 0 0) ⟨n, fun _ _ => 0, [], -1⟩ []) (o2 : Only (fun _ => False) w1 w2) : PlayAt w0 w2 p r K n 0 := by
  have s1 := o1.size
  have hr' : RefAt w2 w0.heap.size r K (.slice none 0 0) ⟨n, fun _ _ => 0, [], -1⟩ [] :=
    { rB := by have := hr.rB; omega, KB := by have := hr.KB; omega, rK := hr.rK, c0 := hr.c0, c1 := hr.c1, c2 := hr.c2, c3 := hr.c3, f2 := hr.f2, f3 := hr.f3, kept := hr.kept, kth := hr.kth, own := World.ownsRow_nil _ _ _ _, hr := hr.hr, hK := hr.hK, tie := rfl,
      at_ := fun x hx => by cases hx
      bd := fun x hx => by cases hx
      n1 := hr.n1, n2 := hr.n2, l1 := hr.l1, l2 := hr.l2 }
  have d2 := hd.frame o2 (fun _ _ e => e)
  exact ⟨S, _, _, [], _, ⟨d2, hr', Good.nil _ _ _, fun b hb e => by have := (hd.lt b hb).2; have := (hr.lt b e).1; omega, o1.trans o2 (fun _ _ e => e), fun e => by have := (d2.lt _ e).2; omega, fun e => by have := (hr'.lt _ e).2; omega⟩, rfl, by simp⟩
theorem PlayAt.only {w0 w : World} {p r K n i : Nat} (h : PlayAt w0 w p r K n i) : Only (fun _ => False) w0 w := by
  obtain ⟨S, pv, rv, rs, d, hb, hn, hp⟩ := h
  exact hb.only
theorem PlayAt.mono {w0 w : World} {p r K n i : Nat} (h : PlayAt w0 w p r K n i) (j : Nat) (hj : i ≤ j) : PlayAt w0 w p r K n j := by
  obtain ⟨S, pv, rv, rs, d, hb, hn, hp⟩ := h
  exact ⟨S, pv, rv, rs, d, hb, hn, by omega⟩

set_option maxRecDepth 100000 in
set_option maxHeartbeats 2000000 in
theorem plays_bad (s : Int) (v : Value) (w : World) (h : s < 1 ∨ 8192 < s) :
    Calls Try.prog 3 #[.int .i64 s, v] w fun e w' => e = .returned (.bool true) ∧ Below w.heap.size w w' := by
  go_enter Try.func3, Try.ntmps3
  go_wp2_with fail
  refine (awake_any w).mono ?_
  rintro e w1 ⟨rfl, o1⟩
  have O1 : Hid (Below w.heap.size w w1) := o1.below (fun _ e => e.elim) (Nat.le_refl _)
  clear o1
  go_wp2_with fail
  refine (new_bad s w1 h).mono ?_
  rintro e w2 ⟨rfl, rfl⟩
  go_wp2_with fail
  refine (rnew_bad s w2 h).mono ?_
  rintro e w3 ⟨rfl, rfl⟩
  go_wp2
  go_ret
  exact ⟨rfl, O1.out⟩
set_option maxRecDepth 100000 in
set_option maxHeartbeats 4000000 in
theorem plays_walk (n : Nat) (v : Value) (os : List OpD) (w : World) (hs : ScriptAt w v os) (h1 : 1 ≤ n) (h2 : n ≤ 8192) :
    Calls Try.prog 3 #[.int .i64 n, v] w fun e w' => e = .returned (.bool true) ∧ Below w.heap.size w w' := by
  have hlen : os.length * 88 ≤ 140737488351232 := hs.2.1
  obtain ⟨a, c, hv⟩ := hs.form
  have HS : Hid (ScriptAt w v os) := hs
  clear hs
  subst hv
  go_enter Try.func3, Try.ntmps3
  go_wp2_with fail
  refine (awake_any w).mono ?_
  rintro e w1 ⟨rfl, o1⟩
  have O1 : Hid (Only (fun _ => False) w w1) := o1
  clear o1
  go_wp2_with fail
  refine (new_any n w1 h1 h2).mono ?_
  rintro e w2 ⟨p, S, rfl, d2, o2⟩
  have HD : Hid (DiskAt w2 w1.heap.size p S (.slice none 0 0) ⟨n, fun _ _ => 0, [], -1⟩ ∧ Only (fun _ => False) w1 w2) := ⟨d2, o2⟩
  clear d2 o2
  go_wp2_with fail
  refine (rnew_ok n w2 h1 h2).mono ?_
  rintro e w3 ⟨rfl, r3, o3⟩
  obtain ⟨r, hr⟩ : ∃ r, r = w2.heap.size + 1 := ⟨_, rfl⟩
  obtain ⟨K, hK⟩ : ∃ K, K = w2.heap.size := ⟨_, rfl⟩
  have HP0 : Hid (PlayAt w1 w3 p r K n 0) := by rw [hr, hK]; exact playAt_new HD.out.1 HD.out.2 r3 o3
  rw [← hr]
  clear r3 o3 HD hr hK
  go_wp2_with fail
  go_loopw [5, 9] (fun b t wr => ∃ i : Nat, i ≤ os.length ∧ t = .int .i64 i ∧ ∃ p, b = .pointer (some ⟨p, 0, none⟩) ∧ PlayAt w1 wr p r K n i) (fun _ t _ => os.length - (intOf t).toNat)
  case atStart => exact ⟨0, Nat.zero_le _, rfl, p, rfl, HP0.out⟩
  case round =>
    clear HP0
    obtain ⟨i, hi, rfl, p, rfl, hP⟩ := hrel
    by_cases hlt : i < os.length
    · obtain ⟨x, hx⟩ : ∃ x, x = os[i] := ⟨_, rfl⟩
      obtain ⟨g, o, c', hv, hrange⟩ := HS.out.get i hlt
      simp only [Value.slice.injEq, true_and] at hv
      obtain ⟨rfl, rfl⟩ := hv
      rw [← hx] at hrange
      have hok : x.ok w1 := (HS.out.2.2 x (by rw [hx]; exact List.getElem_mem _)).frame O1.out
      have hr1 := O1.out.range hrange (fun e => e)
      clear hx hrange
      have i0 : (0 : Int) ≤ (i : Int) := Int.natCast_nonneg _
      have i1 : (i : Int) < (os.length : Int) := by omega
      have STEP : Hid (∀ (p : Nat) (wz : World), PlayAt w1 wz p r K n i → Calls Try.prog 13 #[.pointer (some ⟨p, 0, none⟩), .pointer (some ⟨r, 0, none⟩), .agg x.cells.toArray] wz.drew fun e w2 => e = .returned (.bool true) ∧ ∃ m a1 c1 a2 c2 S, w2.cell? ⟨p, 1, none⟩ = some (.slice a1 m c1) ∧ w2.cell? ⟨r, 2, none⟩ = some (.slice a2 m c2) ∧ HasN w2 p S n ∧ Hid (PlayAt w1 w2 p r K n (i + 1))) := fun p wz hz => playAt_step hz (by omega) x hok
      have HR1 : Hid (w1.rangeAt g (o + i * 7) x.cells) := hr1
      clear hr1
      obtain ⟨kind, sx, nx, cutx, odd, xb, keepx, vb, vk⟩ := x
      have hvbk : (∃ a m c, vb = .slice a m c) ∧ (∃ a m c, vk = .slice a m c) := by
        refine ⟨?_, ?_⟩
        · rcases hok.1.1 with ⟨h, _⟩ | ⟨ad, c, h, _⟩ <;> exact ⟨_, _, _, h⟩
        · rcases hok.2.1.1 with ⟨h, _⟩ | ⟨ad, c, h, _⟩ <;> exact ⟨_, _, _, h⟩
      obtain ⟨⟨ab, mb, cb, hvb⟩, ⟨ak, mk, ck, hvk⟩⟩ := hvbk
      subst hvb hvk
      simp only [OpD.cells] at STEP HR1
      have hrw := hP.only.range HR1.out (fun e => e)
      have y0 : wr.cell? ⟨g, o + i * 7, none⟩ = some (.int .i64 kind) := hrw 0 _ rfl
      by_cases hk5 : kind = 5
      · subst hk5
        have HCP := playAt_copy hP (by omega)
        clear hP hrw
        go_wp2_with fail
        refine HCP.mono ?_
        rintro e wz ⟨pz, rfl, HPZ⟩
        clear HCP y0
        have hrw := HPZ.out.only.range HR1.out (fun e => e)
        have y0 : wz.cell? ⟨g, o + i * 7, none⟩ = some (.int .i64 5) := hrw 0 _ rfl
        have y1 : wz.cell? ⟨g, o + i * 7 + 1, none⟩ = some (.int .i64 sx) := hrw 1 _ rfl
        have y2 : wz.cell? ⟨g, o + i * 7 + 2, none⟩ = some (.int .i64 nx) := hrw 2 _ rfl
        have y3 : wz.cell? ⟨g, o + i * 7 + 3, none⟩ = some (.int .i64 cutx) := hrw 3 _ rfl
        have y4 : wz.cell? ⟨g, o + i * 7 + 4, none⟩ = some (.bool odd) := hrw 4 _ rfl
        have y5 : wz.cell? ⟨g, o + i * 7 + 5, none⟩ = some (.slice ab mb cb) := hrw 5 _ rfl
        have y6 : wz.cell? ⟨g, o + i * 7 + 6, none⟩ = some (.slice ak mk ck) := hrw 6 _ rfl
        have HC : Hid _ := STEP.out pz wz HPZ.out
        clear STEP hrw
        go_wp2_with fail
        go_region_with (first
          | (go_at_call 13; refine Calls.mono HC.out ?_; rintro e w2 ⟨rfl, m, a1, c1, a2, c2, S2, q1, q2, q3, HP2⟩)
          | (go_at_call 14; refine (pending_any _ a1 m c1 _ q1).mono ?_; rintro e w3 ⟨rfl, rfl⟩)
          | (go_at_call 15; refine (lenN _ S2 n _ q3).mono ?_; rintro e w4 ⟨rfl, rfl⟩))
        all_goals
          (clear q1 q2 q3 HC y0 y1 y2 y3 y4 y5 y6
           go_wp2
           go_roundw
           case rel => exact ⟨i + 1, by omega, by go_num, pz, rfl, HP2.out⟩
           case measure => simp [intOf]; omega)
      · have y1 : wr.cell? ⟨g, o + i * 7 + 1, none⟩ = some (.int .i64 sx) := hrw 1 _ rfl
        have y2 : wr.cell? ⟨g, o + i * 7 + 2, none⟩ = some (.int .i64 nx) := hrw 2 _ rfl
        have y3 : wr.cell? ⟨g, o + i * 7 + 3, none⟩ = some (.int .i64 cutx) := hrw 3 _ rfl
        have y4 : wr.cell? ⟨g, o + i * 7 + 4, none⟩ = some (.bool odd) := hrw 4 _ rfl
        have y5 : wr.cell? ⟨g, o + i * 7 + 5, none⟩ = some (.slice ab mb cb) := hrw 5 _ rfl
        have y6 : wr.cell? ⟨g, o + i * 7 + 6, none⟩ = some (.slice ak mk ck) := hrw 6 _ rfl
        have HC : Hid _ := STEP.out p wr hP
        clear STEP hrw hP
        go_wp2_with fail
        go_region_with (first
          | (go_at_call 13; refine Calls.mono HC.out ?_; rintro e w2 ⟨rfl, m, a1, c1, a2, c2, S2, q1, q2, q3, HP2⟩)
          | (go_at_call 14; refine (pending_any _ a1 m c1 _ q1).mono ?_; rintro e w3 ⟨rfl, rfl⟩)
          | (go_at_call 15; refine (lenN _ S2 n _ q3).mono ?_; rintro e w4 ⟨rfl, rfl⟩))
        all_goals
          (clear q1 q2 q3 HC y0 y1 y2 y3 y4 y5 y6
           go_wp2
           go_roundw
           case rel => exact ⟨i + 1, by omega, by go_num, p, rfl, HP2.out⟩
           case measure => simp [intOf]; omega)
    · obtain rfl : i = os.length := by omega
      have HE : Hid (Below w.heap.size w wr) := (O1.out.trans hP.only (fun _ _ e => e)).below (fun _ e => e.elim) (Nat.le_refl _)
      clear hP
      go_wp2
      go_ret
      exact ⟨rfl, HE.out⟩
/-- DiskPlays, whatever it is given. -/
theorem plays_any (s : Int) (v : Value) (os : List OpD) (w : World) (hs : ScriptAt w v os) :
    Calls Try.prog 3 #[.int .i64 s, v] w fun e w' => e = .returned (.bool true) ∧ Below w.heap.size w w' := by
  by_cases hc : s < 1 ∨ 8192 < s
  · exact plays_bad s v w hc
  · have e : s = (s.toNat : Int) := by omega
    have := plays_walk s.toNat v os w hs (by omega) (by omega)
    rw [← e] at this
    exact this
end Go.Proofs.Ytaeghpfncfkgfaa
