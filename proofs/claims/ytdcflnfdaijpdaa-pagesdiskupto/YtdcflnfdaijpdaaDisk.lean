/- The walk of PagesDisk. -/
import Derived.Test.YtdcflnfdaijpdaaIn2
import Derived.Deep.RegionWith
namespace Go.Proofs.Ytdcflnfdaijpdaa
open Go.RowKit
set_option linter.unusedSimpArgs false
set_option linter.unusedVariables false

/-- Between two calls of the script. -/
def PlayAt (w0 w : World) (p r K n i : Nat) : Prop := ∃ S pv rv rs d, Both w0 w p S pv r K rv rs d w.heap.size ∧ d.n = n ∧ d.pend.length ≤ 4 * i
theorem PlayAt.only {w0 w : World} {p r K n i : Nat} (h : PlayAt w0 w p r K n i) : Only (fun _ => False) w0 w := by
  obtain ⟨S, pv, rv, rs, d, hb, hn, hp⟩ := h
  exact hb.only
/-- What is seen of it at the end. -/
theorem PlayAt.see {w0 w : World} {p r K n i : Nat} (h : PlayAt w0 w p r K n i) : ∃ m a2 c2, w.cell? ⟨r, 2, none⟩ = some (.slice a2 m c2) ∧
    (Calls Try.prog 22 #[.pointer (some ⟨p, 0, none⟩)] w.drew fun e w' => e = .returned (.int .i64 ((n / 4 : Nat) : Int)) ∧ w' = w.drew) ∧ (Calls Try.prog 23 #[.pointer (some ⟨r, 0, none⟩)] w.drew fun e w' => e = .returned (.int .i64 ((n / 4 : Nat) : Int)) ∧ w' = w.drew) ∧
    (Calls Try.prog 24 #[.pointer (some ⟨p, 0, none⟩)] w.drew fun e w' => e = .returned (.int .i64 m) ∧ w' = w.drew) := by
  obtain ⟨S, pv, rv, rs, d, hb, rfl, hp⟩ := h
  have b := hb.frame ((Only.refl (fun _ => False) w).drew)
  obtain ⟨a2, c2, hv⟩ := hb.ref.form
  have h2 := hb.ref.c2
  rw [hv, hb.ref.len] at h2
  obtain ⟨c0, hc0⟩ := b.disk.c0
  refine ⟨d.pend.length, a2, c2, h2, count_any p S d.n c0 _ b.disk.n2 hc0, rcount_any r d.n _ b.ref.n2 b.ref.c0, ?_⟩
  rcases b.disk.own.2 with ⟨e, e0⟩ | ⟨g, cap, cur, e, _⟩
  · exact pending_any p none _ 0 _ (by rw [b.disk.c1, e, e0])
  · exact pending_any p _ _ cap _ (by rw [b.disk.c1, e])
theorem playAt_step {w0 w : World} {p r K n i : Nat} (h : PlayAt w0 w p r K n i) (hi : i ≤ 1048576) (x : OpP) (hx : x.ok w0) :
    Calls Try.prog 21 #[.pointer (some ⟨p, 0, none⟩), .pointer (some ⟨r, 0, none⟩), .agg x.cells.toArray] w fun e w2 => e = .returned (.bool true) ∧ Hid (PlayAt w0 w2 p r K n (i + 1)) := by
  obtain ⟨S, pv, rv, rs, d, hb, hn, hp⟩ := h
  refine (step_any hb (by omega) x hx).mono ?_
  rintro e w2 ⟨rfl, HN⟩
  obtain ⟨pv', rv', rs', d', hb', hn', hp'⟩ := HN.out
  exact ⟨rfl, S, pv', rv', rs', d', hb', hn'.trans hn, by omega⟩
/-- Both disks are new. -/
theorem playAt_new {w0 w1 w2 : World} {p S r K n : Nat} (hd : DiskAt w1 w0.heap.size p S (.slice none 0 0) ⟨n, fun _ _ => 0, [], -1⟩) (o1 : Only (fun _ => False) w0 w1) (hr : RefAt w2 w1.heap.size r K (.slice none 0 0) ⟨n, fun _ _ => 0, [], -1⟩ []) (o2 : Only (fun _ => False) w1 w2) : PlayAt w0 w2 p r K n 0 := by
  have s1 := o1.size
  have hr' : RefAt w2 w0.heap.size r K (.slice none 0 0) ⟨n, fun _ _ => 0, [], -1⟩ [] :=
    { rB := by have := hr.rB; omega, KB := by have := hr.KB; omega, rK := hr.rK, c0 := hr.c0, c1 := hr.c1, c2 := hr.c2, c3 := hr.c3, f2 := hr.f2, f3 := hr.f3, kept := hr.kept, kth := hr.kth, own := World.ownsRow_nil _ _ _ _, hr := hr.hr, hK := hr.hK, tie := rfl,
      at_ := fun x hx => by cases hx
      bd := fun x hx => by cases hx
      n1 := hr.n1, n2 := hr.n2, l1 := hr.l1, l2 := hr.l2 }
  have d2 := hd.frame o2 (fun _ _ e => e)
  exact ⟨S, _, _, [], _, ⟨d2, hr', Good.nil _ _ _, ByteD.new n, fun b hb e => by have := (hd.lt b hb).2; have := (hr.lt b e).1; omega, o1.trans o2 (fun _ _ e => e), fun e => by have := (d2.lt _ e).2; omega, fun e => by have := (hr'.lt _ e).2; omega⟩, rfl, by simp⟩

set_option maxRecDepth 100000 in
set_option maxHeartbeats 2000000 in
theorem disk_bad (s : Int) (v : Value) (w : World) (h : s < 1 ∨ 8192 < s) :
    Calls Try.prog 4 #[.int .i64 s, v] w fun e w' => e = .returned (.bool true) ∧ Below w.heap.size w w' := by
  go_enter Try.func4, Try.ntmps4
  go_wp2_with fail
  refine (awake_any w).mono ?_
  rintro e w1 ⟨rfl, o1⟩
  have O1 : Hid (Below w.heap.size w w1) := o1.below (fun _ e => e.elim) (Nat.le_refl _)
  clear o1
  go_wp2_with fail
  refine (new_bad s w1 h).mono ?_
  rintro e w2 ⟨rfl, rfl⟩
  go_wp2_with fail
  refine (rnew_bad s w2 h).mono ?_
  rintro e w3 ⟨rfl, rfl⟩
  go_wp2
  go_ret
  exact ⟨rfl, O1.out⟩
set_option maxRecDepth 100000 in
set_option maxHeartbeats 4000000 in
theorem disk_walk (n : Nat) (v : Value) (os : List OpP) (w : World) (hs : ScriptAt w v os) (hlen : os.length ≤ 1048576) (h1 : 1 ≤ n) (h2 : n ≤ 8192) :
    Calls Try.prog 4 #[.int .i64 n, v] w fun e w' => e = .returned (.bool true) ∧ Below w.heap.size w w' := by
  obtain ⟨a, c, hv⟩ := hs.form
  have HS : Hid (ScriptAt w v os) := hs
  clear hs
  subst hv
  obtain ⟨L, hL⟩ : ∃ L, L = os.length := ⟨_, rfl⟩
  have HL : Hid (L = os.length) := hL
  rw [← hL] at HS hlen
  rw [← hL]
  clear hL
  go_enter Try.func4, Try.ntmps4
  go_wp2_with fail
  refine (awake_any w).mono ?_
  rintro e w1 ⟨rfl, o1⟩
  have O1 : Hid (Only (fun _ => False) w w1) := o1
  clear o1
  go_wp2_with fail
  refine (new_any n w1 h1 h2).mono ?_
  rintro e w2 ⟨p, S, rfl, d2, o2⟩
  have HD : Hid (DiskAt w2 w1.heap.size p S (.slice none 0 0) ⟨n, fun _ _ => 0, [], -1⟩ ∧ Only (fun _ => False) w1 w2) := ⟨d2, o2⟩
  clear d2 o2
  go_wp2_with fail
  refine (rnew_ok n w2 h1 h2).mono ?_
  rintro e w3 ⟨rfl, r3, o3⟩
  obtain ⟨r, hr⟩ : ∃ r, r = w2.heap.size + 1 := ⟨_, rfl⟩
  obtain ⟨K, hK⟩ : ∃ K, K = w2.heap.size := ⟨_, rfl⟩
  have HP0 : Hid (PlayAt w1 w3 p r K n 0) := by rw [hr, hK]; exact playAt_new HD.out.1 HD.out.2 r3 o3
  rw [← hr]
  clear r3 o3 HD hr hK
  go_wp2_with fail
  go_loopw [9] (fun t wr => ∃ i : Nat, i ≤ L ∧ t = .int .i64 i ∧ PlayAt w1 wr p r K n i) (fun t _ => L - (intOf t).toNat)
  case atStart => exact ⟨0, Nat.zero_le _, rfl, HP0.out⟩
  case round =>
    clear HP0
    obtain ⟨i, hi, rfl, hP⟩ := hrel
    obtain ⟨w4, rfl⟩ : ∃ w4, w4 = wr := ⟨_, rfl⟩
    by_cases hlt : i < L
    · have hlt2 : i < os.length := by have := HL.out; omega
      obtain ⟨x, hx⟩ : ∃ x, x = os[i] := ⟨_, rfl⟩
      obtain ⟨g, o, c', hv, hrange⟩ := HS.out.get i hlt2
      simp only [Value.slice.injEq] at hv
      obtain ⟨rfl, hLL, rfl⟩ := hv
      clear hLL
      rw [← hx] at hrange
      have hok : x.ok w1 := (HS.out.2 x (by rw [hx]; exact List.getElem_mem _)).frame O1.out
      have hrw := hP.only.range (O1.out.range hrange (fun e => e)) (fun e => e)
      have STEP : Hid _ := playAt_step hP (by omega) x hok
      have i0 : (0 : Int) ≤ (i : Int) := Int.natCast_nonneg _
      have i1 : (i : Int) < (L : Int) := by omega
      obtain ⟨kind, Px, sx, ix, xb, vb⟩ := x
      obtain ⟨ab, cb, hvb, _, _⟩ := hok.1.form
      simp only at hvb
      subst hvb
      obtain ⟨mb, hmb⟩ : ∃ m, m = xb.length := ⟨_, rfl⟩
      simp only [OpP.cells, ← hmb] at STEP hrw
      have y0 : w4.cell? ⟨g, o + i * 5, none⟩ = some (.int .i64 kind) := hrw 0 _ rfl
      have y1 : w4.cell? ⟨g, o + i * 5 + 1, none⟩ = some (.int .i64 Px) := hrw 1 _ rfl
      have y2 : w4.cell? ⟨g, o + i * 5 + 2, none⟩ = some (.int .i64 sx) := hrw 2 _ rfl
      have y3 : w4.cell? ⟨g, o + i * 5 + 3, none⟩ = some (.int .u32 ix) := hrw 3 _ rfl
      have y4 : w4.cell? ⟨g, o + i * 5 + 4, none⟩ = some (.slice ab mb cb) := hrw 4 _ rfl
      clear hx hrange hok hP hrw hmb
      go_wp2_with fail
      refine (show Calls Try.prog 21 _ _ _ from STEP.out).mono ?_
      rintro e w5 ⟨rfl, HP5⟩
      clear STEP y0 y1 y2 y3 y4
      go_wp2
      go_roundw
      case rel => exact ⟨i + 1, by omega, by go_num, HP5.out⟩
      case measure => simp [intOf]; omega
    · obtain rfl : i = L := by omega
      have HE : Hid (Only (fun _ => False) w w4) := O1.out.trans hP.only (fun _ _ e => e)
      obtain ⟨m, a2, c2, y2, k22, k23, k24⟩ := hP.see
      obtain ⟨q, hq⟩ : ∃ q, q = n / 4 := ⟨_, rfl⟩
      rw [← hq] at k22 k23
      have K22 : Hid _ := k22
      have K23 : Hid _ := k23
      have K24 : Hid _ := k24
      clear hP k22 k23 k24 hq
      go_wp2_with fail
      go_region_held3 (fun w' => w'.cell? ⟨r, 2, none⟩ = some (.slice a2 m c2)) (go_keep)
        (first
          | (go_at_call 22; refine (show Calls Try.prog 22 _ _ _ from K22.out).mono ?_; rintro e w5 ⟨rfl, rfl⟩)
          | (go_at_call 23; refine (show Calls Try.prog 23 _ _ _ from K23.out).mono ?_; rintro e w5 ⟨rfl, rfl⟩)
          | (go_at_call 24; refine (show Calls Try.prog 24 _ _ _ from K24.out).mono ?_; rintro e w5 ⟨rfl, rfl⟩))
      go_wp2
      go_ret
      exact ⟨rfl, HE.out.drew.below (fun _ e => e.elim) (Nat.le_refl _)⟩
/-- PagesDisk, whatever it is given. -/
theorem disk_any (s : Int) (v : Value) (os : List OpP) (w : World) (hs : ScriptAt w v os) (hlen : os.length ≤ 1048576) (hw : (Lit.int .i64 s).wf = true) :
    Calls Try.prog 4 #[.int .i64 s, v] w fun e w' => e = .returned (.bool true) ∧ Below w.heap.size w w' := by
  by_cases hc : s < 1 ∨ 8192 < s
  · exact disk_bad s v w hc
  · have e : s = (s.toNat : Int) := by omega
    have := disk_walk s.toNat v os w hs hlen (by omega) (by omega)
    rw [← e] at this
    exact this
end Go.Proofs.Ytdcflnfdaijpdaa
