import Derived.Test.YtlcglapcmdpkfaaGreatO1
import Derived.Test.YtlcglapcmdpkfaaGreatG20
namespace Go.Proofs.YtlcglapcmdpkfaaGreat
open Go.RowKit Go.Maps
set_option linter.unusedSimpArgs false
set_option linter.unusedVariables false
set_option maxRecDepth 100000 in
set_option maxHeartbeats 1000000 in
theorem open_dead (p S B : Nat) (pv : Value) (d : DS) (w : World) (h : DiskAt w B p S pv d) (hl : d.life = 0) :
  Calls Tryz.prog 45 #[.pointer (some ⟨p, 0, none⟩)] w fun e w' => e = .returned (.tuple #[.pointer none, .int .i64 3]) ∧ w' = w := by
 have h2 : w.cell? ⟨p, 2, none⟩ = some (.int .i64 0) := by rw [← hl]; exact h.c2
 have HR := read_dead p 0 w h2
 clear h h2
 go_enter Tryz.func45, Tryz.ntmps45
 go_wp2_with (go_at_call 8; refine HR.mono ?_; rintro e w' ⟨rfl, rfl⟩)
 go_ret2
 exact ⟨rfl, rfl⟩
set_option maxRecDepth 100000 in
set_option maxHeartbeats 1000000 in
theorem open_small (p S B : Nat) (pv : Value) (d : DS) (w : World) (h : DiskAt w B p S pv d) (hl : d.life ≠ 0) (h0 : 0 < d.n) (hn : d.n / 4 < 3) :
  Calls Tryz.prog 45 #[.pointer (some ⟨p, 0, none⟩)] w fun e w' => e = .returned (.tuple #[.pointer none, .int .i64 6]) ∧ Only (fun _ => False) w w' := by
 obtain ⟨w1, hw1⟩ : ∃ w1, w1 = w.alloc (.cells (secL (d.sec 0)).toArray 67) := ⟨_, rfl⟩
 have HRd : Hid (Calls Tryz.prog 8 #[.pointer (some ⟨p, 0, none⟩), .int .i64 0] w fun e w' => e = .returned (.tuple #[.slice (some ⟨w.heap.size, 0, none⟩) 32 32, .int .i64 0]) ∧ w' = w1) := by
  rw [hw1]
  exact read_any p S 0 B pv d w h hl h0
 have o1 : Only (fun _ => False) w w1 := by rw [hw1]; exact (Only.refl _ w).alloc _
 have O1 : Hid (Only (fun _ => False) w w1) := o1
 have h1 : DiskAt w1 B p S pv d := h.frame o1 (fun _ _ e => e)
 obtain ⟨c, hc⟩ := h1.c0
 have HCn : Hid (Calls Tryz.prog 28 _ _ _) := count_any p S d.n c w1 h1.n2 hc
 obtain ⟨nn, hnn⟩ : ∃ nn, nn = d.n / 4 := ⟨_, rfl⟩
 rw [← hnn] at hn HCn
 have hn' : (nn : Int) < 3 := by omega
 clear h h1 hc hw1 o1 hnn hl h0
 go_enter Tryz.func45, Tryz.ntmps45
 go_wp2_with fail
 refine (show Calls Tryz.prog 8 _ _ _ from HRd.out).mono ?_
 rintro e wa ⟨rfl, hwa⟩
 rw [hwa]
 clear hwa HRd
 go_wp2_with fail
 refine (show Calls Tryz.prog 28 _ _ _ from HCn.out).mono ?_
 rintro e wb ⟨rfl, hwb⟩
 rw [hwb]
 clear hwb HCn
 go_wp2
 go_ret2
 exact ⟨rfl, O1.out⟩
set_option maxRecDepth 100000 in
set_option maxHeartbeats 1000000 in
theorem ropen_dead {w : World} {B q K : Nat} {rv : Value} {rs : List RW} {d : DS} (h : RefAt w B q K rv d rs) (hl : d.life = 0) :
  Calls Tryz.prog 46 #[.pointer (some ⟨q, 0, none⟩)] w fun e w' => e = .returned (.tuple #[.pointer none, .int .i64 3]) ∧ w' = w := by
 have h2 : w.cell? ⟨q, 3, none⟩ = some (.int .i64 0) := by rw [← hl]; exact h.c3
 have HR := rread_dead q 0 w h2
 clear h h2
 go_enter Tryz.func46, Tryz.ntmps46
 go_wp2_with (go_at_call 9; refine HR.mono ?_; rintro e w' ⟨rfl, rfl⟩)
 go_ret2
 exact ⟨rfl, rfl⟩
set_option maxRecDepth 100000 in
set_option maxHeartbeats 1000000 in
theorem ropen_small {w : World} {B q K : Nat} {rv : Value} {rs : List RW} {d : DS} (h : RefAt w B q K rv d rs) (hg : Good d) (hl : d.life ≠ 0) (hlen : d.pend.length ≤ 140737488351232) (h0 : 0 < d.n) (hn : d.n / 4 < 3) :
  Calls Tryz.prog 46 #[.pointer (some ⟨q, 0, none⟩)] w fun e w' => e = .returned (.tuple #[.pointer none, .int .i64 6]) ∧ Only (fun _ => False) w w' := by
 have HRd : Hid (Calls Tryz.prog 9 #[.pointer (some ⟨q, 0, none⟩), .int .i64 0] w fun e w' => ∃ u, e = .returned (.tuple #[u, .int .i64 0]) ∧ Hid (Only (fun _ => False) w w')) := by
  refine (rread_any h hg hl hlen 0 h0).mono ?_
  rintro e w' ⟨g, cap, he, _, q2⟩
  exact ⟨_, he, q2⟩
 have HC : Hid (∀ w1, Only (fun _ => False) w w1 → Calls Tryz.prog 71 #[.pointer (some ⟨q, 0, none⟩)] w1 fun e w' => e = .returned (.int .i64 ((d.n / 4 : Nat) : Int)) ∧ w' = w1) := fun w1 ho => rcount_any q d.n w1 h.n2 (ho.cell h.c0 (fun e => e))
 obtain ⟨nn, hnn⟩ : ∃ nn, nn = d.n / 4 := ⟨_, rfl⟩
 rw [← hnn] at hn HC
 have hn' : (nn : Int) < 3 := by omega
 clear h hnn hl h0 hg hlen
 go_enter Tryz.func46, Tryz.ntmps46
 go_wp2_with fail
 refine (show Calls Tryz.prog 9 _ _ _ from HRd.out).mono ?_
 rintro e wa ⟨u, rfl, HO⟩
 clear HRd
 go_wp2_with fail
 refine (HC.out wa HO.out).mono ?_
 rintro e wb ⟨rfl, hwb⟩
 rw [hwb]
 clear hwb HC
 go_wp2
 go_ret2
 exact ⟨rfl, HO.out⟩
end Go.Proofs.YtlcglapcmdpkfaaGreat
