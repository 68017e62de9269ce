import Derived.Test.YtlcglapcmdpkfaaGreatTk
import Derived.Test.YtlcglapcmdpkfaaGreatG24
import Derived.Test.YtlcglapcmdpkfaaGreatO2
namespace Go.Proofs.YtlcglapcmdpkfaaGreat
open Go.RowKit Go.Maps Go.Shelf
set_option linter.unusedSimpArgs false
set_option linter.unusedVariables false
theorem rload_any {w : World} {B q K : Nat} {rv : Value} {rs : List RW} {d : DS} (h : RefAt w B q K rv d rs) (hg : Good d) (hby : ByteD d) (hl : d.life ≠ 0) (hlen : d.pend.length ≤ 10000000000) (r : Nat) (hr : r = 0 ∨ r = 1) (hn3 : 3 ≤ d.n / 4) :
  Calls Tryz.prog 75 #[.pointer (some ⟨q, 0, none⟩), .int .i64 (r : Nat)] w fun e w' => RlIs w q (loadR d (4 * r)) e w' := by
 rw [load_doc]
 cases hok : rtOk (secN (d.sec (4 * r))) with
 | true => exact (rload_good h hg hby hl hlen r hr hn3 hok).mono (fun e w' h => h.out)
 | false =>
   refine (rload_bad h hg hby hl (by omega) r hr (by omega) hok).mono ?_
   rintro e w' ⟨rfl, ho⟩
   exact RlIs.no (by rw [loadD, hok]; rfl) ho
def ROpIs (w : World) (q : Nat) (y : Option SS) (e : Ending) (w' : World) : Prop :=
 Only (fun _ => False) w w' ∧ match y with
 | none => e = .returned (.tuple #[.pointer none, .int .i64 6])
 | some x => ∃ R tv kv nv lk ln, e = .returned (.tuple #[.pointer (some ⟨R, 0, none⟩), .int .i64 0]) ∧ w.heap.size ≤ R ∧ ∀ (rk : Nat → Prop) (B : Nat), (∀ k, rk k → k < w.heap.size) → B ≤ w.heap.size → RsAt w' rk B R q tv kv nv x lk ln
theorem RsAt.ep {w : World} {q R : Nat} {tv kv nv : Value} {x : SS} {lk ln : List RPg} {m : Nat} (h : ∀ (rk : Nat → Prop) (B : Nat), (∀ k, rk k → k < m) → B ≤ m → RsAt w rk B R q tv kv nv x lk ln) : w.cell? ⟨R, 2, none⟩ = some (.int .u64 (x.epoch : Nat)) := (h (fun _ => False) 0 (fun _ e => e.elim) (by omega)).c2
set_option maxRecDepth 100000 in
set_option maxHeartbeats 2000000 in
theorem ropen_any {w : World} {B q K : Nat} {rv : Value} {rs : List RW} {d : DS} (h : RefAt w B q K rv d rs) (hg : Good d) (hby : ByteD d) (hl : d.life ≠ 0) (hlen : d.pend.length ≤ 10000000000) (hn : 3 ≤ d.n / 4) :
  Calls Tryz.prog 46 #[.pointer (some ⟨q, 0, none⟩)] w fun e w' => Hid (ROpIs w q (openR d) e w') := by
 have HRd : Hid (Calls Tryz.prog 9 #[.pointer (some ⟨q, 0, none⟩), .int .i64 0] w fun e w' => ∃ u, e = .returned (.tuple #[u, .int .i64 0]) ∧ Hid (Only (fun _ => False) w w')) := by
  refine (rread_any h hg hl (by omega) 0 (by omega)).mono ?_
  rintro e w' ⟨g, cap, he, _, q2⟩
  exact ⟨_, he, q2⟩
 have HC : Hid (∀ w1, Only (fun _ => False) w w1 → Calls Tryz.prog 71 #[.pointer (some ⟨q, 0, none⟩)] w1 fun e w' => e = .returned (.int .i64 ((d.n / 4 : Nat) : Int)) ∧ w' = w1) := fun w1 ho => rcount_any q d.n w1 h.n2 (ho.cell h.c0 (fun e => e))
 have HL0 : Hid (∀ w2, Only (fun _ => False) w w2 → Calls Tryz.prog 75 #[.pointer (some ⟨q, 0, none⟩), .int .i64 0] w2 fun e w' => RlIs w2 q (loadR d 0) e w') := fun w2 ho => rload_any (h.frame ho (fun _ _ e => e)) hg hby hl hlen 0 (.inl rfl) hn
 have HL4 : Hid (∀ w2, Only (fun _ => False) w w2 → Calls Tryz.prog 75 #[.pointer (some ⟨q, 0, none⟩), .int .i64 1] w2 fun e w' => RlIs w2 q (loadR d 4) e w') := fun w2 ho => rload_any (h.frame ho (fun _ _ e => e)) hg hby hl hlen 1 (.inr rfl) hn
 unfold openR
 obtain ⟨L0, hL0⟩ : ∃ q, q = loadR d 0 := ⟨_, rfl⟩
 obtain ⟨L4, hL4⟩ : ∃ q, q = loadR d 4 := ⟨_, rfl⟩
 rw [← hL0] at HL0 ⊢
 rw [← hL4] at HL4 ⊢
 clear hL0 hL4
 obtain ⟨nn, hnn⟩ : ∃ nn, nn = d.n / 4 := ⟨_, rfl⟩
 rw [← hnn] at hn HC
 have hn' : ¬ (nn : Int) < 3 := by omega
 clear h hnn hl hby hg hlen
 go_enter Tryz.func46, Tryz.ntmps46
 go_wp2_with fail
 refine (show Calls Tryz.prog 9 _ _ _ from HRd.out).mono ?_
 rintro e w1 ⟨u, rfl, O1⟩
 clear HRd
 go_wp2_with fail
 refine (HC.out w1 O1.out).mono ?_
 rintro e wb ⟨rfl, hwb⟩
 rw [hwb]
 clear hwb HC
 go_wp2_with fail
 refine (HL0.out w1 O1.out).mono ?_
 rintro e w2 ⟨ho2, hm2⟩
 clear HL0
 have HLq : Hid (Calls Tryz.prog 75 _ _ _) := HL4.out w2 (O1.out.trans ho2 (fun _ _ e => e))
 have O2 : Hid (Only (fun _ => False) w w2) := O1.out.trans ho2 (fun _ _ e => e)
 have sz1 := O1.out.size
 have sz2 := ho2.size
 clear HL4 ho2
 cases L0 with
 | none =>
   simp only at hm2
   subst hm2
   go_wp2_with fail
   refine (show Calls Tryz.prog 75 _ _ _ from HLq.out).mono ?_
   rintro e w3 ⟨ho3, hm3⟩
   clear HLq
   have O3 : Hid (Only (fun _ => False) w w3) := O2.out.trans ho3 (fun _ _ e => e)
   clear ho3
   cases L4 with
   | none =>
     simp only at hm3
     subst hm3
     have HEND : Hid (ROpIs w q (openM none none) (.returned (.tuple #[.pointer none, .int .i64 6])) w3) := by
      exact ⟨O3.out, rfl⟩
     go_wp2
     go_ret2
     exact HEND.out
   | some y =>
     obtain ⟨s2, tv, kv, nv, lk, ln, rfl, q1, hs2⟩ := hm3
     have HEND : Hid (ROpIs w q (openM none (some y)) (.returned (.tuple #[.pointer (some ⟨s2, 0, none⟩), .int .i64 0])) w3.drew) := by
      refine ⟨O3.out.drew, ?_⟩
      exact ⟨s2, tv, kv, nv, lk, ln, rfl, by omega, fun rk B h1 h2 => (hs2 rk B (fun k hk => by have := h1 k hk; omega) (by omega)).still ((Only.refl _ w3).drew)⟩
     clear hs2
     go_wp2_with fail
     refine wp_region_held_drew (S := fun _ => True) (by kernel_rfl) trivial (fun hHeld => ?_)
     refine t8 (i := 0) (v := .pointer none) rfl hHeld ?_
     simp only [Act.put, z9]
     refine t8 (i := 1) (v := .bool true) rfl hHeld ?_
     simp only [Act.put, z9]
     refine t8 (i := 2) (v := .bool true) rfl hHeld ?_
     simp only [Act.put, z9]
     refine t9 (i := 3) rfl hHeld ?_
     simp only [Act.put, z9]
     refine t9 (i := 4) rfl hHeld ?_
     simp only [Act.put, z9]
     refine t9 (i := 5) rfl hHeld ?_
     simp only [Act.put, z9]
     refine t9 (i := 6) rfl hHeld ?_
     simp only [Act.put, z9]
     refine t9 (i := 7) rfl hHeld ?_
     simp only [Act.put, z9]
     refine t9 (i := 8) rfl hHeld ?_
     simp only [Act.put, z9]
     refine t9 (i := 9) rfl hHeld ?_
     simp only [Act.put, z9]
     refine t9 (i := 10) rfl hHeld ?_
     simp only [Act.put, z9]
     refine t9 (i := 11) rfl hHeld ?_
     simp only [Act.put, z9]
     refine t9 (i := 12) rfl hHeld ?_
     simp only [Act.put, z9]
     refine t9 (i := 13) rfl hHeld ?_
     simp only [Act.put, z9]
     refine t9 (i := 14) rfl hHeld ?_
     simp only [Act.put, z9]
     refine t9 (i := 15) rfl hHeld ?_
     simp only [Act.put, z9]
     refine t8 (i := 16) (v := .bool true) rfl hHeld ?_
     simp only [Act.put, z9]
     refine wpAnyH_done (by kernel_rfl) ?_ _
     clear hHeld
     go_wp2
     go_ret2
     exact HEND.out
 | some x =>
   obtain ⟨s1, tv1, kv1, nv1, lk1, ln1, rfl, q11, hs1⟩ := hm2
   go_wp2_with fail
   refine (show Calls Tryz.prog 75 _ _ _ from HLq.out).mono ?_
   rintro e w3 ⟨ho3, hm3⟩
   clear HLq
   have O3 : Hid (Only (fun _ => False) w w3) := O2.out.trans ho3 (fun _ _ e => e)
   have hs1' : ∀ (rk : Nat → Prop) (B : Nat), (∀ k, rk k → k < w1.heap.size) → B ≤ w1.heap.size → RsAt w3 rk B s1 q tv1 kv1 nv1 x lk1 ln1 := fun rk B h1 h2 => (hs1 rk B h1 h2).still ho3
   have HS1 : Hid _ := hs1'
   have ep1 := RsAt.ep hs1'
   have sz3 := ho3.size
   clear ho3 hs1 hs1'
   cases L4 with
   | none =>
     simp only at hm3
     subst hm3
     have HEND : Hid (ROpIs w q (openM (some x) none) (.returned (.tuple #[.pointer (some ⟨s1, 0, none⟩), .int .i64 0])) w3.drew) := by
      refine ⟨O3.out.drew, ?_⟩
      exact ⟨s1, tv1, kv1, nv1, lk1, ln1, rfl, by omega, fun rk B h1 h2 => (HS1.out rk B (fun k hk => by have := h1 k hk; omega) (by omega)).still ((Only.refl _ w3).drew)⟩
     clear ep1
     go_wp2_with fail
     refine wp_region_held_drew (S := fun _ => True) (by kernel_rfl) trivial (fun hHeld => ?_)
     refine t8 (i := 0) (v := .pointer (some ⟨s1, 0, none⟩)) rfl hHeld ?_
     simp only [Act.put, z9]
     refine t8 (i := 1) (v := .bool false) rfl hHeld ?_
     simp only [Act.put, z9]
     refine t8 (i := 2) (v := .bool false) rfl hHeld ?_
     simp only [Act.put, z9]
     refine t8 (i := 3) (v := .pointer none) rfl hHeld ?_
     simp only [Act.put, z9]
     refine t8 (i := 4) (v := .bool false) rfl hHeld ?_
     simp only [Act.put, z9]
     refine t8 (i := 5) (v := .bool false) rfl hHeld ?_
     simp only [Act.put, z9]
     refine t9 (i := 6) rfl hHeld ?_
     simp only [Act.put, z9]
     refine t9 (i := 7) rfl hHeld ?_
     simp only [Act.put, z9]
     refine t9 (i := 8) rfl hHeld ?_
     simp only [Act.put, z9]
     refine t9 (i := 9) rfl hHeld ?_
     simp only [Act.put, z9]
     refine t9 (i := 10) rfl hHeld ?_
     simp only [Act.put, z9]
     refine t9 (i := 11) rfl hHeld ?_
     simp only [Act.put, z9]
     refine t9 (i := 12) rfl hHeld ?_
     simp only [Act.put, z9]
     refine t9 (i := 13) rfl hHeld ?_
     simp only [Act.put, z9]
     refine t9 (i := 14) rfl hHeld ?_
     simp only [Act.put, z9]
     refine t8 (i := 15) (v := .bool false) rfl hHeld ?_
     simp only [Act.put, z9]
     refine t8 (i := 16) (v := .bool false) rfl hHeld ?_
     simp only [Act.put, z9]
     refine wpAnyH_done (by kernel_rfl) ?_ _
     clear hHeld
     go_wp2
     go_ret2
     exact HEND.out
   | some y =>
     obtain ⟨s2, tv, kv, nv, lk, ln, rfl, q1, hs2⟩ := hm3
     have ep2 := RsAt.ep hs2
     obtain ⟨e1, he1⟩ : ∃ e1, e1 = x.epoch := ⟨_, rfl⟩
     obtain ⟨e2, he2⟩ : ∃ e2, e2 = y.epoch := ⟨_, rfl⟩
     rw [← he1] at ep1
     rw [← he2] at ep2
     have HS2 : Hid _ := hs2
     by_cases hlt : e1 < e2
     ·have hlt' : (e1 : Int) < (e2 : Int) := by omega
      have HEND : Hid (ROpIs w q (openM (some x) (some y)) (.returned (.tuple #[.pointer (some ⟨s2, 0, none⟩), .int .i64 0])) w3.drew) := by
       refine ⟨O3.out.drew, ?_⟩
       rw [show openM (some x) (some y) = some y from if_pos (by omega)]
       exact ⟨s2, tv, kv, nv, lk, ln, rfl, by omega, fun rk B h1 h2 => (HS2.out rk B (fun k hk => by have := h1 k hk; omega) (by omega)).still ((Only.refl _ w3).drew)⟩
      clear hs2 he1 he2
      go_wp2_with fail
      refine wp_region_held_drew (S := fun w' => w'.cell? ⟨s1, 2, none⟩ = some (.int .u64 (e1 : Nat)) ∧ w'.cell? ⟨s2, 2, none⟩ = some (.int .u64 (e2 : Nat))) (by kernel_rfl) ⟨ep1, ep2⟩ (fun hHeld => ?_)
      refine t8 (i := 0) (v := .pointer (some ⟨s1, 0, none⟩)) rfl hHeld ?_
      simp only [Act.put, z9]
      refine t8 (i := 1) (v := .bool false) rfl hHeld ?_
      simp only [Act.put, z9]
      refine t8 (i := 2) (v := .bool false) rfl hHeld ?_
      simp only [Act.put, z9]
      refine t8 (i := 3) (v := .pointer (some ⟨s2, 0, none⟩)) rfl hHeld ?_
      simp only [Act.put, z9]
      refine t8 (i := 4) (v := .bool true) rfl hHeld ?_
      simp only [Act.put, z9]
      refine t8 (i := 5) (v := .bool true) rfl hHeld ?_
      simp only [Act.put, z9]
      refine t8 (i := 6) (v := .pointer (some ⟨s2, 0, none⟩)) rfl hHeld ?_
      simp only [Act.put, z9]
      refine t8 (i := 7) (v := .pointer (some ⟨s2, 0, none⟩)) rfl hHeld ?_
      simp only [Act.put, z9]
      refine t8 (i := 8) (v := .pointer (some ⟨s2, 2, none⟩)) rfl hHeld ?_
      simp only [Act.put, z9]
      refine t8 (i := 9) (v := .int .u64 (e2 : Nat)) rfl hHeld ?_
      simp only [Act.put, z9]
      refine t8 (i := 10) (v := .pointer (some ⟨s1, 0, none⟩)) rfl hHeld ?_
      simp only [Act.put, z9]
      refine t8 (i := 11) (v := .pointer (some ⟨s1, 0, none⟩)) rfl hHeld ?_
      simp only [Act.put, z9]
      refine t8 (i := 12) (v := .pointer (some ⟨s1, 2, none⟩)) rfl hHeld ?_
      simp only [Act.put, z9]
      refine t8 (i := 13) (v := .int .u64 (e1 : Nat)) rfl hHeld ?_
      simp only [Act.put, z9]
      refine t8 (i := 14) (v := .bool true) rfl hHeld ?_
      simp only [Act.put, z9]
      refine t8 (i := 15) (v := .bool true) rfl hHeld ?_
      simp only [Act.put, z9]
      refine t8 (i := 16) (v := .bool true) rfl hHeld ?_
      simp only [Act.put, z9]
      refine wpAnyH_done (by kernel_rfl) ?_ _
      clear hHeld
      go_wp2
      go_ret2
      exact HEND.out
     ·have hlt' : ¬ (e1 : Int) < (e2 : Int) := by omega
      have HEND : Hid (ROpIs w q (openM (some x) (some y)) (.returned (.tuple #[.pointer (some ⟨s1, 0, none⟩), .int .i64 0])) w3.drew) := by
       refine ⟨O3.out.drew, ?_⟩
       rw [show openM (some x) (some y) = some x from if_neg (by omega)]
       exact ⟨s1, tv1, kv1, nv1, lk1, ln1, rfl, by omega, fun rk B h1 h2 => (HS1.out rk B (fun k hk => by have := h1 k hk; omega) (by omega)).still ((Only.refl _ w3).drew)⟩
      clear hs2 he1 he2
      go_wp2_with fail
      refine wp_region_held_drew (S := fun w' => w'.cell? ⟨s1, 2, none⟩ = some (.int .u64 (e1 : Nat)) ∧ w'.cell? ⟨s2, 2, none⟩ = some (.int .u64 (e2 : Nat))) (by kernel_rfl) ⟨ep1, ep2⟩ (fun hHeld => ?_)
      refine t8 (i := 0) (v := .pointer (some ⟨s1, 0, none⟩)) rfl hHeld ?_
      simp only [Act.put, z9]
      refine t8 (i := 1) (v := .bool false) rfl hHeld ?_
      simp only [Act.put, z9]
      refine t8 (i := 2) (v := .bool false) rfl hHeld ?_
      simp only [Act.put, z9]
      refine t8 (i := 3) (v := .pointer (some ⟨s2, 0, none⟩)) rfl hHeld ?_
      simp only [Act.put, z9]
      refine t8 (i := 4) (v := .bool true) rfl hHeld ?_
      simp only [Act.put, z9]
      refine t8 (i := 5) (v := .bool true) rfl hHeld ?_
      simp only [Act.put, z9]
      refine t8 (i := 6) (v := .pointer (some ⟨s2, 0, none⟩)) rfl hHeld ?_
      simp only [Act.put, z9]
      refine t8 (i := 7) (v := .pointer (some ⟨s2, 0, none⟩)) rfl hHeld ?_
      simp only [Act.put, z9]
      refine t8 (i := 8) (v := .pointer (some ⟨s2, 2, none⟩)) rfl hHeld ?_
      simp only [Act.put, z9]
      refine t8 (i := 9) (v := .int .u64 (e2 : Nat)) rfl hHeld ?_
      simp only [Act.put, z9]
      refine t8 (i := 10) (v := .pointer (some ⟨s1, 0, none⟩)) rfl hHeld ?_
      simp only [Act.put, z9]
      refine t8 (i := 11) (v := .pointer (some ⟨s1, 0, none⟩)) rfl hHeld ?_
      simp only [Act.put, z9]
      refine t8 (i := 12) (v := .pointer (some ⟨s1, 2, none⟩)) rfl hHeld ?_
      simp only [Act.put, z9]
      refine t8 (i := 13) (v := .int .u64 (e1 : Nat)) rfl hHeld ?_
      simp only [Act.put, z9]
      refine t8 (i := 14) (v := .bool false) rfl hHeld ?_
      simp only [Act.put, z9]
      refine t8 (i := 15) (v := .bool false) rfl hHeld ?_
      simp only [Act.put, z9]
      refine t8 (i := 16) (v := .bool false) rfl hHeld ?_
      simp only [Act.put, z9]
      refine wpAnyH_done (by kernel_rfl) ?_ _
      clear hHeld
      go_wp2
      go_ret2
      exact HEND.out
end Go.Proofs.YtlcglapcmdpkfaaGreat
