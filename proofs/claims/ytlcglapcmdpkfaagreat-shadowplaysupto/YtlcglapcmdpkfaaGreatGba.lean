/-    -/
import Derived.Test.YtlcglapcmdpkfaaGreatGaa
import Derived.Test.YtlcglapcmdpkfaaGreatGaz
import Derived.Test.YtlcglapcmdpkfaaGreatGas
import Derived.Test.YtlcglapcmdpkfaaGreatGay
import Derived.BigQuiet
import Derived.OpenShut
import Derived.Deep.RegionHeld3
namespace Go.Proofs.YtlcglapcmdpkfaaGreat
open Go.RowKit Go.Maps Go.Shelf
set_option linter.unusedSimpArgs false
set_option linter.unusedVariables false
set_option maxRecDepth 100000
set_option maxHeartbeats 16000000
theorem rload_any {w : World} {B q K : Nat} {rv : Value} {rs : List RW} {d : DS} (h : RefAt w B q K rv d rs) (hg : Good d) (hby : ByteD d) (hl : d.life ≠ 0) (hlen : d.pend.length ≤ 10000000000) (r : Nat) (hr : r = 0 ∨ r = 1) (hn3 : 3 ≤ d.n / 4) :
  Calls Tryz.prog 75 #[.pointer (some ⟨q, 0, none⟩), .int .i64 (r : Nat)] w fun e w' => RlIs w q (loadR d (4 * r)) e w' := by
 rw [load_doc]
 cases hok : rtOk (secN (d.sec (4 * r))) with
 | true => exact (rload_good h hg hby hl hlen r hr hn3 hok).mono (fun e w' h => h.out)
 | false =>
   refine (rload_bad h hg hby hl (by omega) r hr (by omega) hok).mono ?_
   rintro e w' ⟨rfl, ho⟩
   exact RlIs.no (by rw [loadD, hok]; rfl) ho
def ROpIs (w : World) (q : Nat) (y : Option SS) (e : Ending) (w' : World) : Prop :=
 Only (fun _ => False) w w' ∧ match y with
 | none => e = .returned (.tuple #[.pointer none, .int .i64 6])
 | some x => ∃ R tv kv nv lk ln, e = .returned (.tuple #[.pointer (some ⟨R, 0, none⟩), .int .i64 0]) ∧ w.heap.size ≤ R ∧ ∀ (rk : Nat → Prop) (B : Nat), (∀ k, rk k → k < w.heap.size) → B ≤ w.heap.size → RsAt w' rk B R q tv kv nv x lk ln
theorem RsAt.ep {w : World} {q R : Nat} {tv kv nv : Value} {x : SS} {lk ln : List RPg} {m : Nat} (h : ∀ (rk : Nat → Prop) (B : Nat), (∀ k, rk k → k < m) → B ≤ m → RsAt w rk B R q tv kv nv x lk ln) : w.cell? ⟨R, 2, none⟩ = some (.int .u64 (x.epoch : Nat)) := (h (fun _ => False) 0 (fun _ e => e.elim) (by omega)).c2
theorem ropen_any {w : World} {B q K : Nat} {rv : Value} {rs : List RW} {d : DS} (h : RefAt w B q K rv d rs) (hg : Good d) (hby : ByteD d) (hl : d.life ≠ 0) (hlen : d.pend.length ≤ 10000000000) (hn : 3 ≤ d.n / 4) :
  Calls Tryz.prog 46 #[.pointer (some ⟨q, 0, none⟩)] w fun e w' => Hid (ROpIs w q (openR d) e w') := by
 have HRd : Hid (Calls Tryz.prog 9 #[.pointer (some ⟨q, 0, none⟩), .int .i64 0] w fun e w' => ∃ u, e = .returned (.tuple #[u, .int .i64 0]) ∧ Hid (Only (fun _ => False) w w')) := by
  refine (rread_any h hg hl (by omega) 0 (by omega)).mono ?_
  rintro e w' ⟨g, cap, he, _, q2⟩
  exact ⟨_, he, q2⟩
 have HC : Hid (∀ w1, Only (fun _ => False) w w1 → Calls Tryz.prog 71 #[.pointer (some ⟨q, 0, none⟩)] w1 fun e w' => e = .returned (.int .i64 ((d.n / 4 : Nat) : Int)) ∧ w' = w1) := fun w1 ho => rcount_any q d.n w1 h.n2 (ho.cell h.c0 (fun e => e))
 have HL0 : Hid (∀ w2, Only (fun _ => False) w w2 → Calls Tryz.prog 75 #[.pointer (some ⟨q, 0, none⟩), .int .i64 0] w2 fun e w' => RlIs w2 q (loadR d 0) e w') := fun w2 ho => rload_any (h.frame ho (fun _ _ e => e)) hg hby hl hlen 0 (.inl rfl) hn
 have HL4 : Hid (∀ w2, Only (fun _ => False) w w2 → Calls Tryz.prog 75 #[.pointer (some ⟨q, 0, none⟩), .int .i64 1] w2 fun e w' => RlIs w2 q (loadR d 4) e w') := fun w2 ho => rload_any (h.frame ho (fun _ _ e => e)) hg hby hl hlen 1 (.inr rfl) hn
 unfold openR
 obtain ⟨L0, hL0⟩ : ∃ q, q = loadR d 0 := ⟨_, rfl⟩
 obtain ⟨L4, hL4⟩ : ∃ q, q = loadR d 4 := ⟨_, rfl⟩
 rw [← hL0] at HL0 ⊢
 rw [← hL4] at HL4 ⊢
 clear hL0 hL4
 obtain ⟨nn, hnn⟩ : ∃ nn, nn = d.n / 4 := ⟨_, rfl⟩
 rw [← hnn] at hn HC
 have hn' : ¬ (nn : Int) < 3 := by omega
 clear h hnn hl hby hg hlen
 go_enter Tryz.func46, Tryz.ntmps46
 go_wp2_with fail
 refine (show Calls Tryz.prog 9 _ _ _ from HRd.out).mono ?_
 rintro e w1 ⟨u, rfl, O1⟩
 clear HRd
 go_wp2_with fail
 refine (HC.out w1 O1.out).mono ?_
 rintro e wb ⟨rfl, hwb⟩
 rw [hwb]
 clear hwb HC
 go_wp2_with fail
 refine (HL0.out w1 O1.out).mono ?_
 rintro e w2 ⟨ho2, hm2⟩
 clear HL0
 have HLq : Hid (Calls Tryz.prog 75 _ _ _) := HL4.out w2 (O1.out.trans ho2 (fun _ _ e => e))
 have O2 : Hid (Only (fun _ => False) w w2) := O1.out.trans ho2 (fun _ _ e => e)
 have sz1 := O1.out.size
 have sz2 := ho2.size
 clear HL4 ho2
 cases L0 with
 | none =>
   simp only at hm2
   subst hm2
   go_wp2_with fail
   refine (show Calls Tryz.prog 75 _ _ _ from HLq.out).mono ?_
   rintro e w3 ⟨ho3, hm3⟩
   clear HLq
   have O3 : Hid (Only (fun _ => False) w w3) := O2.out.trans ho3 (fun _ _ e => e)
   clear ho3
   cases L4 with
   | none =>
     simp only at hm3
     subst hm3
     have HEND : Hid (ROpIs w q (openM none none) (.returned (.tuple #[.pointer none, .int .i64 6])) w3) := by
      exact ⟨O3.out, rfl⟩
     go_wp2
     go_ret2
     exact HEND.out
   | some y =>
     obtain ⟨s2, tv, kv, nv, lk, ln, rfl, q1, hs2⟩ := hm3
     have HEND : Hid (ROpIs w q (openM none (some y)) (.returned (.tuple #[.pointer (some ⟨s2, 0, none⟩), .int .i64 0])) w3.drew) := by
      refine ⟨O3.out.drew, ?_⟩
      exact ⟨s2, tv, kv, nv, lk, ln, rfl, by omega, fun rk B h1 h2 => (hs2 rk B (fun k hk => by have := h1 k hk; omega) (by omega)).still ((Only.refl _ w3).drew)⟩
     clear hs2
     go_wp2_with fail
     refine wp_region_held_drew (S := fun _ => True) (by kernel_rfl) trivial (fun hHeld => ?_)
     refine t8 (i := 0) (v := .pointer none) rfl hHeld ?_
     simp only [Act.put, z9]
     refine t8 (i := 1) (v := .bool true) rfl hHeld ?_
     simp only [Act.put, z9]
     refine t8 (i := 2) (v := .bool true) rfl hHeld ?_
     simp only [Act.put, z9]
     refine t9 (i := 3) rfl hHeld ?_
     simp only [Act.put, z9]
     refine t9 (i := 4) rfl hHeld ?_
     simp only [Act.put, z9]
     refine t9 (i := 5) rfl hHeld ?_
     simp only [Act.put, z9]
     refine t9 (i := 6) rfl hHeld ?_
     simp only [Act.put, z9]
     refine t9 (i := 7) rfl hHeld ?_
     simp only [Act.put, z9]
     refine t9 (i := 8) rfl hHeld ?_
     simp only [Act.put, z9]
     refine t9 (i := 9) rfl hHeld ?_
     simp only [Act.put, z9]
     refine t9 (i := 10) rfl hHeld ?_
     simp only [Act.put, z9]
     refine t9 (i := 11) rfl hHeld ?_
     simp only [Act.put, z9]
     refine t9 (i := 12) rfl hHeld ?_
     simp only [Act.put, z9]
     refine t9 (i := 13) rfl hHeld ?_
     simp only [Act.put, z9]
     refine t9 (i := 14) rfl hHeld ?_
     simp only [Act.put, z9]
     refine t9 (i := 15) rfl hHeld ?_
     simp only [Act.put, z9]
     refine t8 (i := 16) (v := .bool true) rfl hHeld ?_
     simp only [Act.put, z9]
     refine wpAnyH_done (by kernel_rfl) ?_ _
     clear hHeld
     go_wp2
     go_ret2
     exact HEND.out
 | some x =>
   obtain ⟨s1, tv1, kv1, nv1, lk1, ln1, rfl, q11, hs1⟩ := hm2
   go_wp2_with fail
   refine (show Calls Tryz.prog 75 _ _ _ from HLq.out).mono ?_
   rintro e w3 ⟨ho3, hm3⟩
   clear HLq
   have O3 : Hid (Only (fun _ => False) w w3) := O2.out.trans ho3 (fun _ _ e => e)
   have hs1' : ∀ (rk : Nat → Prop) (B : Nat), (∀ k, rk k → k < w1.heap.size) → B ≤ w1.heap.size → RsAt w3 rk B s1 q tv1 kv1 nv1 x lk1 ln1 := fun rk B h1 h2 => (hs1 rk B h1 h2).still ho3
   have HS1 : Hid _ := hs1'
   have ep1 := RsAt.ep hs1'
   have sz3 := ho3.size
   clear ho3 hs1 hs1'
   cases L4 with
   | none =>
     simp only at hm3
     subst hm3
     have HEND : Hid (ROpIs w q (openM (some x) none) (.returned (.tuple #[.pointer (some ⟨s1, 0, none⟩), .int .i64 0])) w3.drew) := by
      refine ⟨O3.out.drew, ?_⟩
      exact ⟨s1, tv1, kv1, nv1, lk1, ln1, rfl, by omega, fun rk B h1 h2 => (HS1.out rk B (fun k hk => by have := h1 k hk; omega) (by omega)).still ((Only.refl _ w3).drew)⟩
     clear ep1
     go_wp2_with fail
     refine wp_region_held_drew (S := fun _ => True) (by kernel_rfl) trivial (fun hHeld => ?_)
     refine t8 (i := 0) (v := .pointer (some ⟨s1, 0, none⟩)) rfl hHeld ?_
     simp only [Act.put, z9]
     refine t8 (i := 1) (v := .bool false) rfl hHeld ?_
     simp only [Act.put, z9]
     refine t8 (i := 2) (v := .bool false) rfl hHeld ?_
     simp only [Act.put, z9]
     refine t8 (i := 3) (v := .pointer none) rfl hHeld ?_
     simp only [Act.put, z9]
     refine t8 (i := 4) (v := .bool false) rfl hHeld ?_
     simp only [Act.put, z9]
     refine t8 (i := 5) (v := .bool false) rfl hHeld ?_
     simp only [Act.put, z9]
     refine t9 (i := 6) rfl hHeld ?_
     simp only [Act.put, z9]
     refine t9 (i := 7) rfl hHeld ?_
     simp only [Act.put, z9]
     refine t9 (i := 8) rfl hHeld ?_
     simp only [Act.put, z9]
     refine t9 (i := 9) rfl hHeld ?_
     simp only [Act.put, z9]
     refine t9 (i := 10) rfl hHeld ?_
     simp only [Act.put, z9]
     refine t9 (i := 11) rfl hHeld ?_
     simp only [Act.put, z9]
     refine t9 (i := 12) rfl hHeld ?_
     simp only [Act.put, z9]
     refine t9 (i := 13) rfl hHeld ?_
     simp only [Act.put, z9]
     refine t9 (i := 14) rfl hHeld ?_
     simp only [Act.put, z9]
     refine t8 (i := 15) (v := .bool false) rfl hHeld ?_
     simp only [Act.put, z9]
     refine t8 (i := 16) (v := .bool false) rfl hHeld ?_
     simp only [Act.put, z9]
     refine wpAnyH_done (by kernel_rfl) ?_ _
     clear hHeld
     go_wp2
     go_ret2
     exact HEND.out
   | some y =>
     obtain ⟨s2, tv, kv, nv, lk, ln, rfl, q1, hs2⟩ := hm3
     have ep2 := RsAt.ep hs2
     obtain ⟨e1, he1⟩ : ∃ e1, e1 = x.epoch := ⟨_, rfl⟩
     obtain ⟨e2, he2⟩ : ∃ e2, e2 = y.epoch := ⟨_, rfl⟩
     rw [← he1] at ep1
     rw [← he2] at ep2
     have HS2 : Hid _ := hs2
     by_cases hlt : e1 < e2
     ·have hlt' : (e1 : Int) < (e2 : Int) := by omega
      have HEND : Hid (ROpIs w q (openM (some x) (some y)) (.returned (.tuple #[.pointer (some ⟨s2, 0, none⟩), .int .i64 0])) w3.drew) := by
       refine ⟨O3.out.drew, ?_⟩
       rw [show openM (some x) (some y) = some y from if_pos (by omega)]
       exact ⟨s2, tv, kv, nv, lk, ln, rfl, by omega, fun rk B h1 h2 => (HS2.out rk B (fun k hk => by have := h1 k hk; omega) (by omega)).still ((Only.refl _ w3).drew)⟩
      clear hs2 he1 he2
      go_wp2_with fail
      refine wp_region_held_drew (S := fun w' => w'.cell? ⟨s1, 2, none⟩ = some (.int .u64 (e1 : Nat)) ∧ w'.cell? ⟨s2, 2, none⟩ = some (.int .u64 (e2 : Nat))) (by kernel_rfl) ⟨ep1, ep2⟩ (fun hHeld => ?_)
      refine t8 (i := 0) (v := .pointer (some ⟨s1, 0, none⟩)) rfl hHeld ?_
      simp only [Act.put, z9]
      refine t8 (i := 1) (v := .bool false) rfl hHeld ?_
      simp only [Act.put, z9]
      refine t8 (i := 2) (v := .bool false) rfl hHeld ?_
      simp only [Act.put, z9]
      refine t8 (i := 3) (v := .pointer (some ⟨s2, 0, none⟩)) rfl hHeld ?_
      simp only [Act.put, z9]
      refine t8 (i := 4) (v := .bool true) rfl hHeld ?_
      simp only [Act.put, z9]
      refine t8 (i := 5) (v := .bool true) rfl hHeld ?_
      simp only [Act.put, z9]
      refine t8 (i := 6) (v := .pointer (some ⟨s2, 0, none⟩)) rfl hHeld ?_
      simp only [Act.put, z9]
      refine t8 (i := 7) (v := .pointer (some ⟨s2, 0, none⟩)) rfl hHeld ?_
      simp only [Act.put, z9]
      refine t8 (i := 8) (v := .pointer (some ⟨s2, 2, none⟩)) rfl hHeld ?_
      simp only [Act.put, z9]
      refine t8 (i := 9) (v := .int .u64 (e2 : Nat)) rfl hHeld ?_
      simp only [Act.put, z9]
      refine t8 (i := 10) (v := .pointer (some ⟨s1, 0, none⟩)) rfl hHeld ?_
      simp only [Act.put, z9]
      refine t8 (i := 11) (v := .pointer (some ⟨s1, 0, none⟩)) rfl hHeld ?_
      simp only [Act.put, z9]
      refine t8 (i := 12) (v := .pointer (some ⟨s1, 2, none⟩)) rfl hHeld ?_
      simp only [Act.put, z9]
      refine t8 (i := 13) (v := .int .u64 (e1 : Nat)) rfl hHeld ?_
      simp only [Act.put, z9]
      refine t8 (i := 14) (v := .bool true) rfl hHeld ?_
      simp only [Act.put, z9]
      refine t8 (i := 15) (v := .bool true) rfl hHeld ?_
      simp only [Act.put, z9]
      refine t8 (i := 16) (v := .bool true) rfl hHeld ?_
      simp only [Act.put, z9]
      refine wpAnyH_done (by kernel_rfl) ?_ _
      clear hHeld
      go_wp2
      go_ret2
      exact HEND.out
     ·have hlt' : ¬ (e1 : Int) < (e2 : Int) := by omega
      have HEND : Hid (ROpIs w q (openM (some x) (some y)) (.returned (.tuple #[.pointer (some ⟨s1, 0, none⟩), .int .i64 0])) w3.drew) := by
       refine ⟨O3.out.drew, ?_⟩
       rw [show openM (some x) (some y) = some x from if_neg (by omega)]
       exact ⟨s1, tv1, kv1, nv1, lk1, ln1, rfl, by omega, fun rk B h1 h2 => (HS1.out rk B (fun k hk => by have := h1 k hk; omega) (by omega)).still ((Only.refl _ w3).drew)⟩
      clear hs2 he1 he2
      go_wp2_with fail
      refine wp_region_held_drew (S := fun w' => w'.cell? ⟨s1, 2, none⟩ = some (.int .u64 (e1 : Nat)) ∧ w'.cell? ⟨s2, 2, none⟩ = some (.int .u64 (e2 : Nat))) (by kernel_rfl) ⟨ep1, ep2⟩ (fun hHeld => ?_)
      refine t8 (i := 0) (v := .pointer (some ⟨s1, 0, none⟩)) rfl hHeld ?_
      simp only [Act.put, z9]
      refine t8 (i := 1) (v := .bool false) rfl hHeld ?_
      simp only [Act.put, z9]
      refine t8 (i := 2) (v := .bool false) rfl hHeld ?_
      simp only [Act.put, z9]
      refine t8 (i := 3) (v := .pointer (some ⟨s2, 0, none⟩)) rfl hHeld ?_
      simp only [Act.put, z9]
      refine t8 (i := 4) (v := .bool true) rfl hHeld ?_
      simp only [Act.put, z9]
      refine t8 (i := 5) (v := .bool true) rfl hHeld ?_
      simp only [Act.put, z9]
      refine t8 (i := 6) (v := .pointer (some ⟨s2, 0, none⟩)) rfl hHeld ?_
      simp only [Act.put, z9]
      refine t8 (i := 7) (v := .pointer (some ⟨s2, 0, none⟩)) rfl hHeld ?_
      simp only [Act.put, z9]
      refine t8 (i := 8) (v := .pointer (some ⟨s2, 2, none⟩)) rfl hHeld ?_
      simp only [Act.put, z9]
      refine t8 (i := 9) (v := .int .u64 (e2 : Nat)) rfl hHeld ?_
      simp only [Act.put, z9]
      refine t8 (i := 10) (v := .pointer (some ⟨s1, 0, none⟩)) rfl hHeld ?_
      simp only [Act.put, z9]
      refine t8 (i := 11) (v := .pointer (some ⟨s1, 0, none⟩)) rfl hHeld ?_
      simp only [Act.put, z9]
      refine t8 (i := 12) (v := .pointer (some ⟨s1, 2, none⟩)) rfl hHeld ?_
      simp only [Act.put, z9]
      refine t8 (i := 13) (v := .int .u64 (e1 : Nat)) rfl hHeld ?_
      simp only [Act.put, z9]
      refine t8 (i := 14) (v := .bool false) rfl hHeld ?_
      simp only [Act.put, z9]
      refine t8 (i := 15) (v := .bool false) rfl hHeld ?_
      simp only [Act.put, z9]
      refine t8 (i := 16) (v := .bool false) rfl hHeld ?_
      simp only [Act.put, z9]
      refine wpAnyH_done (by kernel_rfl) ?_ _
      clear hHeld
      go_wp2
      go_ret2
      exact HEND.out
end Go.Proofs.YtlcglapcmdpkfaaGreat
namespace Go.Proofs.YtlcglapcmdpkfaaGreat
open Go.RowKit Go.Maps
set_option linter.unusedSimpArgs false
set_option linter.unusedVariables false
set_option maxRecDepth 100000
set_option maxHeartbeats 16000000
def PlOk (w : World) (B P p S q K n m : Nat) : Prop := ∃ pv d rv rs sv rp, PlC w B P p S q K pv d rv rs d sv rp ∧ StK w B P p S q K pv rv rs n sv rp ∧ Fd d n m
def KeepC (P X : Nat) (w w' : World) : Prop := ∀ b, (b = P ∨ b = X) → ∀ j v, w.cell? ⟨b, j, none⟩ = some v → w'.cell? ⟨b, j, none⟩ = some v
theorem KeepC.of {P X : Nat} {w w' : World} {bs : Nat → Prop} (ho : Only bs w w') (h1 : ¬ bs P) (h2 : ¬ bs X) : KeepC P X w w' := by
 rintro b (rfl | rfl) j v hv
 ·exact ho.cell hv h1
 ·exact ho.cell hv h2
theorem KeepC.trans {P X : Nat} {w w1 w2 : World} (h : KeepC P X w w1) (h2 : KeepC P X w1 w2) : KeepC P X w w2 := fun b hb j v hv => h2 b hb j v (h b hb j v hv)
def DkIs (w : World) (B p S : Nat) (pv : Value) (y : Int × DS) (e : Ending) (w' : World) : Prop := e = .returned (.int .i64 y.1) ∧ ∃ pv', DiskAt w' B p S pv' y.2 ∧ Only (diskB p S pv) w w' ∧ ∀ b, pv'.ownBlock = some b → pv.ownBlock = some b ∨ w.heap.size ≤ b
def RkIs (w : World) (B q K : Nat) (rv : Value) (rs : List RW) (y : Int × DS) (e : Ending) (w' : World) : Prop := e = .returned (.int .i64 y.1) ∧ ∃ rv' rs', RefAt w' B q K rv' y.2 rs' ∧ Only (refB q K rv rs) w w' ∧ ∀ b, refB q K rv' rs' b → refB q K rv rs b ∨ w.heap.size ≤ b
section
variable {w w1 : World} {B P p S q K X : Nat} {pv rv sv rp : Value} {rs : List RW} {d e : DS} {n m : Nat}
theorem PlC.low (h : PlC w B P p S q K pv d rv rs e sv rp) : ∀ k, (k = P ∨ diskB p S pv k ∨ refB q K rv rs k) → B ≤ k := by
 rintro k (g | g | g)
 ·have := h.pB; omega
 ·exact (h.dk.lt k g).1
 ·exact (h.rf.lt k g).1
theorem PlC.pair {f1 f2 : Nat} {a1 a2 : Array Value} {y : Int × DS} {m' : Nat} (hc : PlC w B P p S q K pv d rv rs d sv rp) (hk : StK w B P p S q K pv rv rs n sv rp) (hf : Fd y.2 n m')
  (hX : X < w.heap.size ∧ ¬ diskB p S pv X ∧ ¬ refB q K rv rs X) (h1 : Calls Tryz.prog f1 a1 w fun e w' => DkIs w B p S pv y e w') (h2 : ∀ w1, Only (diskB p S pv) w w1 → RefAt w1 B q K rv d rs → Calls Tryz.prog f2 a2 w1 fun e w' => RkIs w1 B q K rv rs y e w') :
  Calls Tryz.prog f1 a1 w fun e w1 => e = .returned (.int .i64 y.1) ∧ Hid (KeepC P X w w1) ∧ Hid (Calls Tryz.prog f2 a2 w1 fun e w2 => e = .returned (.int .i64 y.1) ∧ Hid (KeepC P X w w2) ∧ Hid (PlOk w2 B P p S q K n m' ∧ Only (fun k => B ≤ k) w w2)) := by
 refine h1.mono ?_
 rintro e w1 ⟨rfl, pv', g1, g2, g3⟩
 have c1 : PlC w1 B P p S q K pv' y.2 rv rs d sv rp := hc.prog (X := fun _ => False) g1 (g2.mono (fun _ _ g => .inl g)) (fun _ g => g.elim) g3
 have k1 : KeepC P X w w1 := KeepC.of g2 hc.a1 hX.2.1
 refine ⟨rfl, k1, (h2 w1 g2 c1.rf).mono ?_⟩
 rintro e w2 ⟨rfl, rv', rs', i1, i2, i3⟩
 have c2 : PlC w2 B P p S q K pv' y.2 rv' rs' y.2 sv rp := c1.doc (X := fun _ => False) i1 (i2.mono (fun _ _ g => .inl g)) (fun _ g => g.elim) i3
 have k2 : KeepC P X w1 w2 := KeepC.of i2 hc.a2 hX.2.2
 have hsz := g2.size
 have oo : Only (fun k => k = P ∨ diskB p S pv k ∨ refB q K rv rs k) w w2 := (g2.mono (fun _ _ g => .inr (.inl g))).trans (i2.mono (fun _ _ g => .inr (.inr g))) (fun _ _ g => g)
 refine ⟨rfl, k1.trans k2, ⟨pv', y.2, rv', rs', sv, rp, c2, hk.disks oo g3 (fun b g => ?_), hf⟩, oo.mono (fun k hk g => hc.low k g)⟩
 rcases i3 b g with g | g
 ·exact .inl g
 ·exact .inr (by omega)
end
def DS.live (d : DS) (n : Int) : Int × DS := if n < -1 then (2, d) else (0, { d with life := n })
theorem Fd.live {d : DS} {n m : Nat} (h : Fd d n m) (l : Int) : Fd (d.live l).2 n m := by
 unfold DS.live
 split
 ·exact h
 ·exact ⟨⟨h.by_.1, h.by_.2, h.by_.3⟩, h.gd, h.n_, h.pd⟩
theorem live_all {w : World} {B p S : Nat} {pv : Value} {d : DS} (h : DiskAt w B p S pv d) (n : Int) (hn : n ≤ 9223372036854775807) : Calls Tryz.prog 38 #[.pointer (some ⟨p, 0, none⟩), .int .i64 n] w fun e w' => DkIs w B p S pv (d.live n) e w' := by
 unfold DS.live
 by_cases h1 : n < -1
 ·rw [if_pos h1]
  refine (live_bad p n w h1).mono ?_
  rintro e w' ⟨rfl, rfl⟩
  exact ⟨rfl, pv, h, Only.refl _ _, fun b g => .inl g⟩
 ·rw [if_neg h1]
  refine (live_any p S B pv d n w h (by omega) hn).mono ?_
  rintro e w' ⟨rfl, g1, g2⟩
  exact ⟨rfl, pv, g1, g2.mono (fun _ _ g => .inl g), fun b g => .inl g⟩
theorem rlive_all {w : World} {B q K : Nat} {rv : Value} {rs : List RW} {d : DS} (h : RefAt w B q K rv d rs) (n : Int) (hn : n ≤ 9223372036854775807) : Calls Tryz.prog 39 #[.pointer (some ⟨q, 0, none⟩), .int .i64 n] w fun e w' => RkIs w B q K rv rs (d.live n) e w' := by
 unfold DS.live
 by_cases h1 : n < -1
 ·rw [if_pos h1]
  refine (rlive_bad q n w h1).mono ?_
  rintro e w' ⟨rfl, rfl⟩
  exact ⟨rfl, rv, rs, h, Only.refl _ _, fun b g => .inl g⟩
 ·rw [if_neg h1]
  refine (rlive_any h n (by omega) hn).mono ?_
  rintro e w' ⟨rfl, g1, g2⟩
  exact ⟨rfl, rv, rs, g1, g2.mono (fun _ _ g => .inl g), fun b g => .inl g⟩
theorem crash_alls {w : World} {B p S : Nat} {pv kv : Value} {d : DS} (h : DiskAt w B p S pv d) (ks : List Bool) (torn cut : Int) (hk : DFlags w kv ks.length (fun j => ks.getD j false) S) : Calls Tryz.prog 36 #[.pointer (some ⟨p, 0, none⟩), kv, .int .i64 torn, .int .i64 cut] w fun e w' => DkIs w B p S pv (d.crash ks torn cut) e w' := by
 refine (crash_all p S B pv kv d ks torn cut w h hk).mono ?_
 rintro e w' ⟨rfl, pv', g1, g2, g3⟩
 exact ⟨rfl, pv', g1, g2.mono (fun _ _ g => g.elim .inl (fun g => .inr (.inl g))), fun b g => .inl (g3 b g)⟩
theorem rcrash_alls {w : World} {B q K : Nat} {rv kv : Value} {rs : List RW} {d : DS} (h : RefAt w B q K rv d rs) (hp : d.pend.length ≤ 140737488351232) (ks : List Bool) (torn cut : Int) (hk : DFlags w kv ks.length (fun j => ks.getD j false) K) : Calls Tryz.prog 37 #[.pointer (some ⟨q, 0, none⟩), kv, .int .i64 torn, .int .i64 cut] w fun e w' => RkIs w B q K rv rs (d.crash ks torn cut) e w' := by
 by_cases hc : cut < 0 ∨ 32 < cut
 ·have hw : d.crash ks torn cut = (2, d) := by simp [DS.crash, hc]
  rw [hw]
  refine (rcrash_bad q kv torn cut w hc).mono ?_
  rintro e w' ⟨rfl, rfl⟩
  exact ⟨rfl, rv, rs, h, Only.refl _ _, fun b g => .inl g⟩
 ·obtain ⟨c, rfl⟩ : ∃ c : Nat, cut = c := ⟨cut.toNat, by omega⟩
  have hw : d.crash ks torn c = (0, ⟨d.n, crashTo (fun i => decide (i < ks.length) && ks.getD i false) torn c d.pend (undoW d.pend d.sec) d.pend.length, [], -1⟩) := by
   unfold DS.crash
   rw [if_neg hc]
   rfl
  rw [hw]
  refine (rcrash_any h hp kv ks.length _ torn c (by omega) hk).mono ?_
  rintro e w' ⟨rfl, g1, g2⟩
  exact ⟨rfl, _, [], g1, g2.mono (fun _ _ g => g.elim .inl (fun g => .inr (.inl g))), by
   rintro b (g | g | g | ⟨x, hx, _⟩)
   ·exact .inl (.inl g)
   ·exact .inl (.inr (.inl g))
   ·simp [Value.ownBlock] at g
   ·cases hx⟩
theorem load_size {d : DS} {q : Nat} {x : SS} (h : loadR d q = some x) : x.size = d.n / 4 := by
 rw [load_doc] at h
 unfold loadD at h
 split at h
 ·split at h
  ·cases h
  ·split at h
   ·obtain ⟨m, _, rfl⟩ := Option.map_eq_some_iff.1 h
    rfl
   ·cases h
 ·cases h
theorem open_size {d : DS} {x : SS} (h : openR d = some x) : x.size = d.n / 4 := by
 unfold openR at h
 cases h0 : loadR d 0 with
 | none =>
   cases h4 : loadR d 4 with
   | none => rw [h0, h4] at h; cases h
   | some y => rw [h0, h4] at h; cases h; exact load_size h4
 | some x0 =>
   cases h4 : loadR d 4 with
   | none => rw [h0, h4] at h; cases h; exact load_size h0
   | some y =>
     rw [h0, h4] at h
     simp only [openM] at h
     split at h
     ·cases h; exact load_size h4
     ·cases h; exact load_size h0
def FlagsIn (W : World) (v : Value) (ks : List Bool) : Prop := RowAt W v ks.length 1 (fun j => .bool (ks.getD j false)) ∧ ks.length ≤ 140737488351232
theorem emptyF (w : World) : (Instr.buildSlice 38 0 #[]).run Tryz.prog w = .ok (.slice (some ⟨w.heap.size, 0, none⟩) 0 0) (w.alloc (.cells #[] 4)) := by kernel_rfl
theorem app_flags (w : World) (v : Value) (ks : List Bool) (hv : FlagsIn w v ks) (S : Nat) (hS : S < w.heap.size) : ∃ a cap w', (∀ ty, (Builtin.append_ #[38, 38] ty #[.slice (some ⟨w.heap.size, 0, none⟩) 0 0, v]).run Tryz.prog (w.alloc (.cells #[] 4)) = .ok (.slice a ks.length cap) w') ∧ DFlags w' (.slice a ks.length cap) ks.length (fun j => ks.getD j false) S ∧ Only (fun _ => False) w w' := by
 obtain ⟨i4, hi4, hz0, hz1, hz2⟩ := info_parts info4
 obtain ⟨a, cap, w', hr, own, o⟩ := app_copy 38 4 i4 _ 1 Tryz.underlying38 hi4 hz0 hz1 hz2 rfl rfl w v ks.length _ hv.1 (fun j => rfl) (by have := hv.2; omega)
 exact ⟨a, cap, w', hr, flags_own own (by have := hv.2; unfold maxLen; omega) hS, o⟩
theorem FlagsIn.df {w0 w : World} {v : Value} {ks : List Bool} (h : FlagsIn w0 v ks) (ho : Only (fun _ => False) w0 w) {K : Nat} (hK : w0.heap.size ≤ K) : DFlags w v ks.length (fun j => ks.getD j false) K := by
 rcases h.1 with ⟨rfl, h0⟩ | ⟨ad, c, rfl, hkc, hc⟩
 ·exact ⟨none, 0, by rw [h0], by unfold maxLen; omega, fun i hi => by omega⟩
 ·refine ⟨some ad, c, rfl, by have := h.2; unfold maxLen; omega, fun i hi => ?_⟩
  have h1 := hc i (by omega)
  have h2 := hc 0 (by omega)
  obtain ⟨g, o, sp⟩ := ad
  have hs := World.cell?_spot h2
  have hs' : sp = none := by simpa [Addr.add] using hs
  subst hs'
  rw [Addr.add_mid] at h1
  have hl := World.block_lt_of_cell? _ _ h1
  exact ⟨g, o, rfl, by simp only at hl; omega, ho.cell h1 (fun g => g)⟩
theorem sec_row {w : World} {f : Nat → Int} {g : Nat} (h : w.heap[g]? = some (.cells (secL f).toArray 5 (0, 0))) : RowAt w (.slice (some ⟨g, 0, none⟩) 32 32) 32 1 (fun j => .int .u8 (f j)) := by
 refine .inr ⟨_, _, rfl, by omega, fun j hj => ?_⟩
 rw [Addr.add_mid, cell_of_row _ _ _ _ _ _ h, Nat.zero_add]
 have : j < 32 := by omega
 simp [secL, this]
theorem PlC.pair4 {w w0 : World} {B P p S q K X n m : Nat} {pv rv sv rp vb : Value} {rs : List RW} {d : DS} {b : List Nat} (hc : PlC w B P p S q K pv d rv rs d sv rp) (hk : StK w B P p S q K pv rv rs n sv rp) (hf : Fd d n m) (hm : m ≤ 8589934592)
  (hX : X < w.heap.size ∧ ¬ diskB p S pv X ∧ ¬ refB q K rv rs X) (h0 : Only (fun _ => False) w0 w) (hB : B = w0.heap.size) (hb : BytesAt w0 vb b) (i : Int) :
  Calls Tryz.prog 41 #[vb] w fun e w1 => ∃ a1, e = .returned (.slice a1 32 32) ∧ Hid (KeepC P X w w1) ∧ Hid (Calls Tryz.prog 40 #[.pointer (some ⟨p, 0, none⟩), .int .i64 i, .slice a1 32 32] w1 fun e w2 => e = .returned (.int .i64 (d.write i (fillF b) 32).1) ∧ Hid (KeepC P X w w2) ∧
   Hid (Calls Tryz.prog 41 #[vb] w2 fun e w3 => ∃ a3, e = .returned (.slice a3 32 32) ∧ Hid (KeepC P X w w3) ∧ Hid (Calls Tryz.prog 42 #[.pointer (some ⟨q, 0, none⟩), .int .i64 i, .slice a3 32 32] w3 fun e w4 => e = .returned (.int .i64 (d.write i (fillF b) 32).1) ∧ Hid (KeepC P X w w4) ∧ Hid (PlOk w4 B P p S q K n (m + 4000) ∧ Only (fun k => B ≤ k) w w4)))) := by
 have hpd := hf.pd
 have hpB := hc.pB
 have hPl := hc.lt
 have hBl : B ≤ w.heap.size := by omega
 refine (sector_any vb b w (hb.frame h0)).mono ?_
 rintro e w1 ⟨rfl, rfl⟩
 have o1 : Only (fun _ => False) w (w.alloc (.cells (secL (fillF b)).toArray 5)) := (Only.refl _ w).alloc _
 have c1 := hc.still o1
 have r1 := sec_row (f := fillF b) (heap_alloc_new w (.cells (secL (fillF b)).toArray 5))
 have k1 : KeepC P X w (w.alloc (.cells (secL (fillF b)).toArray 5)) := KeepC.of o1 (fun g => g) (fun g => g)
 have hs1 := o1.size
 refine ⟨_, rfl, k1, (write_all p S 32 32 B _ pv d i (fillF b) _ c1.dk r1 (by omega) (by omega) (by omega)).mono ?_⟩
 rintro e w2 ⟨rfl, pv', g1, g2, g3⟩
 have c2 : PlC w2 B P p S q K pv' (d.write i (fillF b) 32).2 rv rs d sv rp := c1.prog (X := fun _ => False) g1 (g2.mono (fun _ _ g => .inl g)) (fun _ g => g.elim) g3
 have k2 := k1.trans (KeepC.of g2 hc.a1 hX.2.1)
 have hs2 := g2.size
 have o02 : Only (fun _ => False) w0 w2 := (h0.trans o1 (fun _ _ g => g)).trans g2 (fun k hk g => by have := (hc.dk.lt k g).1; omega)
 refine ⟨rfl, k2, (sector_any vb b w2 (hb.frame o02)).mono ?_⟩
 rintro e w3 ⟨rfl, rfl⟩
 have o3 : Only (fun _ => False) w2 (w2.alloc (.cells (secL (fillF b)).toArray 5)) := (Only.refl _ w2).alloc _
 have c3 := c2.still o3
 have r3 := sec_row (f := fillF b) (heap_alloc_new w2 (.cells (secL (fillF b)).toArray 5))
 have k3 := k2.trans (KeepC.of o3 (fun g => g) (fun g => g))
 have hs3 := o3.size
 refine ⟨_, rfl, k3, (rput_all c3.rf _ 32 32 i (fillF b) r3 (by omega) (by omega) (by omega)).mono ?_⟩
 rintro e w4 ⟨rfl, rv', rs', i1, i2, i3⟩
 have c4 : PlC w4 B P p S q K pv' (d.write i (fillF b) 32).2 rv' rs' (d.write i (fillF b) 32).2 sv rp := c3.doc (X := fun _ => False) i1 (i2.mono (fun _ _ g => .inl g)) (fun _ g => g.elim) i3
 have oo : Only (fun k => k = P ∨ diskB p S pv k ∨ refB q K rv rs k) w w4 := (((o1.mono (fun _ _ g => g.elim)).trans (g2.mono (fun _ _ g => .inr (.inl g))) (fun _ _ g => g)).trans (o3.mono (fun _ _ g => g.elim)) (fun _ _ g => g)).trans (i2.mono (fun _ _ g => .inr (.inr g))) (fun _ _ g => g)
 refine ⟨rfl, k3.trans (KeepC.of i2 hc.a2 hX.2.2), ⟨pv', _, rv', rs', sv, rp, c4, hk.disks oo (fun b g => ?_) (fun b g => ?_), (hf.write i (fillF b) 32 (fillF_byt hb.2.2)).mono (by omega)⟩, oo.mono (fun k hk g => hc.low k g)⟩
 ·rcases g3 b g with g | g
  ·exact .inl g
  ·exact .inr (by omega)
 ·rcases i3 b g with g | g
  ·exact .inl g
  ·exact .inr (by omega)
theorem disk_live {w0 w : World} {B P p S q K N m : Nat} (h : PlOk w B P p S q K N m) (h0 : Only (fun _ => False) w0 w) (hB : B = w0.heap.size) (hm : m ≤ 8589934592) (i n cut : Int) (vb vk : Value) (hn : n ≤ 9223372036854775807) :
  Calls Tryz.prog 15 #[.pointer (some ⟨P, 0, none⟩), .agg #[.int .i64 7, .int .i64 i, .int .i64 n, .int .i64 cut, vb, vk]] w fun e w' => e = .returned (.bool true) ∧ Hid (PlOk w' B P p S q K N (m + 4000) ∧ Only (fun k => B ≤ k) w w') := by
 obtain ⟨pv, d, rv, rs, sv, rp, hc, hk, hf⟩ := h
 obtain ⟨wx, hwx⟩ : ∃ z, z = w.alloc (.cells #[.int .i64 7, .int .i64 i, .int .i64 n, .int .i64 cut, vb, vk] 40) := ⟨_, rfl⟩
 obtain ⟨Bx, hBx⟩ : ∃ z, z = w.heap.size := ⟨_, rfl⟩
 have oX : Only (fun _ => False) w wx := by rw [hwx]; exact (Only.refl _ w).alloc _
 have bX : wx.heap[Bx]? = some (.cells #[.int .i64 7, .int .i64 i, .int .i64 n, .int .i64 cut, vb, vk] 40 (0, 0)) := by rw [hwx, hBx]; exact heap_alloc_new w _
 have x0 : wx.cell? ⟨Bx, 0, none⟩ = some (.int .i64 7) := by rw [cell_of_row _ _ _ _ _ _ bX]; rfl
 have x1 : wx.cell? ⟨Bx, 1, none⟩ = some (.int .i64 i) := by rw [cell_of_row _ _ _ _ _ _ bX]; rfl
 have x2 : wx.cell? ⟨Bx, 2, none⟩ = some (.int .i64 n) := by rw [cell_of_row _ _ _ _ _ _ bX]; rfl
 have x3 : wx.cell? ⟨Bx, 3, none⟩ = some (.int .i64 cut) := by rw [cell_of_row _ _ _ _ _ _ bX]; rfl
 have x4 : wx.cell? ⟨Bx, 4, none⟩ = some (vb) := by rw [cell_of_row _ _ _ _ _ _ bX]; rfl
 have x5 : wx.cell? ⟨Bx, 5, none⟩ = some (vk) := by rw [cell_of_row _ _ _ _ _ _ bX]; rfl
 have hcx : PlC wx B P p S q K pv d rv rs d sv rp := hc.still oX
 have hkx : StK wx B P p S q K pv rv rs N sv rp := hk.disks (oX.mono (fun _ _ g => g.elim)) (fun b g => .inl g) (fun b g => .inl g)
 have hX : Bx < wx.heap.size ∧ ¬ diskB p S pv Bx ∧ ¬ refB q K rv rs Bx := ⟨by rw [hwx, hBx]; simp, fun g => by have := (hc.dk.lt _ g).2; omega, fun g => by have := (hc.rf.lt _ g).2; omega⟩
 have z0 : wx.cell? ⟨P, 0, none⟩ = some (.pointer (some ⟨p, 0, none⟩)) := hcx.pc 0 _ rfl
 have z1 : wx.cell? ⟨P, 1, none⟩ = some (.pointer (some ⟨q, 0, none⟩)) := hcx.pc 1 _ rfl
 have z2 : wx.cell? ⟨P, 2, none⟩ = some sv := hcx.pc 2 _ rfl
 have z3 : wx.cell? ⟨P, 3, none⟩ = some rp := hcx.pc 3 _ rfl
 have O0 : Hid (Only (fun _ => False) w0 wx) := h0.trans oX (fun _ _ g => g)
 have OX : Hid (Only (fun _ => False) w wx) := oX
 have HW : Hid (wx = w.alloc (.cells #[.int .i64 7, .int .i64 i, .int .i64 n, .int .i64 cut, vb, vk] 40)) := hwx
 have HX : Hid (Bx = w.heap.size) := hBx
 have oD : Only (fun _ => False) wx wx.drew := (Only.refl _ wx).drew
 have hkd : StK wx.drew B P p S q K pv rv rs N sv rp := hkx.disks (oD.mono (fun _ _ g => g.elim)) (fun b g => .inl g) (fun b g => .inl g)
 have hcd : PlC wx.drew B P p S q K pv d rv rs d sv rp := hcx.still oD
 have hpd := hf.pd
 have zw0 : w.cell? ⟨P, 0, none⟩ = some (.pointer (some ⟨p, 0, none⟩)) := hc.pc 0 _ rfl
 clear hwx hBx bX hc hk
 have HC : Hid (Calls Tryz.prog 38 #[.pointer (some ⟨p, 0, none⟩), .int .i64 n] wx.drew fun e w1 => e = .returned (.int .i64 (d.live n).1) ∧ Hid (KeepC P Bx wx.drew w1) ∧ Hid (Calls Tryz.prog 39 #[.pointer (some ⟨q, 0, none⟩), .int .i64 n] w1 fun e w2 => e = .returned (.int .i64 (d.live n).1) ∧ Hid (KeepC P Bx wx.drew w2) ∧ Hid (PlOk w2 B P p S q K N (m + 4000) ∧ Only (fun k => B ≤ k) wx.drew w2))) :=
  hcd.pair hkd ((hf.live n).mono (by omega)) hX (live_all hcd.dk n hn) (fun w1 _ hr => rlive_all hr n hn)
 obtain ⟨Y, hY⟩ : ∃ Y, Y = (d.live n).1 := ⟨_, rfl⟩
 rw [← hY] at HC
 clear hY
 clear hcx hkx hX O0 oD hkd hcd hpd oX h0 hf hB zw0 x1 x3 x4 x5 z2 z3
 go_enter Tryz.func15, Tryz.ntmps15
 go_wp2_with fail
 rw [← HW.out, ← HX.out]
 go_region_held3 (fun w' => w'.cell? ⟨P, 0, none⟩ = some (.pointer (some ⟨p, 0, none⟩)) ∧ w'.cell? ⟨P, 1, none⟩ = some (.pointer (some ⟨q, 0, none⟩)) ∧ w'.cell? ⟨Bx, 2, none⟩ = some (.int .i64 n)) (first | exact ⟨HK2.out P (.inl rfl) 0 _ z0, HK2.out P (.inl rfl) 1 _ z1, HK2.out Bx (.inr rfl) 2 _ x2⟩ | exact ⟨HK1.out P (.inl rfl) 0 _ z0, HK1.out P (.inl rfl) 1 _ z1, HK1.out Bx (.inr rfl) 2 _ x2⟩ | go_keep)
  (first
   | (go_at_call 38; refine (show Calls Tryz.prog 38 _ _ _ from HC.out).mono ?_; rintro e w1 ⟨rfl, HK1, HC1⟩)
   | (go_at_call 39; refine (show Calls Tryz.prog 39 _ _ _ from HC1.out).mono ?_; rintro e w2 ⟨rfl, HK2, HN⟩))
 clear HC HC1 HK1 HK2 z0 z1 x2
 go_wp2
 go_ret
 exact ⟨rfl, HN.out.1, (OX.out.drew.mono (fun _ _ g => g.elim)).trans HN.out.2 (fun _ _ g => g)⟩
theorem disk_crash {w0 w : World} {B P p S q K N m : Nat} (h : PlOk w B P p S q K N m) (h0 : Only (fun _ => False) w0 w) (hB : B = w0.heap.size) (hm : m ≤ 8589934592) (i n cut : Int) (vb : Value) (ak : Option Addr) (mk ck : Nat) (ks : List Bool) (hks : FlagsIn w0 (.slice ak mk ck) ks) :
  Calls Tryz.prog 15 #[.pointer (some ⟨P, 0, none⟩), .agg #[.int .i64 6, .int .i64 i, .int .i64 n, .int .i64 cut, vb, .slice ak mk ck]] w fun e w' => e = .returned (.bool true) ∧ Hid (PlOk w' B P p S q K N (m + 4000) ∧ Only (fun k => B ≤ k) w w') := by
 obtain ⟨pv, d, rv, rs, sv, rp, hc, hk, hf⟩ := h
 obtain ⟨wx, hwx⟩ : ∃ z, z = w.alloc (.cells #[.int .i64 6, .int .i64 i, .int .i64 n, .int .i64 cut, vb, .slice ak mk ck] 40) := ⟨_, rfl⟩
 obtain ⟨Bx, hBx⟩ : ∃ z, z = w.heap.size := ⟨_, rfl⟩
 have oX : Only (fun _ => False) w wx := by rw [hwx]; exact (Only.refl _ w).alloc _
 have bX : wx.heap[Bx]? = some (.cells #[.int .i64 6, .int .i64 i, .int .i64 n, .int .i64 cut, vb, .slice ak mk ck] 40 (0, 0)) := by rw [hwx, hBx]; exact heap_alloc_new w _
 have x0 : wx.cell? ⟨Bx, 0, none⟩ = some (.int .i64 6) := by rw [cell_of_row _ _ _ _ _ _ bX]; rfl
 have x1 : wx.cell? ⟨Bx, 1, none⟩ = some (.int .i64 i) := by rw [cell_of_row _ _ _ _ _ _ bX]; rfl
 have x2 : wx.cell? ⟨Bx, 2, none⟩ = some (.int .i64 n) := by rw [cell_of_row _ _ _ _ _ _ bX]; rfl
 have x3 : wx.cell? ⟨Bx, 3, none⟩ = some (.int .i64 cut) := by rw [cell_of_row _ _ _ _ _ _ bX]; rfl
 have x4 : wx.cell? ⟨Bx, 4, none⟩ = some (vb) := by rw [cell_of_row _ _ _ _ _ _ bX]; rfl
 have x5 : wx.cell? ⟨Bx, 5, none⟩ = some (.slice ak mk ck) := by rw [cell_of_row _ _ _ _ _ _ bX]; rfl
 have hcx : PlC wx B P p S q K pv d rv rs d sv rp := hc.still oX
 have hkx : StK wx B P p S q K pv rv rs N sv rp := hk.disks (oX.mono (fun _ _ g => g.elim)) (fun b g => .inl g) (fun b g => .inl g)
 have hX : Bx < wx.heap.size ∧ ¬ diskB p S pv Bx ∧ ¬ refB q K rv rs Bx := ⟨by rw [hwx, hBx]; simp, fun g => by have := (hc.dk.lt _ g).2; omega, fun g => by have := (hc.rf.lt _ g).2; omega⟩
 have z0 : wx.cell? ⟨P, 0, none⟩ = some (.pointer (some ⟨p, 0, none⟩)) := hcx.pc 0 _ rfl
 have z1 : wx.cell? ⟨P, 1, none⟩ = some (.pointer (some ⟨q, 0, none⟩)) := hcx.pc 1 _ rfl
 have z2 : wx.cell? ⟨P, 2, none⟩ = some sv := hcx.pc 2 _ rfl
 have z3 : wx.cell? ⟨P, 3, none⟩ = some rp := hcx.pc 3 _ rfl
 have O0 : Hid (Only (fun _ => False) w0 wx) := h0.trans oX (fun _ _ g => g)
 have OX : Hid (Only (fun _ => False) w wx) := oX
 have HW : Hid (wx = w.alloc (.cells #[.int .i64 6, .int .i64 i, .int .i64 n, .int .i64 cut, vb, .slice ak mk ck] 40)) := hwx
 have HX : Hid (Bx = w.heap.size) := hBx
 have oD : Only (fun _ => False) wx wx.drew := (Only.refl _ wx).drew
 have hkd : StK wx.drew B P p S q K pv rv rs N sv rp := hkx.disks (oD.mono (fun _ _ g => g.elim)) (fun b g => .inl g) (fun b g => .inl g)
 have hcd : PlC wx.drew B P p S q K pv d rv rs d sv rp := hcx.still oD
 have hpd := hf.pd
 have zw0 : w.cell? ⟨P, 0, none⟩ = some (.pointer (some ⟨p, 0, none⟩)) := hc.pc 0 _ rfl
 clear hwx hBx bX hc hk
 have hfx : FlagsIn wx.drew (.slice ak mk ck) ks := ⟨hks.1.frame (O0.out.trans oD (fun _ _ g => g)) (fun _ g => g.elim), hks.2⟩
 obtain ⟨aF, capF, w2, hrF, hdf, o2⟩ := app_flags wx.drew (.slice ak mk ck) ks hfx S (hcd.dk.lt S (.inr (.inl rfl))).2
 have o02 : Only (fun _ => False) w0 w2 := (O0.out.trans oD (fun _ _ g => g)).trans o2 (fun _ _ g => g)
 have hc2 := hcd.still o2
 have hk2 : StK w2 B P p S q K pv rv rs N sv rp := hkd.disks (o2.mono (fun _ _ g => g.elim)) (fun b g => .inl g) (fun b g => .inl g)
 have hX2 : Bx < w2.heap.size ∧ ¬ diskB p S pv Bx ∧ ¬ refB q K rv rs Bx := ⟨Nat.lt_of_lt_of_le hX.1 o2.size, hX.2⟩
 have HC : Hid (Calls Tryz.prog 36 #[.pointer (some ⟨p, 0, none⟩), .slice aF ks.length capF, .int .i64 n, .int .i64 cut] w2 fun e w1 => e = .returned (.int .i64 (d.crash ks n cut).1) ∧ Hid (KeepC P Bx w2 w1) ∧ Hid (Calls Tryz.prog 37 #[.pointer (some ⟨q, 0, none⟩), .slice ak mk ck, .int .i64 n, .int .i64 cut] w1 fun e w2' => e = .returned (.int .i64 (d.crash ks n cut).1) ∧ Hid (KeepC P Bx w2 w2') ∧ Hid (PlOk w2' B P p S q K N (m + 4000) ∧ Only (fun k => B ≤ k) w2 w2'))) :=
  hc2.pair hk2 ((hf.crash ks n cut).mono (by omega)) hX2 (crash_alls hc2.dk ks n cut hdf) (fun w1 ho hr => rcrash_alls hr (by omega) ks n cut (hks.df (o02.trans ho (fun k hk g => by have := (hc2.dk.lt k g).1; omega)) (by have := hr.KB; omega)))
 have HY : Hid (w2.cell? ⟨P, 0, none⟩ = some (.pointer (some ⟨p, 0, none⟩)) ∧ w2.cell? ⟨P, 1, none⟩ = some (.pointer (some ⟨q, 0, none⟩)) ∧ w2.cell? ⟨Bx, 2, none⟩ = some (.int .i64 n) ∧ w2.cell? ⟨Bx, 3, none⟩ = some (.int .i64 cut) ∧ w2.cell? ⟨Bx, 5, none⟩ = some (.slice ak mk ck)) := ⟨hc2.pc 0 _ rfl, hc2.pc 1 _ rfl, o2.cell x2 (fun g => g), o2.cell x3 (fun g => g), o2.cell x5 (fun g => g)⟩
 have HRF : Hid _ := hrF
 have hem := emptyF
 have O2 : Hid (Only (fun _ => False) w w2) := (OX.out.trans oD (fun _ _ g => g)).trans o2 (fun _ _ g => g)
 obtain ⟨Y, hY⟩ : ∃ Y, Y = (d.crash ks n cut).1 := ⟨_, rfl⟩
 rw [← hY] at HC
 clear hY hfx hrF hdf o2 o02 hc2 hk2 hX2
 clear hcx hkx hX O0 oD hkd hcd hpd oX h0 hf hB zw0 x1 x4 z2 z3
 go_enter Tryz.func15, Tryz.ntmps15
 go_wp2_with fail
 rw [← HW.out, ← HX.out]
 go_region_held3 (fun w' => w'.cell? ⟨P, 0, none⟩ = some (.pointer (some ⟨p, 0, none⟩)) ∧ w'.cell? ⟨P, 1, none⟩ = some (.pointer (some ⟨q, 0, none⟩)) ∧ w'.cell? ⟨Bx, 2, none⟩ = some (.int .i64 n) ∧ w'.cell? ⟨Bx, 3, none⟩ = some (.int .i64 cut) ∧ w'.cell? ⟨Bx, 5, none⟩ = some (.slice ak mk ck)) (first | exact ⟨HK4.out P (.inl rfl) 0 _ HY.out.1, HK4.out P (.inl rfl) 1 _ HY.out.2.1, HK4.out Bx (.inr rfl) 2 _ HY.out.2.2.1, HK4.out Bx (.inr rfl) 3 _ HY.out.2.2.2.1, HK4.out Bx (.inr rfl) 5 _ HY.out.2.2.2.2⟩ | exact ⟨HK3.out P (.inl rfl) 0 _ HY.out.1, HK3.out P (.inl rfl) 1 _ HY.out.2.1, HK3.out Bx (.inr rfl) 2 _ HY.out.2.2.1, HK3.out Bx (.inr rfl) 3 _ HY.out.2.2.2.1, HK3.out Bx (.inr rfl) 5 _ HY.out.2.2.2.2⟩ | exact HY.out | go_keep)
  (first
   | (refine step_append_run (by rfl) _ _ 38 (by rfl) _ _ (.slice aF ks.length capF) (by rfl) (by rfl) HRF.out ?_)
   | (go_at_call 36; refine (show Calls Tryz.prog 36 _ _ _ from HC.out).mono ?_; rintro e w3 ⟨rfl, HK3, HC3⟩)
   | (go_at_call 37; refine (show Calls Tryz.prog 37 _ _ _ from HC3.out).mono ?_; rintro e w4 ⟨rfl, HK4, HN⟩))
 clear HC HC3 HK3 HK4 HY HRF z0 z1 x2 x3 x5
 go_wp2
 go_ret
 exact ⟨rfl, HN.out.1, (O2.out.mono (fun _ _ g => g.elim)).trans HN.out.2 (fun _ _ g => g)⟩
theorem disk_sector {w0 w : World} {B P p S q K N m : Nat} (h : PlOk w B P p S q K N m) (h0 : Only (fun _ => False) w0 w) (hB : B = w0.heap.size) (hm : m ≤ 8589934592) (i n cut : Int) (ab : Option Addr) (mb cb : Nat) (b : List Nat) (hb : BytesAt w0 (.slice ab mb cb) b) (vk : Value) :
  Calls Tryz.prog 15 #[.pointer (some ⟨P, 0, none⟩), .agg #[.int .i64 8, .int .i64 i, .int .i64 n, .int .i64 cut, .slice ab mb cb, vk]] w fun e w' => e = .returned (.bool true) ∧ Hid (PlOk w' B P p S q K N (m + 4000) ∧ Only (fun k => B ≤ k) w w') := by
 obtain ⟨pv, d, rv, rs, sv, rp, hc, hk, hf⟩ := h
 obtain ⟨wx, hwx⟩ : ∃ z, z = w.alloc (.cells #[.int .i64 8, .int .i64 i, .int .i64 n, .int .i64 cut, .slice ab mb cb, vk] 40) := ⟨_, rfl⟩
 obtain ⟨Bx, hBx⟩ : ∃ z, z = w.heap.size := ⟨_, rfl⟩
 have oX : Only (fun _ => False) w wx := by rw [hwx]; exact (Only.refl _ w).alloc _
 have bX : wx.heap[Bx]? = some (.cells #[.int .i64 8, .int .i64 i, .int .i64 n, .int .i64 cut, .slice ab mb cb, vk] 40 (0, 0)) := by rw [hwx, hBx]; exact heap_alloc_new w _
 have x0 : wx.cell? ⟨Bx, 0, none⟩ = some (.int .i64 8) := by rw [cell_of_row _ _ _ _ _ _ bX]; rfl
 have x1 : wx.cell? ⟨Bx, 1, none⟩ = some (.int .i64 i) := by rw [cell_of_row _ _ _ _ _ _ bX]; rfl
 have x2 : wx.cell? ⟨Bx, 2, none⟩ = some (.int .i64 n) := by rw [cell_of_row _ _ _ _ _ _ bX]; rfl
 have x3 : wx.cell? ⟨Bx, 3, none⟩ = some (.int .i64 cut) := by rw [cell_of_row _ _ _ _ _ _ bX]; rfl
 have x4 : wx.cell? ⟨Bx, 4, none⟩ = some (.slice ab mb cb) := by rw [cell_of_row _ _ _ _ _ _ bX]; rfl
 have x5 : wx.cell? ⟨Bx, 5, none⟩ = some (vk) := by rw [cell_of_row _ _ _ _ _ _ bX]; rfl
 have hcx : PlC wx B P p S q K pv d rv rs d sv rp := hc.still oX
 have hkx : StK wx B P p S q K pv rv rs N sv rp := hk.disks (oX.mono (fun _ _ g => g.elim)) (fun b g => .inl g) (fun b g => .inl g)
 have hX : Bx < wx.heap.size ∧ ¬ diskB p S pv Bx ∧ ¬ refB q K rv rs Bx := ⟨by rw [hwx, hBx]; simp, fun g => by have := (hc.dk.lt _ g).2; omega, fun g => by have := (hc.rf.lt _ g).2; omega⟩
 have z0 : wx.cell? ⟨P, 0, none⟩ = some (.pointer (some ⟨p, 0, none⟩)) := hcx.pc 0 _ rfl
 have z1 : wx.cell? ⟨P, 1, none⟩ = some (.pointer (some ⟨q, 0, none⟩)) := hcx.pc 1 _ rfl
 have z2 : wx.cell? ⟨P, 2, none⟩ = some sv := hcx.pc 2 _ rfl
 have z3 : wx.cell? ⟨P, 3, none⟩ = some rp := hcx.pc 3 _ rfl
 have O0 : Hid (Only (fun _ => False) w0 wx) := h0.trans oX (fun _ _ g => g)
 have OX : Hid (Only (fun _ => False) w wx) := oX
 have HW : Hid (wx = w.alloc (.cells #[.int .i64 8, .int .i64 i, .int .i64 n, .int .i64 cut, .slice ab mb cb, vk] 40)) := hwx
 have HX : Hid (Bx = w.heap.size) := hBx
 have oD : Only (fun _ => False) wx wx.drew := (Only.refl _ wx).drew
 have hkd : StK wx.drew B P p S q K pv rv rs N sv rp := hkx.disks (oD.mono (fun _ _ g => g.elim)) (fun b g => .inl g) (fun b g => .inl g)
 have hcd : PlC wx.drew B P p S q K pv d rv rs d sv rp := hcx.still oD
 have hpd := hf.pd
 have zw0 : w.cell? ⟨P, 0, none⟩ = some (.pointer (some ⟨p, 0, none⟩)) := hc.pc 0 _ rfl
 clear hwx hBx bX hc hk
 have HC := hcd.pair4 hkd hf hm hX (O0.out.trans oD (fun _ _ g => g)) hB hb i
 have HC0 : Hid _ := HC
 obtain ⟨Y, hY⟩ : ∃ Y, Y = (d.write i (fillF b) 32).1 := ⟨_, rfl⟩
 rw [← hY] at HC0
 clear hY HC
 clear hcx hkx hX O0 oD hkd hcd hpd oX h0 hf hB zw0 x2 x3 x5 z2 z3
 go_enter Tryz.func15, Tryz.ntmps15
 go_wp2_with fail
 rw [← HW.out, ← HX.out]
 go_region_held3 (fun w' => w'.cell? ⟨P, 0, none⟩ = some (.pointer (some ⟨p, 0, none⟩)) ∧ w'.cell? ⟨P, 1, none⟩ = some (.pointer (some ⟨q, 0, none⟩)) ∧ w'.cell? ⟨Bx, 1, none⟩ = some (.int .i64 i) ∧ w'.cell? ⟨Bx, 4, none⟩ = some (.slice ab mb cb)) (first | exact ⟨HK4.out P (.inl rfl) 0 _ z0, HK4.out P (.inl rfl) 1 _ z1, HK4.out Bx (.inr rfl) 1 _ x1, HK4.out Bx (.inr rfl) 4 _ x4⟩ | exact ⟨HK3.out P (.inl rfl) 0 _ z0, HK3.out P (.inl rfl) 1 _ z1, HK3.out Bx (.inr rfl) 1 _ x1, HK3.out Bx (.inr rfl) 4 _ x4⟩ | exact ⟨HK2.out P (.inl rfl) 0 _ z0, HK2.out P (.inl rfl) 1 _ z1, HK2.out Bx (.inr rfl) 1 _ x1, HK2.out Bx (.inr rfl) 4 _ x4⟩ | exact ⟨HK1.out P (.inl rfl) 0 _ z0, HK1.out P (.inl rfl) 1 _ z1, HK1.out Bx (.inr rfl) 1 _ x1, HK1.out Bx (.inr rfl) 4 _ x4⟩ | go_keep)
  (first
   | (go_at_call 41; refine (show Calls Tryz.prog 41 _ _ _ from HC2.out).mono ?_; rintro e w3 ⟨a3, rfl, HK3, HC3⟩)
   | (go_at_call 41; refine (show Calls Tryz.prog 41 _ _ _ from HC0.out).mono ?_; rintro e w1 ⟨a1, rfl, HK1, HC1⟩)
   | (go_at_call 40; refine (show Calls Tryz.prog 40 _ _ _ from HC1.out).mono ?_; rintro e w2 ⟨rfl, HK2, HC2⟩)
   | (go_at_call 42; refine (show Calls Tryz.prog 42 _ _ _ from HC3.out).mono ?_; rintro e w4 ⟨rfl, HK4, HN⟩))
 clear HC0 HC1 HC2 HC3 HK1 HK2 HK3 HK4 z0 z1 x1 x4
 go_wp2
 go_ret
 exact ⟨rfl, HN.out.1, (OX.out.drew.mono (fun _ _ g => g.elim)).trans HN.out.2 (fun _ _ g => g)⟩
end Go.Proofs.YtlcglapcmdpkfaaGreat
