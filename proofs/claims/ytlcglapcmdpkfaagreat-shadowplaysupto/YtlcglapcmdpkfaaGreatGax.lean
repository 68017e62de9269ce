/-           -/
import Derived.Test.YtlcglapcmdpkfaaGreatGaw
import Derived.Test.YtlcglapcmdpkfaaGreatGav
import Derived.ProofKit
import Derived.SizedLaws
import Derived.Deep.Slices
import Derived.Deep.Grids
import Derived.Test.YtlcglapcmdpkfaaGreatGas
import Derived.Test.YtlcglapcmdpkfaaGreatGae
import Derived.Test.YtlcglapcmdpkfaaGreatGat
import Derived.Test.YtlcglapcmdpkfaaGreatGau
import Derived.Test.YtlcglapcmdpkfaaGreatGad
import Derived.Test.YtlcglapcmdpkfaaGreatGaj
namespace Go.Proofs.YtlcglapcmdpkfaaGreat
open Go.RowKit
set_option linter.unusedSimpArgs false
set_option linter.unusedVariables false
set_option maxRecDepth 100000
set_option maxHeartbeats 16000000
def RDead (w : World) (r : Nat) : Prop := w.cell? ⟨r, 6, none⟩ = some (.bool true) ∧ (∃ e : Nat, w.cell? ⟨r, 2, none⟩ = some (.int .u64 (e : Nat))) ∧ ∃ a n c, w.cell? ⟨r, 5, none⟩ = some (.slice a n c)
def RCmIs (E : Nat → Prop) (x : SS) (d : DS) (w : World) (B r q K : Nat) (rv nv : Value) (rs : List RW) (e : Ending) (w' : World) : Prop :=
 (freeN x x.size < needN x ∧ e = .returned (.int .i64 7) ∧ Only (fun _ => False) w w') ∨
 (needN x ≤ freeN x x.size ∧ (cmX x d).1 ≠ 0 ∧ e = .returned (.int .i64 3) ∧ RDead w' r ∧ ∃ rv' rs', MidE w (fun b => nv.ownBlock = some b ∨ b = r) B q K rv rs (cmX x d).2 w' rv' rs') ∨
 (needN x ≤ freeN x x.size ∧ (cmX x d).1 = 0 ∧ e = .returned (.int .i64 0) ∧ Und E w B r q K rv nv rs (cmX x d).2 x.next w')
theorem RsAt.bytes {w : World} {rk : Nat → Prop} {B r q : Nat} {tv kv nv : Value} {x : SS} {lk ln : List RPg} (h : RsAt w rk B r q tv kv nv x lk ln) : ∀ p ∈ x.now, ∀ z ∈ p.2.2, z < 256 := fun p hp z hz => by
 rw [← h.nowE] at hp
 obtain ⟨y, hy, rfl⟩ := List.mem_map.1 hp
 exact (h.now.dat y hy).1.2.2 z hz
theorem Und.back {E : Nat → Prop} {w w1 W : World} {B r q K : Nat} {rv nv : Value} {rs : List RW} {d : DS} {x : SS} (h : Und E w1 B r q K rv nv rs d x W) (ho : Only (fun _ => False) w w1) : Und E w B r q K rv nv rs d x W := by
 obtain ⟨rv', rs', tv, kv, lk, ln, h1, h2⟩ := h.all
 exact ⟨rv', rs', tv, kv, lk, ln, ⟨h1.ref, (ho.mono (fun _ _ e => e.elim)).trans h1.ho (fun _ _ e => e), fun b e => (h1.sub b e).imp id (fun e => by have := ho.size; omega)⟩, h2.frame (Only.refl (fun _ => False) W) (fun _ _ e => e.elim) (fun k hk e => e.imp id (fun e => ⟨e.1, Nat.lt_of_lt_of_le e.2 ho.size⟩))⟩
theorem rCommit_any {E : Nat → Prop} {w : World} {B r q K : Nat} {rv tv kv nv : Value} {rs : List RW} {x : SS} {d : DS} {lk ln : List RPg} (h : RsAt w (refE E w.heap.size q K rv rs) B r q tv kv nv x lk ln) (hd : RefAt w B q K rv d rs) (hB : B ≤ w.heap.size) (hb : ByteD d) (hg : Good d) (hp : d.pend.length ≤ 9000000000) (hsz : d.n / 4 = x.size) :
  Calls Tryz.prog 21 #[.pointer (some ⟨r, 0, none⟩)] w fun e w' => Hid (RCmIs E x d w B r q K rv nv rs e w') := by
 have HR : Hid (Calls Tryz.prog 60 _ _ _) := rroom_any h d.n hd.c0 hd.n2 hsz
 have c6 := h.c6
 have hfree := freeN_le x x.size
 have hsz2 := h.wf.size
 have hnd : needN x ≤ 800 := by
  have h1 := putN_le x
  have h2 := h.n728
  have h3 := tab_small h.wf h2 (plA_small h.wf)
  unfold needN needA tabN
  omega
 have HC : Hid (∀ (w1 : World) (u : Value), Only (fun _ => False) w w1 → FreshI w1 w.heap.size u ((freeL x x.size).take (needN x)) → needN x ≤ freeN x x.size → Calls Tryz.prog 61 #[.pointer (some ⟨r, 0, none⟩), u] w1 fun e w' => Hid (RcIs E x d w1 B r q K rv nv rs e w')) := fun w1 u ho hu hfit =>
  rcommit_core (E := E) (h.frame ho (fun _ _ e => e.elim) (fun k hk e => e.imp id (fun e => ⟨e.1, hk⟩))) (hd.frame ho (fun _ _ e => e)) (by have := ho.size; omega) hb hg hp hsz hfit h.bytes u hu.ints (fun b e => by
   have h9 := (hu.1.lt b e).1
   exact ⟨fun e' => by have := (hd.lt b e').2; omega, fun e' => by have := (h.now.lt b e').2; omega, fun e' => by have := h.lt; omega⟩) ⟨_, hu⟩
 obtain ⟨F, hF⟩ : ∃ F, F = freeN x x.size := ⟨_, rfl⟩
 obtain ⟨nd, hnde⟩ : ∃ nd, nd = needN x := ⟨_, rfl⟩
 have HE : Hid (F = freeN x x.size ∧ nd = needN x) := ⟨hF, hnde⟩
 rw [← hF] at hfree
 rw [← hnde] at hnd
 clear h hd hb hg hp hsz hF hnde
 go_enter Tryz.func21, Tryz.ntmps21
 go_wp2_with fail
 refine (show Calls Tryz.prog 60 _ _ _ from HR.out).mono ?_
 rintro e w1 H1
 obtain ⟨u, rfl, ho1, hu1⟩ := H1.out
 rw [← HE.out.1, ← HE.out.2]
 rw [← HE.out.1, ← HE.out.2] at hu1
 have HO1 : Hid (Only (fun _ => False) w w1) := ho1
 clear HR H1
 by_cases hlt : F < nd
 ·have HQ : Hid (RCmIs E x d w B r q K rv nv rs (.returned (.int .i64 7)) w1) := .inl ⟨by rw [← HE.out.1, ← HE.out.2]; exact hlt, rfl, HO1.out⟩
  have i1 : (F : Int) < (nd : Int) := by omega
  clear hu1 ho1
  go_wp2
  go_ret
  exact HQ
 ·have hfit : nd ≤ F := by omega
  have i1 : ¬ (F : Int) < (nd : Int) := by omega
  have hu := hu1 hfit
  obtain ⟨au, cu, hue, _⟩ := hu.form
  have hll : ((freeL x x.size).take nd).length = nd := by rw [List.length_take, freeL_len, ← HE.out.1]; omega
  rw [hll] at hue
  subst hue
  have HCC : Hid (Calls Tryz.prog 61 _ _ _) := HC.out w1 _ ho1 (by rw [← HE.out.2]; exact hu) (by rw [← HE.out.1, ← HE.out.2]; exact hfit)
  have HFT : Hid (needN x ≤ freeN x x.size) := by show needN x ≤ _; rw [← HE.out.1, ← HE.out.2]; exact hfit
  clear hu1 ho1 hu HC hll
  go_wp2_with fail
  refine (show Calls Tryz.prog 61 _ _ _ from HCC.out).mono ?_
  rintro e w2 H2
  clear HCC
  rcases H2.out with ⟨h0, rfl, w3, x', ho3, hU⟩ | ⟨h0, rfl, w3, ho3, hU⟩
  ·have hUw := hU.back (HO1.out.trans ho3 (fun _ _ e => e))
   obtain ⟨rv', rs', tv', kv', lk', ln', h1', h2'⟩ := hUw.all
   have z6 := h2'.c6
   have f6 := h2'.fz 6 (by omega)
   obtain ⟨an, cn, hnv⟩ := h2'.nowForm
   have oo : Only (fun b => b = r) w2 (w2.setCell ⟨r, 6, none⟩ (.bool true)) := (Only.refl (fun b => b = r) w2).setCell _ _ (fun _ => rfl)
   have HQ : Hid (RCmIs E x d w B r q K rv nv rs (.returned (.int .i64 3)) (w2.setCell ⟨r, 6, none⟩ (.bool true))) := by
    refine .inr (.inl ⟨HFT.out, h0, rfl, ⟨World.cell?_setCell_same _ _ _ z6, ⟨x'.epoch, ?_⟩, an, x'.now.length, cn, ?_⟩, rv', rs', h1'.set oo (fun b _ e => .inr e) (fun b e e' => h2'.k1 (.inl (e' ▸ e)))⟩)
    ·rw [World.cell?_setCell_other _ _ _ _ (by simp)]; exact h2'.c2
    ·rw [World.cell?_setCell_other _ _ _ _ (by simp), ← hnv]; exact h2'.c5
   clear hU hUw h1' h2' hnv oo H2 h0 ho3
   go_wp2
   go_ret
   exact HQ
  ·have HQ : Hid (RCmIs E x d w B r q K rv nv rs (.returned (.int .i64 0)) w2) := .inr (.inr ⟨HFT.out, h0, rfl, hU.back (HO1.out.trans ho3 (fun _ _ e => e))⟩)
   clear hU H2 h0 ho3
   go_wp2
   go_ret
   exact HQ
theorem rCommit_dead (r : Nat) (w : World) (h : w.cell? ⟨r, 6, none⟩ = some (.bool true)) :
  Calls Tryz.prog 21 #[.pointer (some ⟨r, 0, none⟩)] w fun e w' => e = .returned (.int .i64 3) ∧ w' = w := by
 go_enter Tryz.func21, Tryz.ntmps21
 go_wp2
 go_ret
 exact ⟨rfl, rfl⟩
end Go.Proofs.YtlcglapcmdpkfaaGreat
namespace Go.Proofs.YtlcglapcmdpkfaaGreat
open Go.RowKit Go.Maps
set_option linter.unusedSimpArgs false
set_option linter.unusedVariables false
set_option maxRecDepth 100000
set_option maxHeartbeats 16000000
theorem keep_ans (d : DS) (k : Nat) (hk : k < d.n) (f : Nat → Int) : (d.keep k f).1 = 0 ∨ (d.keep k f).1 = 3 := by
 have h1 : ¬ ((k : Int) < 0 ∨ (d.n : Int) ≤ (k : Int)) := by omega
 unfold DS.keep DS.barrier DS.write
 by_cases e : d.life = 0
 ·simp [e]
 ·simp only [e, h1, if_false, ne_eq, not_true_eq_false]
  split <;> simp
theorem keep_n (d : DS) (k : Int) (f : Nat → Int) : (d.keep k f).2.n = d.n := by
 unfold DS.keep DS.barrier DS.write
 repeat' split
 all_goals simp_all
theorem format_dead1 (p S B : Nat) (pv : Value) (d : DS) (w : World) (h : DiskAt w B p S pv d) (hB : B ≤ w.heap.size) (hby : (d.pend.length + 2) * 72 ≤ 140737488355328) (hn : 3 ≤ d.n / 4) (e1 : (d.keep 4 (byF zeros32)).1 = 3) :
  Calls Tryz.prog 11 #[.pointer (some ⟨p, 0, none⟩)] w fun e w' => e = .returned (.tuple #[.pointer none, .int .i64 3]) ∧ Hid (∃ pv', DiskAt w' B p S pv' (d.keep 4 (byF zeros32)).2 ∧ Only (diskB p S pv) w w' ∧ (∀ b, pv'.ownBlock = some b → pv.ownBlock = some b ∨ w.heap.size ≤ b)) := by
 obtain ⟨c, hc⟩ := h.c0
 have HC : Hid (Calls Tryz.prog 28 _ _ _) := count_any p S d.n c w h.n2 hc
 obtain ⟨N, hN⟩ : ∃ N, N = d.n / 4 := ⟨_, rfl⟩
 rw [← hN] at HC hn
 have h3 : ¬ (N : Int) < 3 := by omega
 obtain ⟨Z, hZ⟩ : ∃ Z, Z = (BL zeros32).toArray := ⟨_, rfl⟩
 have hmk : ∀ w, (Instr.makeSlice 37 (.int .i64 32) (.int .i64 32)).run Tryz.prog w = .ok (.slice (some ⟨w.heap.size, 0, none⟩) 32 32) (w.alloc (.cells Z 5)) := fun w => by rw [hZ]; exact make_blk 32 (by omega) w
 obtain ⟨wA, hwA⟩ : ∃ q, q = w.alloc (.cells Z 5) := ⟨_, rfl⟩
 have oA : Only (fun _ => False) w wA := by rw [hwA]; exact (Only.refl _ w).alloc _
 have bA : Blk wA w.heap.size zeros32 := by rw [hwA, hZ]; exact blk_zeros 32 (by omega) w
 have hdA : DiskAt wA B p S pv d := h.frame oA (fun _ _ e => e)
 have HK1 : Hid (Calls Tryz.prog 29 _ _ _) := keep_hid p S 32 B (some ⟨w.heap.size, 0, none⟩) pv d 4 (byF zeros32) wA hdA (bA.row (by simp [zeros32])) (by have := oA.size; omega) (by omega) 3 e1
 have HA : Hid (wA = w.alloc (.cells Z 5)) := hwA
 have H0 : Hid (Only (fun _ => False) w wA) := oA
 clear h hc hwA oA bA hdA hB hby e1 hN hn hZ
 go_enter Tryz.func11, Tryz.ntmps11
 go_wp2_with (go_at_call 28; refine (show Calls Tryz.prog 28 _ _ _ from HC.out).mono ?_; rintro e w' ⟨rfl, rfl⟩)
 rw [← HA.out]
 refine (show Calls Tryz.prog 29 _ _ _ from HK1.out).mono ?_
 rintro e w1 ⟨rfl, H1⟩
 clear HC HK1 hmk
 have HE : Hid (∃ pv', DiskAt w1 B p S pv' (d.keep 4 (byF zeros32)).2 ∧ Only (diskB p S pv) w' w1 ∧ (∀ b, pv'.ownBlock = some b → pv.ownBlock = some b ∨ w'.heap.size ≤ b)) := by
  obtain ⟨pv1, hd1, ho1, hp1⟩ := H1.out
  have s1 := H0.out.size
  exact ⟨pv1, hd1, (H0.out.mono (fun _ _ e => e.elim)).trans ho1 (fun _ _ e => e), fun b e => (hp1 b e).imp id (fun e => by omega)⟩
 clear H1 H0 HA
 go_wp2
 go_ret2
 exact ⟨rfl, HE⟩
theorem format_dead2 (p S B : Nat) (pv : Value) (d : DS) (w : World) (h : DiskAt w B p S pv d) (hB : B ≤ w.heap.size) (hby : (d.pend.length + 2) * 72 ≤ 140737488355328) (hn : 3 ≤ d.n / 4) (e1 : (d.keep 4 (byF zeros32)).1 = 0) (e2 : ((d.keep 4 (byF zeros32)).2.keep 0 (byF (rootB 1 0 0))).1 = 3) :
  Calls Tryz.prog 11 #[.pointer (some ⟨p, 0, none⟩)] w fun e w' => e = .returned (.tuple #[.pointer none, .int .i64 3]) ∧ Hid (∃ pv', DiskAt w' B p S pv' ((d.keep 4 (byF zeros32)).2.keep 0 (byF (rootB 1 0 0))).2 ∧ Only (diskB p S pv) w w' ∧ (∀ b, pv'.ownBlock = some b → pv.ownBlock = some b ∨ w.heap.size ≤ b)) := by
 obtain ⟨c, hc⟩ := h.c0
 have HC : Hid (Calls Tryz.prog 28 _ _ _) := count_any p S d.n c w h.n2 hc
 obtain ⟨N, hN⟩ : ∃ N, N = d.n / 4 := ⟨_, rfl⟩
 rw [← hN] at HC hn
 have h3 : ¬ (N : Int) < 3 := by omega
 obtain ⟨Z, hZ⟩ : ∃ Z, Z = (BL zeros32).toArray := ⟨_, rfl⟩
 have hmk : ∀ w, (Instr.makeSlice 37 (.int .i64 32) (.int .i64 32)).run Tryz.prog w = .ok (.slice (some ⟨w.heap.size, 0, none⟩) 32 32) (w.alloc (.cells Z 5)) := fun w => by rw [hZ]; exact make_blk 32 (by omega) w
 obtain ⟨wA, hwA⟩ : ∃ q, q = w.alloc (.cells Z 5) := ⟨_, rfl⟩
 have oA : Only (fun _ => False) w wA := by rw [hwA]; exact (Only.refl _ w).alloc _
 have bA : Blk wA w.heap.size zeros32 := by rw [hwA, hZ]; exact blk_zeros 32 (by omega) w
 have hdA : DiskAt wA B p S pv d := h.frame oA (fun _ _ e => e)
 have HK1 : Hid (Calls Tryz.prog 29 _ _ _) := keep_hid p S 32 B (some ⟨w.heap.size, 0, none⟩) pv d 4 (byF zeros32) wA hdA (bA.row (by simp [zeros32])) (by have := oA.size; omega) (by omega) 0 e1
 have HA : Hid (wA = w.alloc (.cells Z 5)) := hwA
 have H0 : Hid (DiskAt w B p S pv d ∧ Only (fun _ => False) w wA ∧ DiskAt wA B p S pv d) := ⟨h, oA, hdA⟩
 have HB : Hid (B ≤ w.heap.size ∧ (d.pend.length + 2) * 72 ≤ 140737488355328) := ⟨hB, hby⟩
 have HE2 : Hid _ := e2
 clear h hc hwA oA bA hdA hB hby e1 e2 hN hn hZ
 go_enter Tryz.func11, Tryz.ntmps11
 go_wp2_with (go_at_call 28; refine (show Calls Tryz.prog 28 _ _ _ from HC.out).mono ?_; rintro e w' ⟨rfl, rfl⟩)
 rw [← HA.out]
 refine (show Calls Tryz.prog 29 _ _ _ from HK1.out).mono ?_
 rintro e w1 ⟨rfl, H1⟩
 clear HC HK1 hmk
 obtain ⟨pv1, hd1, ho1, hp1⟩ := H1.out
 obtain ⟨wR, hwR⟩ : ∃ q, q = w1.alloc (.cells #[.int .u64 1, .int .u32 0, .int .u32 0] 74) := ⟨_, rfl⟩
 have oR : Only (fun _ => False) w1 wR := by rw [hwR]; exact (Only.refl _ w1).alloc _
 have sR : wR.heap.size = w1.heap.size + 1 := by rw [hwR]; simp
 have HRB : Hid (Calls Tryz.prog 30 _ _ _) := rootbytes_new wR
 rw [sR] at HRB
 have HWR : Hid (wR = w1.alloc (.cells #[.int .u64 1, .int .u32 0, .int .u32 0] 74)) := hwR
 have HR : Hid (Only (fun _ => False) w1 wR) := oR
 have H1' : Hid (DiskAt w1 B p S pv1 (d.keep 4 (byF zeros32)).2 ∧ Only (diskB p S pv) wA w1 ∧ ∀ b, pv1.ownBlock = some b → pv.ownBlock = some b ∨ wA.heap.size ≤ b) := ⟨hd1, ho1, hp1⟩
 clear hwR oR sR hd1 ho1 hp1 H1
 go_wp2_with fail
 rw [← HWR.out]
 refine (show Calls Tryz.prog 30 _ _ _ from HRB.out).mono ?_
 rintro e w3 ⟨rfl, H3⟩
 have oR3 : Only (fun _ => False) w1 w3 := HR.out.trans H3.out.2 (fun _ _ e => e)
 have hd3 := H1'.out.1.frame oR3 (fun _ _ e => e)
 have hsz1 := oR3.size
 have hszA := H1'.out.2.1.size
 have hszw := H0.out.2.1.size
 have HK3 : Hid (Calls Tryz.prog 29 _ _ _) := keep_hid p S 32 B (some ⟨w1.heap.size + 1 + 1, 0, none⟩) pv1 _ 0 (byF (rootB 1 0 0)) w3 hd3 (H3.out.1.row (rootB_length _ _ _)) (by have := HB.out.1; omega) (by have := HB.out.2; have := keep_pend d 4 (byF zeros32); omega) 3 HE2.out
 have H3' : Hid (Only (fun _ => False) w1 w3 ∧ w'.heap.size ≤ wA.heap.size ∧ wA.heap.size ≤ w1.heap.size) := ⟨oR3, hszw, hszA⟩
 clear oR3 hd3 hsz1 hszA hszw H3 HRB HE2
 go_wp2_with fail
 refine (show Calls Tryz.prog 29 _ _ _ from HK3.out).mono ?_
 rintro e w4 ⟨rfl, H4⟩
 clear HK3
 have HE : Hid (∃ pv', DiskAt w4 B p S pv' ((d.keep 4 (byF zeros32)).2.keep 0 (byF (rootB 1 0 0))).2 ∧ Only (diskB p S pv) w' w4 ∧ (∀ b, pv'.ownBlock = some b → pv.ownBlock = some b ∨ w'.heap.size ≤ b)) := by
  obtain ⟨pv4, hd4, ho4, hp4⟩ := H4.out
  obtain ⟨o13, ha, hb⟩ := H3'.out
  obtain ⟨hd1, ho1, hp1⟩ := H1'.out
  have h13 := o13.size
  have oA : Only (diskB p S pv) w' wA := H0.out.2.1.mono (fun _ _ e => e.elim)
  have o3 : Only (diskB p S pv) w' w3 := (oA.trans ho1 (fun _ _ e => e)).trans o13 (fun _ _ e => e.elim)
  refine ⟨pv4, hd4, o3.trans ho4 (fun k hk e => ?_), fun b hb' => ?_⟩
  ·rcases e with e | e | e
   ·exact .inl e
   ·exact .inr (.inl e)
   ·rcases hp1 k e with e | e
    ·exact .inr (.inr e)
    ·omega
  ·rcases hp4 b hb' with e | e
   ·rcases hp1 b e with e | e
    ·exact .inl e
    ·exact .inr (by omega)
   ·exact .inr (by omega)
 clear H4 H3' H1' HR HWR H0 HA HB
 go_wp2
 go_ret2
 exact ⟨rfl, HE⟩
theorem StAt.bareE {w : World} {E : Nat → Prop} {s p mc mn S N : Nat} {pv : Value} (h : StAt w (diskB p S pv) s p mc mn (.slice none 0 0) (SS.new N)) (h1 : ¬ E s) (h2 : ¬ E mc) (h3 : ¬ E mn) : StAt w (dkE E p S pv) s p mc mn (.slice none 0 0) (SS.new N) := by
 obtain ⟨a1, a2, a3⟩ := h.com
 obtain ⟨b1, b2, b3⟩ := h.now
 exact { h with
  k1 := fun e => e.elim h.k1 h1, k2 := fun e => e.elim h.k2 h2, k3 := fun e => e.elim h.k3 h3
  tabsB := fun b hb => by simp [Value.ownBlock] at hb
  com := ⟨a1, a2, fun p hp => by cases hp⟩, now := ⟨b1, b2, fun p hp => by cases hp⟩ }
def FmIs (E : Nat → Prop) (w : World) (B p S : Nat) (pv : Value) (d : DS) (e : Ending) (w' : World) : Prop :=
 (d.format.1 ≠ 0 ∧ e = .returned (.tuple #[.pointer none, .int .i64 (if d.n / 4 < 3 then 7 else 3)]) ∧ ∃ pv', DiskAt w' B p S pv' d.format.2 ∧ Only (diskB p S pv) w w' ∧ (∀ b, pv'.ownBlock = some b → pv.ownBlock = some b ∨ w.heap.size ≤ b)) ∨
 (d.format.1 = 0 ∧ ∃ s mc mn pv', e = .returned (.tuple #[.pointer (some ⟨s, 0, none⟩), .int .i64 0]) ∧ DiskAt w' B p S pv' d.format.2 ∧ StAt w' (dkE E p S pv') s p mc mn (.slice none 0 0) (SS.new (d.n / 4)) ∧ Only (diskB p S pv) w w' ∧ (∀ b, pv'.ownBlock = some b → pv.ownBlock = some b ∨ w.heap.size ≤ b) ∧ w.heap.size ≤ s ∧ w.heap.size ≤ mc ∧ w.heap.size ≤ mn)
theorem format_all {E : Nat → Prop} (p S B : Nat) (pv : Value) (d : DS) (w : World) (h : DiskAt w B p S pv d) (hB : B ≤ w.heap.size) (hby : (d.pend.length + 2) * 72 ≤ 140737488355328) (hE : ∀ k, E k → k < w.heap.size) :
  Calls Tryz.prog 11 #[.pointer (some ⟨p, 0, none⟩)] w fun e w' => Hid (FmIs E w B p S pv d e w') := by
 by_cases hn : d.n / 4 < 3
 ·refine (format_small p S B pv d w h hn).mono ?_
  rintro e w' ⟨rfl, rfl⟩
  have hf : d.format = (7, d) := by simp [DS.format, hn]
  exact .inl ⟨by rw [hf]; simp, by rw [if_pos hn], pv, by rw [hf]; exact h, Only.refl _ _, fun b e => .inl e⟩
 ·have hn' : 3 ≤ d.n / 4 := by omega
  by_cases e1 : (d.keep 4 (byF zeros32)).1 = 0
  ·have hf : d.format = (d.keep 4 (byF zeros32)).2.keep 0 (byF (rootB 1 0 0)) := by simp only [DS.format, hn, if_false, e1, ne_eq, not_true_eq_false]
   rcases keep_ans (d.keep 4 (byF zeros32)).2 0 (by rw [keep_n]; omega) (byF (rootB 1 0 0)) with e2 | e2
   ·refine (format_ok p S B pv d w h hB hby hn' e1 e2).mono ?_
    rintro e w' ⟨s, mc, mn, pv', rfl, hq⟩
    obtain ⟨q1, q2, q3, q4, q5, q6, q7⟩ := hq.out
    refine .inr ⟨by rw [hf]; exact e2, s, mc, mn, pv', rfl, by rw [hf]; exact q1, q2.bareE (fun e => ?_) (fun e => ?_) (fun e => ?_), q3, q4, q5, q6, q7⟩
    ·have := hE _ e; omega
    ·have := hE _ e; omega
    ·have := hE _ e; omega
   ·refine (format_dead2 p S B pv d w h hB hby hn' e1 e2).mono ?_
    rintro e w' ⟨rfl, hq⟩
    have h9 : d.format.1 ≠ 0 := by rw [hf]; intro e; rw [show (((d.keep 4 (byF zeros32)).2.keep 0 (byF (rootB 1 0 0))).1 = 3) from e2] at e; cases e
    exact .inl ⟨h9, by rw [if_neg hn], by rw [hf]; exact hq.out⟩
  ·have e3 : (d.keep 4 (byF zeros32)).1 = 3 := (keep_ans d 4 (by omega) (byF zeros32)).resolve_left e1
   have hf : d.format = d.keep 4 (byF zeros32) := by simp only [DS.format, hn, if_false, e1, ne_eq, not_false_eq_true, if_true]
   refine (format_dead1 p S B pv d w h hB hby hn' e3).mono ?_
   rintro e w' ⟨rfl, hq⟩
   exact .inl ⟨by rw [hf]; exact e1, by rw [if_neg hn], by rw [hf]; exact hq.out⟩
end Go.Proofs.YtlcglapcmdpkfaaGreat
namespace Go.Proofs.YtlcglapcmdpkfaaGreat
open Go.RowKit Go.Maps Go.Shelf
set_option linter.unusedSimpArgs false
set_option linter.unusedVariables false
set_option maxRecDepth 100000
set_option maxHeartbeats 16000000
theorem byF_byt {zs : List Nat} (h : ∀ z ∈ zs, z < 256) : Byt (byF zs) := by
 intro j
 unfold byF
 simp only [List.getD]
 cases e : zs[j]? with
 | none => simp
 | some z =>
   have := h z (List.mem_of_getElem? e)
   simp
   omega
structure PairAt (w : World) (B0 s p S : Nat) (x : SS) (d : DS) : Prop where
 all : ∃ pv mc mn tv B, DiskAt w B p S pv d ∧ B ≤ w.heap.size ∧ StAt w (diskB p S pv) s p mc mn tv x ∧ ∀ k, mutB (diskB p S pv) s mc mn k → B0 ≤ k
 byte : ByteD d
 good : Good d
 pend : d.pend = []
 life : d.life = -1
 size : d.n / 4 = x.size
theorem PairAt.still {w w' : World} {B0 s p S : Nat} {x : SS} {d : DS} (h : PairAt w B0 s p S x d) (ho : Only (fun _ => False) w w') : PairAt w' B0 s p S x d := by
 obtain ⟨pv, mc, mn, tv, B, h1, h2, h3, h4⟩ := h.all
 exact { h with all := ⟨pv, mc, mn, tv, B, h1.frame ho (fun _ _ e => e), Nat.le_trans h2 ho.size, h3.still ho, h4⟩ }
theorem PairAt.bytes {w : World} {B0 s p S : Nat} {x : SS} {d : DS} (h : PairAt w B0 s p S x d) : ∀ q ∈ x.now, ∀ z ∈ q.2.2, z < 256 := by
 obtain ⟨pv, mc, mn, tv, B, h1, h2, h3, h4⟩ := h.all
 obtain ⟨sl, _, hb⟩ := h3.now
 exact fun q hq => (hb q hq).1.2.2
def Left (w : World) (B0 s p S : Nat) (x' : SS) (d' : DS) (w' : World) : Prop := PairAt w' B0 s p S x' d' ∧ Only (fun k => B0 ≤ k) w w'
section
variable {w : World} {B0 s p S : Nat} {x : SS} {d : DS}
theorem Left.still (h : PairAt w B0 s p S x d) {w' : World} (ho : Only (fun _ => False) w w') : Left w B0 s p S x d w' := ⟨h.still ho, ho.mono (fun _ _ e => e.elim)⟩
end
end Go.Proofs.YtlcglapcmdpkfaaGreat
namespace Go.Proofs.YtlcglapcmdpkfaaGreat
open Go.RowKit Go.ChangeShapes Go.WideShapes
set_option linter.unusedSimpArgs false
set_option linter.unusedVariables false
set_option maxRecDepth 100000
set_option maxHeartbeats 16000000
structure OpS where
 kind : Int
 i : Int
 n : Int
 cut : Int
 b : List Nat
 vb : Value
 vk : Value
def OpS.cells (o : OpS) : List Value := [.int .i64 o.kind, .int .i64 o.i, .int .i64 o.n, .int .i64 o.cut, o.vb, o.vk]
def OpS.ok (W : World) (o : OpS) : Prop := BytesAt W o.vb o.b ∧ ∃ a n c, o.vk = .slice a n c
theorem OpS.ok.frame {W W' : World} {o : OpS} (h : o.ok W) (ho : Only (fun _ => False) W W') : o.ok W' := ⟨h.1.frame ho, h.2⟩
def ScriptAt (W : World) (v : Value) (os : List OpS) : Prop :=
 ((v = .slice none 0 0 ∧ os = []) ∨ ∃ ad c, v = .slice (some ad) os.length c ∧ os.length ≤ c ∧ ∀ i (h : i < os.length) j v, (os[i]).cells[j]? = some v → W.cell? (ad.add (i * 6 + j)) = some v) ∧ os.length ≤ 140737488351232 ∧ ∀ o ∈ os, o.ok W
theorem ScriptAt.get {W : World} {v : Value} {os : List OpS} (h : ScriptAt W v os) (i : Nat) (hi : i < os.length) : ∃ g o c, v = .slice (some ⟨g, o, none⟩) os.length c ∧ W.rangeAt g (o + i * 6) (os[i]).cells ∧ os.length ≤ c := by
 rcases h.1 with ⟨_, h0⟩ | ⟨ad, c, hv, hc⟩
 ·subst h0; simp at hi
 ·obtain ⟨hcap, hc⟩ := hc
  have h0 := hc i hi 0 _ rfl
  have hsp := World.cell?_spot h0
  obtain ⟨g, o, spot⟩ := ad
  have hs : spot = none := by
   by_cases e : i * 6 + 0 = 0
   ·simpa [Addr.add, e] using hsp
   ·have := hc 0 (by omega) 0 _ rfl
    have h2 := World.cell?_spot this
    simpa [Addr.add] using h2
  subst hs
  exact ⟨g, o, c, hv, fun j u hu => by have := hc i hi j u hu; rw [Addr.add_mid] at this; rw [Nat.add_assoc]; exact this, hcap⟩
theorem ScriptAt.form {W : World} {v : Value} {os : List OpS} (h : ScriptAt W v os) : ∃ a c, v = .slice a os.length c := by
 rcases h.1 with ⟨h1, h2⟩ | ⟨ad, c, hv, _⟩
 ·exact ⟨none, 0, by rw [h1, h2]; rfl⟩
 ·exact ⟨_, _, hv⟩
section
variable {H : Type} {enc : TypeId × Value → H} {w : World} {base fuel : Nat} {held : Bool}
theorem cellsI : Tryz.prog.cellsOf 3 = 1 := by kernel_rfl
theorem cellsB : Tryz.prog.cellsOf 37 = 1 := by kernel_rfl
theorem cellsF : Tryz.prog.cellsOf 38 = 1 := by kernel_rfl
theorem cellsO : Tryz.prog.cellsOf 40 = 6 := by kernel_rfl
theorem bytesO : Tryz.prog.bytesOf 40 = 80 := by kernel_rfl
theorem six {α : Type} : ∀ (l : List α), l.length = 6 → ∃ a b c d e f, l = [a, b, c, d, e, f]
 | [a, b, c, d, e, f], _ => ⟨a, b, c, d, e, f, rfl⟩
theorem exists_list {α : Type} : ∀ (len : Nat) (p : Nat → α → Prop), (∀ i, i < len → ∃ x, p i x) → ∃ l : List α, l.length = len ∧ ∀ i (h : i < l.length), p i l[i]
 | 0, _, _ => ⟨[], rfl, fun i h => by simp at h⟩
 | n + 1, p, hp => by
   obtain ⟨l, hl, hq⟩ := exists_list n p (fun i hi => hp i (by omega))
   obtain ⟨x, hx⟩ := hp n (by omega)
   refine ⟨l ++ [x], by simp [hl], fun i hi => ?_⟩
   by_cases e : i < l.length
   ·rw [List.getElem_append_left e]; exact hq i e
   ·have : i = l.length := by simp at hi; omega
    subst this
    rw [List.getElem_append_right (by omega)]
    simpa [hl] using hx
theorem cells?_get {a : Addr} {n : Nat} {cs : List Value} (h : w.cells? base a n = some cs) : cs.length = n ∧ ∀ j v, cs[j]? = some v → w.cell? (a.add j) = some v := by
 unfold World.cells? at h
 split at h
 ·refine ⟨by simpa using mapM_some_length h, fun j v hv => ?_⟩
  have hj : j < n := by
   have := (List.getElem?_eq_some_iff.1 hv).1
   have hl : cs.length = n := by simpa using mapM_some_length h
   omega
  have := mapM_some_get h j j (by simp [hj])
  rw [this]; exact hv
 ·cases h
theorem weightsAll_mem {P : Program} {e : TypeId} : ∀ (l : List (DataW H)) (d : DataW H), d ∈ l → ∀ n ∈ d.weights P e, n ∈ DataW.weightsAll P e l
 | d0 :: r, d, hd, n, hn => by
   simp only [DataW.weightsAll, List.mem_append]
   rcases List.mem_cons.1 hd with rfl | hd
   ·exact .inl hn
   ·exact .inr (weightsAll_mem r d hd n hn)
end
end Go.Proofs.YtlcglapcmdpkfaaGreat
namespace Go.Proofs.YtlcglapcmdpkfaaGreat
open Go.RowKit Go.Maps Go.Shelf
set_option linter.unusedSimpArgs false
set_option linter.unusedVariables false
set_option maxRecDepth 100000
set_option maxHeartbeats 16000000
structure Stable (J : SS → DS → Prop) : Prop where
 put : ∀ {w B0 s p S x d}, PairAt w B0 s p S x d → ∀ (i : Int) (zs : List Nat), 0 ≤ i ∧ i < 728 → zs.length ≤ 116 → J x d → J { x with now := putL x.now i (0, zs) } d
 drop : ∀ {w B0 s p S x d}, PairAt w B0 s p S x d → ∀ (i : Int), J x d → J { x with now := delL x.now i } d
 roll : ∀ {w B0 s p S x d}, PairAt w B0 s p S x d → J x d → J { x with now := x.com } d
 next : ∀ {w B0 s p S x d}, PairAt w B0 s p S x d → needN x ≤ freeN x x.size → J x d → J x.next (cmX x d).2
def WkI (J : SS → DS → Prop) (w : World) (B0 s p S n : Nat) (W : World) : Prop := ∃ x d, PairAt W B0 s p S x d ∧ J x d ∧ d.n = n ∧ Only (fun k => B0 ≤ k) w W
theorem WkI.step {J : SS → DS → Prop} {w : World} {B0 s p S n : Nat} {W W' : World} {x' : SS} {d' : DS} (ho : Only (fun k => B0 ≤ k) w W) (h : Left W B0 s p S x' d' W') (hj : J x' d') (hn : d'.n = n) : WkI J w B0 s p S n W' := ⟨x', d', h.1, hj, hn, ho.trans h.2 (fun _ _ e => e)⟩

theorem same_any (v1 v2 : Value) (zs : List Nat) (w : World) (h1 : BytesAt w v1 zs) (h2 : BytesAt w v2 zs) :
  Calls Tryz.prog 10 #[v1, v2] w fun e w' => e = .returned (.bool true) ∧ Only (fun _ => False) w w' := by
 obtain ⟨a1, c1, rfl, _, f1⟩ := h1.form
 obtain ⟨a2, c2, rfl, _, f2⟩ := h2.form
 obtain ⟨m, hm⟩ : ∃ m, m = zs.length := ⟨_, rfl⟩
 have hm2 : m ≤ 140737488355328 := hm ▸ h1.2.1
 rw [← hm]
 rw [← hm] at f1 f2
 clear h1 h2 hm
 go_enter Tryz.func10, Tryz.ntmps10
 go_wp2
 go_loopw [5] (fun t wr => ∃ k : Nat, k ≤ m ∧ t = .int .i64 k ∧ Only (fun _ => False) w wr) (fun t _ => m - (intOf t).toNat)
 case atStart => exact ⟨0, Nat.zero_le _, rfl, Only.refl _ _⟩
 case round =>
  obtain ⟨k, hk, rfl, ho⟩ := hrel
  by_cases hlt : k < m
  ·obtain ⟨g1, o1, rfl, x1⟩ := f1 k hlt
   obtain ⟨g2, o2, rfl, x2⟩ := f2 k hlt
   have y1 := ho.cell x1 (fun e => e)
   have y2 := ho.cell x2 (fun e => e)
   have k0 : (0 : Int) ≤ (k : Int) := Int.natCast_nonneg _
   have k1 : (k : Int) < (m : Int) := by omega
   obtain ⟨z, hz⟩ : ∃ z, z = zs.getD k 0 := ⟨_, rfl⟩
   rw [← hz] at y1 y2
   have HO : Hid (Only (fun _ => False) w wr) := ho
   clear f1 f2 x1 x2 ho hz
   go_wp2_with fail
   go_region_held3 (fun w' => w'.cell? ⟨g1, o1 + k, none⟩ = some (.int .u8 (z : Nat)) ∧ w'.cell? ⟨g2, o2 + k, none⟩ = some (.int .u8 (z : Nat))) (go_keep) (fail)
   go_wp2
   go_roundw
   case rel => exact ⟨k + 1, by omega, by go_num, HO.out.drew⟩
   case measure => simp [intOf]; omega
  ·obtain rfl : k = m := by omega
   clear f1 f2
   go_wp2
   go_ret
   exact ⟨rfl, ho⟩
def gErr (x : SS) (i : Int) : Int := if 0 ≤ i ∧ i < 728 then (if (pgAt x.now i).isSome then 0 else 6) else 4
def gDat (x : SS) (i : Int) : List Nat := if 0 ≤ i ∧ i < 728 then ((pgAt x.now i).getD (0, [])).2 else []
section
variable {w : World} {dk : Nat → Prop} {s p mc mn : Nat} {tv : Value} {x : SS}
theorem get_all (h : StAt w dk s p mc mn tv x) (i : Int) :
  Calls Tryz.prog 13 #[.pointer (some ⟨s, 0, none⟩), .int .i64 i] w fun e w' => ∃ u, e = .returned (.tuple #[u, .int .i64 (gErr x i)]) ∧ Hid (Fresh w' w.heap.size u (gDat x i) ∧ Only (fun _ => False) w w') := by
 unfold gErr gDat
 by_cases hi : 0 ≤ i ∧ i < 728
 ·rw [if_pos hi, if_pos hi]
  cases hg : pgAt x.now i with
  | some y =>
    obtain ⟨a, zs⟩ := y
    refine (get_some h i hi hg).mono ?_
    rintro e w' ⟨u, rfl, q1, q2⟩
    exact ⟨u, rfl, q1, q2⟩
  | none =>
    refine (get_none h i hi hg).mono ?_
    rintro e w' ⟨rfl, q2⟩
    exact ⟨_, rfl, Fresh.nil _ _, q2⟩
 ·rw [if_neg hi, if_neg hi]
  refine (get_out h i (by omega)).mono ?_
  rintro e w' ⟨rfl, rfl⟩
  exact ⟨_, rfl, Fresh.nil _ _, Only.refl _ _⟩
end
end Go.Proofs.YtlcglapcmdpkfaaGreat
namespace Go.Proofs.YtlcglapcmdpkfaaGreat
open Go.RowKit
set_option linter.unusedSimpArgs false
set_option linter.unusedVariables false
set_option maxRecDepth 100000
set_option maxHeartbeats 16000000
theorem app_fresh0 {w : World} {B : Nat} {v : Value} {zs ys : List Nat} (h : Fresh w B v zs) (ad : Addr) (c : Nat) (hu : ∀ j, j < ys.length → w.cell? (ad.add j) = some (.int .u8 (ys.getD j 0 : Nat))) (hy : ∀ z ∈ ys, z < 256) (hB : B ≤ w.heap.size) (hl : zs.length + ys.length ≤ 140737488355328) :
  ∃ a cap w', (∀ ty, (Builtin.append_ #[37, 37] ty #[v, .slice (some ad) ys.length c]).run Tryz.prog w = .ok (.slice a (zs.length + ys.length) cap) w') ∧ Fresh w' B (.slice a (zs.length + ys.length) cap) (zs ++ ys) ∧ Only (fun i => B ≤ i) w w' := by
 obtain ⟨i0, hi0, hz0, hz1, hz2⟩ := info_parts info5
 have hnews : ∀ j x, (BL ys)[j]? = some x → w.cell? (ad.add j) = some x := fun j x hx => by
  have hj : j < ys.length := by have := (List.getElem?_eq_some_iff.1 hx).1; rwa [BL_length] at this
  rw [hu j (by omega)]
  rw [BL_get _ _ hj] at hx
  rw [← hx]
  simp [List.getD, hj]
 have key := fun ty => run_append_own_at (P := Tryz.prog) w B 37 ty 5 i0 _ 1 1 Tryz.underlying37 hi0 hz0 hz1 hz2 rfl (by omega) v zs.length (BL zs) h.1 ad ys.length c (BL ys) (by rw [BL_length]; omega) hnews (BL_one ys) (by unfold maxLen; omega) (by omega) hB
 obtain ⟨v', w', hr, own', hg, _, _⟩ := key 0
 obtain ⟨a, cap, rfl⟩ := ownsRow_slice own'
 exact ⟨a, cap, w', fun ty => by rw [← hr]; rfl, Fresh.more own' hl h.2.2 hy, (Only.refl _ w).grown hg (fun k e hk => (own_lt h k e).1)⟩
theorem rpread_in (r K B : Nat) (P : Nat) (rv : Value) (rs : List RW) (d : DS) (w : World) (h : RefAt w B r K rv d rs) (hP : P < d.n / 4) (hl : d.life ≠ 0) (hb : ByteD d) (hg : Good d) (hp : d.pend.length ≤ 10000000000) :
  Calls Tryz.prog 100 #[.pointer (some ⟨r, 0, none⟩), .int .i64 P] w fun e w' => UnpIs (unp (pgN d P 4)) w e w' := by
 have HR := rcount_any r d.n w h.n2 h.c0
 have n2 := h.n2
 have HD : Hid (RefAt w B r K rv d rs) := h
 have HB : Hid (ByteD d) := hb
 have HGD : Hid (Good d) := hg
 have HL : Hid (d.life ≠ 0) := hl
 have HP : Hid (P < d.n / 4) := hP
 have HPE : Hid (d.pend.length ≤ 10000000000) := hp
 have hP2 : P < 2048 := by omega
 obtain ⟨cn, hcn⟩ : ∃ c, c = d.n / 4 := ⟨_, rfl⟩
 rw [← hcn] at HR hP
 have p0 : ¬ (P : Int) < 0 := by omega
 have p1 : decide (cn ≤ P) = false := by simp; omega
 clear h hb hl hP hg hcn hp
 go_enter Tryz.func100, Tryz.ntmps100
 go_wp2_with fail
 refine HR.mono ?_
 rintro e w1 ⟨rfl, rfl⟩
 clear HR
 go_wp2_with fail
 go_loopw [7, 8] (fun b t wr => ∃ k : Nat, k ≤ 4 ∧ t = .int .i64 k ∧ Fresh wr w1.heap.size b (pgN d P k) ∧ Only (fun _ => False) w1 wr) (fun _ t _ => 4 - (intOf t).toNat)
 case atStart => exact ⟨0, by omega, rfl, Fresh.nil _ _, Only.refl _ _⟩
 case round =>
  obtain ⟨k, hk, rfl, hf, ho⟩ := hrel
  obtain ⟨w3, rfl⟩ : ∃ w3, w3 = wr := ⟨_, rfl⟩
  obtain ⟨b, rfl⟩ : ∃ x, x = u7 := ⟨_, rfl⟩
  have HF : Hid (Fresh w3 w1.heap.size b (pgN d P k)) := hf
  have HO : Hid (Only (fun _ => False) w1 w3) := ho
  by_cases hlt : k < 4
  ·have k1 : (k : Int) < 4 := by omega
   have m1 : IntKind.i64.wrap (4 * (P : Int)) = 4 * (P : Int) := by rw [IntKind.wrap_i64]; omega
   have m2 : IntKind.i64.wrap (4 * (P : Int) + (k : Int)) = 4 * (P : Int) + (k : Int) := by rw [IntKind.wrap_i64]; omega
   obtain ⟨q, hq⟩ : ∃ q, q = 4 * P + k := ⟨_, rfl⟩
   have m5 : 4 * (P : Int) + (k : Int) = (q : Int) := by omega
   rw [m5] at m2
   have HQ : Hid (q = 4 * P + k) := hq
   have HRD : Hid (Calls Tryz.prog 9 #[.pointer (some ⟨r, 0, none⟩), .int .i64 q] w3 fun e w' => RdIs w3 w' e (d.sec q)) := rread_any (HD.out.frame ho (fun _ _ e => e)) HGD.out HL.out (by have := HPE.out; omega) q (by have := HP.out; omega)
   clear hf ho hq
   go_wp2_with fail
   refine (show Calls Tryz.prog 9 _ _ _ from HRD.out).mono ?_
   rintro e w4 ⟨g, cap, rfl, hrg, ho4⟩
   clear HRD
   have hsn := secN_length (d.sec q)
   obtain ⟨a5, c5, w5, hr5, hf5, ho5⟩ := app_fresh0 (ys := secN (d.sec q)) (HF.out.frame ho4) ⟨g, 0, none⟩ cap (fun j hj => by
    rw [hsn] at hj
    rw [Addr.add_mid]
    have := hrg j _ (secL_get _ j hj)
    rw [this, secN_getD _ j hj]
    have := HB.out.sec q j
    simp only [Option.some.injEq, Value.int.injEq, true_and]
    omega) (secN_lt (HB.out.sec q)) (by have := HO.out.size; have := ho4.size; omega) (by rw [hsn, pgN_length]; omega)
   have el : (pgN d P k).length + (secN (d.sec q)).length = 32 * k + 32 := by rw [hsn, pgN_length]
   rw [el] at hr5 hf5
   rw [hsn] at hr5
   have HR5 : Hid _ := hr5
   have HF5 : Hid (Fresh w5 w1.heap.size (.slice a5 (32 * k + 32) c5) (pgN d P (k + 1))) := by
    show Fresh w5 w1.heap.size (.slice a5 (32 * k + 32) c5) (pgN d P k ++ secN (d.sec (4 * P + k)))
    rw [← HQ.out]
    exact hf5
   have HO5 : Hid (Only (fun _ => False) w1 w5) := (HO.out.trans ho4 (fun _ _ e => e)).trans ho5 (fun i hi e => by omega)
   obtain ⟨nl, hnl⟩ : ∃ n, n = 32 * k + 32 := ⟨_, rfl⟩
   rw [← hnl] at HR5 HF5
   clear hrg ho4 hsn hr5 hf5 ho5 el HF HO hnl
   go_wp2_with (at_builtin; go_must (refine wpList_append_run rfl _ _ 37 rfl _ _ (.slice a5 nl c5) rfl rfl HR5.out ?_))
   go_roundw
   case rel => exact ⟨k + 1, by omega, by go_num, HF5.out, HO5.out⟩
   case measure => simp [intOf]; omega
  ·obtain rfl : k = 4 := by omega
   have HU : Hid (Calls Tryz.prog 117 #[b] w3 fun e w' => UnpIs (unp (pgN d P 4)) w3 e w') := runpack_any _ _ w3 hf.bytes (pgN_length d P 4)
   clear hf ho HF
   go_wp2_with fail
   refine (show Calls Tryz.prog 117 _ _ _ from HU.out).mono ?_
   intro e w4 hU
   clear HU
   cases hr : unp (pgN d P 4) with
   | none =>
     have HRR : Hid (unp (pgN d P 4) = none) := hr
     rw [hr] at hU
     obtain ⟨rfl, ho4⟩ := hU
     have HE : Hid (Only (fun _ => False) w1 w4) := HO.out.trans ho4 (fun _ _ e => e)
     clear ho4 hr
     go_wp2
     go_ret3
     show UnpIs (unp (pgN d P 4)) w1 _ _
     rw [HRR.out]
     exact ⟨rfl, HE.out⟩
   | some x =>
     obtain ⟨i, D⟩ := x
     have HRR : Hid (unp (pgN d P 4) = some (i, D)) := hr
     rw [hr] at hU
     obtain ⟨u, rfl, hf4, ho4⟩ := hU
     have HE : Hid (Fresh w4 w1.heap.size u D ∧ Only (fun _ => False) w1 w4) := by
      refine ⟨⟨⟨hf4.1.1, ?_⟩, hf4.2⟩, HO.out.trans ho4 (fun _ _ e => e)⟩
      rcases hf4.1.2 with h2 | ⟨g', cap', cur', hv', hb', hr'⟩
      ·exact .inl h2
      ·exact .inr ⟨g', cap', cur', hv', by have := HO.out.size; omega, hr'⟩
     clear hf4 ho4 hr
     go_wp2
     go_ret3
     show UnpIs (unp (pgN d P 4)) w1 _ _
     rw [HRR.out]
     exact ⟨u, rfl, HE.out⟩
theorem sector_empty (a : Option Addr) (c : Nat) (w : World) :
  Calls Tryz.prog 41 #[.slice a 0 c] w fun e w' => e = .returned (.slice (some ⟨w.heap.size, 0, none⟩) 32 32) ∧ w' = w.alloc (.cells (secL (fun _ => 0)).toArray 5) := by
 have hmk := mk32 (fun _ => 0)
 have e0 : fullF (fun _ => 0) 0 = fun _ => 0 := by funext j; simp [fullF]
 rw [e0] at hmk
 clear e0
 go_enter Tryz.func41, Tryz.ntmps41
 go_wp2
 refine wp_loop_rounds 1 ?_; rw [rounds_succ]
 go_wp2
 go_ret
 exact ⟨rfl, rfl⟩
def fillF (D : List Nat) : Nat → Int := fullF (fun j => (D.getD j 0 : Nat)) D.length
theorem fillF_byt {D : List Nat} (h : ∀ z ∈ D, z < 256) : Byt (fillF D) := by
 intro j
 have := getD_byte h j
 by_cases hj : j < D.length
 ·have e : fillF D j = (D.getD j 0 : Nat) := by simp [fillF, fullF, hj]
  rw [e]; omega
 ·have e : fillF D j = 0 := by simp [fillF, fullF, hj]
  rw [e]; omega
theorem sector_any (v : Value) (D : List Nat) (w : World) (h : BytesAt w v D) :
  Calls Tryz.prog 41 #[v] w fun e w' => e = .returned (.slice (some ⟨w.heap.size, 0, none⟩) 32 32) ∧ w' = w.alloc (.cells (secL (fillF D)).toArray 5) := by
 by_cases h0 : D.length = 0
 ·obtain rfl : D = [] := List.eq_nil_of_length_eq_zero h0
  obtain ⟨a, c, rfl, _, _⟩ := h.form
  have e : fillF [] = fun _ => 0 := by funext j; simp [fillF, fullF]
  rw [e]
  exact sector_empty a c w
 ·obtain ⟨a, c, rfl, _, hc⟩ := h.form
  obtain ⟨g, o, rfl, hx⟩ := hc 0 (by omega)
  refine full_any g o D.length c _ w (by have := h.2.1; unfold maxLen; omega) (fun j hj => ?_) (World.block_lt_of_cell? w _ hx)
  obtain ⟨g', o', e', hy⟩ := hc j hj
  simp only [Option.some.injEq, Addr.mk.injEq, and_true] at e'
  obtain ⟨rfl, rfl⟩ := e'
  exact hy
end Go.Proofs.YtlcglapcmdpkfaaGreat
namespace Go.Proofs.YtlcglapcmdpkfaaGreat
open Go.RowKit Go.Maps
set_option linter.unusedSimpArgs false
set_option linter.unusedVariables false
set_option maxRecDepth 100000
set_option maxHeartbeats 16000000
structure Fd (d : DS) (n m : Nat) : Prop where
 by_ : ByteD d
 gd : Good d
 n_ : d.n = n
 pd : d.pend.length ≤ m
theorem Fd.write {d : DS} {n m : Nat} (h : Fd d n m) (k : Int) (f : Nat → Int) (l : Nat) (hf : Byt f) : Fd (d.write k f l).2 n (m + 1) :=
 ⟨h.by_.write k f l hf, h.gd.write k f l, by rw [write_n]; exact h.n_, by have := write_pend d k f l; have := h.pd; omega⟩
theorem Fd.barrier {d : DS} {n m : Nat} (h : Fd d n m) : Fd d.barrier.2 n m := by
 refine ⟨?_, good_barrier h.gd, ?_, by have := barrier_pend d; have := h.pd; omega⟩
 ·unfold DS.barrier
  split
  ·exact h.by_
  ·exact h.by_.barrier _
 ·unfold DS.barrier
  split
  ·exact h.n_
  ·exact h.n_
theorem Fd.keep {d : DS} {n m : Nat} (h : Fd d n m) (k : Int) (f : Nat → Int) (hf : Byt f) : Fd (d.keep k f).2 n (m + 1) := by
 unfold DS.keep
 split
 ·exact h.write k f 32 hf
 ·exact (h.write k f 32 hf).barrier
theorem Fd.mono {d : DS} {n m m' : Nat} (h : Fd d n m) (hm : m ≤ m') : Fd d n m' := ⟨h.by_, h.gd, h.n_, by have := h.pd; omega⟩
theorem Fd.format {d : DS} {n m : Nat} (h : Fd d n m) : Fd d.format.2 n (m + 2) := by
 have h1 := h.keep 4 (byF zeros32) (byF_byt (fun z hz => by have := List.eq_of_mem_replicate hz; omega))
 unfold DS.format
 split
 ·exact h.mono (by omega)
 ·split
  ·exact h1.mono (by omega)
  ·exact h1.keep 0 (byF (rootB 1 0 0)) (byF_byt (rootB_lt _ _ _))
theorem wtF_n (tab at_ : List Nat) : ∀ (pre : List Nat) (r : Nat × Int × DS), (∀ z ∈ tab, z < 256) → ByteD r.2.2 → Good r.2.2 → (pre.foldl (wtStep tab at_) r).2.2.n = r.2.2.n
 | [], r, _, _, _ => rfl
 | k :: l, r, ht, h1, h2 => by
   have key : ByteD (wtStep tab at_ r k).2.2 ∧ Good (wtStep tab at_ r k).2.2 ∧ (wtStep tab at_ r k).2.2.n = r.2.2.n := by
    simp only [wtStep]
    split
    ·exact ⟨h1, h2, rfl⟩
    ·have := wpage_facts (d := r.2.2) ((at_.getD r.1 0 : Nat) : Int) 2 (layB (at_.getD (r.1 + 1) 0) 4 ++ (tab.drop (112 * k)).take 112) (fun z hz => by
      rcases List.mem_append.1 hz with hz | hz
      ·exact layB_lt _ _ z hz
      ·exact ht z (List.mem_of_mem_drop (List.mem_of_mem_take hz))) h1 h2
     exact ⟨this.1, this.2.1, this.2.2.1⟩
   rw [List.foldl_cons, wtF_n tab at_ l _ ht key.1 key.2.1]
   exact key.2.2
theorem Fd.cm {x : SS} {d : DS} {n m : Nat} (h : Fd d n m) (hw : x.Wf) (hr : Rise x.now) (hl : x.now.length ≤ 728) (hby : ∀ p ∈ x.now, ∀ z ∈ p.2.2, z < 256) : Fd (cmX x d).2 n (m + 4000) := by
 have hLr : Rise (laid x) := layP_rise hr _
 have hLz : ∀ i y, getL (laid x) i = some y → ∀ z ∈ y.2, z < 256 := fun i y e z hz => by
  have hm := (getL_mem hLr i y).1 e
  have : (i, y.2) ∈ (laid x).map (fun p => (p.1, p.2.2)) := List.mem_map.2 ⟨_, hm, rfl⟩
  unfold laid layP at this
  rw [layK_data] at this
  obtain ⟨q, hq, e2⟩ := List.mem_map.1 this
  injection e2 with _ e2
  rw [← e2] at hz
  exact hby q hq z hz
 have t1 : (tabB (laid x)).length ≤ 2912 := tab_small hw hl (plA_small hw)
 have t2 := putN_le x
 obtain ⟨b1, b2, b3, b4⟩ := wf_facts (laid x) hLz (freshN x.now) (0, d) h.by_ h.gd
 have e1 : (freshN x.now).foldl (wfStep (laid x)) (0, d) = wfR (laid x) d (freshN x.now) := rfl
 rw [e1] at b1 b2 b3 b4
 obtain ⟨d1, d2, d3⟩ := wtF_facts (tabB (laid x)) (tbs x) (tabB_byte _) (List.range (tabN (tabB (laid x)).length)) (0, 0, (wfR (laid x) d (freshN x.now)).2) b1 b2
 have d4 := wtF_n (tabB (laid x)) (tbs x) (List.range (tabN (tabB (laid x)).length)) (0, 0, (wfR (laid x) d (freshN x.now)).2) (tabB_byte _) b1 b2
 have e2 : (List.range (tabN (tabB (laid x)).length)).foldl (wtStep (tabB (laid x)) (tbs x)) (0, 0, (wfR (laid x) d (freshN x.now)).2) = wtR (tabB (laid x)) (tbs x) (wfR (laid x) d (freshN x.now)).2 (List.range (tabN (tabB (laid x)).length)) := rfl
 rw [e2] at d1 d2 d3 d4
 have t3 : tabN (tabB (laid x)).length ≤ 26 := by unfold tabN; omega
 have hp := h.pd
 unfold putN at t2
 simp only [List.length_range] at d3 b3
 have f1 : Fd (wfR (laid x) d (freshN x.now)).2 n (m + 2912) := ⟨b1, b2, b4.trans h.n_, by omega⟩
 have f2 : Fd (wtR (tabB (laid x)) (tbs x) (wfR (laid x) d (freshN x.now)).2 (List.range (tabN (tabB (laid x)).length))).2.2 n (m + 3999) := ⟨d1, d2, d4.trans f1.n_, by omega⟩
 unfold cmX cmR
 split
 ·exact f1.mono (by omega)
 ·split
  ·exact f2.mono (by omega)
  ·split
   ·exact f2.barrier.mono (by omega)
   ·exact f2.barrier.keep _ _ (byF_byt (rootB_lt _ _ _))
theorem Fd.crash {d : DS} {n m : Nat} (h : Fd d n m) (ks : List Bool) (torn cut : Int) : Fd (d.crash ks torn cut).2 n m := by
 by_cases hc : cut < 0 ∨ 32 < cut
 ·have : d.crash ks torn cut = (2, d) := by simp [DS.crash, hc]
  rw [this]
  exact h
 ·refine ⟨?_, h.gd.crash ks torn cut, ?_, ?_⟩
  ·unfold DS.crash; rw [if_neg hc]; exact h.by_.crash _ _ _ _
  ·unfold DS.crash; rw [if_neg hc]; exact h.n_
  ·unfold DS.crash; rw [if_neg hc]; simp
def eP (P q K : Nat) (rv : Value) (rs : List RW) (r : Nat) (nv : Value) : Nat → Prop := fun k => k = P ∨ refB q K rv rs k ∨ k = r ∨ nv.ownBlock = some k
def eR (P p S : Nat) (pv : Value) (s mc mn : Nat) : Nat → Prop := fun k => k = P ∨ diskB p S pv k ∨ k = s ∨ k = mc ∨ k = mn
structure Duo (w : World) (B P p S q K : Nat) (pv : Value) (s mc mn : Nat) (tv : Value) (x : SS) (rv : Value) (rs : List RW) (r : Nat) (tr kr nv : Value) (y : SS) (lk ln : List RPg) : Prop where
 st : StAt w (dkE (eP P q K rv rs r nv) p S pv) s p mc mn tv x
 rt : RsAt w (refE (eR P p S pv s mc mn) w.heap.size q K rv rs) B r q tr kr nv y lk ln
 sB : B ≤ s
 cB : B ≤ mc
 nB : B ≤ mn
structure PlC (w : World) (B P p S q K : Nat) (pv : Value) (d : DS) (rv : Value) (rs : List RW) (e : DS) (sv rp : Value) : Prop where
 pc : w.rangeAt P 0 [.pointer (some ⟨p, 0, none⟩), .pointer (some ⟨q, 0, none⟩), sv, rp]
 pt : w.there P 0 4
 pB : B ≤ P
 dk : DiskAt w B p S pv d
 rf : RefAt w B q K rv e rs
 ap : ∀ b, diskB p S pv b → ¬ refB q K rv rs b
 a1 : ¬ diskB p S pv P
 a2 : ¬ refB q K rv rs P
section
variable {w w1 : World} {B P p S q K s mc mn r : Nat} {pv tv rv tr kr nv sv rp : Value} {x y : SS} {rs : List RW} {lk ln : List RPg} {d e : DS}
theorem PlC.lt (h : PlC w B P p S q K pv d rv rs e sv rp) : P < w.heap.size := World.block_lt_of_cell? w _ (h.pc 0 _ rfl)
theorem Duo.old (h : Duo w B P p S q K pv s mc mn tv x rv rs r tr kr nv y lk ln) (hc : PlC w B P p S q K pv d rv rs e sv rp) : (∀ k, eP P q K rv rs r nv k → k < w.heap.size) ∧ (∀ k, eR P p S pv s mc mn k → k < w.heap.size) ∧ (∀ k, dkE (eP P q K rv rs r nv) p S pv k → k < w.heap.size) ∧ ∀ k, refE (eR P p S pv s mc mn) w.heap.size q K rv rs k → k < w.heap.size := by
 have k1 : ∀ k, eP P q K rv rs r nv k → k < w.heap.size := by
  rintro k (g | g | g | g)
  ·have := hc.lt; omega
  ·exact (hc.rf.lt k g).2
  ·have := h.rt.lt; omega
  ·exact (h.rt.now.lt k g).2
 refine ⟨k1, ?_, ?_, ?_⟩
 ·rintro k (g | g | g | g | g)
  ·have := hc.lt; omega
  ·exact (hc.dk.lt k g).2
  ·have := h.st.lt; omega
  ·have := h.st.com.lt; omega
  ·have := h.st.now.lt; omega
 ·rintro k (g | g)
  ·exact (hc.dk.lt k g).2
  ·exact k1 k g
 ·rintro k (g | g)
  ·exact (hc.rf.lt k g).2
  ·exact g.2
theorem Duo.prog {pv1 tv1 : Value} {mc1 mn1 : Nat} {x1 : SS} (h : Duo w B P p S q K pv s mc mn tv x rv rs r tr kr nv y lk ln) (h1 : StAt w1 (dkE (eP P q K rv rs r nv) p S pv1) s p mc1 mn1 tv1 x1)
  (ho : Only (fun k => diskB p S pv k ∨ k = s ∨ k = mn) w w1) (hs : ∀ b, pv1.ownBlock = some b → pv.ownBlock = some b ∨ w.heap.size ≤ b) (hc : mc1 = mc ∨ w.heap.size ≤ mc1) (hn : mn1 = mn ∨ w.heap.size ≤ mn1) (hB : B ≤ w.heap.size) :
  Duo w1 B P p S q K pv1 s mc1 mn1 tv1 x1 rv rs r tr kr nv y lk ln :=
 { st := h1
   rt := h.rt.frame ho (fun k hk g => .inr ⟨by
     rcases g with g | g | g
     ·exact .inr (.inl g)
     ·exact .inr (.inr (.inl g))
     ·exact .inr (.inr (.inr (.inr g))), hk⟩) (fun k hk g => by
     rcases g with g | ⟨g, _⟩
     ·exact .inl g
     ·refine .inr ⟨?_, hk⟩
      rcases g with g | g | g | g | g
      ·exact .inl g
      ·refine .inr (.inl ?_)
       rcases g with g | g | g
       ·exact .inl g
       ·exact .inr (.inl g)
       ·rcases hs k g with g | g
        ·exact .inr (.inr g)
        ·omega
      ·exact .inr (.inr (.inl g))
      ·rcases hc with g' | g'
       ·exact .inr (.inr (.inr (.inl (by omega))))
       ·omega
      ·rcases hn with g' | g'
       ·exact .inr (.inr (.inr (.inr (by omega))))
       ·omega)
   sB := h.sB
   cB := by have := h.cB; rcases hc with g | g <;> omega
   nB := by have := h.nB; rcases hn with g | g <;> omega }
theorem Duo.doc {rv1 tr1 kr1 nv1 : Value} {rs1 : List RW} {y1 : SS} {lk1 ln1 : List RPg} (h : Duo w B P p S q K pv s mc mn tv x rv rs r tr kr nv y lk ln) (hE : ∀ k, eR P p S pv s mc mn k → k < w.heap.size) (h1 : RsAt w1 (refE (eR P p S pv s mc mn) w.heap.size q K rv1 rs1) B r q tr1 kr1 nv1 y1 lk1 ln1)
  (ho : Only (fun k => refB q K rv rs k ∨ nv.ownBlock = some k ∨ k = r) w w1) (hs : ∀ b, refB q K rv1 rs1 b → refB q K rv rs b ∨ w.heap.size ≤ b) (hn : ∀ b, nv1.ownBlock = some b → nv.ownBlock = some b ∨ w.heap.size ≤ b) :
  Duo w1 B P p S q K pv s mc mn tv x rv1 rs1 r tr1 kr1 nv1 y1 lk1 ln1 :=
 { st := h.st.frame ho (fun k hk g => .inr (by
     rcases g with g | g | g
     ·exact .inr (.inl g)
     ·exact .inr (.inr (.inr g))
     ·exact .inr (.inr (.inl g)))) (fun k hk g => by
     rcases g with g | g
     ·exact .inl g
     ·refine .inr ?_
      rcases g with g | g | g | g
      ·exact .inl g
      ·rcases hs k g with g | g
       ·exact .inr (.inl g)
       ·omega
      ·exact .inr (.inr (.inl g))
      ·rcases hn k g with g | g
       ·exact .inr (.inr (.inr g))
       ·omega)
   rt := h1.frame (Only.refl (fun _ => False) w1) (fun _ _ g => g.elim) (fun k _ g => g.imp id (fun g => ⟨g.1, hE k g.1⟩))
   sB := h.sB, cB := h.cB, nB := h.nB }
theorem Duo.still (h : Duo w B P p S q K pv s mc mn tv x rv rs r tr kr nv y lk ln) (ho : Only (fun _ => False) w w1) : Duo w1 B P p S q K pv s mc mn tv x rv rs r tr kr nv y lk ln :=
 { st := h.st.frame ho (fun _ _ g => g.elim) (fun _ _ g => g)
   rt := h.rt.frame ho (fun _ _ g => g.elim) (fun k hk g => g.imp id (fun g => ⟨g.1, hk⟩))
   sB := h.sB, cB := h.cB, nB := h.nB }
theorem Duo.disks {pv1 rv1 : Value} {rs1 : List RW} (h : Duo w B P p S q K pv s mc mn tv x rv rs r tr kr nv y lk ln) (ho : Only (fun k => k = P ∨ diskB p S pv k ∨ refB q K rv rs k) w w1) (hs : ∀ b, pv1.ownBlock = some b → pv.ownBlock = some b ∨ w.heap.size ≤ b) (hr : ∀ b, refB q K rv1 rs1 b → refB q K rv rs b ∨ w.heap.size ≤ b) :
  Duo w1 B P p S q K pv1 s mc mn tv x rv1 rs1 r tr kr nv y lk ln :=
 { st := h.st.frame ho (fun k hk g => by
     rcases g with g | g | g
     ·exact .inr (.inl g)
     ·exact .inl g
     ·exact .inr (.inr (.inl g))) (fun k hk g => by
     rcases g with g | g
     ·rcases g with g | g | g
      ·exact .inl (.inl g)
      ·exact .inl (.inr (.inl g))
      ·rcases hs k g with g | g
       ·exact .inl (.inr (.inr g))
       ·omega
     ·refine .inr ?_
      rcases g with g | g | g | g
      ·exact .inl g
      ·rcases hr k g with g | g
       ·exact .inr (.inl g)
       ·omega
      ·exact .inr (.inr (.inl g))
      ·exact .inr (.inr (.inr g)))
   rt := h.rt.frame ho (fun k hk g => by
     rcases g with g | g | g
     ·exact .inr ⟨.inl g, hk⟩
     ·exact .inr ⟨.inr (.inl g), hk⟩
     ·exact .inl g) (fun k hk g => by
     rcases g with g | ⟨g, _⟩
     ·rcases hr k g with g | g
      ·exact .inl g
      ·omega
     ·refine .inr ⟨?_, hk⟩
      rcases g with g | g | g
      ·exact .inl g
      ·refine .inr (.inl ?_)
       rcases g with g | g | g
       ·exact .inl g
       ·exact .inr (.inl g)
       ·rcases hs k g with g | g
        ·exact .inr (.inr g)
        ·omega
      ·exact .inr (.inr g))
   sB := h.sB, cB := h.cB, nB := h.nB }
theorem PlC.prog {pv1 : Value} {d1 : DS} {X : Nat → Prop} (h : PlC w B P p S q K pv d rv rs e sv rp) (h1 : DiskAt w1 B p S pv1 d1) (ho : Only (fun k => diskB p S pv k ∨ X k) w w1) (hX : ∀ k, X k → k ≠ P ∧ ¬ refB q K rv rs k) (hs : ∀ b, pv1.ownBlock = some b → pv.ownBlock = some b ∨ w.heap.size ≤ b) :
  PlC w1 B P p S q K pv1 d1 rv rs e sv rp := by
 have nP : ¬ (diskB p S pv P ∨ X P) := by
  rintro (g | g)
  ·exact h.a1 g
  ·exact (hX P g).1 rfl
 have hsub : ∀ b, diskB p S pv1 b → diskB p S pv b ∨ w.heap.size ≤ b := by
  rintro b (g | g | g)
  ·exact .inl (.inl g)
  ·exact .inl (.inr (.inl g))
  ·exact (hs b g).imp (fun g => .inr (.inr g)) id
 exact
  { pc := ho.range h.pc nP, pt := ho.there h.pt nP, pB := h.pB, dk := h1
    rf := h.rf.frame ho (fun b g g' => by
     rcases g' with g' | g'
     ·exact h.ap b g' g
     ·exact (hX b g').2 g)
    ap := fun b g g' => by
     rcases hsub b g with g | g
     ·exact h.ap b g g'
     ·have := (h.rf.lt b g').2; omega
    a1 := fun g => by
     rcases hsub P g with g | g
     ·exact h.a1 g
     ·have := h.lt; omega
    a2 := h.a2 }
theorem PlC.doc {rv1 : Value} {rs1 : List RW} {e1 : DS} {X : Nat → Prop} (h : PlC w B P p S q K pv d rv rs e sv rp) (h1 : RefAt w1 B q K rv1 e1 rs1) (ho : Only (fun k => refB q K rv rs k ∨ X k) w w1) (hX : ∀ k, X k → k ≠ P ∧ ¬ diskB p S pv k) (hs : ∀ b, refB q K rv1 rs1 b → refB q K rv rs b ∨ w.heap.size ≤ b) :
  PlC w1 B P p S q K pv d rv1 rs1 e1 sv rp := by
 have nP : ¬ (refB q K rv rs P ∨ X P) := by
  rintro (g | g)
  ·exact h.a2 g
  ·exact (hX P g).1 rfl
 exact
  { pc := ho.range h.pc nP, pt := ho.there h.pt nP, pB := h.pB, rf := h1
    dk := h.dk.frame ho (fun b g g' => by
     rcases g' with g' | g'
     ·exact h.ap b g g'
     ·exact (hX b g').2 g)
    ap := fun b g g' => by
     rcases hs b g' with g' | g'
     ·exact h.ap b g g'
     ·have := (h.dk.lt b g).2; omega
    a1 := h.a1
    a2 := fun g => by
     rcases hs P g with g | g
     ·exact h.a2 g
     ·have := h.lt; omega }
theorem PlC.still (h : PlC w B P p S q K pv d rv rs e sv rp) (ho : Only (fun _ => False) w w1) : PlC w1 B P p S q K pv d rv rs e sv rp :=
 { pc := ho.range h.pc (fun g => g), pt := ho.there h.pt (fun g => g), pB := h.pB, dk := h.dk.frame ho (fun _ _ g => g), rf := h.rf.frame ho (fun _ _ g => g), ap := h.ap, a1 := h.a1, a2 := h.a2 }
def StK (w : World) (B P p S q K : Nat) (pv rv : Value) (rs : List RW) (n : Nat) (sv rp : Value) : Prop :=
 (sv = .pointer none ∧ rp = .pointer none) ∨
 (∃ s r, sv = .pointer (some ⟨s, 0, none⟩) ∧ rp = .pointer (some ⟨r, 0, none⟩) ∧ w.cell? ⟨s, 0, none⟩ = some (.pointer none) ∧ RDead w r ∧ (s < w.heap.size ∧ ¬ (s = P ∨ diskB p S pv s ∨ refB q K rv rs s)) ∧ (r < w.heap.size ∧ ¬ (r = P ∨ diskB p S pv r ∨ refB q K rv rs r))) ∨
 (∃ s r mc mn tv tr kr nv x lk ln, sv = .pointer (some ⟨s, 0, none⟩) ∧ rp = .pointer (some ⟨r, 0, none⟩) ∧ x.size = n / 4 ∧ Duo w B P p S q K pv s mc mn tv x rv rs r tr kr nv x lk ln)
theorem StK.disks {n : Nat} {pv1 rv1 : Value} {rs1 : List RW} (h : StK w B P p S q K pv rv rs n sv rp) (ho : Only (fun k => k = P ∨ diskB p S pv k ∨ refB q K rv rs k) w w1) (hs : ∀ b, pv1.ownBlock = some b → pv.ownBlock = some b ∨ w.heap.size ≤ b) (hr : ∀ b, refB q K rv1 rs1 b → refB q K rv rs b ∨ w.heap.size ≤ b) :
  StK w1 B P p S q K pv1 rv1 rs1 n sv rp := by
 have hno : ∀ k, k < w.heap.size → ¬ (k = P ∨ diskB p S pv k ∨ refB q K rv rs k) → ¬ (k = P ∨ diskB p S pv1 k ∨ refB q K rv1 rs1 k) := by
  rintro k hk hn (g | g | g)
  ·exact hn (.inl g)
  ·rcases g with g | g | g
   ·exact hn (.inr (.inl (.inl g)))
   ·exact hn (.inr (.inl (.inr (.inl g))))
   ·rcases hs k g with g | g
    ·exact hn (.inr (.inl (.inr (.inr g))))
    ·omega
  ·rcases hr k g with g | g
   ·exact hn (.inr (.inr g))
   ·omega
 rcases h with h | ⟨s, r, e1, e2, h1, h2, h3, h4⟩ | ⟨s, r, mc, mn, tv, tr, kr, nv, x, lk, ln, e1, e2, e3, h⟩
 ·exact .inl h
 ·refine .inr (.inl ⟨s, r, e1, e2, ho.cell h1 h3.2, ⟨ho.cell h2.1 h4.2, ?_, ?_⟩, ⟨Nat.lt_of_lt_of_le h3.1 ho.size, hno s h3.1 h3.2⟩, ⟨Nat.lt_of_lt_of_le h4.1 ho.size, hno r h4.1 h4.2⟩⟩)
  ·obtain ⟨c, hc⟩ := h2.2.1
   exact ⟨c, ho.cell hc h4.2⟩
  ·obtain ⟨a, n, c, hc⟩ := h2.2.2
   exact ⟨a, n, c, ho.cell hc h4.2⟩
 ·exact .inr (.inr ⟨s, r, mc, mn, tv, tr, kr, nv, x, lk, ln, e1, e2, e3, h.disks ho hs hr⟩)
end
end Go.Proofs.YtlcglapcmdpkfaaGreat
