import Derived.Test.YtlcglapcmdpkfaaGreatQ8
namespace Go.Proofs.YtlcglapcmdpkfaaGreat
open Go.RowKit
set_option linter.unusedSimpArgs false
set_option linter.unusedVariables false
def LoadIs (w : World) (dk : Nat → Prop) (p : Nat) (r : Option SS) (e : Ending) (w' : World) : Prop :=
 Only (fun _ => False) w w' ∧ match r with
 | none => e = .returned (.pointer none)
 | some x => ∃ s mc mn tv, e = .returned (.pointer (some ⟨s, 0, none⟩)) ∧ StAt w' dk s p mc mn tv x ∧ w.heap.size ≤ s ∧ w.heap.size ≤ mc ∧ w.heap.size ≤ mn
theorem IL_getD (zs : List Nat) : IL zs = (List.range zs.length).map fun j => .int .i64 (zs.getD j 0 : Nat) := by
 apply List.ext_getElem
 ·simp [IL]
 ·intro i h1 h2
  have hi : i < zs.length := by simpa [IL] using h1
  simp [IL, List.getD, hi]
theorem FreshI.rowInts {w : World} {B : Nat} {v : Value} {l : List Nat} (h : FreshI w B v l) : RowAt w v l.length 1 (fun j => .int .i64 (l.getD j 0 : Nat)) := by
 obtain ⟨a, c, rfl⟩ := ownsRow_slice h.1
 exact rowAt_own (by rw [← IL_getD]; exact h.1)
set_option maxRecDepth 100000 in
set_option maxHeartbeats 4000000 in
theorem load_any (p S B q : Nat) (pv : Value) (d : DS) (w : World) (h : DiskAt w B p S pv d) (hl : d.life ≠ 0) (hb : ByteD d) (hn : 3 ≤ d.n / 4) (hq : q = 0 ∨ q = 4) (dk : Nat → Prop) (hdk : ∀ k, dk k → k < w.heap.size) :
  Calls Tryz.prog 74 #[.pointer (some ⟨p, 0, none⟩), .int .i64 q] w fun e w' => LoadIs w dk p (loadR d q) e w' := by
 have hn2 := h.n2
 have HRR : Hid _ := rroot_any p S q B pv d w h hl (by omega) hb
 have hE := part_lt (secN_lt (hb.sec q)) 0 8
 have hF := part_lt (secN_lt (hb.sec q)) 8 4
 have hC := part_lt (secN_lt (hb.sec q)) 12 4
 have hWF : ∀ x, loadR d q = some x → x.Wf := fun x hx => load_wf hn hn2 hb hq hx
 have HWF : Hid (∀ x, loadR d q = some x → x.Wf) := hWF
 have HLR : Hid (loadR d q = if rtOk (secN (d.sec q)) = true then loadP d q (tbR d (cnt tk (d.n / 4) + 1) tk (rtF (secN (d.sec q))) [] []) else none) := (rfl : _ = _)
 have HLP : Hid (∀ x, loadP d q x = match x.2 with
  | none => none
  | some (at_, tab) => if at_.length = rtC (secN (d.sec q)) then
    (pgsR d tab (tab.length + 1) x.1 0 0 []).2.map fun m => ⟨d.n / 4, rtE (secN (d.sec q)), q, at_, m, m⟩
    else none) := fun x => rfl
 obtain ⟨e0, he0⟩ : ∃ x, x = rtE (secN (d.sec q)) := ⟨_, rfl⟩
 obtain ⟨f0, hf0⟩ : ∃ x, x = rtF (secN (d.sec q)) := ⟨_, rfl⟩
 obtain ⟨c0, hc0⟩ : ∃ x, x = rtC (secN (d.sec q)) := ⟨_, rfl⟩
 obtain ⟨b0, hb0⟩ : ∃ x, x = rtOk (secN (d.sec q)) := ⟨_, rfl⟩
 have hE' : e0 < 2 ^ (8 * 8) := he0 ▸ hE
 have hF' : f0 < 2 ^ (8 * 4) := hf0 ▸ hF
 have hC' : c0 < 2 ^ (8 * 4) := hc0 ▸ hC
 rw [← he0, ← hf0, ← hc0, ← hb0] at HRR
 rw [← hf0, ← hb0] at HLR
 rw [← he0, ← hc0] at HLP
 have HD : Hid (DiskAt w B p S pv d) := h
 have HLB : Hid (d.life ≠ 0 ∧ ByteD d) := ⟨hl, hb⟩
 have HQ : Hid (q = 0 ∨ q = 4) := hq
 obtain ⟨cc, hcc⟩ := h.c0
 have HCC : Hid (w.cell? ⟨p, 0, none⟩ = some (.slice (some ⟨S, 0, none⟩) d.n cc)) := hcc
 have HDK : Hid (∀ k, w.heap.size ≤ k → ¬ dk k) := fun k hk e => by have := hdk k e; omega
 clear hdk
 have HPL : Hid (∀ k, diskB p S pv k → k < w.heap.size) := fun k hk => (h.lt k hk).2
 have wq : IntKind.i64.wrap (q : Int) = (q : Int) := by rw [IntKind.wrap_i64]; omega
 obtain ⟨r, hr⟩ : ∃ r, r = loadR d q := ⟨_, rfl⟩
 rw [← hr] at HLR HWF
 rw [← hr]
 obtain ⟨n, hnn⟩ : ∃ n, n = d.n / 4 := ⟨_, rfl⟩
 have HN : Hid (n = d.n / 4) := hnn
 rw [← hnn] at HLR HLP hn
 have n2 : n ≤ 2048 := by omega
 clear h hl hb hq hE hF hC hWF he0 hf0 hc0 hb0 hcc hr hnn
 go_enter Tryz.func74, Tryz.ntmps74
 go_wp2_with fail
 refine (show Calls Tryz.prog 95 _ _ _ from HRR.out).mono ?_
 rintro e w1 ⟨rfl, ho1⟩
 clear HRR
 obtain ⟨wA, hwA⟩ : ∃ x, x = w1.alloc (.cells #[.int .u64 (e0 : Nat), .int .u32 (f0 : Nat), .int .u32 (c0 : Nat)] 74) := ⟨_, rfl⟩
 have oA : Only (fun _ => False) w1 wA := by rw [hwA]; exact (Only.refl _ w1).alloc _
 have HOA : Hid (Only (fun _ => False) w wA) := ho1.trans oA (fun _ _ e => e)
 obtain ⟨R, hR⟩ : ∃ x, x = w1.heap.size := ⟨_, rfl⟩
 have HWA : Hid (wA = w1.alloc (.cells #[.int .u64 (e0 : Nat), .int .u32 (f0 : Nat), .int .u32 (c0 : Nat)] 74)) := hwA
 have HR : Hid (R = w1.heap.size) := hR
 have HbA : Hid (wA.heap[R]? = some (.cells #[.int .u64 (e0 : Nat), .int .u32 (f0 : Nat), .int .u32 (c0 : Nat)] 74 (0, 0))) := (by rw [hwA, hR]; exact heap_alloc_new w1 _ : _ = _)
 have HsA : Hid (wA.heap.size = R + 1 ∧ w.heap.size ≤ R) := ⟨by rw [hwA, hR]; simp, hR ▸ ho1.size⟩
 clear ho1 oA hwA hR
 cases b0 with
 | false =>
   have HE : Hid (r = none) := HLR.out
   go_wp2
   rw [← HWA.out]
   go_ret
   show LoadIs w _ p _ _ _
   rw [HE.out]
   exact ⟨HOA.out, rfl⟩
 | true =>
   have HE : Hid (r = loadP d q (tbR d (cnt tk n + 1) tk f0 [] [])) := HLR.out
   have HCT : Hid _ := count_any p S d.n cc wA (by omega) (HOA.out.cell HCC.out (fun e => e))
   rw [← HN.out] at HCT
   have HTK : Hid _ := taken_any n (by omega) n2 wA
   clear HLR
   go_wp2_with fail
   rw [← HWA.out, ← HR.out]
   refine (show Calls Tryz.prog 28 _ _ _ from HCT.out).mono ?_
   rintro e wA ⟨rfl, rfl⟩
   clear HCT
   go_wp2_with fail
   refine (show Calls Tryz.prog 81 _ _ _ from HTK.out).mono ?_
   rintro e w2 ⟨rfl, hfl2, ho2⟩
   clear HTK
   obtain ⟨G, hG⟩ : ∃ x, x = wA.heap.size := ⟨_, rfl⟩
   rw [← hG] at hfl2
   rw [← hG]
   obtain ⟨w3, hw3⟩ : ∃ x, x = w2.alloc (.cells #[.pointer (some ⟨p, 0, none⟩), .slice (some ⟨G, 0, none⟩) n n] 147) := ⟨_, rfl⟩
   have HW3 : Hid (w3 = w2.alloc (.cells #[.pointer (some ⟨p, 0, none⟩), .slice (some ⟨G, 0, none⟩) n n] 147)) := hw3
   obtain ⟨L, hL⟩ : ∃ x, x = w2.heap.size := ⟨_, rfl⟩
   have HL : Hid (L = w2.heap.size) := hL
   have o3 : Only (fun _ => False) w2 w3 := by rw [hw3]; exact (Only.refl _ w2).alloc _
   have b3 : w3.heap[L]? = some (.cells #[.pointer (some ⟨p, 0, none⟩), .slice (some ⟨G, 0, none⟩) n n] 147 (0, 0)) := by rw [hw3, hL]; exact heap_alloc_new w2 _
   have oA3 : Only (fun _ => False) wA w3 := ho2.trans o3 (fun _ _ e => e)
   have hGR : G = R + 1 := hG.trans HsA.out.1
   have hGL : G < L := by have := hfl2.lt; omega
   have hwR := HsA.out.2
   have ld3 : LdAt w3 L p G n tk := ⟨by rw [cell_of_row _ _ _ _ _ _ b3]; rfl, by rw [cell_of_row _ _ _ _ _ _ b3]; rfl, hfl2.frame o3 (fun e => e), by omega⟩
   have bR3 : w3.heap[R]? = some (.cells #[.int .u64 (e0 : Nat), .int .u32 (f0 : Nat), .int .u32 (c0 : Nat)] 74 (0, 0)) := by rw [oA3.block R (by omega) (fun e => e)]; exact HbA.out
   have x1 : (w2.alloc (.cells #[.pointer (some ⟨p, 0, none⟩), .slice (some ⟨G, 0, none⟩) n n] 147)).cell? ⟨R, 1, none⟩ = some (.int .u32 (f0 : Nat)) := by rw [← hw3, cell_of_row _ _ _ _ _ _ bR3]; rfl
   have x1' : w2.cell? ⟨R, 1, none⟩ = some (.int .u32 (f0 : Nat)) := by rw [cell_of_row _ _ _ _ _ _ ((ho2.block R (by omega) (fun e => e)).trans HbA.out)]; rfl
   have HO3 : Hid (Only (fun _ => False) w w3) := HOA.out.trans oA3 (fun _ _ e => e)
   have ndk : ∀ k, w.heap.size ≤ k → ¬ diskB p S pv k := fun k hk e => by have := HPL.out k e; omega
   have HND : Hid (∀ k, w.heap.size ≤ k → ¬ diskB p S pv k) := ndk
   have HTB := ltables_any L p G S B f0 pv d tk w3 (HD.out.frame HO3.out (fun _ _ e => e)) HLB.out.1 HLB.out.2 (HN.out ▸ ld3) (ndk G (by omega)) (by omega)
   rw [← HN.out] at HTB
   have HTB' : Hid _ := HTB
   have HSZ : Hid (w.heap.size ≤ R ∧ G = R + 1 ∧ G < L ∧ L < w3.heap.size) := ⟨hwR, hGR, hGL, (Array.getElem?_eq_some_iff.1 b3).1⟩
   have HBR3 : Hid _ := bR3
   obtain ⟨x, hx⟩ : ∃ x, x = tbR d (cnt tk n + 1) tk f0 [] [] := ⟨_, rfl⟩
   rw [← hx] at HTB' HE
   clear hfl2 ho2 hG hw3 hL o3 b3 oA3 hGR hGL hwR ld3 bR3 ndk HTB hx
   go_wp2_with fail
   rw [← HW3.out, ← HL.out]
   refine (show Calls Tryz.prog 96 _ _ _ from HTB'.out).mono ?_
   intro e w4 hI
   clear HTB'
   obtain ⟨f', y⟩ := x
   have HL4 : Hid (LdAt w4 L p G n f') := hI.1
   have HO34 : Hid (Only (fun i => i = G) w3 w4) := hI.2.1
   have ho4 : Only (fun _ => False) w w4 := HO3.out.trans hI.2.1 (fun i hi e => by have := HSZ.out; omega)
   have HO4 : Hid (Only (fun _ => False) w w4) := ho4
   have bR4 : w4.heap[R]? = some (.cells #[.int .u64 (e0 : Nat), .int .u32 (f0 : Nat), .int .u32 (c0 : Nat)] 74 (0, 0)) := by rw [HO34.out.block R (by have := HSZ.out; omega) (by have := HSZ.out; omega)]; exact HBR3.out
   have x2 : w4.cell? ⟨R, 2, none⟩ = some (.int .u32 (c0 : Nat)) := by rw [cell_of_row _ _ _ _ _ _ bR4]; rfl
   have HBR4 : Hid _ := bR4
   obtain ⟨_, _, hI⟩ := hI
   clear x1 x1' ho4 bR4
   cases y with
   | none =>
     obtain rfl := hI
     have HE2 : Hid (r = none) := HE.out.trans (HLP.out _)
     clear HE
     go_wp2
     go_ret
     show LoadIs w _ p _ _ _
     rw [HE2.out]
     exact ⟨HO4.out, rfl⟩
   | some y =>
     obtain ⟨at_, tab⟩ := y
     obtain ⟨va, vt, rfl, hai, hab, hap⟩ := hI
     have HAI : Hid (FreshI w4 w3.heap.size va at_) := hai
     have HAB : Hid (Fresh w4 w3.heap.size vt tab) := hab
     obtain ⟨a1, c1, rfl, -⟩ := hai.form
     obtain ⟨al, hal⟩ : ∃ m, m = at_.length := ⟨_, rfl⟩
     have HAL : Hid (al = at_.length) := hal
     have al2 : al ≤ 1048576 := hal ▸ hai.2
     rw [← hal] at HAI
     rw [← hal]
     have wal : IntKind.u64.wrap (al : Int) = (al : Int) := by rw [IntKind.wrap_u64]; omega
     have wc0 : IntKind.u64.wrap (c0 : Int) = (c0 : Int) := by rw [IntKind.wrap_u64]; omega
     by_cases hac : al = c0
     ·have hne : ((al : Int) != (c0 : Int)) = false := by simp [hac]
      have HE2 : Hid (r = (pgsR d tab (tab.length + 1) f' 0 0 []).2.map fun m => ⟨n, e0, q, at_, m, m⟩) := HE.out.trans ((HLP.out _).trans (if_pos (by rw [← HAL.out]; exact hac)))
      have HPG := lpages_any L p G S B pv vt d f' tab w4 (HD.out.frame HO4.out (fun _ _ e => e)) HLB.out.1 HLB.out.2 (HN.out ▸ HL4.out) (HND.out G (by have := HSZ.out; omega)) hab.bytes (fun b hb => by
       have := own_lt hab b hb
       have := HSZ.out
       exact ⟨by omega, by omega⟩)
      rw [← HN.out] at HPG
      have HPG' : Hid _ := HPG
      obtain ⟨z, hz⟩ : ∃ z, z = pgsR d tab (tab.length + 1) f' 0 0 [] := ⟨_, rfl⟩
      rw [← hz] at HPG' HE2
      clear HE hai hab hap hal HPG hz hac
      go_wp2_with fail
      refine (show Calls Tryz.prog 97 _ _ _ from HPG'.out).mono ?_
      intro e w5 hI
      clear HPG'
      obtain ⟨f5, y5⟩ := z
      have HO45 : Hid (Only (fun i => i = G) w4 w5) := hI.2.1
      have ho5 : Only (fun _ => False) w w5 := HO4.out.trans hI.2.1 (fun i hi e => by have := HSZ.out; omega)
      have HO5 : Hid (Only (fun _ => False) w w5) := ho5
      have bR5 : w5.heap[R]? = some (.cells #[.int .u64 (e0 : Nat), .int .u32 (f0 : Nat), .int .u32 (c0 : Nat)] 74 (0, 0)) := by rw [HO45.out.block R (by have := HSZ.out; have := HO34.out.size; omega) (by have := HSZ.out; omega)]; exact HBR4.out
      have x0 : w5.cell? ⟨R, 0, none⟩ = some (.int .u64 (e0 : Nat)) := by rw [cell_of_row _ _ _ _ _ _ bR5]; rfl
      obtain ⟨_, _, hI⟩ := hI
      clear x2 ho5 bR5 hne
      cases y5 with
      | none =>
        obtain rfl := hI
        have HE3 : Hid (r = none) := HE2.out
        clear HE2
        go_wp2
        go_ret
        show LoadIs w _ p _ _ _
        rw [HE3.out]
        exact ⟨HO5.out, rfl⟩
      | some m =>
        obtain ⟨rfl, hpm⟩ := hI
        have HE3 : Hid (r = some ⟨n, e0, q, at_, m, m⟩) := HE2.out
        clear HE2
        have hM5 := hpm.lt
        obtain ⟨M, hM⟩ : ∃ x, x = w4.heap.size := ⟨_, rfl⟩
        rw [← hM] at hpm hM5
        rw [← hM]
        have HMM : Hid (M = w4.heap.size) := hM
        obtain ⟨s, hs⟩ : ∃ x, x = w5.heap.size := ⟨_, rfl⟩
        have HSS : Hid (s = w5.heap.size) := hs
        obtain ⟨w6, hw6⟩ : ∃ x, x = w5.alloc (.cells #[.pointer (some ⟨p, 0, none⟩), .int .i64 (n : Nat), .int .u64 (e0 : Nat), .int .i64 (q : Nat), .slice a1 al c1, .map none, .map none] 79) := ⟨_, rfl⟩
        have HW6 : Hid (w6 = w5.alloc (.cells #[.pointer (some ⟨p, 0, none⟩), .int .i64 (n : Nat), .int .u64 (e0 : Nat), .int .i64 (q : Nat), .slice a1 al c1, .map none, .map none] 79)) := hw6
        have o6 : Only (fun _ => False) w5 w6 := by rw [hw6]; exact (Only.refl _ w5).alloc _
        have s6 : w6.heap.size = s + 1 := by rw [hw6, hs]; simp
        have b6 : w6.heap[s]? = some (.cells #[.pointer (some ⟨p, 0, none⟩), .int .i64 (n : Nat), .int .u64 (e0 : Nat), .int .i64 (q : Nat), .slice a1 al c1, .map none, .map none] 79 (0, 0)) := by rw [hw6, hs]; exact heap_alloc_new w5 _
        have r6 : w6.rangeAt s 0 [.pointer (some ⟨p, 0, none⟩), .int .i64 (n : Nat), .int .u64 (e0 : Nat), .int .i64 (q : Nat), .slice a1 al c1, .map none, .map none] := fun j v hv => by
         rw [cell_of_row _ _ _ _ _ _ b6, Nat.zero_add]
         simpa using hv
        have t6 : w6.there s 0 7 := fun j hj => by
         refine ⟨?_, frozen_of_row _ _ _ _ _ b6⟩
         rw [cell_of_row _ _ _ _ _ _ b6, Nat.zero_add]
         have : j = 0 ∨ j = 1 ∨ j = 2 ∨ j = 3 ∨ j = 4 ∨ j = 5 ∨ j = 6 := by omega
         rcases this with rfl | rfl | rfl | rfl | rfl | rfl | rfl <;> rfl
        obtain ⟨sl, hmap5, hsl5⟩ := hpm
        have HSB : Hid (∀ y ∈ m, ∀ b, (sl y.1).ownBlock = some b → b < s) := fun y hy b hb => hs ▸ ((hsl5 y hy).2 b hb).1
        have hmap6 := hmap5.frame o6 (fun e => e)
        have hsl6 : ∀ y ∈ m, BytesAt w6 (sl y.1) y.2.2 ∧ ∀ b, (sl y.1).ownBlock = some b → b < w6.heap.size ∧ ¬ b ≤ M := fun y hy => ⟨(hsl5 y hy).1.frame o6, fun b hb => ⟨by have := ((hsl5 y hy).2 b hb).1; omega, ((hsl5 y hy).2 b hb).2⟩⟩
        have HT : Hid _ := take_any s M _ _ _ _ _ _ _ _ w6 r6 t6 hmap6
        rw [s6] at HT
        have H6 : Hid (Only (fun _ => False) w5 w6 ∧ w6.heap.size = s + 1 ∧ M < s) := ⟨o6, s6, by omega⟩
        have HSL : Hid _ := hsl6
        clear hmap5 hsl5 hM5 hM hs hw6 o6 s6 b6 r6 t6 hmap6 hsl6
        go_wp2_with fail
        rw [← HW6.out, ← HSS.out]
        refine (show Calls Tryz.prog 31 _ _ _ from HT.out).mono ?_
        rintro e w7 ⟨rfl, hr7, ht7, hm7, hn7, ho7⟩
        have HF : Hid (LoadIs w dk p r (.returned (.pointer (some ⟨s, 0, none⟩))) w7) := by
         obtain ⟨g1, g2, g3, g4⟩ := HSZ.out
         obtain ⟨o6, s6, hMs⟩ := H6.out
         have hM := HMM.out
         have hss := HSS.out
         have z34 := HO34.out.size
         have z45 := HO45.out.size
         have o67 : Only (fun k => k = s) w5 w7 := (o6.mono (fun _ _ e => e.elim)).trans ho7 (fun _ _ e => e)
         show LoadIs w dk p r _ _
         rw [HE3.out]
         refine ⟨HO5.out.trans o67 (fun i hi e => by have := HO5.out.size; omega), s, M, s + 1, .slice a1 al c1, rfl, ?_, by omega, by omega, by omega⟩
         have av : ∀ k, k < w6.heap.size → ¬ k ≤ M → k ≠ s → ¬ mutB dk s M (s + 1) k := fun k h1 h2 h3 e => by
          rcases e with e | e | e | e
          ·exact h3 e
          ·omega
          ·omega
          ·exact HDK.out k (by omega) e
         have hpmx : ∀ mm, MapAt w7 mm (m.map fun p => (p.1, pgV sl p)) → PMap w7 (mutB dk s M (s + 1)) mm m := fun mm hmm => by
          refine ⟨sl, hmm, fun y hy => ?_⟩
          obtain ⟨y1, y2⟩ := HSL.out y hy
          have hns : ∀ b, (sl y.1).ownBlock = some b → b ≠ s := fun b hb e => by
           have := HSB.out y hy b hb
           omega
          refine ⟨y1.keep ho7 (fun b hb e => hns b hb e), fun b hb => ⟨Nat.lt_of_lt_of_le (y2 b hb).1 ho7.size, av b (y2 b hb).1 (y2 b hb).2 (hns b hb)⟩⟩
         have hti : RowAt w5 (.slice a1 al c1) at_.length 1 (fun j => .int .i64 (at_.getD j 0 : Nat)) := HAI.out.rowInts.keep HO45.out (fun b hb e => by
          have := (HAI.out.1.lt b hb).1; omega)
         exact { cells := hr7, there := ht7, d1 := by omega, d2 := by omega, d3 := by omega, k1 := HDK.out _ (by omega), k2 := HDK.out _ (by omega), k3 := HDK.out _ (by omega)
                 tabs := hti.keep o67 (fun b hb e => by have := (HAI.out.1.lt b hb).2; omega)
                 tabsB := fun b hb => by
                  have h1 := HAI.out.1.lt b hb
                  refine ⟨by have := ho7.size; omega, fun e => ?_⟩
                  rcases e with e | e | e | e
                  ·omega
                  ·omega
                  ·omega
                  ·exact HDK.out b (by omega) e
                 com := hpmx M hn7, now := hpmx (s + 1) hm7
                 wf := HWF.out _ HE3.out }
        clear hr7 ht7 hm7 hn7 ho7 HT
        go_wp2
        go_ret
        exact HF.out
     ·have hne : ((al : Int) != (c0 : Int)) = true := by simp; omega
      have HE2 : Hid (r = none) := HE.out.trans ((HLP.out _).trans (if_neg (by rw [← HAL.out]; exact hac)))
      clear HE hai hab hap hal hac
      go_wp2
      go_ret
      show LoadIs w _ p _ _ _
      rw [HE2.out]
      exact ⟨HO4.out, rfl⟩
end Go.Proofs.YtlcglapcmdpkfaaGreat
