import Derived.Test.YtlcglapcmdpkfaaGreatQ6
namespace Go.Proofs.YtlcglapcmdpkfaaGreat
open Go.RowKit
set_option linter.unusedSimpArgs false
set_option linter.unusedVariables false
set_option maxRecDepth 100000 in
set_option maxHeartbeats 4000000 in
theorem lpages_any (L p G S B : Nat) (pv v : Value) (d : DS) (f0 : Nat → Bool) (tab : List Nat) (w : World) (h : DiskAt w B p S pv d) (hl : d.life ≠ 0) (hb : ByteD d) (hL : LdAt w L p G (d.n / 4) f0) (hdG : ¬ diskB p S pv G) (hv : BytesAt w v tab) (hvb : ∀ b, v.ownBlock = some b → b ≠ G ∧ b < w.heap.size) :
  Calls Tryz.prog 97 #[.pointer (some ⟨L, 0, none⟩), v] w fun e w' => PgsIs w L p G (d.n / 4) (pgsR d tab (tab.length + 1) f0 0 0 []) e w' := by
 have n2 := h.n2
 obtain ⟨M, hM⟩ : ∃ M, M = w.heap.size := ⟨_, rfl⟩
 obtain ⟨R, hR⟩ : ∃ R, R = pgsR d tab (tab.length + 1) f0 0 0 [] := ⟨_, rfl⟩
 rw [← hR]
 have hGl : G < M := hM ▸ hL.fl.lt
 have hLl : L < M := hM ▸ World.block_lt_of_cell? _ _ hL.c0
 have o0 : Only (fun _ => False) w (w.alloc (.map #[] 0)) := (Only.refl _ w).alloc _
 have HI0 : Hid (PgI w (w.alloc (.map #[] 0)) L p G d tab R f0 0 0 []) := by
  refine ⟨by omega, by omega, hL.frame o0 (fun e => e) (fun e => e), ⟨fun _ => .slice none 0 0, ?_, fun x hx => (by cases hx)⟩, fun x hx => (by cases hx), ⟨_, hR, by omega⟩, o0.mono (fun _ _ e => e.elim)⟩
  exact MapAt.made w
 have HLR : Hid (∀ wr f q i, Only (fun k => k = G) w wr → LdAt wr L p G (d.n / 4) f → q < 9223372036854775808 → i < 728 → Calls Tryz.prog 115 #[.pointer (some ⟨L, 0, none⟩), .int .u64 (q : Nat), .int .u32 ((3 + 256 * i : Nat) : Int)] wr fun e w' => LdIs wr L p G (d.n / 4) (ldR d f q (3 + 256 * i)) e w') := fun wr f q i ho hl' hq hi =>
  lread_any L p G S B q (3 + 256 * i) pv d f wr (h.frame ho (fun k hk e => hdG (e ▸ hk))) hl hb hl' hdG (by omega) (by omega)
 have HSR : Hid (∀ wr q, Only (fun k => k = G) w wr → q ≤ tab.length → Calls Tryz.prog 116 #[v, .int .i64 (q : Nat)] wr fun e w' => e = .returned (rdV (rd tab q 0 0)) ∧ Only (fun _ => False) wr w') := fun wr q ho hq =>
  sread_any v q tab wr (hv.keep ho (fun b hb e => (hvb b hb).1 e)) hq
 have HGl : Hid (G < M ∧ L < M) := ⟨hGl, hLl⟩
 have HM : Hid (M = w.heap.size) := hM
 have htl := hv.2.1
 obtain ⟨a0, c0, rfl, -⟩ := hv.form
 obtain ⟨n, hn⟩ : ∃ n, n = tab.length := ⟨_, rfl⟩
 have HN : Hid (n = tab.length) := hn
 rw [← hn] at HSR htl
 rw [← hn]
 have hmm : (Instr.makeMap 77 none).run Tryz.prog w = .ok (.map (some w.heap.size)) (w.alloc (.map #[] 0)) := by kernel_rfl
 clear h hl hb hL hdG hv hvb hR hM hGl hLl o0 hn
 go_enter Tryz.func97, Tryz.ntmps97
 go_wp2
 rw [← HM.out]
 go_loopw [4, 6, 7] (fun t4 t6 t7 wr => ∃ least pos f m, t4 = .map (some M) ∧ t6 = .int .u64 (least : Nat) ∧ t7 = .int .i64 (pos : Nat) ∧ PgI w wr L p G d tab R f least pos m) (fun _ _ t7 _ => n - (intOf t7).toNat)
 case atStart => exact ⟨0, 0, _, _, rfl, rfl, rfl, HI0.out⟩
 case round =>
  obtain ⟨least, pos, f, m, rfl, rfl, rfl, hI⟩ := hrel
  obtain ⟨w1, rfl⟩ : ∃ w1, w1 = wr := ⟨_, rfl⟩
  have HI : Hid _ := hI
  obtain ⟨k0, hRk, hk0⟩ := hI.rs
  obtain ⟨k, rfl⟩ : ∃ k, k0 = k + 1 := ⟨k0 - 1, by omega⟩
  have hle := hI.le
  have hps := hI.ps
  rw [← HN.out] at hps hk0
  by_cases hpn : pos < n
  ·have p1 : (pos : Int) < (n : Int) := by omega
   have hnp : ¬ tab.length ≤ pos := by rw [← HN.out]; omega
   have HS1 := HSR.out w1 pos hI.on (by omega)
   have HS1' : Hid _ := HS1
   have HRk : Hid (R = pgsR d tab (k + 1) f least pos m) := hRk
   clear hI hRk HS1
   cases h1 : rd tab pos 0 0 with
   | none =>
     rw [h1] at HS1'
     have HE : Hid (R = (f, none)) := HRk.out.trans (pgsR_none1 hnp h1 _)
     clear h1
     go_wp2_with fail
     refine (show Calls Tryz.prog 116 _ _ _ from HS1'.out).mono ?_
     rintro e w2 ⟨rfl, ho2⟩
     have HF : Hid (LdAt w2 L p G (d.n / 4) f ∧ Only (fun i => i = G) w w2) := ⟨HI.out.ld.frame ho2 (fun e => e) (fun e => e), HI.out.on.trans ho2 (fun _ _ e => e.elim)⟩
     clear ho2 HS1'
     simp only [rdV]
     go_wp2
     go_ret2
     show PgsIs w L p G (d.n / 4) _ _ _
     rw [HE.out]
     exact ⟨HF.out.1, HF.out.2, rfl⟩
   | some y =>
     obtain ⟨i, q⟩ := y
     rw [h1] at HS1'
     obtain ⟨i1, i2, i3⟩ := rd_ok h1
     rw [← HN.out] at i3
     by_cases hi : i < least ∨ 728 ≤ i
     ·have HE : Hid (R = (f, none)) := HRk.out.trans (pgsR_low hnp h1 hi _)
      clear h1
      go_wp2_with fail
      refine (show Calls Tryz.prog 116 _ _ _ from HS1'.out).mono ?_
      rintro e w2 ⟨rfl, ho2⟩
      have HF : Hid (LdAt w2 L p G (d.n / 4) f ∧ Only (fun i => i = G) w w2) := ⟨HI.out.ld.frame ho2 (fun e => e) (fun e => e), HI.out.on.trans ho2 (fun _ _ e => e.elim)⟩
      clear ho2 HS1'
      simp only [rdV]
      have HFIN : Hid (PgsIs w L p G (d.n / 4) R (.returned (.tuple #[.map none, .bool false])) w2) := by
       show PgsIs w L p G (d.n / 4) _ _ _
       rw [HE.out]
       exact ⟨HF.out.1, HF.out.2, rfl⟩
      clear HF HE
      by_cases hil : i < least
      ·have j1 : (i : Int) < (least : Int) := by omega
       go_wp2
       go_ret2
       exact HFIN.out
      ·have j1 : ¬ (i : Int) < (least : Int) := by omega
       have j2 : (728 : Int) ≤ (i : Int) := by omega
       go_wp2
       go_ret2
       exact HFIN.out
     have j1 : ¬ (i : Int) < (least : Int) := by omega
     have j2 : ¬ (728 : Int) ≤ (i : Int) := by omega
     have H1 : Hid (rd tab pos 0 0 = some (i, q) ∧ ¬ (i < least ∨ 728 ≤ i)) := ⟨h1, hi⟩
     clear h1
     go_wp2_with fail
     refine (show Calls Tryz.prog 116 _ _ _ from HS1'.out).mono ?_
     rintro e w2 ⟨rfl, ho2⟩
     have HO2 : Hid (Only (fun _ => False) w1 w2) := ho2
     have HF : Hid (LdAt w2 L p G (d.n / 4) f ∧ Only (fun i => i = G) w w2) := ⟨HI.out.ld.frame ho2 (fun e => e) (fun e => e), HI.out.on.trans ho2 (fun _ _ e => e.elim)⟩
     have HS2 : Hid _ := HSR.out w2 q HF.out.2 (by omega)
     clear ho2 HS1'
     simp only [rdV]
     cases h2 : rd tab q 0 0 with
     | none =>
       rw [h2] at HS2
       have HE : Hid (R = (f, none)) := HRk.out.trans (pgsR_none2 hnp H1.out.1 H1.out.2 h2 _)
       clear h2
       go_wp2_with fail
       refine (show Calls Tryz.prog 116 _ _ _ from HS2.out).mono ?_
       rintro e w3 ⟨rfl, ho3⟩
       have HF3 : Hid (LdAt w3 L p G (d.n / 4) f ∧ Only (fun i => i = G) w w3) := ⟨HF.out.1.frame ho3 (fun e => e) (fun e => e), HF.out.2.trans ho3 (fun _ _ e => e.elim)⟩
       clear ho3 HS2
       simp only [rdV]
       go_wp2
       go_ret2
       show PgsIs w L p G (d.n / 4) _ _ _
       rw [HE.out]
       exact ⟨HF3.out.1, HF3.out.2, rfl⟩
     | some y2 =>
       obtain ⟨P, z⟩ := y2
       rw [h2] at HS2
       have H2 : Hid (rd tab q 0 0 = some (P, z)) := h2
       obtain ⟨P1, P2, P3⟩ := rd_ok h2
       rw [← HN.out] at P3
       clear h2
       have wi : IntKind.i64.wrap (i : Int) = (i : Int) := by rw [IntKind.wrap_i64]; omega
       have wP : IntKind.i64.wrap (P : Int) = (P : Int) := by rw [IntKind.wrap_i64]; omega
       have wi1 : IntKind.u64.wrap ((i : Int) + 1) = (i : Int) + 1 := by rw [IntKind.wrap_u64]; omega
       go_wp2_with fail
       refine (show Calls Tryz.prog 116 _ _ _ from HS2.out).mono ?_
       rintro e w3 ⟨rfl, ho3⟩
       have HO3 : Hid (Only (fun _ => False) w1 w3) := HO2.out.trans ho3 (fun _ _ e => e)
       have HF3 : Hid (LdAt w3 L p G (d.n / 4) f ∧ Only (fun i => i = G) w w3) := ⟨HF.out.1.frame ho3 (fun e => e) (fun e => e), HF.out.2.trans ho3 (fun _ _ e => e.elim)⟩
       have HDI : Hid _ := dataid_any i (by omega) w3
       have HRD : Hid _ := HLR.out w3 f P i HF3.out.2 HF3.out.1 P1 (by omega)
       clear ho3 HS2
       simp only [rdV]
       go_wp2_with (go_at_call 83; refine (show Calls Tryz.prog 83 _ _ _ from HDI.out).mono ?_; rintro e w3 ⟨rfl, rfl⟩)
       refine (show Calls Tryz.prog 115 _ _ _ from HRD.out).mono ?_
       intro e w4 hr
       clear HRD HDI
       have HL4 : Hid (LdAt w4 L p G (d.n / 4) (ldR d f P (3 + 256 * i)).1) := hr.1
       have HO4 : Hid (Only (fun i => i = G) w3 w4) := hr.2.1
       have ON4 : Hid (Only (fun i => i = G) w w4) := HF3.out.2.trans hr.2.1 (fun _ _ e => e)
       obtain ⟨_, _, hr⟩ := hr
       cases hq : (ldR d f P (3 + 256 * i)).2 with
       | none =>
         rw [hq] at hr
         obtain rfl := hr
         have HE : Hid (R = ((ldR d f P (3 + 256 * i)).1, none)) := HRk.out.trans (pgsR_not hnp H1.out.1 H1.out.2 H2.out hq _)
         clear hq
         go_wp2
         go_ret2
         show PgsIs w L p G (d.n / 4) _ _ _
         rw [HE.out]
         exact ⟨HL4.out, ON4.out, rfl⟩
       | some D =>
         rw [hq] at hr
         obtain ⟨u, rfl, hu⟩ := hr
         obtain ⟨a, c, rfl⟩ := hu.form
         have HE : Hid (R = pgsR d tab k (ldR d f P (3 + 256 * i)).1 (i + 1) z (putL m (i : Int) (P, D))) := HRk.out.trans (pgsR_go hnp H1.out.1 H1.out.2 H2.out hq _)
         obtain ⟨dl, hdl⟩ : ∃ x, x = D.length := ⟨_, rfl⟩
         rw [← hdl] at hu
         rw [← hdl]
         have lu := fun b e => own_lt hu b e
         have hM := HM.out
         have s1 := HI.out.on.size
         have s3 : w1.heap.size ≤ w3.heap.size := HO3.out.size
         have m1 := HI.out.mp.lt
         have mp4 : PMap w4 (fun k => k ≤ w.heap.size) w.heap.size m := ((HI.out.mp.frame HO3.out (fun e => e) (fun _ _ e => e.elim) (fun _ _ e => e)).frame HO4.out (by have := HGl.out.1; omega) (fun k _ e => by have := HGl.out.1; omega) (fun _ _ e => e))
         have hlen : m.length ≤ 728 := by
          have := Rise.len (a := 0) (b := 728) HI.out.mp.rise HI.out.ky
          simp at this
          omega
         obtain ⟨w5, hup, mp5, ho5⟩ := mp4.put (Nat.le_refl _) (i : Int) (by omega) hlen P a dl c D hu.bytes (fun b hb => ⟨(lu b hb).2, by have := (lu b hb).1; omega⟩)
         have HNW : Hid (PgI w w5 L p G d tab R (ldR d f P (3 + 256 * i)).1 (i + 1) z (putL m (i : Int) (P, D))) := by
          refine ⟨by omega, by rw [← HN.out]; exact P3, HL4.out.frame ho5 (by have := HGl.out; omega) (by have := HGl.out; omega), mp5, fun x hx => ?_, ⟨k, HE.out, by rw [← HN.out]; omega⟩, ON4.out.trans ho5 (fun j hj e => by omega)⟩
          rcases (putL_mem _ _ _ _).1 hx with rfl | ⟨hx, _⟩
          ·exact ⟨by show (0 : Int) ≤ (i : Int); omega, by show (i : Int) < 728; omega⟩
          ·exact HI.out.ky x hx
         rw [← hM] at hup
         clear hq hu hdl lu hM s1 s3 m1 mp4 hlen mp5 ho5 hnp
         go_wp2
         go_roundw
         case rel => exact ⟨i + 1, z, _, _, rfl, by go_num, by go_num, HNW.out⟩
         case measure => simp [intOf]; omega
  ·have p1 : ¬ (pos : Int) < (n : Int) := by omega
   have HE : Hid (R = (f, some m)) := hRk.trans (pgsR_end (by rw [← HN.out]; omega) _)
   clear hI hRk
   go_wp2
   go_ret2
   show PgsIs w L p G (d.n / 4) _ _ _
   rw [HE.out]
   exact ⟨HI.out.ld, HI.out.on, by rw [HM.out]; rfl, HI.out.mp⟩
end Go.Proofs.YtlcglapcmdpkfaaGreat
