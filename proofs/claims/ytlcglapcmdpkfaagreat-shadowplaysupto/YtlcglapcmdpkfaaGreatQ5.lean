import Derived.Test.YtlcglapcmdpkfaaGreatQ4
namespace Go.Proofs.YtlcglapcmdpkfaaGreat
open Go.RowKit
set_option linter.unusedSimpArgs false
set_option linter.unusedVariables false
structure TbI (w wr : World) (L p G : Nat) (d : DS) (f0 : Nat → Bool) (nx0 K0 : Nat) (t1 t4 t5 : Value) (nx : Nat) (f : Nat → Bool) (at_ tab : List Nat) : Prop where
 tq : t1 = .int .u32 (nx : Nat)
 nb : nx < 4294967296
 ai : FreshI wr w.heap.size t4 at_
 ab : Fresh wr w.heap.size t5 tab
 ap : ∀ b, t4.ownBlock = some b → t5.ownBlock ≠ some b
 ld : LdAt wr L p G (d.n / 4) f
 ct : cnt f (d.n / 4) + at_.length = K0
 tb : tab.length ≤ 116 * at_.length
 rs : tbR d (K0 + 1) f0 nx0 [] [] = tbR d (cnt f (d.n / 4) + 1) f nx at_ tab
 on : Only (fun i => i = G) w wr
set_option maxRecDepth 100000 in
set_option maxHeartbeats 4000000 in
theorem ltables_any (L p G S B nx0 : Nat) (pv : Value) (d : DS) (f0 : Nat → Bool) (w : World) (h : DiskAt w B p S pv d) (hl : d.life ≠ 0) (hb : ByteD d) (hL : LdAt w L p G (d.n / 4) f0) (hdG : ¬ diskB p S pv G) (hnx : nx0 < 4294967296) :
  Calls Tryz.prog 96 #[.pointer (some ⟨L, 0, none⟩), .int .u32 nx0] w fun e w' => TbIs w L p G (d.n / 4) (tbR d (cnt f0 (d.n / 4) + 1) f0 nx0 [] []) e w' := by
 have n2 := h.n2
 obtain ⟨K0, hK0⟩ : ∃ K, K = cnt f0 (d.n / 4) := ⟨_, rfl⟩
 have hK : K0 ≤ 2048 := by have := cnt_le f0 (d.n / 4); omega
 have HI0 : Hid (TbI w w L p G d f0 nx0 K0 (.int .u32 nx0) (.slice none 0 0) (.slice none 0 0) nx0 f0 [] []) :=
  ⟨rfl, hnx, FreshI.nil _ _, ⟨World.ownsRow_nil _ _ _ _, by simp, by simp⟩, fun b e => by simp [Value.ownBlock] at e, hL, by simp [hK0], by simp, by rw [hK0], Only.refl _ _⟩
 have HLR : Hid (∀ wr f q, Only (fun i => i = G) w wr → LdAt wr L p G (d.n / 4) f → q < 4294967296 → Calls Tryz.prog 115 #[.pointer (some ⟨L, 0, none⟩), .int .u64 (q : Nat), .int .u32 2] wr fun e w' => LdIs wr L p G (d.n / 4) (ldR d f q 2) e w') := fun wr f q ho hl' hq => by
  have := lread_any L p G S B q 2 pv d f wr (h.frame ho (fun k hk e => hdG (e ▸ hk))) hl hb hl' hdG (by omega) (by omega)
  exact this
 have HGl : Hid (G < w.heap.size) := hL.fl.lt
 have HLl : Hid (L < w.heap.size) := World.block_lt_of_cell? _ _ hL.c0
 rw [← hK0]
 clear h hl hb hL hdG hnx hK0
 go_enter Tryz.func96, Tryz.ntmps96
 go_wp2
 go_loopw [1, 4, 5] (fun t1 t4 t5 wr => ∃ nx f at_ tab, TbI w wr L p G d f0 nx0 K0 t1 t4 t5 nx f at_ tab) (fun _ t4 _ _ => K0 - lenOf t4)
 case atStart => exact ⟨_, _, _, _, HI0.out⟩
 case round =>
  obtain ⟨nx, f, at_, tab, hI⟩ := hrel
  obtain rfl := hI.tq
  obtain ⟨w1, rfl⟩ : ∃ w1, w1 = wr := ⟨_, rfl⟩
  have hnx := hI.nb
  obtain ⟨a1, c1, rfl, -⟩ := hI.ai.form
  obtain ⟨a2, c2, rfl⟩ := hI.ab.form
  obtain ⟨q1, hq1⟩ : ∃ m, m = at_.length := ⟨_, rfl⟩
  obtain ⟨q2, hq2⟩ : ∃ m, m = tab.length := ⟨_, rfl⟩
  rw [← hq1, ← hq2] at hI
  rw [← hq1, ← hq2]
  have HQ : Hid (q1 = at_.length ∧ q2 = tab.length) := ⟨hq1, hq2⟩
  have HI : Hid _ := hI
  clear hq1 hq2
  by_cases h0 : nx = 0
  ·subst h0
   have n1 : (((0 : Nat) : Int) != 0) = false := rfl
   have HE : Hid (tbR d (K0 + 1) f0 nx0 [] [] = (f, some (at_, tab))) := hI.rs.trans (tbR_end ..)
   clear hI
   go_wp2
   go_ret3
   show TbIs w L p G (d.n / 4) _ _ _
   rw [HE.out]
   exact ⟨HI.out.ld, HI.out.on, _, _, rfl, HI.out.ai, HI.out.ab, HI.out.ap⟩
  have n1 : ((nx : Int) != 0) = true := by simpa using h0
  have n64 : IntKind.u64.wrap (nx : Int) = (nx : Int) := by rw [IntKind.wrap_u64]; omega
  have i64 : IntKind.i64.wrap (nx : Int) = (nx : Int) := by rw [IntKind.wrap_i64]; omega
  have HC : Hid (Calls Tryz.prog 115 #[.pointer (some ⟨L, 0, none⟩), .int .u64 (nx : Nat), .int .u32 2] w1 fun e w' => LdIs w1 L p G (d.n / 4) (ldR d f nx 2) e w') := HLR.out w1 f nx hI.on hI.ld hnx
  clear hI
  go_wp2_with fail
  refine (show Calls Tryz.prog 115 _ _ _ from HC.out).mono ?_
  intro e w2 hr
  clear HC
  have HL2 : Hid (LdAt w2 L p G (d.n / 4) (ldR d f nx 2).1) := hr.1
  have HO2 : Hid (Only (fun i => i = G) w1 w2) := hr.2.1
  have ON2 : Hid (Only (fun i => i = G) w w2) := HI.out.on.trans hr.2.1 (fun _ _ e => e)
  obtain ⟨_, _, hr⟩ := hr
  cases hq : (ldR d f nx 2).2 with
  | none =>
    rw [hq] at hr
    obtain rfl := hr
    have HE : Hid (tbR d (K0 + 1) f0 nx0 [] [] = ((ldR d f nx 2).1, none)) := HI.out.rs.trans (tbR_none h0 hq _ _ _)
    clear hq h0
    go_wp2
    go_ret3
    show TbIs w L p G (d.n / 4) _ _ _
    rw [HE.out]
    exact ⟨HL2.out, ON2.out, rfl⟩
  | some D =>
    rw [hq] at hr
    obtain ⟨u, rfl, hu⟩ := hr
    obtain ⟨a, c, rfl, hcap, hcc⟩ := hu.bytes.form
    obtain ⟨m, hm⟩ : ∃ m, m = D.length := ⟨_, rfl⟩
    rw [← hm] at hu hcap hcc
    rw [← hm]
    by_cases h4 : m < 4
    ·have m4 : (m : Int) < 4 := by omega
     have HE : Hid (tbR d (K0 + 1) f0 nx0 [] [] = ((ldR d f nx 2).1, none)) := HI.out.rs.trans (tbR_short h0 hq (by omega) _ _ _)
     clear hq h0 hu hcap hcc hm h4
     go_wp2
     go_ret3
     show TbIs w L p G (d.n / 4) _ _ _
     rw [HE.out]
     exact ⟨HL2.out, ON2.out, rfl⟩
    have m4 : ¬ (m : Int) < 4 := by omega
    have m4' : (4 : Int) ≤ (m : Int) := by omega
    obtain ⟨g, o, rfl, -⟩ := hcc 0 (by omega)
    obtain ⟨s1, s2, s3, s4⟩ := ldR_some hq
    have hB2 : w.heap.size ≤ w2.heap.size := ON2.out.size
    have hB12 : w1.heap.size ≤ w2.heap.size := HO2.out.size
    have l1 := fun b e => HI.out.ai.1.lt b e
    have l2 := fun b e => own_lt HI.out.ab b e
    have lu := fun b e => own_lt hu b e
    have hgl : w1.heap.size ≤ g := (lu g (by simp [Value.ownBlock])).1
    have hGl := HGl.out
    have hLl := HLl.out
    have ai2 : FreshI w2 w.heap.size (.slice a1 q1 c1) at_ := ⟨HO2.out.owns HI.out.ai.1 (fun k hk e => by have := (l1 k hk).1; omega), HI.out.ai.2⟩
    have ab2 : Fresh w2 w.heap.size (.slice a2 q2 c2) tab := ⟨HO2.out.owns HI.out.ab.1 (fun k hk e => by have := (l2 k hk).1; omega), HI.out.ab.2⟩
    have hct : cnt (ldR d f nx 2).1 (d.n / 4) + 1 = cnt f (d.n / 4) := by rw [s3]; exact cnt_set f nx s2 _ s1
    have hat : at_.length + 1 ≤ K0 := by have := HI.out.ct; omega
    obtain ⟨a5, c5, w3, hr5, hf5, ho5, hb5⟩ := app_int2 ai2 hB2 nx (by omega)
    have hB3 : w2.heap.size ≤ w3.heap.size := ho5.size
    have ab3 : Fresh w3 w.heap.size (.slice a2 q2 c2) tab := ⟨ho5.owns ab2.1 (fun k hk e => HI.out.ap k e hk), ab2.2⟩
    have hu3 : BytesAt w3 (.slice (some ⟨g, o, none⟩) m c) D := hu.bytes.keep ho5 (fun b hb e => by
     simp [Value.ownBlock] at hb
     have := (l1 b e).2; omega)
    obtain ⟨a6, c6, hr6, hb6, -⟩ := slice_four g o m c hu3 hm.symm (by omega) hcap
    obtain ⟨a7, c7, w4, hr7, hf7, ho7, hb7⟩ := app_fresh2 ab3 hb6 (by omega) (by rw [List.length_drop]; have := HI.out.tb; omega)
    have hu4 : BytesAt w4 (.slice (some ⟨g, o, none⟩) m c) D := hu3.keep ho7 (fun b hb e => by
     simp [Value.ownBlock] at hb
     have := (l2 b e).2; omega)
    have HN : Hid (Calls Tryz.prog 114 #[.slice (some ⟨g, o, none⟩) 4 c] w4 fun e w' => e = .returned (.int .u64 (part D 0 4 : Nat)) ∧ w' = w4) := snum_any _ _ w4 (hu4.take (by omega)) (by rw [List.length_take]; omega)
    have hp := part_lt hu.2.2 0 4
    have p32 : IntKind.u32.wrap ((part D 0 4 : Nat) : Int) = ((part D 0 4 : Nat) : Int) := by rw [IntKind.wrap_u32]; omega
    have c4 : (4 : Int) ≤ (c : Int) := by omega
    rw [← HQ.out.1] at hr5 hf5 hb5
    have e7 : tab.length + (D.drop 4).length = q2 + (m - 4) := by rw [List.length_drop, HQ.out.2, hm]
    rw [e7] at hr7 hf7 hb7
    have HR5 : Hid _ := hr5
    have HR7 : Hid _ := hr7
    have o4 : Only (fun i => w.heap.size ≤ i) w2 w4 := (ho5.mono (fun k _ e => (l1 k e).1)).trans (ho7.mono (fun k _ e => (l2 k e).1)) (fun _ _ e => e)
    have HNW : Hid (TbI w w4 L p G d f0 nx0 K0 (.int .u32 (part D 0 4 : Nat)) (.slice a5 (q1 + 1) c5) (.slice a7 (q2 + (m - 4)) c7) (part D 0 4) (ldR d f nx 2).1 (at_ ++ [nx]) (tab ++ D.drop 4)) := by
     refine ⟨rfl, by omega, ⟨ho7.owns hf5.1 ?_, hf5.2⟩, hf7, ?_, HL2.out.frame o4 (by omega) (by omega), ?_, ?_, ?_, ON2.out.trans o4 (fun i hi e => by omega)⟩
     ·intro k hk e
      rcases hb5 k hk with e5 | e5
      ·exact HI.out.ap k e5 e
      ·have := (l2 k e).2; omega
     ·intro b e5 e7'
      have hlt := (hf5.1.lt b e5).2
      rcases hb7 b e7' with e8 | e8
      ·rcases hb5 b e5 with e9 | e9
       ·exact HI.out.ap b e9 e8
       ·have := (l2 b e8).2; omega
      ·omega
     ·rw [List.length_append]; have := HI.out.ct; simp only [List.length_singleton]; omega
     ·rw [List.length_append, List.length_append, List.length_drop]; have := HI.out.tb; simp only [List.length_singleton]; omega
     ·rw [HI.out.rs, tbR_go h0 hq (by omega), hct]
    have hA : q1 + 1 ≤ K0 := by have := HQ.out.1; omega
    have HAT : Hid (q1 + 1 ≤ K0) := hA
    clear hA
    clear hq h0 hu hcap hcc hm h4 s1 s2 s3 s4 l1 l2 lu ai2 ab2 ab3 hu3 hu4 hb6 hb7 hb5 hf5 hf7 ho5 ho7 o4 hr5 hr7 hct hat e7 hp hgl hGl hLl hB2 hB12 hB3
    go_wp2_with (first
     | (at_builtin; refine wpList_append_run rfl _ _ 76 rfl _ _ (.slice a5 (q1 + 1) c5) rfl rfl HR5.out ?_)
     | (at_builtin; refine wpList_append_run rfl _ _ 37 rfl _ _ (.slice a7 (q2 + (m - 4)) c7) rfl rfl HR7.out ?_)
     | (go_at_call 114; refine (show Calls Tryz.prog 114 _ _ _ from HN.out).mono ?_; rintro e wz ⟨rfl, rfl⟩))
    go_roundw
    case rel => exact ⟨_, _, _, _, HNW.out⟩
    case measure => simp [lenOf]; have := HAT.out; omega
end Go.Proofs.YtlcglapcmdpkfaaGreat
