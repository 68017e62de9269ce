/-       -/
import Derived.Test.YtlcglapcmdpkfaaGreatGah
import Derived.Test.YtlcglapcmdpkfaaGreatGab
import Derived.Handy
import Derived.Test.YtlcglapcmdpkfaaGreatGag
namespace Go.Proofs.YtlcglapcmdpkfaaGreat
open Go.RowKit
set_option linter.unusedSimpArgs false
set_option linter.unusedVariables false
set_option maxRecDepth 100000
set_option maxHeartbeats 16000000
structure TbI (w wr : World) (L p G : Nat) (d : DS) (f0 : Nat → Bool) (nx0 K0 : Nat) (t1 t4 t5 : Value) (nx : Nat) (f : Nat → Bool) (at_ tab : List Nat) : Prop where
 tq : t1 = .int .u32 (nx : Nat)
 nb : nx < 4294967296
 ai : FreshI wr w.heap.size t4 at_
 ab : Fresh wr w.heap.size t5 tab
 ap : ∀ b, t4.ownBlock = some b → t5.ownBlock ≠ some b
 ld : LdAt wr L p G (d.n / 4) f
 ct : cnt f (d.n / 4) + at_.length = K0
 tb : tab.length ≤ 116 * at_.length
 rs : tbR d (K0 + 1) f0 nx0 [] [] = tbR d (cnt f (d.n / 4) + 1) f nx at_ tab
 on : Only (fun i => i = G) w wr
theorem ltables_any (L p G S B nx0 : Nat) (pv : Value) (d : DS) (f0 : Nat → Bool) (w : World) (h : DiskAt w B p S pv d) (hl : d.life ≠ 0) (hb : ByteD d) (hL : LdAt w L p G (d.n / 4) f0) (hdG : ¬ diskB p S pv G) (hnx : nx0 < 4294967296) :
  Calls Tryz.prog 96 #[.pointer (some ⟨L, 0, none⟩), .int .u32 nx0] w fun e w' => TbIs w L p G (d.n / 4) (tbR d (cnt f0 (d.n / 4) + 1) f0 nx0 [] []) e w' := by
 have n2 := h.n2
 obtain ⟨K0, hK0⟩ : ∃ K, K = cnt f0 (d.n / 4) := ⟨_, rfl⟩
 have hK : K0 ≤ 2048 := by have := cnt_le f0 (d.n / 4); omega
 have HI0 : Hid (TbI w w L p G d f0 nx0 K0 (.int .u32 nx0) (.slice none 0 0) (.slice none 0 0) nx0 f0 [] []) :=
  ⟨rfl, hnx, FreshI.nil _ _, ⟨World.ownsRow_nil _ _ _ _, by simp, by simp⟩, fun b e => by simp [Value.ownBlock] at e, hL, by simp [hK0], by simp, by rw [hK0], Only.refl _ _⟩
 have HLR : Hid (∀ wr f q, Only (fun i => i = G) w wr → LdAt wr L p G (d.n / 4) f → q < 4294967296 → Calls Tryz.prog 115 #[.pointer (some ⟨L, 0, none⟩), .int .u64 (q : Nat), .int .u32 2] wr fun e w' => LdIs wr L p G (d.n / 4) (ldR d f q 2) e w') := fun wr f q ho hl' hq => by
  have := lread_any L p G S B q 2 pv d f wr (h.frame ho (fun k hk e => hdG (e ▸ hk))) hl hb hl' hdG (by omega) (by omega)
  exact this
 have HGl : Hid (G < w.heap.size) := hL.fl.lt
 have HLl : Hid (L < w.heap.size) := World.block_lt_of_cell? _ _ hL.c0
 rw [← hK0]
 clear h hl hb hL hdG hnx hK0
 go_enter Tryz.func96, Tryz.ntmps96
 go_wp2
 go_loopw [1, 4, 5] (fun t1 t4 t5 wr => ∃ nx f at_ tab, TbI w wr L p G d f0 nx0 K0 t1 t4 t5 nx f at_ tab) (fun _ t4 _ _ => K0 - lenOf t4)
 case atStart => exact ⟨_, _, _, _, HI0.out⟩
 case round =>
  obtain ⟨nx, f, at_, tab, hI⟩ := hrel
  obtain rfl := hI.tq
  obtain ⟨w1, rfl⟩ : ∃ w1, w1 = wr := ⟨_, rfl⟩
  have hnx := hI.nb
  obtain ⟨a1, c1, rfl, -⟩ := hI.ai.form
  obtain ⟨a2, c2, rfl⟩ := hI.ab.form
  obtain ⟨q1, hq1⟩ : ∃ m, m = at_.length := ⟨_, rfl⟩
  obtain ⟨q2, hq2⟩ : ∃ m, m = tab.length := ⟨_, rfl⟩
  rw [← hq1, ← hq2] at hI
  rw [← hq1, ← hq2]
  have HQ : Hid (q1 = at_.length ∧ q2 = tab.length) := ⟨hq1, hq2⟩
  have HI : Hid _ := hI
  clear hq1 hq2
  by_cases h0 : nx = 0
  ·subst h0
   have n1 : (((0 : Nat) : Int) != 0) = false := rfl
   have HE : Hid (tbR d (K0 + 1) f0 nx0 [] [] = (f, some (at_, tab))) := hI.rs.trans (tbR_end ..)
   clear hI
   go_wp2
   go_ret3
   show TbIs w L p G (d.n / 4) _ _ _
   rw [HE.out]
   exact ⟨HI.out.ld, HI.out.on, _, _, rfl, HI.out.ai, HI.out.ab, HI.out.ap⟩
  have n1 : ((nx : Int) != 0) = true := by simpa using h0
  have n64 : IntKind.u64.wrap (nx : Int) = (nx : Int) := by rw [IntKind.wrap_u64]; omega
  have i64 : IntKind.i64.wrap (nx : Int) = (nx : Int) := by rw [IntKind.wrap_i64]; omega
  have HC : Hid (Calls Tryz.prog 115 #[.pointer (some ⟨L, 0, none⟩), .int .u64 (nx : Nat), .int .u32 2] w1 fun e w' => LdIs w1 L p G (d.n / 4) (ldR d f nx 2) e w') := HLR.out w1 f nx hI.on hI.ld hnx
  clear hI
  go_wp2_with fail
  refine (show Calls Tryz.prog 115 _ _ _ from HC.out).mono ?_
  intro e w2 hr
  clear HC
  have HL2 : Hid (LdAt w2 L p G (d.n / 4) (ldR d f nx 2).1) := hr.1
  have HO2 : Hid (Only (fun i => i = G) w1 w2) := hr.2.1
  have ON2 : Hid (Only (fun i => i = G) w w2) := HI.out.on.trans hr.2.1 (fun _ _ e => e)
  obtain ⟨_, _, hr⟩ := hr
  cases hq : (ldR d f nx 2).2 with
  | none =>
    rw [hq] at hr
    obtain rfl := hr
    have HE : Hid (tbR d (K0 + 1) f0 nx0 [] [] = ((ldR d f nx 2).1, none)) := HI.out.rs.trans (tbR_none h0 hq _ _ _)
    clear hq h0
    go_wp2
    go_ret3
    show TbIs w L p G (d.n / 4) _ _ _
    rw [HE.out]
    exact ⟨HL2.out, ON2.out, rfl⟩
  | some D =>
    rw [hq] at hr
    obtain ⟨u, rfl, hu⟩ := hr
    obtain ⟨a, c, rfl, hcap, hcc⟩ := hu.bytes.form
    obtain ⟨m, hm⟩ : ∃ m, m = D.length := ⟨_, rfl⟩
    rw [← hm] at hu hcap hcc
    rw [← hm]
    by_cases h4 : m < 4
    ·have m4 : (m : Int) < 4 := by omega
     have HE : Hid (tbR d (K0 + 1) f0 nx0 [] [] = ((ldR d f nx 2).1, none)) := HI.out.rs.trans (tbR_short h0 hq (by omega) _ _ _)
     clear hq h0 hu hcap hcc hm h4
     go_wp2
     go_ret3
     show TbIs w L p G (d.n / 4) _ _ _
     rw [HE.out]
     exact ⟨HL2.out, ON2.out, rfl⟩
    have m4 : ¬ (m : Int) < 4 := by omega
    have m4' : (4 : Int) ≤ (m : Int) := by omega
    obtain ⟨g, o, rfl, -⟩ := hcc 0 (by omega)
    obtain ⟨s1, s2, s3, s4⟩ := ldR_some hq
    have hB2 : w.heap.size ≤ w2.heap.size := ON2.out.size
    have hB12 : w1.heap.size ≤ w2.heap.size := HO2.out.size
    have l1 := fun b e => HI.out.ai.1.lt b e
    have l2 := fun b e => own_lt HI.out.ab b e
    have lu := fun b e => own_lt hu b e
    have hgl : w1.heap.size ≤ g := (lu g (by simp [Value.ownBlock])).1
    have hGl := HGl.out
    have hLl := HLl.out
    have ai2 : FreshI w2 w.heap.size (.slice a1 q1 c1) at_ := ⟨HO2.out.owns HI.out.ai.1 (fun k hk e => by have := (l1 k hk).1; omega), HI.out.ai.2⟩
    have ab2 : Fresh w2 w.heap.size (.slice a2 q2 c2) tab := ⟨HO2.out.owns HI.out.ab.1 (fun k hk e => by have := (l2 k hk).1; omega), HI.out.ab.2⟩
    have hct : cnt (ldR d f nx 2).1 (d.n / 4) + 1 = cnt f (d.n / 4) := by rw [s3]; exact cnt_set f nx s2 _ s1
    have hat : at_.length + 1 ≤ K0 := by have := HI.out.ct; omega
    obtain ⟨a5, c5, w3, hr5, hf5, ho5, hb5⟩ := app_int2 ai2 hB2 nx (by omega)
    have hB3 : w2.heap.size ≤ w3.heap.size := ho5.size
    have ab3 : Fresh w3 w.heap.size (.slice a2 q2 c2) tab := ⟨ho5.owns ab2.1 (fun k hk e => HI.out.ap k e hk), ab2.2⟩
    have hu3 : BytesAt w3 (.slice (some ⟨g, o, none⟩) m c) D := hu.bytes.keep ho5 (fun b hb e => by
     simp [Value.ownBlock] at hb
     have := (l1 b e).2; omega)
    obtain ⟨a6, c6, hr6, hb6, -⟩ := slice_four g o m c hu3 hm.symm (by omega) hcap
    obtain ⟨a7, c7, w4, hr7, hf7, ho7, hb7⟩ := app_fresh2 ab3 hb6 (by omega) (by rw [List.length_drop]; have := HI.out.tb; omega)
    have hu4 : BytesAt w4 (.slice (some ⟨g, o, none⟩) m c) D := hu3.keep ho7 (fun b hb e => by
     simp [Value.ownBlock] at hb
     have := (l2 b e).2; omega)
    have HN : Hid (Calls Tryz.prog 114 #[.slice (some ⟨g, o, none⟩) 4 c] w4 fun e w' => e = .returned (.int .u64 (part D 0 4 : Nat)) ∧ w' = w4) := snum_any _ _ w4 (hu4.take (by omega)) (by rw [List.length_take]; omega)
    have hp := part_lt hu.2.2 0 4
    have p32 : IntKind.u32.wrap ((part D 0 4 : Nat) : Int) = ((part D 0 4 : Nat) : Int) := by rw [IntKind.wrap_u32]; omega
    have c4 : (4 : Int) ≤ (c : Int) := by omega
    rw [← HQ.out.1] at hr5 hf5 hb5
    have e7 : tab.length + (D.drop 4).length = q2 + (m - 4) := by rw [List.length_drop, HQ.out.2, hm]
    rw [e7] at hr7 hf7 hb7
    have HR5 : Hid _ := hr5
    have HR7 : Hid _ := hr7
    have o4 : Only (fun i => w.heap.size ≤ i) w2 w4 := (ho5.mono (fun k _ e => (l1 k e).1)).trans (ho7.mono (fun k _ e => (l2 k e).1)) (fun _ _ e => e)
    have HNW : Hid (TbI w w4 L p G d f0 nx0 K0 (.int .u32 (part D 0 4 : Nat)) (.slice a5 (q1 + 1) c5) (.slice a7 (q2 + (m - 4)) c7) (part D 0 4) (ldR d f nx 2).1 (at_ ++ [nx]) (tab ++ D.drop 4)) := by
     refine ⟨rfl, by omega, ⟨ho7.owns hf5.1 ?_, hf5.2⟩, hf7, ?_, HL2.out.frame o4 (by omega) (by omega), ?_, ?_, ?_, ON2.out.trans o4 (fun i hi e => by omega)⟩
     ·intro k hk e
      rcases hb5 k hk with e5 | e5
      ·exact HI.out.ap k e5 e
      ·have := (l2 k e).2; omega
     ·intro b e5 e7'
      have hlt := (hf5.1.lt b e5).2
      rcases hb7 b e7' with e8 | e8
      ·rcases hb5 b e5 with e9 | e9
       ·exact HI.out.ap b e9 e8
       ·have := (l2 b e8).2; omega
      ·omega
     ·rw [List.length_append]; have := HI.out.ct; simp only [List.length_singleton]; omega
     ·rw [List.length_append, List.length_append, List.length_drop]; have := HI.out.tb; simp only [List.length_singleton]; omega
     ·rw [HI.out.rs, tbR_go h0 hq (by omega), hct]
    have hA : q1 + 1 ≤ K0 := by have := HQ.out.1; omega
    have HAT : Hid (q1 + 1 ≤ K0) := hA
    clear hA
    clear hq h0 hu hcap hcc hm h4 s1 s2 s3 s4 l1 l2 lu ai2 ab2 ab3 hu3 hu4 hb6 hb7 hb5 hf5 hf7 ho5 ho7 o4 hr5 hr7 hct hat e7 hp hgl hGl hLl hB2 hB12 hB3
    go_wp2_with (first
     | (at_builtin; refine wpList_append_run rfl _ _ 76 rfl _ _ (.slice a5 (q1 + 1) c5) rfl rfl HR5.out ?_)
     | (at_builtin; refine wpList_append_run rfl _ _ 37 rfl _ _ (.slice a7 (q2 + (m - 4)) c7) rfl rfl HR7.out ?_)
     | (go_at_call 114; refine (show Calls Tryz.prog 114 _ _ _ from HN.out).mono ?_; rintro e wz ⟨rfl, rfl⟩))
    go_roundw
    case rel => exact ⟨_, _, _, _, HNW.out⟩
    case measure => simp [lenOf]; have := HAT.out; omega
theorem load3 (a : Addr) (x : Value) (w : World) (h : w.cell? a = some x) : (loadVar 3 a).run Tryz.prog w = .ok x w := by
 simp [loadVar, isAgg, go_sem, Tryz.underlying3, h]
theorem results_mix {fn : Func} {t u v : Tmp} (h : fn.results = #[.tmp t, .cell u 3, .tmp v]) (tmps : Array Value) (w : World) (a : Addr) (x : Value) (ha : tmps.getD u undef = .pointer (some a)) (hx : w.cell? a = some x) :
  (results fn tmps).run Tryz.prog w = .ok (.tuple #[tmps.getD t undef, x, tmps.getD v undef]) w := by
 have hl := load3 a x w hx
 have ha' : tmps[u]?.getD undef = .pointer (some a) := by simpa using ha
 simp [results, h, ha', asAddr, hx, go_sem]
def rdV (r : Option (Nat × Nat)) : Value := match r with
 | some (m, q) => .tuple #[.int .u64 (m : Nat), .int .i64 (q : Nat), .int .i64 0]
 | none => .tuple #[.int .u64 0, .int .i64 0, .int .i64 9]
theorem sread_any (v : Value) (p : Nat) (zs : List Nat) (w : World) (h : BytesAt w v zs) (hp : p ≤ zs.length) :
  Calls Tryz.prog 116 #[v, .int .i64 p] w fun e w' => e = .returned (rdV (rd zs p 0 0)) ∧ Only (fun _ => False) w w' := by
 obtain ⟨a, c, rfl, hcap, hc⟩ := h.form
 obtain ⟨n, hn⟩ : ∃ m, m = zs.length := ⟨_, rfl⟩
 rw [← hn]
 rw [← hn] at h hp
 have p0 : (0 : Int) ≤ (p : Int) := by omega
 have p1 : ¬ (n : Int) < (p : Int) := by omega
 obtain ⟨W, hW⟩ : ∃ W, W = (w.alloc (.cells #[.slice a n c] 37)).alloc (.cells #[.int .i64 p] 3) := ⟨_, rfl⟩
 have oW : Only (fun _ => False) w W := by rw [hW]; exact ((Only.refl _ w).alloc _).alloc _
 have hN : W.heap[w.heap.size + 1]? = some (.cells #[.int .i64 p] 3) := by rw [hW]; exact heap_alloc2_new w _ _
 have hB : W.heap[w.heap.size]? = some (.cells #[.slice a n c] 37) := by rw [hW]; exact heap_alloc2_old w _ _
 have x1 : W.cell? ⟨w.heap.size + 1, 0, none⟩ = some (.int .i64 p) := by rw [cell_of_row _ _ _ _ _ _ hN]; rfl
 have x2 : W.cell? ⟨w.heap.size, 0, none⟩ = some (.slice a n c) := by rw [cell_of_row _ _ _ _ _ _ hB]; rfl
 have x3 : W.frozen? ⟨w.heap.size + 1, 0, none⟩ = false := frozen_of_row _ _ _ _ _ hN
 have hB0 : 0 < zs.length → ∀ b, (Value.slice a n c).ownBlock = some b → b ≠ w.heap.size + 1 := fun hz b hb e => by
  obtain ⟨g, o, c', hv, _, hg⟩ := h.1.at (by omega)
  rw [hv] at hb
  simp [Value.ownBlock] at hb
  omega
 have HNB := numb_any (w.heap.size + 1) w.heap.size p (.slice a n c) zs W (h.frame oW) (by omega) x1 x3 x2 (by omega) hB0
 have HOW : Hid (Only (fun _ => False) w W) := oW
 rw [hW] at HNB
 clear oW hN hB x1 x3 hB0 h hc hcap hn
 have x2' : ((w.alloc (.cells #[.slice a n c] 37)).alloc (.cells #[.int .i64 0] 3)).cell? ⟨w.heap.size, 0, none⟩ = some (.slice a n c) := by
  rw [cell_of_row _ _ _ _ _ _ (heap_alloc2_old w _ _)]; rfl
 clear x2
 have hmf : ∀ (fn : Fn) (first cap : Array Value) (w : World), (Instr.makeFunc fn first cap).run Tryz.prog w = .ok (.func fn first cap) w := fun _ _ _ _ => rfl
 have HW : Hid (W = (w.alloc (.cells #[.slice a n c] 37)).alloc (.cells #[.int .i64 p] 3)) := hW
 clear hW
 go_enter Tryz.func116, Tryz.ntmps116
 go_wp2_with fail
 refine HNB.mono ?_
 rintro e w2 ⟨hnum, hfz, ho⟩
 have HO2 : Hid (Only (fun _ => False) w w2) := by
  rw [← HW.out] at ho
  exact HOW.out.trans ho (fun i hi e => by omega)
 clear HNB HOW HW ho x2'
 rcases hnum with ⟨m, q, hr, rfl, hcell⟩ | ⟨x, y, hr, rfl, hcell⟩
 ·have HR : Hid (rd zs p 0 0 = some (m, q)) := hr
  have HCE : Hid (w2.cell? ⟨w.heap.size + 1, 0, none⟩ = some (.int .i64 (q : Nat))) := hcell
  clear hr
  have HO3 : Hid (Only (fun _ => False) w ((w2.setCell ⟨w.heap.size + 1, 0, none⟩ (.int .i64 (q : Nat))))) := HO2.out.setCell _ _ (fun h => by simp at h; omega)
  have HC3 : Hid ((w2.setCell ⟨w.heap.size + 1, 0, none⟩ (.int .i64 (q : Nat))).cell? ⟨w.heap.size + 1, 0, none⟩ = some (.int .i64 (q : Nat))) := World.cell?_setCell_same _ _ _ hcell
  go_wp2_with fail
  go_region
  all_goals
   go_wp2
   refine bodyPost_ret (results_mix rfl _ _ ⟨w.heap.size + 1, 0, none⟩ (.int .i64 (q : Nat)) rfl HC3.out) rfl ?_
   exact ⟨by rw [HR.out]; rfl, HO3.out.drew⟩
 ·have HR : Hid (rd zs p 0 0 = none) := hr
  have HO3 : Hid (Only (fun _ => False) w ((w2.setCell ⟨w.heap.size + 1, 0, none⟩ (.int .i64 0)))) := HO2.out.setCell _ _ (fun h => by simp at h; omega)
  have HC3 : Hid ((w2.setCell ⟨w.heap.size + 1, 0, none⟩ (.int .i64 0)).cell? ⟨w.heap.size + 1, 0, none⟩ = some (.int .i64 0)) := World.cell?_setCell_same _ _ _ hcell
  clear hr
  go_wp2
  refine bodyPost_ret (results_mix rfl _ _ ⟨w.heap.size + 1, 0, none⟩ (.int .i64 0) rfl HC3.out) rfl ?_
  exact ⟨by rw [HR.out]; rfl, HO3.out⟩
theorem PMap.put {w : World} {av : Nat → Prop} {m : Nat} {l : Pgs} (h : PMap w av m l) (hav : av m) (i : Int) (hi : 0 ≤ i ∧ i < 728) (hl : l.length ≤ 728) (P : Nat) (a : Option Addr) (n c : Nat) (D : List Nat) (hu : BytesAt w (.slice a n c) D) (hub : ∀ b, (Value.slice a n c).ownBlock = some b → b < w.heap.size ∧ ¬ av b) :
  ∃ w2, (Instr.mapUpdate 77 (.map (some m)) (.int .i64 i) (.agg #[.int .i64 (P : Nat), .slice a n c])).run Tryz.prog w = .ok () w2 ∧ PMap w2 av m (putL l i (P, D)) ∧ Only (fun k => k = m) w w2 := by
 obtain ⟨sl, hm, hs⟩ := h
 have hlen : (l.map fun p => (p.1, pgV sl p)).length < maxLen := by
  rw [List.length_map]
  unfold maxLen
  omega
 obtain ⟨w2, hr, hm2, ho2, hsz⟩ := hm.store i (by omega) hlen (.agg #[.int .i64 (P : Nat), .slice a n c])
 refine ⟨w2, hr, ⟨fun k => if k = i then .slice a n c else sl k, ?_, fun q hq => ?_⟩, ho2⟩
 ·have e := putL_map (pgV sl) (pgV (fun k => if k = i then .slice a n c else sl k)) (i, P, D) l (fun p hp => by simp only [pgV]; rw [if_neg hp])
  rw [← e]
  have e2 : pgV (fun k => if k = i then .slice a n c else sl k) (i, P, D) = .agg #[.int .i64 (P : Nat), .slice a n c] := by simp [pgV]
  rw [e2]
  exact hm2
 ·rcases (putL_mem _ _ _ _).1 hq with rfl | ⟨hq, hne⟩
  ·simp only [if_true]
   refine ⟨hu.keep ho2 (fun b hb e => (hub b hb).2 (e ▸ hav)), fun b hb => ⟨?_, (hub b hb).2⟩⟩
   have := (hub b hb).1; omega
  ·obtain ⟨hb1, hb2⟩ := hs q hq
   simp only [if_neg hne]
   refine ⟨hb1.keep ho2 (fun b hb e => (hb2 b hb).2 (e ▸ hav)), fun b hb => ⟨by have := (hb2 b hb).1; omega, (hb2 b hb).2⟩⟩
def pgsR (d : DS) (tab : List Nat) : Nat → (Nat → Bool) → Nat → Nat → Pgs → (Nat → Bool) × Option Pgs
 | 0, f, _, _, _ => (f, none)
 | k + 1, f, least, pos, m => if tab.length ≤ pos then (f, some m) else
   match rd tab pos 0 0 with
   | none => (f, none)
   | some (i, q) => if i < least ∨ 728 ≤ i then (f, none) else
     match rd tab q 0 0 with
     | none => (f, none)
     | some (P, z) =>
       match (ldR d f P (3 + 256 * i)).2 with
       | none => ((ldR d f P (3 + 256 * i)).1, none)
       | some D => pgsR d tab k (ldR d f P (3 + 256 * i)).1 (i + 1) z (putL m (i : Int) (P, D))
section
variable {d : DS} {tab : List Nat} {f : Nat → Bool} {least pos i q P z : Nat} {m : Pgs} {D : List Nat}
theorem pgsR_end (h : tab.length ≤ pos) (k : Nat) : pgsR d tab (k + 1) f least pos m = (f, some m) := by rw [pgsR, if_pos h]
theorem pgsR_none1 (h : ¬ tab.length ≤ pos) (h1 : rd tab pos 0 0 = none) (k : Nat) : pgsR d tab (k + 1) f least pos m = (f, none) := by rw [pgsR, if_neg h, h1]
theorem pgsR_low (h : ¬ tab.length ≤ pos) (h1 : rd tab pos 0 0 = some (i, q)) (hi : i < least ∨ 728 ≤ i) (k : Nat) : pgsR d tab (k + 1) f least pos m = (f, none) := by
 rw [pgsR, if_neg h, h1]; exact if_pos hi
theorem pgsR_none2 (h : ¬ tab.length ≤ pos) (h1 : rd tab pos 0 0 = some (i, q)) (hi : ¬ (i < least ∨ 728 ≤ i)) (h2 : rd tab q 0 0 = none) (k : Nat) : pgsR d tab (k + 1) f least pos m = (f, none) := by
 rw [pgsR, if_neg h, h1]; refine (if_neg hi).trans ?_; rw [h2]
theorem pgsR_not (h : ¬ tab.length ≤ pos) (h1 : rd tab pos 0 0 = some (i, q)) (hi : ¬ (i < least ∨ 728 ≤ i)) (h2 : rd tab q 0 0 = some (P, z)) (h3 : (ldR d f P (3 + 256 * i)).2 = none) (k : Nat) : pgsR d tab (k + 1) f least pos m = ((ldR d f P (3 + 256 * i)).1, none) := by
 rw [pgsR, if_neg h, h1]; refine (if_neg hi).trans ?_; rw [h2]; simp only [h3]
theorem pgsR_go (h : ¬ tab.length ≤ pos) (h1 : rd tab pos 0 0 = some (i, q)) (hi : ¬ (i < least ∨ 728 ≤ i)) (h2 : rd tab q 0 0 = some (P, z)) (h3 : (ldR d f P (3 + 256 * i)).2 = some D) (k : Nat) : pgsR d tab (k + 1) f least pos m = pgsR d tab k (ldR d f P (3 + 256 * i)).1 (i + 1) z (putL m (i : Int) (P, D)) := by
 rw [pgsR, if_neg h, h1]; refine (if_neg hi).trans ?_; rw [h2]; simp only [h3]
end
theorem rd_ok {zs : List Nat} {p m q : Nat} (h : rd zs p 0 0 = some (m, q)) : m < 9223372036854775808 ∧ p < q ∧ q ≤ zs.length := rd_some 9 0 0 rfl (by decide) h
def PgsIs (w : World) (L p G n : Nat) (r : (Nat → Bool) × Option Pgs) (e : Ending) (w' : World) : Prop :=
 LdAt w' L p G n r.1 ∧ Only (fun i => i = G) w w' ∧ match r.2 with
 | none => e = .returned (.tuple #[.map none, .bool false])
 | some l => e = .returned (.tuple #[.map (some w.heap.size), .bool true]) ∧ PMap w' (fun k => k ≤ w.heap.size) w.heap.size l
structure PgI (w wr : World) (L p G : Nat) (d : DS) (tab : List Nat) (R : (Nat → Bool) × Option Pgs) (f : Nat → Bool) (least pos : Nat) (m : Pgs) : Prop where
 le : least ≤ 728
 ps : pos ≤ tab.length
 ld : LdAt wr L p G (d.n / 4) f
 mp : PMap wr (fun k => k ≤ w.heap.size) w.heap.size m
 ky : ∀ x ∈ m, 0 ≤ x.1 ∧ x.1 < 728
 rs : ∃ k, R = pgsR d tab k f least pos m ∧ tab.length - pos < k
 on : Only (fun i => i = G) w wr
theorem lpages_any (L p G S B : Nat) (pv v : Value) (d : DS) (f0 : Nat → Bool) (tab : List Nat) (w : World) (h : DiskAt w B p S pv d) (hl : d.life ≠ 0) (hb : ByteD d) (hL : LdAt w L p G (d.n / 4) f0) (hdG : ¬ diskB p S pv G) (hv : BytesAt w v tab) (hvb : ∀ b, v.ownBlock = some b → b ≠ G ∧ b < w.heap.size) :
  Calls Tryz.prog 97 #[.pointer (some ⟨L, 0, none⟩), v] w fun e w' => PgsIs w L p G (d.n / 4) (pgsR d tab (tab.length + 1) f0 0 0 []) e w' := by
 have n2 := h.n2
 obtain ⟨M, hM⟩ : ∃ M, M = w.heap.size := ⟨_, rfl⟩
 obtain ⟨R, hR⟩ : ∃ R, R = pgsR d tab (tab.length + 1) f0 0 0 [] := ⟨_, rfl⟩
 rw [← hR]
 have hGl : G < M := hM ▸ hL.fl.lt
 have hLl : L < M := hM ▸ World.block_lt_of_cell? _ _ hL.c0
 have o0 : Only (fun _ => False) w (w.alloc (.map #[] 0)) := (Only.refl _ w).alloc _
 have HI0 : Hid (PgI w (w.alloc (.map #[] 0)) L p G d tab R f0 0 0 []) := by
  refine ⟨by omega, by omega, hL.frame o0 (fun e => e) (fun e => e), ⟨fun _ => .slice none 0 0, ?_, fun x hx => (by cases hx)⟩, fun x hx => (by cases hx), ⟨_, hR, by omega⟩, o0.mono (fun _ _ e => e.elim)⟩
  exact MapAt.made w
 have HLR : Hid (∀ wr f q i, Only (fun k => k = G) w wr → LdAt wr L p G (d.n / 4) f → q < 9223372036854775808 → i < 728 → Calls Tryz.prog 115 #[.pointer (some ⟨L, 0, none⟩), .int .u64 (q : Nat), .int .u32 ((3 + 256 * i : Nat) : Int)] wr fun e w' => LdIs wr L p G (d.n / 4) (ldR d f q (3 + 256 * i)) e w') := fun wr f q i ho hl' hq hi =>
  lread_any L p G S B q (3 + 256 * i) pv d f wr (h.frame ho (fun k hk e => hdG (e ▸ hk))) hl hb hl' hdG (by omega) (by omega)
 have HSR : Hid (∀ wr q, Only (fun k => k = G) w wr → q ≤ tab.length → Calls Tryz.prog 116 #[v, .int .i64 (q : Nat)] wr fun e w' => e = .returned (rdV (rd tab q 0 0)) ∧ Only (fun _ => False) wr w') := fun wr q ho hq =>
  sread_any v q tab wr (hv.keep ho (fun b hb e => (hvb b hb).1 e)) hq
 have HGl : Hid (G < M ∧ L < M) := ⟨hGl, hLl⟩
 have HM : Hid (M = w.heap.size) := hM
 have htl := hv.2.1
 obtain ⟨a0, c0, rfl, -⟩ := hv.form
 obtain ⟨n, hn⟩ : ∃ n, n = tab.length := ⟨_, rfl⟩
 have HN : Hid (n = tab.length) := hn
 rw [← hn] at HSR htl
 rw [← hn]
 have hmm : (Instr.makeMap 77 none).run Tryz.prog w = .ok (.map (some w.heap.size)) (w.alloc (.map #[] 0)) := by kernel_rfl
 clear h hl hb hL hdG hv hvb hR hM hGl hLl o0 hn
 go_enter Tryz.func97, Tryz.ntmps97
 go_wp2
 rw [← HM.out]
 go_loopw [4, 6, 7] (fun t4 t6 t7 wr => ∃ least pos f m, t4 = .map (some M) ∧ t6 = .int .u64 (least : Nat) ∧ t7 = .int .i64 (pos : Nat) ∧ PgI w wr L p G d tab R f least pos m) (fun _ _ t7 _ => n - (intOf t7).toNat)
 case atStart => exact ⟨0, 0, _, _, rfl, rfl, rfl, HI0.out⟩
 case round =>
  obtain ⟨least, pos, f, m, rfl, rfl, rfl, hI⟩ := hrel
  obtain ⟨w1, rfl⟩ : ∃ w1, w1 = wr := ⟨_, rfl⟩
  have HI : Hid _ := hI
  obtain ⟨k0, hRk, hk0⟩ := hI.rs
  obtain ⟨k, rfl⟩ : ∃ k, k0 = k + 1 := ⟨k0 - 1, by omega⟩
  have hle := hI.le
  have hps := hI.ps
  rw [← HN.out] at hps hk0
  by_cases hpn : pos < n
  ·have p1 : (pos : Int) < (n : Int) := by omega
   have hnp : ¬ tab.length ≤ pos := by rw [← HN.out]; omega
   have HS1 := HSR.out w1 pos hI.on (by omega)
   have HS1' : Hid _ := HS1
   have HRk : Hid (R = pgsR d tab (k + 1) f least pos m) := hRk
   clear hI hRk HS1
   cases h1 : rd tab pos 0 0 with
   | none =>
     rw [h1] at HS1'
     have HE : Hid (R = (f, none)) := HRk.out.trans (pgsR_none1 hnp h1 _)
     clear h1
     go_wp2_with fail
     refine (show Calls Tryz.prog 116 _ _ _ from HS1'.out).mono ?_
     rintro e w2 ⟨rfl, ho2⟩
     have HF : Hid (LdAt w2 L p G (d.n / 4) f ∧ Only (fun i => i = G) w w2) := ⟨HI.out.ld.frame ho2 (fun e => e) (fun e => e), HI.out.on.trans ho2 (fun _ _ e => e.elim)⟩
     clear ho2 HS1'
     simp only [rdV]
     go_wp2
     go_ret2
     show PgsIs w L p G (d.n / 4) _ _ _
     rw [HE.out]
     exact ⟨HF.out.1, HF.out.2, rfl⟩
   | some y =>
     obtain ⟨i, q⟩ := y
     rw [h1] at HS1'
     obtain ⟨i1, i2, i3⟩ := rd_ok h1
     rw [← HN.out] at i3
     by_cases hi : i < least ∨ 728 ≤ i
     ·have HE : Hid (R = (f, none)) := HRk.out.trans (pgsR_low hnp h1 hi _)
      clear h1
      go_wp2_with fail
      refine (show Calls Tryz.prog 116 _ _ _ from HS1'.out).mono ?_
      rintro e w2 ⟨rfl, ho2⟩
      have HF : Hid (LdAt w2 L p G (d.n / 4) f ∧ Only (fun i => i = G) w w2) := ⟨HI.out.ld.frame ho2 (fun e => e) (fun e => e), HI.out.on.trans ho2 (fun _ _ e => e.elim)⟩
      clear ho2 HS1'
      simp only [rdV]
      have HFIN : Hid (PgsIs w L p G (d.n / 4) R (.returned (.tuple #[.map none, .bool false])) w2) := by
       show PgsIs w L p G (d.n / 4) _ _ _
       rw [HE.out]
       exact ⟨HF.out.1, HF.out.2, rfl⟩
      clear HF HE
      by_cases hil : i < least
      ·have j1 : (i : Int) < (least : Int) := by omega
       go_wp2
       go_ret2
       exact HFIN.out
      ·have j1 : ¬ (i : Int) < (least : Int) := by omega
       have j2 : (728 : Int) ≤ (i : Int) := by omega
       go_wp2
       go_ret2
       exact HFIN.out
     have j1 : ¬ (i : Int) < (least : Int) := by omega
     have j2 : ¬ (728 : Int) ≤ (i : Int) := by omega
     have H1 : Hid (rd tab pos 0 0 = some (i, q) ∧ ¬ (i < least ∨ 728 ≤ i)) := ⟨h1, hi⟩
     clear h1
     go_wp2_with fail
     refine (show Calls Tryz.prog 116 _ _ _ from HS1'.out).mono ?_
     rintro e w2 ⟨rfl, ho2⟩
     have HO2 : Hid (Only (fun _ => False) w1 w2) := ho2
     have HF : Hid (LdAt w2 L p G (d.n / 4) f ∧ Only (fun i => i = G) w w2) := ⟨HI.out.ld.frame ho2 (fun e => e) (fun e => e), HI.out.on.trans ho2 (fun _ _ e => e.elim)⟩
     have HS2 : Hid _ := HSR.out w2 q HF.out.2 (by omega)
     clear ho2 HS1'
     simp only [rdV]
     cases h2 : rd tab q 0 0 with
     | none =>
       rw [h2] at HS2
       have HE : Hid (R = (f, none)) := HRk.out.trans (pgsR_none2 hnp H1.out.1 H1.out.2 h2 _)
       clear h2
       go_wp2_with fail
       refine (show Calls Tryz.prog 116 _ _ _ from HS2.out).mono ?_
       rintro e w3 ⟨rfl, ho3⟩
       have HF3 : Hid (LdAt w3 L p G (d.n / 4) f ∧ Only (fun i => i = G) w w3) := ⟨HF.out.1.frame ho3 (fun e => e) (fun e => e), HF.out.2.trans ho3 (fun _ _ e => e.elim)⟩
       clear ho3 HS2
       simp only [rdV]
       go_wp2
       go_ret2
       show PgsIs w L p G (d.n / 4) _ _ _
       rw [HE.out]
       exact ⟨HF3.out.1, HF3.out.2, rfl⟩
     | some y2 =>
       obtain ⟨P, z⟩ := y2
       rw [h2] at HS2
       have H2 : Hid (rd tab q 0 0 = some (P, z)) := h2
       obtain ⟨P1, P2, P3⟩ := rd_ok h2
       rw [← HN.out] at P3
       clear h2
       have wi : IntKind.i64.wrap (i : Int) = (i : Int) := by rw [IntKind.wrap_i64]; omega
       have wP : IntKind.i64.wrap (P : Int) = (P : Int) := by rw [IntKind.wrap_i64]; omega
       have wi1 : IntKind.u64.wrap ((i : Int) + 1) = (i : Int) + 1 := by rw [IntKind.wrap_u64]; omega
       go_wp2_with fail
       refine (show Calls Tryz.prog 116 _ _ _ from HS2.out).mono ?_
       rintro e w3 ⟨rfl, ho3⟩
       have HO3 : Hid (Only (fun _ => False) w1 w3) := HO2.out.trans ho3 (fun _ _ e => e)
       have HF3 : Hid (LdAt w3 L p G (d.n / 4) f ∧ Only (fun i => i = G) w w3) := ⟨HF.out.1.frame ho3 (fun e => e) (fun e => e), HF.out.2.trans ho3 (fun _ _ e => e.elim)⟩
       have HDI : Hid _ := dataid_any i (by omega) w3
       have HRD : Hid _ := HLR.out w3 f P i HF3.out.2 HF3.out.1 P1 (by omega)
       clear ho3 HS2
       simp only [rdV]
       go_wp2_with (go_at_call 83; refine (show Calls Tryz.prog 83 _ _ _ from HDI.out).mono ?_; rintro e w3 ⟨rfl, rfl⟩)
       refine (show Calls Tryz.prog 115 _ _ _ from HRD.out).mono ?_
       intro e w4 hr
       clear HRD HDI
       have HL4 : Hid (LdAt w4 L p G (d.n / 4) (ldR d f P (3 + 256 * i)).1) := hr.1
       have HO4 : Hid (Only (fun i => i = G) w3 w4) := hr.2.1
       have ON4 : Hid (Only (fun i => i = G) w w4) := HF3.out.2.trans hr.2.1 (fun _ _ e => e)
       obtain ⟨_, _, hr⟩ := hr
       cases hq : (ldR d f P (3 + 256 * i)).2 with
       | none =>
         rw [hq] at hr
         obtain rfl := hr
         have HE : Hid (R = ((ldR d f P (3 + 256 * i)).1, none)) := HRk.out.trans (pgsR_not hnp H1.out.1 H1.out.2 H2.out hq _)
         clear hq
         go_wp2
         go_ret2
         show PgsIs w L p G (d.n / 4) _ _ _
         rw [HE.out]
         exact ⟨HL4.out, ON4.out, rfl⟩
       | some D =>
         rw [hq] at hr
         obtain ⟨u, rfl, hu⟩ := hr
         obtain ⟨a, c, rfl⟩ := hu.form
         have HE : Hid (R = pgsR d tab k (ldR d f P (3 + 256 * i)).1 (i + 1) z (putL m (i : Int) (P, D))) := HRk.out.trans (pgsR_go hnp H1.out.1 H1.out.2 H2.out hq _)
         obtain ⟨dl, hdl⟩ : ∃ x, x = D.length := ⟨_, rfl⟩
         rw [← hdl] at hu
         rw [← hdl]
         have lu := fun b e => own_lt hu b e
         have hM := HM.out
         have s1 := HI.out.on.size
         have s3 : w1.heap.size ≤ w3.heap.size := HO3.out.size
         have m1 := HI.out.mp.lt
         have mp4 : PMap w4 (fun k => k ≤ w.heap.size) w.heap.size m := ((HI.out.mp.frame HO3.out (fun e => e) (fun _ _ e => e.elim) (fun _ _ e => e)).frame HO4.out (by have := HGl.out.1; omega) (fun k _ e => by have := HGl.out.1; omega) (fun _ _ e => e))
         have hlen : m.length ≤ 728 := by
          have := Rise.len (a := 0) (b := 728) HI.out.mp.rise HI.out.ky
          simp at this
          omega
         obtain ⟨w5, hup, mp5, ho5⟩ := mp4.put (Nat.le_refl _) (i : Int) (by omega) hlen P a dl c D hu.bytes (fun b hb => ⟨(lu b hb).2, by have := (lu b hb).1; omega⟩)
         have HNW : Hid (PgI w w5 L p G d tab R (ldR d f P (3 + 256 * i)).1 (i + 1) z (putL m (i : Int) (P, D))) := by
          refine ⟨by omega, by rw [← HN.out]; exact P3, HL4.out.frame ho5 (by have := HGl.out; omega) (by have := HGl.out; omega), mp5, fun x hx => ?_, ⟨k, HE.out, by rw [← HN.out]; omega⟩, ON4.out.trans ho5 (fun j hj e => by omega)⟩
          rcases (putL_mem _ _ _ _).1 hx with rfl | ⟨hx, _⟩
          ·exact ⟨by show (0 : Int) ≤ (i : Int); omega, by show (i : Int) < 728; omega⟩
          ·exact HI.out.ky x hx
         rw [← hM] at hup
         clear hq hu hdl lu hM s1 s3 m1 mp4 hlen mp5 ho5 hnp
         go_wp2
         go_roundw
         case rel => exact ⟨i + 1, z, _, _, rfl, by go_num, by go_num, HNW.out⟩
         case measure => simp [intOf]; omega
  ·have p1 : ¬ (pos : Int) < (n : Int) := by omega
   have HE : Hid (R = (f, some m)) := hRk.trans (pgsR_end (by rw [← HN.out]; omega) _)
   clear hI hRk
   go_wp2
   go_ret2
   show PgsIs w L p G (d.n / 4) _ _ _
   rw [HE.out]
   exact ⟨HI.out.ld, HI.out.on, by rw [HM.out]; rfl, HI.out.mp⟩
def tk : Nat → Bool := fun j => decide (j < 2)
def loadP (d : DS) (q : Nat) (x : (Nat → Bool) × Option (List Nat × List Nat)) : Option SS := match x.2 with
 | none => none
 | some (at_, tab) => if at_.length = rtC (secN (d.sec q)) then
   (pgsR d tab (tab.length + 1) x.1 0 0 []).2.map fun m => ⟨d.n / 4, rtE (secN (d.sec q)), q, at_, m, m⟩
   else none
def loadR (d : DS) (q : Nat) : Option SS := if rtOk (secN (d.sec q)) = true then loadP d q (tbR d (cnt tk (d.n / 4) + 1) tk (rtF (secN (d.sec q))) [] []) else none
theorem ld_two {d : DS} {f : Nat → Bool} {q id : Nat} {D : List Nat} (h0 : f 0 = true) (h1 : f 1 = true) (h : (ldR d f q id).2 = some D) : 2 ≤ q := by
 obtain ⟨a, b, _, _⟩ := ldR_some h
 rcases q with _ | _ | q
 ·rw [h0] at b; cases b
 ·rw [h1] at b; cases b
 ·omega
theorem tb_ok {d : DS} : ∀ (k : Nat) (f : Nat → Bool) (nx : Nat) (at_ tab : List Nat) {f' : Nat → Bool} {a' t' : List Nat}, f 0 = true → f 1 = true → (∀ t ∈ at_, 2 ≤ t ∧ t < d.n / 4) → tbR d k f nx at_ tab = (f', some (a', t')) →
  f' 0 = true ∧ f' 1 = true ∧ (∀ t ∈ a', 2 ≤ t ∧ t < d.n / 4) ∧ a'.length + cnt f' (d.n / 4) = at_.length + cnt f (d.n / 4)
 | 0, f, nx, at_, tab, f', a', t', _, _, _, h => by rw [tbR] at h; cases h
 | k + 1, f, nx, at_, tab, f', a', t', h0, h1, ha, h => by
   by_cases hz : nx = 0
   ·subst hz
    rw [tbR_end] at h
    cases h
    exact ⟨h0, h1, ha, rfl⟩
   ·cases hq : (ldR d f nx 2).2 with
    | none => rw [tbR_none hz hq] at h; cases h
    | some D =>
      by_cases h4 : D.length < 4
      ·rw [tbR_short hz hq h4] at h; cases h
      ·rw [tbR_go hz hq h4] at h
       obtain ⟨s1, s2, s3, s4⟩ := ldR_some hq
       have := tb_ok k _ _ _ _ (by rw [s3]; simp [h0]) (by rw [s3]; simp [h1]) (fun t ht => by
        rcases List.mem_append.1 ht with ht | ht
        ·exact ha t ht
        ·simp at ht; subst ht; exact ⟨ld_two h0 h1 hq, s1⟩) h
       refine ⟨this.1, this.2.1, this.2.2.1, this.2.2.2.trans ?_⟩
       rw [List.length_append, s3]
       have := cnt_set f nx s2 _ s1
       simp only [List.length_singleton]
       omega
theorem pgs_ok {d : DS} {tab : List Nat} : ∀ (k : Nat) (f : Nat → Bool) (least pos : Nat) (m : Pgs) {m' : Pgs}, f 0 = true → f 1 = true → (∀ p ∈ m, (0 ≤ p.1 ∧ p.1 < 728) ∧ (2 ≤ p.2.1 ∧ p.2.1 < d.n / 4) ∧ p.2.2.length ≤ 116) → (pgsR d tab k f least pos m).2 = some m' →
  ∀ p ∈ m', (0 ≤ p.1 ∧ p.1 < 728) ∧ (2 ≤ p.2.1 ∧ p.2.1 < d.n / 4) ∧ p.2.2.length ≤ 116
 | 0, f, least, pos, m, m', _, _, _, h => by rw [pgsR] at h; cases h
 | k + 1, f, least, pos, m, m', h0, h1, ha, h => by
   by_cases hz : tab.length ≤ pos
   ·rw [pgsR_end hz] at h
    cases h
    exact ha
   ·cases e1 : rd tab pos 0 0 with
    | none => rw [pgsR_none1 hz e1] at h; cases h
    | some y =>
      obtain ⟨i, q⟩ := y
      by_cases hi : i < least ∨ 728 ≤ i
      ·rw [pgsR_low hz e1 hi] at h; cases h
      ·cases e2 : rd tab q 0 0 with
       | none => rw [pgsR_none2 hz e1 hi e2] at h; cases h
       | some y =>
         obtain ⟨P, z⟩ := y
         cases hq : (ldR d f P (3 + 256 * i)).2 with
         | none => rw [pgsR_not hz e1 hi e2 hq] at h; cases h
         | some D =>
           rw [pgsR_go hz e1 hi e2 hq] at h
           obtain ⟨s1, s2, s3, s4⟩ := ldR_some hq
           refine pgs_ok k _ _ _ _ (by rw [s3]; simp [h0]) (by rw [s3]; simp [h1]) (fun p hp => ?_) h
           rcases (putL_mem _ _ _ _).1 hp with rfl | ⟨hp, _⟩
           ·exact ⟨⟨by show (0 : Int) ≤ (i : Int); omega, by show (i : Int) < 728; omega⟩, ⟨ld_two h0 h1 hq, s1⟩, s4⟩
           ·exact ha p hp
theorem load_wf {d : DS} {q : Nat} {x : SS} (hn : 3 ≤ d.n / 4) (hn2 : d.n ≤ 8192) (hb : ByteD d) (hq : q = 0 ∨ q = 4) (h : loadR d q = some x) : x.Wf := by
 unfold loadR at h
 split at h
 ·cases ht : tbR d (cnt tk (d.n / 4) + 1) tk (rtF (secN (d.sec q))) [] [] with
  | mk f y =>
    rw [ht] at h
    cases y with
    | none => cases h
    | some z =>
      obtain ⟨a, t⟩ := z
      simp only [loadP] at h
      split at h
      ·cases hp : (pgsR d t (t.length + 1) f 0 0 []).2 with
       | none => rw [hp] at h; cases h
       | some m =>
         rw [hp] at h
         simp only [Option.map_some, Option.some.injEq] at h
         obtain ⟨t1, t2, t3, t4⟩ := tb_ok _ _ _ _ _ (show tk 0 = true from rfl) (show tk 1 = true from rfl) (fun t ht => by cases ht) ht
         have hc := cnt_le tk (d.n / 4)
         have hm := pgs_ok _ _ _ _ _ t1 t2 (fun p hp => by cases hp) hp
         have he := part_lt (secN_lt (hb.sec q)) 0 8
         subst h
         refine ⟨⟨hn, by show d.n / 4 ≤ 2048; omega⟩, he, hq, ⟨?_, t3⟩, hm, fun p hp => ⟨(hm p hp).1, .inr (hm p hp).2.1, (hm p hp).2.2⟩⟩
         show a.length ≤ 2048
         simp only [List.length_nil] at t4
         omega
      ·cases h
 ·cases h
def LoadIs (w : World) (dk : Nat → Prop) (p : Nat) (r : Option SS) (e : Ending) (w' : World) : Prop :=
 Only (fun _ => False) w w' ∧ match r with
 | none => e = .returned (.pointer none)
 | some x => ∃ s mc mn tv, e = .returned (.pointer (some ⟨s, 0, none⟩)) ∧ StAt w' dk s p mc mn tv x ∧ w.heap.size ≤ s ∧ w.heap.size ≤ mc ∧ w.heap.size ≤ mn
theorem IL_getD (zs : List Nat) : IL zs = (List.range zs.length).map fun j => .int .i64 (zs.getD j 0 : Nat) := by
 apply List.ext_getElem
 ·simp [IL]
 ·intro i h1 h2
  have hi : i < zs.length := by simpa [IL] using h1
  simp [IL, List.getD, hi]
theorem FreshI.rowInts {w : World} {B : Nat} {v : Value} {l : List Nat} (h : FreshI w B v l) : RowAt w v l.length 1 (fun j => .int .i64 (l.getD j 0 : Nat)) := by
 obtain ⟨a, c, rfl⟩ := ownsRow_slice h.1
 exact rowAt_own (by rw [← IL_getD]; exact h.1)
theorem load_any (p S B q : Nat) (pv : Value) (d : DS) (w : World) (h : DiskAt w B p S pv d) (hl : d.life ≠ 0) (hb : ByteD d) (hn : 3 ≤ d.n / 4) (hq : q = 0 ∨ q = 4) (dk : Nat → Prop) (hdk : ∀ k, dk k → k < w.heap.size) :
  Calls Tryz.prog 74 #[.pointer (some ⟨p, 0, none⟩), .int .i64 q] w fun e w' => LoadIs w dk p (loadR d q) e w' := by
 have hn2 := h.n2
 have HRR : Hid _ := rroot_any p S q B pv d w h hl (by omega) hb
 have hE := part_lt (secN_lt (hb.sec q)) 0 8
 have hF := part_lt (secN_lt (hb.sec q)) 8 4
 have hC := part_lt (secN_lt (hb.sec q)) 12 4
 have hWF : ∀ x, loadR d q = some x → x.Wf := fun x hx => load_wf hn hn2 hb hq hx
 have HWF : Hid (∀ x, loadR d q = some x → x.Wf) := hWF
 have HLR : Hid (loadR d q = if rtOk (secN (d.sec q)) = true then loadP d q (tbR d (cnt tk (d.n / 4) + 1) tk (rtF (secN (d.sec q))) [] []) else none) := (rfl : _ = _)
 have HLP : Hid (∀ x, loadP d q x = match x.2 with
  | none => none
  | some (at_, tab) => if at_.length = rtC (secN (d.sec q)) then
    (pgsR d tab (tab.length + 1) x.1 0 0 []).2.map fun m => ⟨d.n / 4, rtE (secN (d.sec q)), q, at_, m, m⟩
    else none) := fun x => rfl
 obtain ⟨e0, he0⟩ : ∃ x, x = rtE (secN (d.sec q)) := ⟨_, rfl⟩
 obtain ⟨f0, hf0⟩ : ∃ x, x = rtF (secN (d.sec q)) := ⟨_, rfl⟩
 obtain ⟨c0, hc0⟩ : ∃ x, x = rtC (secN (d.sec q)) := ⟨_, rfl⟩
 obtain ⟨b0, hb0⟩ : ∃ x, x = rtOk (secN (d.sec q)) := ⟨_, rfl⟩
 have hE' : e0 < 2 ^ (8 * 8) := he0 ▸ hE
 have hF' : f0 < 2 ^ (8 * 4) := hf0 ▸ hF
 have hC' : c0 < 2 ^ (8 * 4) := hc0 ▸ hC
 rw [← he0, ← hf0, ← hc0, ← hb0] at HRR
 rw [← hf0, ← hb0] at HLR
 rw [← he0, ← hc0] at HLP
 have HD : Hid (DiskAt w B p S pv d) := h
 have HLB : Hid (d.life ≠ 0 ∧ ByteD d) := ⟨hl, hb⟩
 have HQ : Hid (q = 0 ∨ q = 4) := hq
 obtain ⟨cc, hcc⟩ := h.c0
 have HCC : Hid (w.cell? ⟨p, 0, none⟩ = some (.slice (some ⟨S, 0, none⟩) d.n cc)) := hcc
 have HDK : Hid (∀ k, w.heap.size ≤ k → ¬ dk k) := fun k hk e => by have := hdk k e; omega
 clear hdk
 have HPL : Hid (∀ k, diskB p S pv k → k < w.heap.size) := fun k hk => (h.lt k hk).2
 have wq : IntKind.i64.wrap (q : Int) = (q : Int) := by rw [IntKind.wrap_i64]; omega
 obtain ⟨r, hr⟩ : ∃ r, r = loadR d q := ⟨_, rfl⟩
 rw [← hr] at HLR HWF
 rw [← hr]
 obtain ⟨n, hnn⟩ : ∃ n, n = d.n / 4 := ⟨_, rfl⟩
 have HN : Hid (n = d.n / 4) := hnn
 rw [← hnn] at HLR HLP hn
 have n2 : n ≤ 2048 := by omega
 clear h hl hb hq hE hF hC hWF he0 hf0 hc0 hb0 hcc hr hnn
 go_enter Tryz.func74, Tryz.ntmps74
 go_wp2_with fail
 refine (show Calls Tryz.prog 95 _ _ _ from HRR.out).mono ?_
 rintro e w1 ⟨rfl, ho1⟩
 clear HRR
 obtain ⟨wA, hwA⟩ : ∃ x, x = w1.alloc (.cells #[.int .u64 (e0 : Nat), .int .u32 (f0 : Nat), .int .u32 (c0 : Nat)] 74) := ⟨_, rfl⟩
 have oA : Only (fun _ => False) w1 wA := by rw [hwA]; exact (Only.refl _ w1).alloc _
 have HOA : Hid (Only (fun _ => False) w wA) := ho1.trans oA (fun _ _ e => e)
 obtain ⟨R, hR⟩ : ∃ x, x = w1.heap.size := ⟨_, rfl⟩
 have HWA : Hid (wA = w1.alloc (.cells #[.int .u64 (e0 : Nat), .int .u32 (f0 : Nat), .int .u32 (c0 : Nat)] 74)) := hwA
 have HR : Hid (R = w1.heap.size) := hR
 have HbA : Hid (wA.heap[R]? = some (.cells #[.int .u64 (e0 : Nat), .int .u32 (f0 : Nat), .int .u32 (c0 : Nat)] 74 (0, 0))) := (by rw [hwA, hR]; exact heap_alloc_new w1 _ : _ = _)
 have HsA : Hid (wA.heap.size = R + 1 ∧ w.heap.size ≤ R) := ⟨by rw [hwA, hR]; simp, hR ▸ ho1.size⟩
 clear ho1 oA hwA hR
 cases b0 with
 | false =>
   have HE : Hid (r = none) := HLR.out
   go_wp2
   rw [← HWA.out]
   go_ret
   show LoadIs w _ p _ _ _
   rw [HE.out]
   exact ⟨HOA.out, rfl⟩
 | true =>
   have HE : Hid (r = loadP d q (tbR d (cnt tk n + 1) tk f0 [] [])) := HLR.out
   have HCT : Hid _ := count_any p S d.n cc wA (by omega) (HOA.out.cell HCC.out (fun e => e))
   rw [← HN.out] at HCT
   have HTK : Hid _ := taken_any n (by omega) n2 wA
   clear HLR
   go_wp2_with fail
   rw [← HWA.out, ← HR.out]
   refine (show Calls Tryz.prog 28 _ _ _ from HCT.out).mono ?_
   rintro e wA ⟨rfl, rfl⟩
   clear HCT
   go_wp2_with fail
   refine (show Calls Tryz.prog 81 _ _ _ from HTK.out).mono ?_
   rintro e w2 ⟨rfl, hfl2, ho2⟩
   clear HTK
   obtain ⟨G, hG⟩ : ∃ x, x = wA.heap.size := ⟨_, rfl⟩
   rw [← hG] at hfl2
   rw [← hG]
   obtain ⟨w3, hw3⟩ : ∃ x, x = w2.alloc (.cells #[.pointer (some ⟨p, 0, none⟩), .slice (some ⟨G, 0, none⟩) n n] 147) := ⟨_, rfl⟩
   have HW3 : Hid (w3 = w2.alloc (.cells #[.pointer (some ⟨p, 0, none⟩), .slice (some ⟨G, 0, none⟩) n n] 147)) := hw3
   obtain ⟨L, hL⟩ : ∃ x, x = w2.heap.size := ⟨_, rfl⟩
   have HL : Hid (L = w2.heap.size) := hL
   have o3 : Only (fun _ => False) w2 w3 := by rw [hw3]; exact (Only.refl _ w2).alloc _
   have b3 : w3.heap[L]? = some (.cells #[.pointer (some ⟨p, 0, none⟩), .slice (some ⟨G, 0, none⟩) n n] 147 (0, 0)) := by rw [hw3, hL]; exact heap_alloc_new w2 _
   have oA3 : Only (fun _ => False) wA w3 := ho2.trans o3 (fun _ _ e => e)
   have hGR : G = R + 1 := hG.trans HsA.out.1
   have hGL : G < L := by have := hfl2.lt; omega
   have hwR := HsA.out.2
   have ld3 : LdAt w3 L p G n tk := ⟨by rw [cell_of_row _ _ _ _ _ _ b3]; rfl, by rw [cell_of_row _ _ _ _ _ _ b3]; rfl, hfl2.frame o3 (fun e => e), by omega⟩
   have bR3 : w3.heap[R]? = some (.cells #[.int .u64 (e0 : Nat), .int .u32 (f0 : Nat), .int .u32 (c0 : Nat)] 74 (0, 0)) := by rw [oA3.block R (by omega) (fun e => e)]; exact HbA.out
   have x1 : (w2.alloc (.cells #[.pointer (some ⟨p, 0, none⟩), .slice (some ⟨G, 0, none⟩) n n] 147)).cell? ⟨R, 1, none⟩ = some (.int .u32 (f0 : Nat)) := by rw [← hw3, cell_of_row _ _ _ _ _ _ bR3]; rfl
   have x1' : w2.cell? ⟨R, 1, none⟩ = some (.int .u32 (f0 : Nat)) := by rw [cell_of_row _ _ _ _ _ _ ((ho2.block R (by omega) (fun e => e)).trans HbA.out)]; rfl
   have HO3 : Hid (Only (fun _ => False) w w3) := HOA.out.trans oA3 (fun _ _ e => e)
   have ndk : ∀ k, w.heap.size ≤ k → ¬ diskB p S pv k := fun k hk e => by have := HPL.out k e; omega
   have HND : Hid (∀ k, w.heap.size ≤ k → ¬ diskB p S pv k) := ndk
   have HTB := ltables_any L p G S B f0 pv d tk w3 (HD.out.frame HO3.out (fun _ _ e => e)) HLB.out.1 HLB.out.2 (HN.out ▸ ld3) (ndk G (by omega)) (by omega)
   rw [← HN.out] at HTB
   have HTB' : Hid _ := HTB
   have HSZ : Hid (w.heap.size ≤ R ∧ G = R + 1 ∧ G < L ∧ L < w3.heap.size) := ⟨hwR, hGR, hGL, (Array.getElem?_eq_some_iff.1 b3).1⟩
   have HBR3 : Hid _ := bR3
   obtain ⟨x, hx⟩ : ∃ x, x = tbR d (cnt tk n + 1) tk f0 [] [] := ⟨_, rfl⟩
   rw [← hx] at HTB' HE
   clear hfl2 ho2 hG hw3 hL o3 b3 oA3 hGR hGL hwR ld3 bR3 ndk HTB hx
   go_wp2_with fail
   rw [← HW3.out, ← HL.out]
   refine (show Calls Tryz.prog 96 _ _ _ from HTB'.out).mono ?_
   intro e w4 hI
   clear HTB'
   obtain ⟨f', y⟩ := x
   have HL4 : Hid (LdAt w4 L p G n f') := hI.1
   have HO34 : Hid (Only (fun i => i = G) w3 w4) := hI.2.1
   have ho4 : Only (fun _ => False) w w4 := HO3.out.trans hI.2.1 (fun i hi e => by have := HSZ.out; omega)
   have HO4 : Hid (Only (fun _ => False) w w4) := ho4
   have bR4 : w4.heap[R]? = some (.cells #[.int .u64 (e0 : Nat), .int .u32 (f0 : Nat), .int .u32 (c0 : Nat)] 74 (0, 0)) := by rw [HO34.out.block R (by have := HSZ.out; omega) (by have := HSZ.out; omega)]; exact HBR3.out
   have x2 : w4.cell? ⟨R, 2, none⟩ = some (.int .u32 (c0 : Nat)) := by rw [cell_of_row _ _ _ _ _ _ bR4]; rfl
   have HBR4 : Hid _ := bR4
   obtain ⟨_, _, hI⟩ := hI
   clear x1 x1' ho4 bR4
   cases y with
   | none =>
     obtain rfl := hI
     have HE2 : Hid (r = none) := HE.out.trans (HLP.out _)
     clear HE
     go_wp2
     go_ret
     show LoadIs w _ p _ _ _
     rw [HE2.out]
     exact ⟨HO4.out, rfl⟩
   | some y =>
     obtain ⟨at_, tab⟩ := y
     obtain ⟨va, vt, rfl, hai, hab, hap⟩ := hI
     have HAI : Hid (FreshI w4 w3.heap.size va at_) := hai
     have HAB : Hid (Fresh w4 w3.heap.size vt tab) := hab
     obtain ⟨a1, c1, rfl, -⟩ := hai.form
     obtain ⟨al, hal⟩ : ∃ m, m = at_.length := ⟨_, rfl⟩
     have HAL : Hid (al = at_.length) := hal
     have al2 : al ≤ 1048576 := hal ▸ hai.2
     rw [← hal] at HAI
     rw [← hal]
     have wal : IntKind.u64.wrap (al : Int) = (al : Int) := by rw [IntKind.wrap_u64]; omega
     have wc0 : IntKind.u64.wrap (c0 : Int) = (c0 : Int) := by rw [IntKind.wrap_u64]; omega
     by_cases hac : al = c0
     ·have hne : ((al : Int) != (c0 : Int)) = false := by simp [hac]
      have HE2 : Hid (r = (pgsR d tab (tab.length + 1) f' 0 0 []).2.map fun m => ⟨n, e0, q, at_, m, m⟩) := HE.out.trans ((HLP.out _).trans (if_pos (by rw [← HAL.out]; exact hac)))
      have HPG := lpages_any L p G S B pv vt d f' tab w4 (HD.out.frame HO4.out (fun _ _ e => e)) HLB.out.1 HLB.out.2 (HN.out ▸ HL4.out) (HND.out G (by have := HSZ.out; omega)) hab.bytes (fun b hb => by
       have := own_lt hab b hb
       have := HSZ.out
       exact ⟨by omega, by omega⟩)
      rw [← HN.out] at HPG
      have HPG' : Hid _ := HPG
      obtain ⟨z, hz⟩ : ∃ z, z = pgsR d tab (tab.length + 1) f' 0 0 [] := ⟨_, rfl⟩
      rw [← hz] at HPG' HE2
      clear HE hai hab hap hal HPG hz hac
      go_wp2_with fail
      refine (show Calls Tryz.prog 97 _ _ _ from HPG'.out).mono ?_
      intro e w5 hI
      clear HPG'
      obtain ⟨f5, y5⟩ := z
      have HO45 : Hid (Only (fun i => i = G) w4 w5) := hI.2.1
      have ho5 : Only (fun _ => False) w w5 := HO4.out.trans hI.2.1 (fun i hi e => by have := HSZ.out; omega)
      have HO5 : Hid (Only (fun _ => False) w w5) := ho5
      have bR5 : w5.heap[R]? = some (.cells #[.int .u64 (e0 : Nat), .int .u32 (f0 : Nat), .int .u32 (c0 : Nat)] 74 (0, 0)) := by rw [HO45.out.block R (by have := HSZ.out; have := HO34.out.size; omega) (by have := HSZ.out; omega)]; exact HBR4.out
      have x0 : w5.cell? ⟨R, 0, none⟩ = some (.int .u64 (e0 : Nat)) := by rw [cell_of_row _ _ _ _ _ _ bR5]; rfl
      obtain ⟨_, _, hI⟩ := hI
      clear x2 ho5 bR5 hne
      cases y5 with
      | none =>
        obtain rfl := hI
        have HE3 : Hid (r = none) := HE2.out
        clear HE2
        go_wp2
        go_ret
        show LoadIs w _ p _ _ _
        rw [HE3.out]
        exact ⟨HO5.out, rfl⟩
      | some m =>
        obtain ⟨rfl, hpm⟩ := hI
        have HE3 : Hid (r = some ⟨n, e0, q, at_, m, m⟩) := HE2.out
        clear HE2
        have hM5 := hpm.lt
        obtain ⟨M, hM⟩ : ∃ x, x = w4.heap.size := ⟨_, rfl⟩
        rw [← hM] at hpm hM5
        rw [← hM]
        have HMM : Hid (M = w4.heap.size) := hM
        obtain ⟨s, hs⟩ : ∃ x, x = w5.heap.size := ⟨_, rfl⟩
        have HSS : Hid (s = w5.heap.size) := hs
        obtain ⟨w6, hw6⟩ : ∃ x, x = w5.alloc (.cells #[.pointer (some ⟨p, 0, none⟩), .int .i64 (n : Nat), .int .u64 (e0 : Nat), .int .i64 (q : Nat), .slice a1 al c1, .map none, .map none] 79) := ⟨_, rfl⟩
        have HW6 : Hid (w6 = w5.alloc (.cells #[.pointer (some ⟨p, 0, none⟩), .int .i64 (n : Nat), .int .u64 (e0 : Nat), .int .i64 (q : Nat), .slice a1 al c1, .map none, .map none] 79)) := hw6
        have o6 : Only (fun _ => False) w5 w6 := by rw [hw6]; exact (Only.refl _ w5).alloc _
        have s6 : w6.heap.size = s + 1 := by rw [hw6, hs]; simp
        have b6 : w6.heap[s]? = some (.cells #[.pointer (some ⟨p, 0, none⟩), .int .i64 (n : Nat), .int .u64 (e0 : Nat), .int .i64 (q : Nat), .slice a1 al c1, .map none, .map none] 79 (0, 0)) := by rw [hw6, hs]; exact heap_alloc_new w5 _
        have r6 : w6.rangeAt s 0 [.pointer (some ⟨p, 0, none⟩), .int .i64 (n : Nat), .int .u64 (e0 : Nat), .int .i64 (q : Nat), .slice a1 al c1, .map none, .map none] := fun j v hv => by
         rw [cell_of_row _ _ _ _ _ _ b6, Nat.zero_add]
         simpa using hv
        have t6 : w6.there s 0 7 := fun j hj => by
         refine ⟨?_, frozen_of_row _ _ _ _ _ b6⟩
         rw [cell_of_row _ _ _ _ _ _ b6, Nat.zero_add]
         have : j = 0 ∨ j = 1 ∨ j = 2 ∨ j = 3 ∨ j = 4 ∨ j = 5 ∨ j = 6 := by omega
         rcases this with rfl | rfl | rfl | rfl | rfl | rfl | rfl <;> rfl
        obtain ⟨sl, hmap5, hsl5⟩ := hpm
        have HSB : Hid (∀ y ∈ m, ∀ b, (sl y.1).ownBlock = some b → b < s) := fun y hy b hb => hs ▸ ((hsl5 y hy).2 b hb).1
        have hmap6 := hmap5.frame o6 (fun e => e)
        have hsl6 : ∀ y ∈ m, BytesAt w6 (sl y.1) y.2.2 ∧ ∀ b, (sl y.1).ownBlock = some b → b < w6.heap.size ∧ ¬ b ≤ M := fun y hy => ⟨(hsl5 y hy).1.frame o6, fun b hb => ⟨by have := ((hsl5 y hy).2 b hb).1; omega, ((hsl5 y hy).2 b hb).2⟩⟩
        have HT : Hid _ := take_any s M _ _ _ _ _ _ _ _ w6 r6 t6 hmap6
        rw [s6] at HT
        have H6 : Hid (Only (fun _ => False) w5 w6 ∧ w6.heap.size = s + 1 ∧ M < s) := ⟨o6, s6, by omega⟩
        have HSL : Hid _ := hsl6
        clear hmap5 hsl5 hM5 hM hs hw6 o6 s6 b6 r6 t6 hmap6 hsl6
        go_wp2_with fail
        rw [← HW6.out, ← HSS.out]
        refine (show Calls Tryz.prog 31 _ _ _ from HT.out).mono ?_
        rintro e w7 ⟨rfl, hr7, ht7, hm7, hn7, ho7⟩
        have HF : Hid (LoadIs w dk p r (.returned (.pointer (some ⟨s, 0, none⟩))) w7) := by
         obtain ⟨g1, g2, g3, g4⟩ := HSZ.out
         obtain ⟨o6, s6, hMs⟩ := H6.out
         have hM := HMM.out
         have hss := HSS.out
         have z34 := HO34.out.size
         have z45 := HO45.out.size
         have o67 : Only (fun k => k = s) w5 w7 := (o6.mono (fun _ _ e => e.elim)).trans ho7 (fun _ _ e => e)
         show LoadIs w dk p r _ _
         rw [HE3.out]
         refine ⟨HO5.out.trans o67 (fun i hi e => by have := HO5.out.size; omega), s, M, s + 1, .slice a1 al c1, rfl, ?_, by omega, by omega, by omega⟩
         have av : ∀ k, k < w6.heap.size → ¬ k ≤ M → k ≠ s → ¬ mutB dk s M (s + 1) k := fun k h1 h2 h3 e => by
          rcases e with e | e | e | e
          ·exact h3 e
          ·omega
          ·omega
          ·exact HDK.out k (by omega) e
         have hpmx : ∀ mm, MapAt w7 mm (m.map fun p => (p.1, pgV sl p)) → PMap w7 (mutB dk s M (s + 1)) mm m := fun mm hmm => by
          refine ⟨sl, hmm, fun y hy => ?_⟩
          obtain ⟨y1, y2⟩ := HSL.out y hy
          have hns : ∀ b, (sl y.1).ownBlock = some b → b ≠ s := fun b hb e => by
           have := HSB.out y hy b hb
           omega
          refine ⟨y1.keep ho7 (fun b hb e => hns b hb e), fun b hb => ⟨Nat.lt_of_lt_of_le (y2 b hb).1 ho7.size, av b (y2 b hb).1 (y2 b hb).2 (hns b hb)⟩⟩
         have hti : RowAt w5 (.slice a1 al c1) at_.length 1 (fun j => .int .i64 (at_.getD j 0 : Nat)) := HAI.out.rowInts.keep HO45.out (fun b hb e => by
          have := (HAI.out.1.lt b hb).1; omega)
         exact { cells := hr7, there := ht7, d1 := by omega, d2 := by omega, d3 := by omega, k1 := HDK.out _ (by omega), k2 := HDK.out _ (by omega), k3 := HDK.out _ (by omega)
                 tabs := hti.keep o67 (fun b hb e => by have := (HAI.out.1.lt b hb).2; omega)
                 tabsB := fun b hb => by
                  have h1 := HAI.out.1.lt b hb
                  refine ⟨by have := ho7.size; omega, fun e => ?_⟩
                  rcases e with e | e | e | e
                  ·omega
                  ·omega
                  ·omega
                  ·exact HDK.out b (by omega) e
                 com := hpmx M hn7, now := hpmx (s + 1) hm7
                 wf := HWF.out _ HE3.out }
        clear hr7 ht7 hm7 hn7 ho7 HT
        go_wp2
        go_ret
        exact HF.out
     ·have hne : ((al : Int) != (c0 : Int)) = true := by simp; omega
      have HE2 : Hid (r = none) := HE.out.trans ((HLP.out _).trans (if_neg (by rw [← HAL.out]; exact hac)))
      clear HE hai hab hap hal hac
      go_wp2
      go_ret
      show LoadIs w _ p _ _ _
      rw [HE2.out]
      exact ⟨HO4.out, rfl⟩
end Go.Proofs.YtlcglapcmdpkfaaGreat
