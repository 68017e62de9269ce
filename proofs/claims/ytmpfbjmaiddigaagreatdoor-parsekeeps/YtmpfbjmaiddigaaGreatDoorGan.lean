/- readAll of items: the loop. Parse, Items; awake. Trees of the document in memory. -/
import Derived.Test.YtmpfbjmaiddigaaGreatDoorGam
namespace Go.Proofs.YtmpfbjmaiddigaaGreatDoor
open Go.RowKit
set_option linter.unusedSimpArgs false
set_option linter.unusedVariables false
/-- an item is put behind a row -/
theorem app_item {w : World} {B C d : Nat} {v : Value} {acc : List Tre} {t : Tre} {iv : Value} (hf : RwAt w B 36 d true v acc) (hn : NwAt w C d true t iv) (hC : B ≤ C) (hv : ∀ k, v.ownBlock = some k → k < C) (hB : B ≤ w.heap.size) (hl : acc.length ≤ 4096) :
    ∃ v' w', (∀ ty, (Builtin.append_ #[24, 24] ty #[v, .slice (some ⟨w.heap.size, 0, none⟩) 1 1]).run Tryz.prog (w.alloc (.cells #[iv] 36)) = .ok v' w') ∧ RwAt w' B 36 d true v' (acc ++ [t]) ∧ Only (fun k => B ≤ k) w w' := by
  obtain ⟨i0, z0, hi, hz0, hz1, hz2, hz3⟩ := el_info13
  obtain ⟨W, hW⟩ : ∃ W, W = w.alloc (.cells #[iv] 36) := ⟨_, rfl⟩
  have oo : Only (fun _ => False) w W := by rw [hW]; exact (Only.refl _ w).alloc _
  have hf2 := hf.only oo (fun _ _ h => h)
  have hn2 := hn.only oo (fun _ _ h => h)
  have hblk : W.heap[w.heap.size]? = some (.cells #[iv] 36) := by rw [hW]; exact alloc_at _ _ _ rfl
  obtain ⟨us, S, ho, ht, hS⟩ := hf2
  obtain ⟨T, y, hv0⟩ := hn2.form
  have key := fun ty => run_append_own_at (P := Tryz.prog) W B 24 ty 36 i0 z0 1 16 Tryz.underlying24 hi hz0 hz1 hz2 hz3 (by omega) v acc.length us ho ⟨w.heap.size, 0, none⟩ 1 1 [iv] rfl (by
      intro j u hj
      rw [addr_ad, blk_cells hblk]
      simpa using hj) (by
      intro u hu
      simp only [List.mem_cons, List.not_mem_nil, or_false] at hu
      subst hu
      rw [hv0]
      rfl) (by unfold maxLen; omega) (by omega) (by have := oo.size; omega)
  obtain ⟨v', w', hr, own', hg, _, hat⟩ := key 0
  refine ⟨v', w', fun ty => ?_, RwAt.snoc hg ho ht hS hn2 hC hv own' hat, oo.mono (bs' := fun k => B ≤ k) (fun _ _ h => h.elim) |>.trans ((Only.refl (fun k => v.ownBlock = some k) W).grown hg (fun k e _ => e)) (fun k hk e => (ho.lt k e).1)⟩
  rw [← hW, ← hr]
  rfl
theorem ra_putI {R : Ending → World → Prop} {a : Act} {k : Nat} {v : Value} {c : List PanicEntry} {w : World} (h4 : k ≠ 4) (h5 : k ≠ 5) (h6 : k ≠ 6) (h : bodyPostD Tryz.prog Tryz.f28 R (.panic c) (a.put (some k) v) w) : bodyPostD Tryz.prog Tryz.f28 R (.panic c) a w := by
  refine leaves_same (t := (a.put (some k) v).tmps) ?_ _ _ _ h
  simp [results, Tryz.results28, Act.put, Array.getElem?_setIfInBounds, h4, h5, h6]
set_option maxRecDepth 100000 in
set_option maxHeartbeats 8000000 in
theorem readAll_goodI (s : ByteArray) (w : World) (h : Nog w) (hb : (tokR s).2.2 = 0) (hlen : (tokR s).1.length ≤ 4096) (hs : s.size ≤ 1000000) :
    Calls Tryz.prog 28 #[.string s, .func (.func 29) #[] #[]] w (raPI s w) := by
  have HT : Hid (∀ w1, Only (fun _ => False) w w1 → Calls Tryz.prog 39 #[.string s] w1 fun e w' => ∃ v, e = .returned (.tuple #[v, .int .i64 ((tokR s).2.1 : Nat), .int .i64 0]) ∧ Hid (ToksAt w' w1.heap.size v (tokR s).1 ∧ Below w1.heap.size w1 w')) := fun w1 o1 => by have := tokens_any s w1 (h.frame o1); rw [hb] at this; exact this
  obtain ⟨X, hX⟩ : ∃ X, X = alI (s.size : Int) 12400 ((tokR s).1.length + 1) (tokR s).1 := ⟨_, rfl⟩
  have HP : Hid (∀ w' v a e l, (match X with | .error (a, e) => ([], a, e) | .ok l => (l, 0, 0)) = (l, a, e) → RwAt w' w.heap.size 36 12400 true v l → Below w.heap.size w w' → raPI s w (.returned (.tuple #[v, .int .i64 a, .int .i64 e])) w') := by
    intro w' v a e l h1 h2 h3
    have e1 : parI s = (l, a, e) := by unfold parI; rw [if_pos hb, ← hX]; exact h1
    unfold raPI
    rw [e1]
    exact ⟨_, rfl, h2, h3⟩
  obtain ⟨a, ha⟩ : ∃ a, a = (tokR s).2.1 := ⟨_, rfl⟩
  obtain ⟨q, hq⟩ : ∃ q, q = (tokR s).1 := ⟨_, rfl⟩
  rw [← ha, ← hq] at HT
  rw [← hq] at hlen hX
  have HX : Hid (X = preI [] (alI (s.size : Int) 12400 (q.length + 1) q) ∧ q.length ≤ 4096) := ⟨by
    rw [hX]
    cases alI (s.size : Int) 12400 (q.length + 1) q <;> rfl, hlen⟩
  have K0 : Hid (RaKI w.heap.size (.slice none 0 0) 0 0 (((w.alloc (.cells #[.slice none 0 0] 24)).alloc (.cells #[.int .i64 0] 3)).alloc (.cells #[.int .i64 0] 27))) := RaKI.start w
  have O0 : Hid (Only (fun _ => False) w (((w.alloc (.cells #[.slice none 0 0] 24)).alloc (.cells #[.int .i64 0] 3)).alloc (.cells #[.int .i64 0] 27))) := (((Only.refl _ w).alloc _).alloc _).alloc _
  have hmf : ∀ (fn : Fn) (first cap : Array Value) (w : World), (Instr.makeFunc fn first cap).run Tryz.prog w = .ok (.func fn first cap) w := fun _ _ _ _ => rfl
  clear ha hq h hX hlen hb
  go_enter_defers Tryz.func28, Tryz.ntmps28
  go_wp2_with fail
  refine (show Calls Tryz.prog 39 _ _ _ from HT.out _ O0.out).mono ?_
  rintro ex w1 ⟨v, rfl, g1⟩
  have o1 := below_only g1.out.2
  have K1 := K0.out.only o1 (fun _ _ _ h => h)
  have O1 : Hid (Only (fun _ => False) w w1) := O0.out.trans o1 (fun _ _ g => g)
  obtain ⟨N, hN⟩ : ∃ N, N = w.heap.size := ⟨_, rfl⟩
  have HN : Hid (N = w.heap.size) := hN
  have TK : Hid (ToksAt w1 (N + 3) v q) := ⟨g1.out.1.1, by have := g1.out.1.2; rw [hN]; exact owns_lower this (by simp)⟩
  rw [← hN] at K1
  have HK1 : Hid (RaKI N (.slice none 0 0) 0 0 w1) := K1
  have y0 : w1.cell? ⟨N + 1, 0, none⟩ = some (.int .i64 0) := by rw [blk_cells K1.by_]; rfl
  have z0 : w1.cell? ⟨N + 1 + 1, 0, none⟩ = some (.int .i64 0) := by rw [blk_cells K1.bz]; rfl
  have fy : w1.frozen? ⟨N + 1, 0, none⟩ = false := blk_froz K1.by_ 0
  have fz : w1.frozen? ⟨N + 1 + 1, 0, none⟩ = false := blk_froz K1.bz 0
  obtain ⟨ao, cap, hv⟩ := g1.out.1.1
  subst hv
  rw [← hN]
  clear HT O0 K0 o1 g1 hN K1
  go_wp2_with fail
  obtain ⟨W, hW⟩ : ∃ W, W = (((w1.setCell ⟨N + 1, 0, none⟩ (.int .i64 (a : Int))).setCell ⟨N + 1 + 1, 0, none⟩ (.int .i64 0)).alloc (.cells #[.slice ao q.length cap, .int .i64 (s.size : Int), .int .i64 0, .int .i64 0] 110)) := ⟨_, rfl⟩
  obtain ⟨R, hR⟩ : ∃ R, R = w1.heap.size := ⟨_, rfl⟩
  have hn : N = w.heap.size := HN.out
  have hNR : N + 2 < R := by rw [hR]; exact (Array.getElem?_eq_some_iff.1 HK1.out.bz).1
  have K2 : Hid (RaKI N (.slice none 0 0) (a : Int) 0 W) := by
    show RaKI _ _ _ _ _
    rw [hW]
    exact ((HK1.out.setY (a : Int)).setZ 0).only ((Only.refl (fun _ => False) _).alloc _) (fun _ _ _ h => h)
  have O2 : Hid (Only (fun _ => False) w W) := by
    show Only _ _ _
    rw [hW]
    exact ((O1.out.setCell ⟨N + 1, 0, none⟩ _ (fun h => by simp only at h; omega)).setCell ⟨N + 1 + 1, 0, none⟩ _ (fun h => by simp only at h; omega)).alloc _
  have R2 : Hid (RdAt W R q (s.size : Int) 0 0) := by
    show RdAt _ _ _ _ _ _
    rw [hR]
    refine rd_start TK.out ?_ ?_
    · rw [hW]
      exact (((Only.refl (fun b => b < N + 3) w1).setCell ⟨N + 1, 0, none⟩ _ (fun _ => by simp only; omega)).setCell ⟨N + 1 + 1, 0, none⟩ _ (fun _ => by simp only; omega)).alloc _
    · rw [hW]
      exact alloc_at _ _ _ (by simp)
  rw [← hW, ← hR]
  clear hW hR hn TK HK1 O1 y0 z0 fy fz
  have HNR : Hid (N + 2 < R) := hNR
  clear hNR
  go_loopw [] (fun wr => ∃ (g : Nat) (q' : List Tok) (z' : Int) (acc : List Tre) (ao : Option Addr) (cap : Nat), Hid (X = preI acc (alI (s.size : Int) 12400 g q') ∧ q'.length < g ∧ acc.length + q'.length ≤ 4096 ∧ RaKI N (.slice ao acc.length cap) (a : Int) 0 wr ∧ RwAt wr (R + 1) 36 12400 true (.slice ao acc.length cap) acc ∧ RdAt wr R q' (s.size : Int) 0 z' ∧ Only (fun _ => False) w wr)) (fun wr => qLen wr R)
  case atStart => exact ⟨q.length + 1, q, 0, [], none, 0, HX.out.1, by omega, by simpa using HX.out.2, K2.out, rw_nil _ _ _ _ _, R2.out, O2.out⟩
  case round =>
    obtain ⟨g, q', z', acc, ao, cap, HI⟩ := hrel
    obtain ⟨u, rfl⟩ : ∃ u, u = wr := ⟨_, rfl⟩
    clear K2 O2 R2
    obtain ⟨g0, rfl⟩ : ∃ g0, g = g0 + 1 := ⟨g - 1, by have := HI.out.2.1; omega⟩
    obtain ⟨vv, hRR, av, cv, hvv, hcv, _⟩ := HI.out.2.2.2.2.2.1
    subst hvv
    have r0 : u.cell? ⟨R, 0, none⟩ = some (.slice av q'.length cv) := by rw [blk_cells hRR]; rfl
    have r3 : u.cell? ⟨R, 3, none⟩ = some (.int .i64 z') := by rw [blk_cells hRR]; rfl
    have f3 : u.frozen? ⟨R, 3, none⟩ = false := blk_froz hRR 3
    clear hRR hcv
    have hNR : N + 2 < R := HNR.out
    cases q' with
    | nil =>
      have HE : Hid (X = .ok acc) := by show X = _; rw [HI.out.1]; simp [alI, preI]
      have K2 := HI.out.2.2.2.1
      have x0 : u.cell? ⟨N, 0, none⟩ = some (.slice ao acc.length cap) := by rw [blk_cells K2.bx]; rfl
      have y0 : u.cell? ⟨N + 1, 0, none⟩ = some (.int .i64 (a : Int)) := by rw [blk_cells K2.by_]; rfl
      have z0 : u.cell? ⟨N + 1 + 1, 0, none⟩ = some (.int .i64 0) := by rw [blk_cells K2.bz]; rfl
      have fx : u.frozen? ⟨N, 0, none⟩ = false := blk_froz K2.bx 0
      have fy : u.frozen? ⟨N + 1, 0, none⟩ = false := blk_froz K2.by_ 0
      have fz : u.frozen? ⟨N + 1 + 1, 0, none⟩ = false := blk_froz K2.bz 0
      have HK : Hid (RaKI N (.slice ao acc.length cap) (a : Int) 0 u ∧ RwAt u (R + 1) 36 12400 true (.slice ao acc.length cap) acc ∧ Only (fun _ => False) w u) := ⟨K2, HI.out.2.2.2.2.1, HI.out.2.2.2.2.2.2⟩
      clear HI K2
      simp only [List.length_nil] at r0
      obtain ⟨L, hL⟩ : ∃ L, L = acc.length := ⟨_, rfl⟩
      have HL : Hid (L = acc.length) := hL
      rw [← hL] at HK x0
      clear hL
      go_wp2
      obtain ⟨U, hU⟩ : ∃ U, U = ((u.setCell ⟨N, 0, none⟩ (.slice ao L cap)).setCell ⟨N + 1, 0, none⟩ (.int .i64 0)).setCell ⟨N + 1 + 1, 0, none⟩ (.int .i64 0) := ⟨_, rfl⟩
      have hn : N = w.heap.size := HN.out
      have e1 : L = acc.length := HL.out
      have OO : Only (fun b => b ≤ N + 2) u U := by
        rw [hU]
        exact (((Only.refl (fun b => b ≤ N + 2) u).setCell ⟨N, 0, none⟩ _ (fun _ => by simp only; omega)).setCell ⟨N + 1, 0, none⟩ _ (fun _ => by simp only; omega)).setCell ⟨N + 1 + 1, 0, none⟩ _ (fun _ => by simp only; omega)
      have K3 : Hid (RaKI N (.slice ao L cap) 0 0 U) := by
        show RaKI _ _ _ _ _
        rw [hU]
        exact ((HK.out.1.setX _).setY 0).setZ 0
      have K4 : Hid (RwAt U w.heap.size 36 12400 true (.slice ao L cap) acc ∧ Below w.heap.size w U) := by
        refine ⟨(HK.out.2.1.only OO (fun b h1 e => by omega)).lower (by omega), only_below ?_⟩
        rw [hU]
        exact ((HK.out.2.2.setCell ⟨N, 0, none⟩ _ (fun h => by simp only at h; omega)).setCell ⟨N + 1, 0, none⟩ _ (fun h => by simp only at h; omega)).setCell ⟨N + 1 + 1, 0, none⟩ _ (fun h => by simp only at h; omega)
      rw [← hU]
      clear hU OO HK x0 y0 z0 fx fy fz
      refine leaves_cons (f := 43) (args := #[.pointer (some ⟨N, 0, none⟩), .pointer (some ⟨N + 1, 0, none⟩), .pointer (some ⟨N + 1 + 1, 0, none⟩)]) (by simp) (by simp [go_sem]) ?_
      refine (caught_idleI _ _ _ _).mono ?_
      rintro ex u' w'' ⟨rfl, rfl, rfl⟩
      exact ⟨_, results_raI rfl _ _ N (N + 1) (N + 2) (by rw [blk_cells K3.out.bx]; rfl) (by rw [blk_cells K3.out.by_]; rfl) (by rw [blk_cells K3.out.bz]; rfl) rfl rfl rfl, HP.out _ _ _ _ acc (by rw [show X = _ from HE.out]) K4.out.1 K4.out.2⟩
    | cons t r =>
      have HB : Hid ((t :: r).length < g0 + 1 ∧ acc.length + (t :: r).length ≤ 4096 ∧ qLen u R = (t :: r).length) := ⟨HI.out.2.1, HI.out.2.2.1, qLen_of HI.out.2.2.2.2.2.1⟩
      obtain ⟨q1, o1⟩ := HI.out.2.2.2.2.2.1.size 0
      obtain ⟨u1, hu1⟩ : ∃ u1, u1 = u.setCell ⟨R, 3, none⟩ (.int .i64 0) := ⟨_, rfl⟩
      rw [← hu1] at q1 o1
      have K2 := HI.out.2.2.2.1.only o1 (fun b h1 h2 e => by omega)
      have F2 := HI.out.2.2.2.2.1.only o1 (fun b h1 e => by omega)
      have hn : N = w.heap.size := HN.out
      have O2 : Only (fun _ => False) w u1 := HI.out.2.2.2.2.2.2.trans o1 (fun b h1 e => by omega)
      have HE0 := HI.out.1
      rw [alI_go] at HE0
      have HC : ∀ u2, RdAt u2 R (t :: r) (s.size : Int) 0 0 → Calls Tryz.prog 29 #[.pointer (some ⟨R, 0, none⟩)] u2 (ptP R 12400 true (s.size : Int) 0 u2 (prs (s.size : Int) 12400 1 (t :: r) 0 0)) := by
        intro u2 h2
        have := HB.out
        exact (parts_any R (s.size : Int) 12401 12400 (by omega)).2.1 (t :: r) 0 0 u2 (by omega) (by omega) (by omega) (by omega) (by omega) (by omega) h2
      have i1 : (0 : Int) < ((t :: r).length : Int) := by simp only [List.length_cons]; omega
      obtain ⟨L2, hL2⟩ : ∃ L2, L2 = (t :: r).length := ⟨_, rfl⟩
      rw [← hL2] at r0 i1
      clear hL2
      cases hX2 : prs (s.size : Int) 12400 1 (t :: r) 0 0 with
      | error p =>
        obtain ⟨pa, pe⟩ := p
        rw [hX2] at HE0
        have HE : Hid (X = .error (pa, pe)) := HE0
        have HCE : Hid (∀ u2, RdAt u2 R (t :: r) (s.size : Int) 0 0 → Calls Tryz.prog 29 #[.pointer (some ⟨R, 0, none⟩)] u2 fun x w' => x = gup pa pe ∧ Only (fun b => b = R) u2 w') := fun u2 h2 => by have := HC u2 h2; rw [hX2] at this; exact this
        have HK : Hid (RaKI N (.slice ao acc.length cap) (a : Int) 0 u1 ∧ Only (fun _ => False) w u1 ∧ RdAt u1 R (t :: r) (s.size : Int) 0 0) := ⟨K2, O2, q1⟩
        have x0 : u1.cell? ⟨N, 0, none⟩ = some (.slice ao acc.length cap) := by rw [blk_cells K2.bx]; rfl
        have fx : u1.frozen? ⟨N, 0, none⟩ = false := blk_froz K2.bx 0
        clear HI HE0 HC hX2 K2 F2 O2 q1 o1 hn hNR
        go_wp2_with fail
        rw [← hu1]
        clear r0 r3 f3 hu1
        refine wp_region_any (by kernel_rfl) ?_
        change wpAny _ _ _ _ _ _ _ (World.drew _)
        refine wpAny_take (i := 1) (v := .func (.func 29) #[] #[]) rfl (by kernel_rfl) (by kernel_rfl) (by kernel_rfl) (fun c a w h => ra_putI (k := 35) (by omega) (by omega) (by omega) h) (Or.inl ⟨by rfl, fun w => by rfl⟩) ?_
        refine wpAny_take (i := 2) (v := .pointer (some ⟨R, 0, none⟩)) rfl (by kernel_rfl) (by kernel_rfl) (by kernel_rfl) (fun c a w h => ra_putI (k := 36) (by omega) (by omega) (by omega) h) (Or.inl ⟨by rfl, fun w => by rfl⟩) ?_
        refine wpAny_ready (rs := [0, 3]) (by kernel_rfl) (by simp) ?_
        refine AllReady.cons rfl (fun K hK => ?_) (AllReady.cons rfl (fun K hK => ?_) AllReady.nil)
        · go_simp
          refine hK _ _ ?_
          clear hK K
          refine wpAny_ready (rs := [3]) (by kernel_rfl) (by simp) ?_
          refine AllReady.cons rfl (fun K hK => ?_) AllReady.nil
          go_simp
          · skip
            go_wp2_with (go_at_call 29; refine (show Calls Tryz.prog 29 _ _ _ from HCE.out _ (HK.out.2.2.only ((Only.refl _ u1).drew))).mono ?_; rintro ex u3 ⟨rfl, o3⟩; unfold gup)
            have hNR : N + 2 < R := HNR.out
            have hn : N = w.heap.size := HN.out
            have K3 := (HK.out.1.only ((Only.refl (fun _ => False) u1).drew) (fun _ _ _ h => h)).only o3 (fun b h1 h2 e => by omega)
            have O3 : Only (fun _ => False) w u3 := HK.out.2.1.drew.trans o3 (fun b h1 e => by omega)
            refine leaves_cons (f := 43) (args := #[.pointer (some ⟨N, 0, none⟩), .pointer (some ⟨N + 1, 0, none⟩), .pointer (some ⟨N + 1 + 1, 0, none⟩)]) (by simp) (by simp [go_sem]) ?_
            refine (caught_ownI N (N + 1) (N + 1 + 1) _ _ _ _ _ _ pa pe [] _ K3.bx K3.by_ K3.bz (by omega) (by omega) (by omega)).mono ?_
            rintro ex u' w'' ⟨rfl, rfl, g⟩
            exact ⟨_, results_raI rfl _ _ N (N + 1) (N + 1 + 1) g.out.1 g.out.2.1 g.out.2.2.1 rfl rfl rfl, HP.out _ _ pa pe [] (by rw [show X = _ from HE.out]) (rw_nil _ _ _ _ _) (only_below (O3.trans g.out.2.2.2 (fun b h1 e => by omega)))⟩
        · go_simp
          · skip
            go_wp2_with (go_at_call 29; refine (show Calls Tryz.prog 29 _ _ _ from HCE.out _ (HK.out.2.2.only ((Only.refl _ u1).drew))).mono ?_; rintro ex u3 ⟨rfl, o3⟩; unfold gup)
            have hNR : N + 2 < R := HNR.out
            have hn : N = w.heap.size := HN.out
            have K3 := (HK.out.1.only ((Only.refl (fun _ => False) u1).drew) (fun _ _ _ h => h)).only o3 (fun b h1 h2 e => by omega)
            have O3 : Only (fun _ => False) w u3 := HK.out.2.1.drew.trans o3 (fun b h1 e => by omega)
            refine leaves_cons (f := 43) (args := #[.pointer (some ⟨N, 0, none⟩), .pointer (some ⟨N + 1, 0, none⟩), .pointer (some ⟨N + 1 + 1, 0, none⟩)]) (by simp) (by simp [go_sem]) ?_
            refine (caught_ownI N (N + 1) (N + 1 + 1) _ _ _ _ _ _ pa pe [] _ K3.bx K3.by_ K3.bz (by omega) (by omega) (by omega)).mono ?_
            rintro ex u' w'' ⟨rfl, rfl, g⟩
            exact ⟨_, results_raI rfl _ _ N (N + 1) (N + 1 + 1) g.out.1 g.out.2.1 g.out.2.2.1 rfl rfl rfl, HP.out _ _ pa pe [] (by rw [show X = _ from HE.out]) (rw_nil _ _ _ _ _) (only_below (O3.trans g.out.2.2.2 (fun b h1 e => by omega)))⟩
      | ok p =>
        obtain ⟨l1, q2, z2⟩ := p
        obtain ⟨fm, hfm⟩ : ∃ fm, l1 = [fm] := by
          have h1 := (prs_ok _ _ _ _ _ _ _ _ _ hX2 (by omega)).2.2.2.1 (by omega)
          match l1, h1 with
          | [x], _ => exact ⟨x, rfl⟩
        subst hfm
        rw [hX2] at HE0
        have HE : Hid (X = preI (acc ++ [fm]) (alI (s.size : Int) 12400 g0 q2)) := HE0
        have HCE : Hid (∀ u2, RdAt u2 R (t :: r) (s.size : Int) 0 0 → Calls Tryz.prog 29 #[.pointer (some ⟨R, 0, none⟩)] u2 fun x w' => ∃ iv, x = .returned iv ∧ Hid (NwAt w' u2.heap.size 12400 true fm iv ∧ RdAt w' R q2 (s.size : Int) 0 z2 ∧ Only (fun b => b = R) u2 w')) := fun u2 h2 => by have := HC u2 h2; rw [hX2] at this; exact this.mono fun x w' g => by obtain ⟨t1, v, e1, e2, e3⟩ := g; injection e1 with e1; subst e1; exact ⟨v, e2, e3⟩
        have HQ : Hid (q2.length < (t :: r).length) := (prs_ok _ _ _ _ _ _ _ _ _ hX2 (by omega)).1
        have HK : Hid (RaKI N (.slice ao acc.length cap) (a : Int) 0 u1 ∧ Only (fun _ => False) w u1 ∧ RdAt u1 R (t :: r) (s.size : Int) 0 0 ∧ RwAt u1 (R + 1) 36 12400 true (.slice ao acc.length cap) acc) := ⟨K2, O2, q1, F2⟩
        have x0 : u1.cell? ⟨N, 0, none⟩ = some (.slice ao acc.length cap) := by rw [blk_cells K2.bx]; rfl
        have fx : u1.frozen? ⟨N, 0, none⟩ = false := blk_froz K2.bx 0
        clear HI HE0 HC hX2 K2 F2 O2 q1 o1 hn hNR
        go_wp2_with fail
        rw [← hu1]
        clear r0 r3 f3 hu1
        have HAP : Hid (∀ u2 u3 iv, Only (fun _ => False) u1 u2 → NwAt u3 u2.heap.size 12400 true fm iv → RdAt u3 R q2 (s.size : Int) 0 z2 → Only (fun b => b = R) u2 u3 → ∃ ao' cap' u4, (∀ ty, (Builtin.append_ #[24, 24] ty #[.slice ao acc.length cap, .slice (some ⟨u3.heap.size, 0, none⟩) 1 1]).run Tryz.prog (u3.alloc (.cells #[iv] 36)) = .ok (.slice ao' (acc.length + 1) cap') u4) ∧ u3.cell? ⟨N, 0, none⟩ = some (.slice ao acc.length cap) ∧ u4.cell? ⟨N, 0, none⟩ = some (.slice ao acc.length cap) ∧ u4.frozen? ⟨N, 0, none⟩ = false ∧ (∃ T y, iv = .iface T y) ∧ Hid (RaKI N (.slice ao' (acc.length + 1) cap') (a : Int) 0 (u4.setCell ⟨N, 0, none⟩ (.slice ao' (acc.length + 1) cap')) ∧ RwAt (u4.setCell ⟨N, 0, none⟩ (.slice ao' (acc.length + 1) cap')) (R + 1) 36 12400 true (.slice ao' (acc.length + 1) cap') (acc ++ [fm]) ∧ RdAt (u4.setCell ⟨N, 0, none⟩ (.slice ao' (acc.length + 1) cap')) R q2 (s.size : Int) 0 z2 ∧ Only (fun _ => False) w (u4.setCell ⟨N, 0, none⟩ (.slice ao' (acc.length + 1) cap')))) := by
          intro u2 u3 iv o2 nf rd o3
          have hNR : N + 2 < R := HNR.out
          have hn : N = w.heap.size := HN.out
          have hR1 : R < u1.heap.size := HK.out.2.2.1.lt
          have K3 := (HK.out.1.only o2 (fun _ _ _ h => h)).only o3 (fun b h1 h2 e => by omega)
          have F3 := (HK.out.2.2.2.only o2 (fun _ _ h => h)).only o3 (fun b h1 e => by omega)
          have O3 : Only (fun _ => False) w u3 := (HK.out.2.1.trans o2 (fun _ _ h => h)).trans o3 (fun b h1 e => by omega)
          have hone := nf.form
          have hb := HB.out
          simp only [List.length_cons] at hb
          have s2 := o2.size
          have s3 := o3.size
          obtain ⟨us, S, hown, _⟩ := HK.out.2.2.2
          obtain ⟨v', u4, hr, hf, ho⟩ := app_item F3 nf (by omega) (fun k hk => by have := (hown.lt k hk).2; omega) (by omega) (by omega)
          obtain ⟨ao', cap', hv⟩ := hf.form
          simp only [List.length_append, List.length_cons, List.length_nil, Nat.zero_add] at hv
          subst hv
          have K4 := K3.only ho (fun b h1 h2 e => by omega)
          have oN : Only (fun b => b = N) u4 (u4.setCell ⟨N, 0, none⟩ (.slice ao' (acc.length + 1) cap')) := (Only.refl (fun b => b = N) u4).setCell ⟨N, 0, none⟩ _ (fun _ => rfl)
          refine ⟨ao', cap', u4, hr, by rw [blk_cells K3.bx]; rfl, by rw [blk_cells K4.bx]; rfl, blk_froz K4.bx 0, hone, K4.setX _, hf.only oN (fun b h1 e => by omega), (rd.other (fun b h1 e => by omega) ho).one K4.bx (by omega) _, (O3.trans ho (fun b h1 e => by omega)).trans oN (fun b h1 e => by omega)⟩
        refine wp_region_any (by kernel_rfl) ?_
        change wpAny _ _ _ _ _ _ _ (World.drew _)
        refine wpAny_take (i := 1) (v := .func (.func 29) #[] #[]) rfl (by kernel_rfl) (by kernel_rfl) (by kernel_rfl) (fun c a w h => ra_putI (k := 35) (by omega) (by omega) (by omega) h) (Or.inl ⟨by rfl, fun w => by rfl⟩) ?_
        refine wpAny_take (i := 2) (v := .pointer (some ⟨R, 0, none⟩)) rfl (by kernel_rfl) (by kernel_rfl) (by kernel_rfl) (fun c a w h => ra_putI (k := 36) (by omega) (by omega) (by omega) h) (Or.inl ⟨by rfl, fun w => by rfl⟩) ?_
        refine wpAny_ready (rs := [0, 3]) (by kernel_rfl) (by simp) ?_
        refine AllReady.cons rfl (fun K hK => ?_) (AllReady.cons rfl (fun K hK => ?_) AllReady.nil)
        · skip
          go_simp
          refine hK _ _ ?_
          clear hK K
          refine wpAny_ready (rs := [3]) (by kernel_rfl) (by simp) ?_
          refine AllReady.cons rfl (fun K hK => ?_) AllReady.nil
          go_simp
          go_wp2_with (go_at_call 29; refine (show Calls Tryz.prog 29 _ _ _ from HCE.out _ (HK.out.2.2.1.only ((Only.refl _ u1).drew))).mono ?_; rintro ex u3 ⟨iv, rfl, g3⟩; obtain ⟨T, y, hiv⟩ := g3.out.1.form; subst hiv)
          obtain ⟨ao', cap', u4, hr, y3, y4, yf, b1, HZZ⟩ := HAP.out u1.drew u3 (.iface T y) ((Only.refl _ u1).drew) g3.out.1 g3.out.2.1 g3.out.2.2
          have y5 : ∀ x, (u3.alloc x).cell? ⟨N, 0, none⟩ = some (.slice ao acc.length cap) := fun x => alloc_cell u3 _ x _ y3
          clear g3
          refine wpAny_ready (rs := [4]) (by kernel_rfl) (by simp) ?_
          refine AllReady.cons rfl (fun K hK => ?_) AllReady.nil
          go_simp
          refine hK _ _ ?_
          clear hK K
          refine wpAny_ready (rs := [5]) (by kernel_rfl) (by simp) ?_
          refine AllReady.cons rfl (fun K hK => ?_) AllReady.nil
          refine step_append_run (by rfl) _ _ 24 (by rfl) _ _ (.slice ao' (acc.length + 1) cap') (by rfl) (by rfl) hr ?_
          refine hK _ _ ?_
          clear hK K
          refine wpAny_ready (rs := [6]) (by kernel_rfl) (by simp) ?_
          refine AllReady.cons rfl (fun K hK => ?_) AllReady.nil
          go_simp
          refine hK _ _ ?_
          clear hK K
          refine wpAny_done (by kernel_rfl) ?_ _
          clear hr y3 y4 yf b1 y5
          obtain ⟨U, hU⟩ : ∃ U, U = u4.setCell ⟨N, 0, none⟩ (.slice ao' (acc.length + 1) cap') := ⟨_, rfl⟩
          rw [← hU] at HZZ
          rw [← hU]
          clear hU
          go_wp2
          go_roundw
          case rel => exact ⟨g0, q2, z2, acc ++ [fm], ao', cap', HE.out, by have := HB.out; have := HQ.out; omega, by have := HB.out; have := HQ.out; simp only [List.length_append, List.length_cons, List.length_nil] at *; omega, by simpa using HZZ.out.1, by simpa using HZZ.out.2.1, HZZ.out.2.2.1, HZZ.out.2.2.2⟩
          case measure => rw [HB.out.2.2, qLen_of HZZ.out.2.2.1]; exact HQ.out
        · skip
          go_simp
          go_wp2_with (go_at_call 29; refine (show Calls Tryz.prog 29 _ _ _ from HCE.out _ (HK.out.2.2.1.only ((Only.refl _ u1).drew))).mono ?_; rintro ex u3 ⟨iv, rfl, g3⟩; obtain ⟨T, y, hiv⟩ := g3.out.1.form; subst hiv)
          obtain ⟨ao', cap', u4, hr, y3, y4, yf, b1, HZZ⟩ := HAP.out u1.drew u3 (.iface T y) ((Only.refl _ u1).drew) g3.out.1 g3.out.2.1 g3.out.2.2
          have y5 : ∀ x, (u3.alloc x).cell? ⟨N, 0, none⟩ = some (.slice ao acc.length cap) := fun x => alloc_cell u3 _ x _ y3
          clear g3
          refine wpAny_ready (rs := [0, 4]) (by kernel_rfl) (by simp) ?_
          refine AllReady.cons rfl (fun K hK => ?_) (AllReady.cons rfl (fun K hK => ?_) AllReady.nil)
          · skip
            go_simp
            refine hK _ _ ?_
            clear hK K
            refine wpAny_ready (rs := [4]) (by kernel_rfl) (by simp) ?_
            refine AllReady.cons rfl (fun K hK => ?_) AllReady.nil
            go_simp
            refine hK _ _ ?_
            clear hK K
            refine wpAny_ready (rs := [5]) (by kernel_rfl) (by simp) ?_
            refine AllReady.cons rfl (fun K hK => ?_) AllReady.nil
            refine step_append_run (by rfl) _ _ 24 (by rfl) _ _ (.slice ao' (acc.length + 1) cap') (by rfl) (by rfl) hr ?_
            refine hK _ _ ?_
            clear hK K
            refine wpAny_ready (rs := [6]) (by kernel_rfl) (by simp) ?_
            refine AllReady.cons rfl (fun K hK => ?_) AllReady.nil
            go_simp
            refine hK _ _ ?_
            clear hK K
            refine wpAny_done (by kernel_rfl) ?_ _
            clear hr y3 y4 yf b1 y5
            obtain ⟨U, hU⟩ : ∃ U, U = u4.setCell ⟨N, 0, none⟩ (.slice ao' (acc.length + 1) cap') := ⟨_, rfl⟩
            rw [← hU] at HZZ
            rw [← hU]
            clear hU
            go_wp2
            go_roundw
            case rel => exact ⟨g0, q2, z2, acc ++ [fm], ao', cap', HE.out, by have := HB.out; have := HQ.out; omega, by have := HB.out; have := HQ.out; simp only [List.length_append, List.length_cons, List.length_nil] at *; omega, by simpa using HZZ.out.1, by simpa using HZZ.out.2.1, HZZ.out.2.2.1, HZZ.out.2.2.2⟩
            case measure => rw [HB.out.2.2, qLen_of HZZ.out.2.2.1]; exact HQ.out
          · skip
            go_simp
            refine hK _ _ ?_
            clear hK K
            refine wpAny_ready (rs := [0]) (by kernel_rfl) (by simp) ?_
            refine AllReady.cons rfl (fun K hK => ?_) AllReady.nil
            go_simp
            refine hK _ _ ?_
            clear hK K
            refine wpAny_ready (rs := [5]) (by kernel_rfl) (by simp) ?_
            refine AllReady.cons rfl (fun K hK => ?_) AllReady.nil
            refine step_append_run (by rfl) _ _ 24 (by rfl) _ _ (.slice ao' (acc.length + 1) cap') (by rfl) (by rfl) hr ?_
            refine hK _ _ ?_
            clear hK K
            refine wpAny_ready (rs := [6]) (by kernel_rfl) (by simp) ?_
            refine AllReady.cons rfl (fun K hK => ?_) AllReady.nil
            go_simp
            refine hK _ _ ?_
            clear hK K
            refine wpAny_done (by kernel_rfl) ?_ _
            clear hr y3 y4 yf b1 y5
            obtain ⟨U, hU⟩ : ∃ U, U = u4.setCell ⟨N, 0, none⟩ (.slice ao' (acc.length + 1) cap') := ⟨_, rfl⟩
            rw [← hU] at HZZ
            rw [← hU]
            clear hU
            go_wp2
            go_roundw
            case rel => exact ⟨g0, q2, z2, acc ++ [fm], ao', cap', HE.out, by have := HB.out; have := HQ.out; omega, by have := HB.out; have := HQ.out; simp only [List.length_append, List.length_cons, List.length_nil] at *; omega, by simpa using HZZ.out.1, by simpa using HZZ.out.2.1, HZZ.out.2.2.1, HZZ.out.2.2.2⟩
            case measure => rw [HB.out.2.2, qLen_of HZZ.out.2.2.1]; exact HQ.out
end Go.Proofs.YtmpfbjmaiddigaaGreatDoor
namespace Go.Proofs.YtmpfbjmaiddigaaGreatDoor
open Go.RowKit
set_option linter.unusedSimpArgs false
set_option linter.unusedVariables false
theorem readAll_any (s : ByteArray) (w : World) (h : Nog w) : Calls Tryz.prog 24 #[.string s, .func (.func 25) #[] #[]] w (raP s w) := by
  by_cases hb : (tokR s).2.2 = 0
  · exact readAll_good s w h hb (tokR_len s) (by have := tokR_size hb; omega)
  · exact readAll_bad s w h hb
theorem readAll_anyI (s : ByteArray) (w : World) (h : Nog w) : Calls Tryz.prog 28 #[.string s, .func (.func 29) #[] #[]] w (raPI s w) := by
  by_cases hb : (tokR s).2.2 = 0
  · exact readAll_goodI s w h hb (tokR_len s) (by have := tokR_size hb; omega)
  · exact readAll_badI s w h hb
set_option maxRecDepth 100000 in
theorem parse_any (s : ByteArray) (w : World) (h : Nog w) : Calls Tryz.prog 10 #[.string s] w (raP s w) := by
  have HC : Hid (Calls Tryz.prog 24 #[.string s, .func (.func 25) #[] #[]] w (raP s w)) := readAll_any s w h
  clear h
  go_enter Tryz.func10, Tryz.ntmps10
  go_wp2_with fail
  refine (show Calls Tryz.prog 24 _ _ _ from HC.out).mono ?_
  rintro e w1 ⟨v, rfl, g⟩
  clear HC
  go_wp2
  go_ret3
  exact ⟨v, rfl, g⟩
set_option maxRecDepth 100000 in
theorem items_any (s : ByteArray) (w : World) (h : Nog w) : Calls Tryz.prog 14 #[.string s] w (raPI s w) := by
  have HC : Hid (Calls Tryz.prog 28 #[.string s, .func (.func 29) #[] #[]] w (raPI s w)) := readAll_anyI s w h
  clear h
  go_enter Tryz.func14, Tryz.ntmps14
  go_wp2_with fail
  refine (show Calls Tryz.prog 28 _ _ _ from HC.out).mono ?_
  rintro e w1 ⟨v, rfl, g⟩
  clear HC
  go_wp2
  go_ret3
  exact ⟨v, rfl, g⟩
theorem seven : (parI ⟨#[55]⟩).2.2 = 0 ∧ (parI ⟨#[55]⟩).1.length = 1 := ⟨by kernel_rfl, by kernel_rfl⟩
set_option maxRecDepth 100000 in
theorem awake_any (w : World) (h : Nog w) : Calls Tryz.prog 4 #[] w fun e w' => e = .returned (.bool true) ∧ Below w.heap.size w w' := by
  have HC : Hid (Calls Tryz.prog 14 #[.string ⟨#[55]⟩] w fun x w' => ∃ ao cap a, x = .returned (.tuple #[.slice ao 1 cap, .int .i64 a, .int .i64 0]) ∧ Below w.heap.size w w') := (items_any ⟨#[55]⟩ w h).mono fun x w' g => by
    obtain ⟨v, he, g⟩ := g
    obtain ⟨ao, cap, hv⟩ := g.out.1.form
    rw [seven.2] at hv
    rw [seven.1, hv] at he
    exact ⟨ao, cap, _, he, g.out.2⟩
  clear h
  go_enter Tryz.func4, Tryz.ntmps4
  go_wp2_with fail
  refine (show Calls Tryz.prog 14 _ _ _ from HC.out).mono ?_
  rintro e w1 ⟨ao, cap, a, rfl, o1⟩
  have O1 : Hid (Below w.heap.size w w1) := o1
  clear HC o1
  go_wp2
  go_ret
  exact ⟨rfl, O1.out⟩
end Go.Proofs.YtmpfbjmaiddigaaGreatDoor
namespace Go.Proofs.YtmpfbjmaiddigaaGreatDoor
open Go.RowKit
set_option linter.unusedSimpArgs false
set_option linter.unusedVariables false
/-- the number and the text of the document's tree -/
def vn (t : Tre) : Int := if t.k = 1 then t.n else if t.k = 3 then (if t.n != 0 then 1 else 0) else 0
def vs (t : Tre) : ByteArray := if t.k = 2 ∨ t.k = 7 then t.s else ⟨#[]⟩
/-- lists of at most 4096 parts -/
def WfT : Nat → Tre → Prop
  | 0, _ => False
  | d + 1, t => t.l.length ≤ 4096 ∧ ∀ x ∈ t.l, WfT d x
theorem WfT.mono : ∀ {d d' : Nat} {t : Tre}, d ≤ d' → WfT d t → WfT d' t
  | 0, _, _, _, h => h.elim
  | d + 1, 0, t, hd, h => by omega
  | d + 1, e + 1, t, hd, h => ⟨h.1, fun x hx => (h.2 x hx).mono (by omega)⟩
theorem prs_wf (n : Int) : ∀ f m q o z l r z', prs n f m q o z = .ok (l, r, z') → z ≤ 1024 → q.length ≤ 4096 → ∀ x ∈ l, WfT f x := by
  intro f
  induction f with
  | zero => intro m q o z l r z' h; simp [prs] at h
  | succ f ih =>
    intro m q o z l r z' h hz hq
    match m with
    | 0 =>
      simp only [prs] at h
      cases q with
      | nil => simp at h
      | cons t q =>
        simp only [List.length_cons] at hq
        simp only at h
        repeat' split at h
        all_goals first
          | (simp at h; done)
          | (simp only [Except.ok.injEq, Prod.mk.injEq] at h; obtain ⟨rfl, rfl, rfl⟩ := h; intro x hx; simp only [List.mem_cons, List.not_mem_nil, or_false] at hx; subst hx; exact ⟨Nat.zero_le _, fun x hx => by simp at hx⟩)
          | skip
        all_goals
          rename_i hp
          simp only [Except.ok.injEq, Prod.mk.injEq] at h; obtain ⟨rfl, rfl, rfl⟩ := h
          have h1 := prs_ok n _ _ _ _ _ _ _ _ hp (by omega)
          have h2 := ih _ _ _ _ _ _ _ hp (by omega) (by omega)
          intro x hx
          simp only [List.mem_cons, List.not_mem_nil, or_false] at hx
          subst hx
          exact ⟨by dsimp only; omega, h2⟩
    | 1 =>
      simp only [prs] at h
      cases q with
      | nil => simp at h
      | cons t q =>
        simp only at h
        repeat' split at h
        · simp at h
        · simp only [Except.ok.injEq, Prod.mk.injEq] at h; obtain ⟨rfl, rfl, rfl⟩ := h; intro x hx; simp only [List.mem_cons, List.not_mem_nil, or_false] at hx; subst hx; exact ⟨Nat.zero_le _, fun x hx => by simp at hx⟩
        · exact fun x hx => (ih _ _ _ _ _ _ _ h hz hq x hx).mono (by omega)
    | m + 2 =>
      simp only [prs] at h
      cases q with
      | nil => simp at h
      | cons t q =>
        simp only at h
        repeat' split at h
        · simp only [Except.ok.injEq, Prod.mk.injEq] at h; obtain ⟨rfl, rfl, rfl⟩ := h; intro x hx; simp at hx
        · simp at h
        · simp at h
        · rename_i l1 r1 z1 hp _ l2 r2 z2 hp2
          simp only [Except.ok.injEq, Prod.mk.injEq] at h; obtain ⟨rfl, rfl, rfl⟩ := h
          obtain ⟨h1, h2, h3, h4, h5⟩ := prs_ok n _ _ _ _ _ _ _ _ hp hz
          intro x hx
          rw [List.mem_append] at hx
          rcases hx with hx | hx
          · exact (ih _ _ _ _ _ _ _ hp hz hq x hx).mono (by omega)
          · exact (ih _ _ _ _ _ _ _ hp2 h3 (by omega) x hx).mono (by omega)
/-- the slice lv holds the parts of the tree t as the document has them -/
def VtAt (w : World) (S : Nat → Prop) : Nat → Tre → Value → Prop
  | 0, _, _ => False
  | d + 1, t, lv => ∃ ao cap, lv = .slice ao t.l.length cap ∧ t.l.length ≤ cap ∧ ∀ (i : Nat) (x : Tre), t.l[i]? = some x → ∃ g k lx, ao = some ⟨g, k, none⟩ ∧ S g ∧ (w.cell? ⟨g, k + i * 4, none⟩ = some (.int .i64 (x.k : Int)) ∧ w.cell? ⟨g, k + i * 4 + 1, none⟩ = some (.int .i64 (vn x)) ∧ w.cell? ⟨g, k + i * 4 + 2, none⟩ = some (.string (vs x)) ∧ w.cell? ⟨g, k + i * 4 + 3, none⟩ = some lx) ∧ VtAt w S d x lx
theorem VtAt.step {w w' : World} {S S' : Nat → Prop} (hS : ∀ b, S b → S' b) (hk : ∀ (a : Addr) u, S a.block → w.cell? a = some u → w'.cell? a = some u) : ∀ {d d' : Nat} {t : Tre} {v : Value}, d ≤ d' → VtAt w S d t v → VtAt w' S' d' t v := by
  intro d
  induction d with
  | zero => intro d' t v _ h; exact h.elim
  | succ d ih =>
    intro d' t v hd h
    obtain ⟨e, rfl⟩ : ∃ e, d' = e + 1 := ⟨d' - 1, by omega⟩
    obtain ⟨ao, cap, hv, hc, hl⟩ := h
    refine ⟨ao, cap, hv, hc, fun i x hx => ?_⟩
    obtain ⟨g, k, lx, ha, hg, ⟨c0, c1, c2, c3⟩, ht⟩ := hl i x hx
    exact ⟨g, k, lx, ha, hS g hg, ⟨hk _ _ hg c0, hk _ _ hg c1, hk _ _ hg c2, hk _ _ hg c3⟩, ih (by omega) ht⟩
def NvAt (w : World) (B d : Nat) (t : Tre) (lv : Value) : Prop := ∃ S, VtAt w S d t lv ∧ ∀ b, S b → B ≤ b ∧ b < w.heap.size
theorem NvAt.only {w w' : World} {B d : Nat} {t : Tre} {lv : Value} {bs : Nat → Prop} (h : NvAt w B d t lv) (o : Only bs w w') (hb : ∀ b, B ≤ b → ¬ bs b) : NvAt w' B d t lv := by
  obtain ⟨S, ht, hS⟩ := h
  exact ⟨S, ht.step (fun _ g => g) (fun a u hs hc => o.cell hc (hb _ (hS _ hs).1)) (Nat.le_refl _), fun b hbS => ⟨(hS b hbS).1, Nat.lt_of_lt_of_le (hS b hbS).2 o.size⟩⟩
theorem NvAt.lower {w : World} {B C d : Nat} {t : Tre} {lv : Value} (h : NvAt w B d t lv) (hC : C ≤ B) : NvAt w C d t lv := by
  obtain ⟨S, ht, hS⟩ := h
  exact ⟨S, ht, fun b hbS => ⟨Nat.le_trans hC (hS b hbS).1, (hS b hbS).2⟩⟩
theorem NvAt.deep {w : World} {B d d' : Nat} {t : Tre} {lv : Value} (h : NvAt w B d t lv) (hd : d ≤ d') : NvAt w B d' t lv := by
  obtain ⟨S, ht, hS⟩ := h
  exact ⟨S, ht.step (fun _ g => g) (fun _ _ _ g => g) hd, hS⟩
theorem nv_nil {w : World} {B d : Nat} {t : Tre} (h : t.l = []) : NvAt w B (d + 1) t (.slice none 0 0) :=
  ⟨fun _ => False, ⟨none, 0, by rw [h]; rfl, by rw [h]; exact Nat.zero_le _, fun i x hx => by rw [h] at hx; simp at hx⟩, fun b h => h.elim⟩
theorem NvAt.form {w : World} {B d : Nat} {t : Tre} {lv : Value} (h : NvAt w B d t lv) : ∃ ao cap, lv = .slice ao t.l.length cap := by
  obtain ⟨S, ht, _⟩ := h
  cases d with
  | zero => exact ht.elim
  | succ d => obtain ⟨ao, cap, hv, _⟩ := ht; exact ⟨ao, cap, hv⟩
/-- a row of the document's trees that was made since block B -/
def VrAt (w : World) (B d : Nat) (v : Value) (l : List Tre) : Prop :=
  ∃ us S, w.ownsRow B 54 4 v l.length us ∧ (∀ (j : Nat) (x : Tre), l[j]? = some x → ∃ lx, (us[j * 4]? = some (.int .i64 (x.k : Int)) ∧ us[j * 4 + 1]? = some (.int .i64 (vn x)) ∧ us[j * 4 + 2]? = some (.string (vs x)) ∧ us[j * 4 + 3]? = some lx) ∧ VtAt w S d x lx) ∧ ∀ b, S b → B ≤ b ∧ b < w.heap.size ∧ v.ownBlock ≠ some b
theorem vr_nil (w : World) (B d : Nat) : VrAt w B d (.slice none 0 0) [] :=
  ⟨[], fun _ => False, ⟨rfl, .inl ⟨rfl, rfl⟩⟩, fun j x h => by simp at h, fun b h => h.elim⟩
theorem VrAt.form {w : World} {B d : Nat} {v : Value} {l : List Tre} (h : VrAt w B d v l) : ∃ ao cap, v = .slice ao l.length cap := by
  obtain ⟨us, S, ho, _⟩ := h
  rcases ho.2 with ⟨h1, h2⟩ | ⟨g, cap, cur, h1, _⟩
  · exact ⟨_, _, by rw [h1, h2]⟩
  · exact ⟨_, _, h1⟩
theorem VrAt.only {w w' : World} {B d : Nat} {v : Value} {l : List Tre} {bs : Nat → Prop} (h : VrAt w B d v l) (o : Only bs w w') (hb : ∀ b, B ≤ b → ¬ bs b) : VrAt w' B d v l := by
  obtain ⟨us, S, ho, ht, hS⟩ := h
  refine ⟨us, S, o.owns ho (fun k hk => hb k (ho.lt k hk).1), fun j x hx => ?_, fun b hbS => ?_⟩
  · obtain ⟨lx, hu, h2⟩ := ht j x hx
    exact ⟨lx, hu, h2.step (fun _ g => g) (fun a u hs hc => o.cell hc (hb _ (hS _ hs).1)) (Nat.le_refl _)⟩
  · obtain ⟨h1, h2, h3⟩ := hS b hbS
    exact ⟨h1, Nat.lt_of_lt_of_le h2 o.size, h3⟩
theorem VrAt.snoc {w w' : World} {B C d : Nat} {v v' : Value} {l : List Tre} {t : Tre} {lv : Value} {us : List Value} {S : Nat → Prop} (hg : w.grownBy w' v.ownBlock) (ho : w.ownsRow B 54 4 v l.length us) (ht : ∀ (j : Nat) (x : Tre), l[j]? = some x → ∃ lx, (us[j * 4]? = some (.int .i64 (x.k : Int)) ∧ us[j * 4 + 1]? = some (.int .i64 (vn x)) ∧ us[j * 4 + 2]? = some (.string (vs x)) ∧ us[j * 4 + 3]? = some lx) ∧ VtAt w S d x lx) (hS : ∀ b, S b → B ≤ b ∧ b < w.heap.size ∧ v.ownBlock ≠ some b)
    (hn : NvAt w C d t lv) (hC : B ≤ C) (hv : ∀ k, v.ownBlock = some k → k < C) (ho' : w'.ownsRow B 54 4 v' (l.length + 1) (us ++ [.int .i64 (t.k : Int), .int .i64 (vn t), .string (vs t), lv])) (hat : v'.ownBlock = v.ownBlock ∨ v'.ownBlock = some w.heap.size) : VrAt w' B d v' (l ++ [t]) := by
  obtain ⟨S1, t1, s1⟩ := hn
  have oo : Only (fun k => v.ownBlock = some k) w w' := (Only.refl _ w).grown hg (fun k e _ => e)
  have a1 : ∀ b, S b → ¬ v.ownBlock = some b := fun b h => (hS b h).2.2
  have a2 : ∀ b, S1 b → ¬ v.ownBlock = some b := fun b h e => by have := hv b e; have := (s1 b h).1; omega
  have hl : us.length = l.length * 4 := ho.1
  refine ⟨_, fun b => S b ∨ S1 b, by simpa using ho', fun j x hx => ?_, fun b hb => ?_⟩
  · by_cases hj : j < l.length
    · rw [List.getElem?_append_left hj] at hx
      obtain ⟨lx, ⟨h0, h1, h2, h3⟩, h6⟩ := ht j x hx
      have ap : ∀ i u, us[i]? = some u → (us ++ [.int .i64 (t.k : Int), .int .i64 (vn t), .string (vs t), lv])[i]? = some u := fun i u hu => by
        rw [List.getElem?_append_left (List.getElem?_eq_some_iff.1 hu).1]; exact hu
      exact ⟨lx, ⟨ap _ _ h0, ap _ _ h1, ap _ _ h2, ap _ _ h3⟩, h6.step (fun _ g => .inl g) (fun a y hs hc => oo.cell hc (a1 _ hs)) (Nat.le_refl _)⟩
    · have hj2 : j < (l ++ [t]).length := (List.getElem?_eq_some_iff.1 hx).1
      have hj3 : j = l.length := by simp at hj2; omega
      subst hj3
      simp at hx
      subst hx
      have ap : ∀ i, (us ++ [.int .i64 (t.k : Int), .int .i64 (vn t), .string (vs t), lv])[l.length * 4 + i]? = ([.int .i64 (t.k : Int), .int .i64 (vn t), .string (vs t), lv] : List Value)[i]? := fun i => by
        rw [List.getElem?_append_right (by omega)]
        congr 1
        omega
      exact ⟨lv, ⟨ap 0, ap 1, ap 2, ap 3⟩, t1.step (fun _ g => .inr g) (fun a y hs hc => oo.cell hc (a2 _ hs)) (Nat.le_refl _)⟩
  · have h1 : B ≤ b ∧ b < w.heap.size ∧ v.ownBlock ≠ some b := by
      rcases hb with h | h
      · exact hS b h
      · exact ⟨Nat.le_trans hC (s1 b h).1, (s1 b h).2, a2 b h⟩
    refine ⟨h1.1, Nat.lt_of_lt_of_le h1.2.1 oo.size, ?_⟩
    rcases hat with e | e <;> rw [e]
    · exact h1.2.2
    · intro e2
      injection e2 with e2
      have := h1.2.1
      omega
/-- a row as the parts of a tree -/
theorem VrAt.tree {w : World} {B d : Nat} {v : Value} {l : List Tre} {t : Tre} (h : VrAt w B d v l) (e : t.l = l) : NvAt w B (d + 1) t v := by
  subst e
  obtain ⟨us, S, ho, ht, hS⟩ := h
  refine ⟨fun b => S b ∨ v.ownBlock = some b, ?_, fun b hb => ?_⟩
  · rcases ho.2 with ⟨rfl, h2⟩ | ⟨g, cap, cur, hv, hB, hg, hn, hcm, hcs, htk⟩
    · exact ⟨none, 0, by rw [h2], by omega, fun i x hx => by have := (List.getElem?_eq_some_iff.1 hx).1; omega⟩
    · refine ⟨some ⟨g, 0, none⟩, cap, hv, hn, fun i x hx => ?_⟩
      obtain ⟨lx, ⟨h0, h1, h2, h3⟩, h4⟩ := ht i x hx
      have hc : ∀ j u, us[j]? = some u → w.cell? ⟨g, 0 + j, none⟩ = some u := fun j u hu => by
        have := ho.cells (g := g) (by rw [hv]; rfl) j u hu
        rwa [addr_ad, ← Nat.zero_add j] at this
      exact ⟨g, 0, lx, rfl, .inr (by rw [hv]; rfl), ⟨hc _ _ h0, hc _ _ h1, hc _ _ h2, hc _ _ h3⟩, h4.step (fun _ g => .inl g) (fun _ _ _ g => g) (Nat.le_refl _)⟩
  · rcases hb with h | h
    · exact ⟨(hS b h).1, (hS b h).2.1⟩
    · exact ho.lt b h
/-- what a type assertion with two values answers -/
theorem as_hit (T xt : TypeId) (D : TypeDesc) (hD : Tryz.prog.underlying T = some D) (hn : ∀ m, D ≠ .interface m) (x : Value) (W : World) : (Instr.typeAssert (.iface T x) xt T true).run Tryz.prog W = .ok (.tuple #[x, .bool true]) W := by
  simp only [Instr.typeAssert, Sem.run_bind, run_underlying hD, Result.andThen_ok]
  cases D <;> simp_all
theorem as_miss (T U xt : TypeId) (D : TypeDesc) (hD : Tryz.prog.underlying U = some D) (hn : ∀ m, D ≠ .interface m) (hT : T ≠ U) (z : Value) (hz : ∀ W : World, (zeroValue U).run Tryz.prog W = .ok z W) (x : Value) (W : World) : (Instr.typeAssert (.iface T x) xt U true).run Tryz.prog W = .ok (.tuple #[z, .bool false]) W := by
  simp only [Instr.typeAssert, Sem.run_bind, run_underlying hD, Result.andThen_ok]
  cases D <;> simp_all
end Go.Proofs.YtmpfbjmaiddigaaGreatDoor
