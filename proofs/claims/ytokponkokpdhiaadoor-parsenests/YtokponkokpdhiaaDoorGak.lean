/- readAll of items: the loop. Parse, Items; awake. What the texts of ParseNests are read as. -/
import Derived.Test.YtokponkokpdhiaaDoorGaj
import Derived.Test.YtokponkokpdhiaaDoorGai
import Derived.Laws.Concat
namespace Go.Proofs.YtokponkokpdhiaaDoor
open Go.RowKit
set_option linter.unusedSimpArgs false
set_option linter.unusedVariables false
/-- an item is put behind a row -/
theorem app_item {w : World} {B C d : Nat} {v : Value} {acc : List Tre} {t : Tre} {iv : Value} (hf : RwAt w B 54 d true v acc) (hn : NwAt w C d true t iv) (hC : B ≤ C) (hv : ∀ k, v.ownBlock = some k → k < C) (hB : B ≤ w.heap.size) (hl : acc.length ≤ 4096) :
    ∃ v' w', (∀ ty, (Builtin.append_ #[43, 43] ty #[v, .slice (some ⟨w.heap.size, 0, none⟩) 1 1]).run Tryd.prog (w.alloc (.cells #[iv] 54)) = .ok v' w') ∧ RwAt w' B 54 d true v' (acc ++ [t]) ∧ Only (fun k => B ≤ k) w w' := by
  obtain ⟨i0, z0, hi, hz0, hz1, hz2, hz3⟩ := el_info13
  obtain ⟨W, hW⟩ : ∃ W, W = w.alloc (.cells #[iv] 54) := ⟨_, rfl⟩
  have oo : Only (fun _ => False) w W := by rw [hW]; exact (Only.refl _ w).alloc _
  have hf2 := hf.only oo (fun _ _ h => h)
  have hn2 := hn.only oo (fun _ _ h => h)
  have hblk : W.heap[w.heap.size]? = some (.cells #[iv] 54) := by rw [hW]; exact alloc_at _ _ _ rfl
  obtain ⟨us, S, ho, ht, hS⟩ := hf2
  obtain ⟨T, y, hv0⟩ := hn2.form
  have key := fun ty => run_append_own_at (P := Tryd.prog) W B 43 ty 54 i0 z0 1 16 Tryd.underlying43 hi hz0 hz1 hz2 hz3 (by omega) v acc.length us ho ⟨w.heap.size, 0, none⟩ 1 1 [iv] rfl (by
      intro j u hj
      rw [addr_ad, blk_cells hblk]
      simpa using hj) (by
      intro u hu
      simp only [List.mem_cons, List.not_mem_nil, or_false] at hu
      subst hu
      rw [hv0]
      rfl) (by unfold maxLen; omega) (by omega) (by have := oo.size; omega)
  obtain ⟨v', w', hr, own', hg, _, hat⟩ := key 0
  refine ⟨v', w', fun ty => ?_, RwAt.snoc hg ho ht hS hn2 hC hv own' hat, oo.mono (bs' := fun k => B ≤ k) (fun _ _ h => h.elim) |>.trans ((Only.refl (fun k => v.ownBlock = some k) W).grown hg (fun k e _ => e)) (fun k hk e => (ho.lt k e).1)⟩
  rw [← hW, ← hr]
  rfl
theorem ra_putI {R : Ending → World → Prop} {a : Act} {k : Nat} {v : Value} {c : List PanicEntry} {w : World} (h4 : k ≠ 4) (h5 : k ≠ 5) (h6 : k ≠ 6) (h : bodyPostD Tryd.prog Tryd.f31 R (.panic c) (a.put (some k) v) w) : bodyPostD Tryd.prog Tryd.f31 R (.panic c) a w := by
  refine leaves_same (t := (a.put (some k) v).tmps) ?_ _ _ _ h
  simp [results, Tryd.results31, Act.put, Array.getElem?_setIfInBounds, h4, h5, h6]
set_option maxRecDepth 100000 in
set_option maxHeartbeats 8000000 in
theorem readAll_goodI (s : ByteArray) (w : World) (h : Nog w) (hb : (tokR s).2.2 = 0) (hlen : (tokR s).1.length ≤ 4096) (hs : s.size ≤ 1000000) :
    Calls Tryd.prog 31 #[.string s, .func (.func 32) #[] #[]] w (raPI s w) := by
  have HT : Hid (∀ w1, Only (fun _ => False) w w1 → Calls Tryd.prog 33 #[.string s] w1 fun e w' => ∃ v, e = .returned (.tuple #[v, .int .i64 ((tokR s).2.1 : Nat), .int .i64 0]) ∧ Hid (ToksAt w' w1.heap.size v (tokR s).1 ∧ Below w1.heap.size w1 w')) := fun w1 o1 => by have := tokens_any s w1 (h.frame o1); rw [hb] at this; exact this
  obtain ⟨X, hX⟩ : ∃ X, X = alI (s.size : Int) 12400 ((tokR s).1.length + 1) (tokR s).1 := ⟨_, rfl⟩
  have HP : Hid (∀ w' v a e l, (match X with | .error (a, e) => ([], a, e) | .ok l => (l, 0, 0)) = (l, a, e) → RwAt w' w.heap.size 54 12400 true v l → Below w.heap.size w w' → raPI s w (.returned (.tuple #[v, .int .i64 a, .int .i64 e])) w') := by
    intro w' v a e l h1 h2 h3
    have e1 : parI s = (l, a, e) := by unfold parI; rw [if_pos hb, ← hX]; exact h1
    unfold raPI
    rw [e1]
    exact ⟨_, rfl, h2, h3⟩
  obtain ⟨a, ha⟩ : ∃ a, a = (tokR s).2.1 := ⟨_, rfl⟩
  obtain ⟨q, hq⟩ : ∃ q, q = (tokR s).1 := ⟨_, rfl⟩
  rw [← ha, ← hq] at HT
  rw [← hq] at hlen hX
  have HX : Hid (X = preI [] (alI (s.size : Int) 12400 (q.length + 1) q) ∧ q.length ≤ 4096) := ⟨by
    rw [hX]
    cases alI (s.size : Int) 12400 (q.length + 1) q <;> rfl, hlen⟩
  have K0 : Hid (RaKI w.heap.size (.slice none 0 0) 0 0 (((w.alloc (.cells #[.slice none 0 0] 43)).alloc (.cells #[.int .i64 0] 3)).alloc (.cells #[.int .i64 0] 24))) := RaKI.start w
  have O0 : Hid (Only (fun _ => False) w (((w.alloc (.cells #[.slice none 0 0] 43)).alloc (.cells #[.int .i64 0] 3)).alloc (.cells #[.int .i64 0] 24))) := (((Only.refl _ w).alloc _).alloc _).alloc _
  have hmf : ∀ (fn : Fn) (first cap : Array Value) (w : World), (Instr.makeFunc fn first cap).run Tryd.prog w = .ok (.func fn first cap) w := fun _ _ _ _ => rfl
  clear ha hq h hX hlen hb
  go_enter_defers Tryd.func31, Tryd.ntmps31
  go_wp2_with fail
  refine (show Calls Tryd.prog 33 _ _ _ from HT.out _ O0.out).mono ?_
  rintro ex w1 ⟨v, rfl, g1⟩
  have o1 := below_only g1.out.2
  have K1 := K0.out.only o1 (fun _ _ _ h => h)
  have O1 : Hid (Only (fun _ => False) w w1) := O0.out.trans o1 (fun _ _ g => g)
  obtain ⟨N, hN⟩ : ∃ N, N = w.heap.size := ⟨_, rfl⟩
  have HN : Hid (N = w.heap.size) := hN
  have TK : Hid (ToksAt w1 (N + 3) v q) := ⟨g1.out.1.1, by have := g1.out.1.2; rw [hN]; exact owns_lower this (by simp)⟩
  rw [← hN] at K1
  have HK1 : Hid (RaKI N (.slice none 0 0) 0 0 w1) := K1
  have y0 : w1.cell? ⟨N + 1, 0, none⟩ = some (.int .i64 0) := by rw [blk_cells K1.by_]; rfl
  have z0 : w1.cell? ⟨N + 1 + 1, 0, none⟩ = some (.int .i64 0) := by rw [blk_cells K1.bz]; rfl
  have fy : w1.frozen? ⟨N + 1, 0, none⟩ = false := blk_froz K1.by_ 0
  have fz : w1.frozen? ⟨N + 1 + 1, 0, none⟩ = false := blk_froz K1.bz 0
  obtain ⟨ao, cap, hv⟩ := g1.out.1.1
  subst hv
  rw [← hN]
  clear HT O0 K0 o1 g1 hN K1
  go_wp2_with fail
  obtain ⟨W, hW⟩ : ∃ W, W = (((w1.setCell ⟨N + 1, 0, none⟩ (.int .i64 (a : Int))).setCell ⟨N + 1 + 1, 0, none⟩ (.int .i64 0)).alloc (.cells #[.slice ao q.length cap, .int .i64 (s.size : Int), .int .i64 0, .int .i64 0] 89)) := ⟨_, rfl⟩
  obtain ⟨R, hR⟩ : ∃ R, R = w1.heap.size := ⟨_, rfl⟩
  have hn : N = w.heap.size := HN.out
  have hNR : N + 2 < R := by rw [hR]; exact (Array.getElem?_eq_some_iff.1 HK1.out.bz).1
  have K2 : Hid (RaKI N (.slice none 0 0) (a : Int) 0 W) := by
    show RaKI _ _ _ _ _
    rw [hW]
    exact ((HK1.out.setY (a : Int)).setZ 0).only ((Only.refl (fun _ => False) _).alloc _) (fun _ _ _ h => h)
  have O2 : Hid (Only (fun _ => False) w W) := by
    show Only _ _ _
    rw [hW]
    exact ((O1.out.setCell ⟨N + 1, 0, none⟩ _ (fun h => by simp only at h; omega)).setCell ⟨N + 1 + 1, 0, none⟩ _ (fun h => by simp only at h; omega)).alloc _
  have R2 : Hid (RdAt W R q (s.size : Int) 0 0) := by
    show RdAt _ _ _ _ _ _
    rw [hR]
    refine rd_start TK.out ?_ ?_
    · rw [hW]
      exact (((Only.refl (fun b => b < N + 3) w1).setCell ⟨N + 1, 0, none⟩ _ (fun _ => by simp only; omega)).setCell ⟨N + 1 + 1, 0, none⟩ _ (fun _ => by simp only; omega)).alloc _
    · rw [hW]
      exact alloc_at _ _ _ (by simp)
  rw [← hW, ← hR]
  clear hW hR hn TK HK1 O1 y0 z0 fy fz
  have HNR : Hid (N + 2 < R) := hNR
  clear hNR
  go_loopw [] (fun wr => ∃ (g : Nat) (q' : List Tok) (z' : Int) (acc : List Tre) (ao : Option Addr) (cap : Nat), Hid (X = preI acc (alI (s.size : Int) 12400 g q') ∧ q'.length < g ∧ acc.length + q'.length ≤ 4096 ∧ RaKI N (.slice ao acc.length cap) (a : Int) 0 wr ∧ RwAt wr (R + 1) 54 12400 true (.slice ao acc.length cap) acc ∧ RdAt wr R q' (s.size : Int) 0 z' ∧ Only (fun _ => False) w wr)) (fun wr => qLen wr R)
  case atStart => exact ⟨q.length + 1, q, 0, [], none, 0, HX.out.1, by omega, by simpa using HX.out.2, K2.out, rw_nil _ _ _ _ _, R2.out, O2.out⟩
  case round =>
    obtain ⟨g, q', z', acc, ao, cap, HI⟩ := hrel
    obtain ⟨u, rfl⟩ : ∃ u, u = wr := ⟨_, rfl⟩
    clear K2 O2 R2
    obtain ⟨g0, rfl⟩ : ∃ g0, g = g0 + 1 := ⟨g - 1, by have := HI.out.2.1; omega⟩
    obtain ⟨vv, hRR, av, cv, hvv, hcv, _⟩ := HI.out.2.2.2.2.2.1
    subst hvv
    have r0 : u.cell? ⟨R, 0, none⟩ = some (.slice av q'.length cv) := by rw [blk_cells hRR]; rfl
    have r3 : u.cell? ⟨R, 3, none⟩ = some (.int .i64 z') := by rw [blk_cells hRR]; rfl
    have f3 : u.frozen? ⟨R, 3, none⟩ = false := blk_froz hRR 3
    clear hRR hcv
    have hNR : N + 2 < R := HNR.out
    cases q' with
    | nil =>
      have HE : Hid (X = .ok acc) := by show X = _; rw [HI.out.1]; simp [alI, preI]
      have K2 := HI.out.2.2.2.1
      have x0 : u.cell? ⟨N, 0, none⟩ = some (.slice ao acc.length cap) := by rw [blk_cells K2.bx]; rfl
      have y0 : u.cell? ⟨N + 1, 0, none⟩ = some (.int .i64 (a : Int)) := by rw [blk_cells K2.by_]; rfl
      have z0 : u.cell? ⟨N + 1 + 1, 0, none⟩ = some (.int .i64 0) := by rw [blk_cells K2.bz]; rfl
      have fx : u.frozen? ⟨N, 0, none⟩ = false := blk_froz K2.bx 0
      have fy : u.frozen? ⟨N + 1, 0, none⟩ = false := blk_froz K2.by_ 0
      have fz : u.frozen? ⟨N + 1 + 1, 0, none⟩ = false := blk_froz K2.bz 0
      have HK : Hid (RaKI N (.slice ao acc.length cap) (a : Int) 0 u ∧ RwAt u (R + 1) 54 12400 true (.slice ao acc.length cap) acc ∧ Only (fun _ => False) w u) := ⟨K2, HI.out.2.2.2.2.1, HI.out.2.2.2.2.2.2⟩
      clear HI K2
      simp only [List.length_nil] at r0
      obtain ⟨L, hL⟩ : ∃ L, L = acc.length := ⟨_, rfl⟩
      have HL : Hid (L = acc.length) := hL
      rw [← hL] at HK x0
      clear hL
      go_wp2
      obtain ⟨U, hU⟩ : ∃ U, U = ((u.setCell ⟨N, 0, none⟩ (.slice ao L cap)).setCell ⟨N + 1, 0, none⟩ (.int .i64 0)).setCell ⟨N + 1 + 1, 0, none⟩ (.int .i64 0) := ⟨_, rfl⟩
      have hn : N = w.heap.size := HN.out
      have e1 : L = acc.length := HL.out
      have OO : Only (fun b => b ≤ N + 2) u U := by
        rw [hU]
        exact (((Only.refl (fun b => b ≤ N + 2) u).setCell ⟨N, 0, none⟩ _ (fun _ => by simp only; omega)).setCell ⟨N + 1, 0, none⟩ _ (fun _ => by simp only; omega)).setCell ⟨N + 1 + 1, 0, none⟩ _ (fun _ => by simp only; omega)
      have K3 : Hid (RaKI N (.slice ao L cap) 0 0 U) := by
        show RaKI _ _ _ _ _
        rw [hU]
        exact ((HK.out.1.setX _).setY 0).setZ 0
      have K4 : Hid (RwAt U w.heap.size 54 12400 true (.slice ao L cap) acc ∧ Below w.heap.size w U) := by
        refine ⟨(HK.out.2.1.only OO (fun b h1 e => by omega)).lower (by omega), only_below ?_⟩
        rw [hU]
        exact ((HK.out.2.2.setCell ⟨N, 0, none⟩ _ (fun h => by simp only at h; omega)).setCell ⟨N + 1, 0, none⟩ _ (fun h => by simp only at h; omega)).setCell ⟨N + 1 + 1, 0, none⟩ _ (fun h => by simp only at h; omega)
      rw [← hU]
      clear hU OO HK x0 y0 z0 fx fy fz
      refine leaves_cons (f := 44) (args := #[.pointer (some ⟨N, 0, none⟩), .pointer (some ⟨N + 1, 0, none⟩), .pointer (some ⟨N + 1 + 1, 0, none⟩)]) (by simp) (by simp [go_sem]) ?_
      refine (caught_idleI _ _ _ _).mono ?_
      rintro ex u' w'' ⟨rfl, rfl, rfl⟩
      exact ⟨_, results_raI rfl _ _ N (N + 1) (N + 2) (by rw [blk_cells K3.out.bx]; rfl) (by rw [blk_cells K3.out.by_]; rfl) (by rw [blk_cells K3.out.bz]; rfl) rfl rfl rfl, HP.out _ _ _ _ acc (by rw [show X = _ from HE.out]) K4.out.1 K4.out.2⟩
    | cons t r =>
      have HB : Hid ((t :: r).length < g0 + 1 ∧ acc.length + (t :: r).length ≤ 4096 ∧ qLen u R = (t :: r).length) := ⟨HI.out.2.1, HI.out.2.2.1, qLen_of HI.out.2.2.2.2.2.1⟩
      obtain ⟨q1, o1⟩ := HI.out.2.2.2.2.2.1.size 0
      obtain ⟨u1, hu1⟩ : ∃ u1, u1 = u.setCell ⟨R, 3, none⟩ (.int .i64 0) := ⟨_, rfl⟩
      rw [← hu1] at q1 o1
      have K2 := HI.out.2.2.2.1.only o1 (fun b h1 h2 e => by omega)
      have F2 := HI.out.2.2.2.2.1.only o1 (fun b h1 e => by omega)
      have hn : N = w.heap.size := HN.out
      have O2 : Only (fun _ => False) w u1 := HI.out.2.2.2.2.2.2.trans o1 (fun b h1 e => by omega)
      have HE0 := HI.out.1
      rw [alI_go] at HE0
      have HC : ∀ u2, RdAt u2 R (t :: r) (s.size : Int) 0 0 → Calls Tryd.prog 32 #[.pointer (some ⟨R, 0, none⟩)] u2 (ptP R 12400 true (s.size : Int) 0 u2 (prs (s.size : Int) 12400 1 (t :: r) 0 0)) := by
        intro u2 h2
        have := HB.out
        exact (parts_any R (s.size : Int) 12401 12400 (by omega)).2.1 (t :: r) 0 0 u2 (by omega) (by omega) (by omega) (by omega) (by omega) (by omega) h2
      have i1 : (0 : Int) < ((t :: r).length : Int) := by simp only [List.length_cons]; omega
      obtain ⟨L2, hL2⟩ : ∃ L2, L2 = (t :: r).length := ⟨_, rfl⟩
      rw [← hL2] at r0 i1
      clear hL2
      cases hX2 : prs (s.size : Int) 12400 1 (t :: r) 0 0 with
      | error p =>
        obtain ⟨pa, pe⟩ := p
        rw [hX2] at HE0
        have HE : Hid (X = .error (pa, pe)) := HE0
        have HCE : Hid (∀ u2, RdAt u2 R (t :: r) (s.size : Int) 0 0 → Calls Tryd.prog 32 #[.pointer (some ⟨R, 0, none⟩)] u2 fun x w' => x = gup pa pe ∧ Only (fun b => b = R) u2 w') := fun u2 h2 => by have := HC u2 h2; rw [hX2] at this; exact this
        have HK : Hid (RaKI N (.slice ao acc.length cap) (a : Int) 0 u1 ∧ Only (fun _ => False) w u1 ∧ RdAt u1 R (t :: r) (s.size : Int) 0 0) := ⟨K2, O2, q1⟩
        have x0 : u1.cell? ⟨N, 0, none⟩ = some (.slice ao acc.length cap) := by rw [blk_cells K2.bx]; rfl
        have fx : u1.frozen? ⟨N, 0, none⟩ = false := blk_froz K2.bx 0
        clear HI HE0 HC hX2 K2 F2 O2 q1 o1 hn hNR
        go_wp2_with fail
        rw [← hu1]
        clear r0 r3 f3 hu1
        refine wp_region_any (by kernel_rfl) ?_
        change wpAny _ _ _ _ _ _ _ (World.drew _)
        refine wpAny_take (i := 1) (v := .func (.func 32) #[] #[]) rfl (by kernel_rfl) (by kernel_rfl) (by kernel_rfl) (fun c a w h => ra_putI (k := 35) (by omega) (by omega) (by omega) h) (Or.inl ⟨by rfl, fun w => by rfl⟩) ?_
        refine wpAny_take (i := 2) (v := .pointer (some ⟨R, 0, none⟩)) rfl (by kernel_rfl) (by kernel_rfl) (by kernel_rfl) (fun c a w h => ra_putI (k := 36) (by omega) (by omega) (by omega) h) (Or.inl ⟨by rfl, fun w => by rfl⟩) ?_
        refine wpAny_ready (rs := [0, 3]) (by kernel_rfl) (by simp) ?_
        refine AllReady.cons rfl (fun K hK => ?_) (AllReady.cons rfl (fun K hK => ?_) AllReady.nil)
        · go_simp
          refine hK _ _ ?_
          clear hK K
          refine wpAny_ready (rs := [3]) (by kernel_rfl) (by simp) ?_
          refine AllReady.cons rfl (fun K hK => ?_) AllReady.nil
          go_simp
          · skip
            go_wp2_with (go_at_call 32; refine (show Calls Tryd.prog 32 _ _ _ from HCE.out _ (HK.out.2.2.only ((Only.refl _ u1).drew))).mono ?_; rintro ex u3 ⟨rfl, o3⟩; unfold gup)
            have hNR : N + 2 < R := HNR.out
            have hn : N = w.heap.size := HN.out
            have K3 := (HK.out.1.only ((Only.refl (fun _ => False) u1).drew) (fun _ _ _ h => h)).only o3 (fun b h1 h2 e => by omega)
            have O3 : Only (fun _ => False) w u3 := HK.out.2.1.drew.trans o3 (fun b h1 e => by omega)
            refine leaves_cons (f := 44) (args := #[.pointer (some ⟨N, 0, none⟩), .pointer (some ⟨N + 1, 0, none⟩), .pointer (some ⟨N + 1 + 1, 0, none⟩)]) (by simp) (by simp [go_sem]) ?_
            refine (caught_ownI N (N + 1) (N + 1 + 1) _ _ _ _ _ _ pa pe [] _ K3.bx K3.by_ K3.bz (by omega) (by omega) (by omega)).mono ?_
            rintro ex u' w'' ⟨rfl, rfl, g⟩
            exact ⟨_, results_raI rfl _ _ N (N + 1) (N + 1 + 1) g.out.1 g.out.2.1 g.out.2.2.1 rfl rfl rfl, HP.out _ _ pa pe [] (by rw [show X = _ from HE.out]) (rw_nil _ _ _ _ _) (only_below (O3.trans g.out.2.2.2 (fun b h1 e => by omega)))⟩
        · go_simp
          · skip
            go_wp2_with (go_at_call 32; refine (show Calls Tryd.prog 32 _ _ _ from HCE.out _ (HK.out.2.2.only ((Only.refl _ u1).drew))).mono ?_; rintro ex u3 ⟨rfl, o3⟩; unfold gup)
            have hNR : N + 2 < R := HNR.out
            have hn : N = w.heap.size := HN.out
            have K3 := (HK.out.1.only ((Only.refl (fun _ => False) u1).drew) (fun _ _ _ h => h)).only o3 (fun b h1 h2 e => by omega)
            have O3 : Only (fun _ => False) w u3 := HK.out.2.1.drew.trans o3 (fun b h1 e => by omega)
            refine leaves_cons (f := 44) (args := #[.pointer (some ⟨N, 0, none⟩), .pointer (some ⟨N + 1, 0, none⟩), .pointer (some ⟨N + 1 + 1, 0, none⟩)]) (by simp) (by simp [go_sem]) ?_
            refine (caught_ownI N (N + 1) (N + 1 + 1) _ _ _ _ _ _ pa pe [] _ K3.bx K3.by_ K3.bz (by omega) (by omega) (by omega)).mono ?_
            rintro ex u' w'' ⟨rfl, rfl, g⟩
            exact ⟨_, results_raI rfl _ _ N (N + 1) (N + 1 + 1) g.out.1 g.out.2.1 g.out.2.2.1 rfl rfl rfl, HP.out _ _ pa pe [] (by rw [show X = _ from HE.out]) (rw_nil _ _ _ _ _) (only_below (O3.trans g.out.2.2.2 (fun b h1 e => by omega)))⟩
      | ok p =>
        obtain ⟨l1, q2, z2⟩ := p
        obtain ⟨fm, hfm⟩ : ∃ fm, l1 = [fm] := by
          have h1 := (prs_ok _ _ _ _ _ _ _ _ _ hX2 (by omega)).2.2.2.1 (by omega)
          match l1, h1 with
          | [x], _ => exact ⟨x, rfl⟩
        subst hfm
        rw [hX2] at HE0
        have HE : Hid (X = preI (acc ++ [fm]) (alI (s.size : Int) 12400 g0 q2)) := HE0
        have HCE : Hid (∀ u2, RdAt u2 R (t :: r) (s.size : Int) 0 0 → Calls Tryd.prog 32 #[.pointer (some ⟨R, 0, none⟩)] u2 fun x w' => ∃ iv, x = .returned iv ∧ Hid (NwAt w' u2.heap.size 12400 true fm iv ∧ RdAt w' R q2 (s.size : Int) 0 z2 ∧ Only (fun b => b = R) u2 w')) := fun u2 h2 => by have := HC u2 h2; rw [hX2] at this; exact this.mono fun x w' g => by obtain ⟨t1, v, e1, e2, e3⟩ := g; injection e1 with e1; subst e1; exact ⟨v, e2, e3⟩
        have HQ : Hid (q2.length < (t :: r).length) := (prs_ok _ _ _ _ _ _ _ _ _ hX2 (by omega)).1
        have HK : Hid (RaKI N (.slice ao acc.length cap) (a : Int) 0 u1 ∧ Only (fun _ => False) w u1 ∧ RdAt u1 R (t :: r) (s.size : Int) 0 0 ∧ RwAt u1 (R + 1) 54 12400 true (.slice ao acc.length cap) acc) := ⟨K2, O2, q1, F2⟩
        have x0 : u1.cell? ⟨N, 0, none⟩ = some (.slice ao acc.length cap) := by rw [blk_cells K2.bx]; rfl
        have fx : u1.frozen? ⟨N, 0, none⟩ = false := blk_froz K2.bx 0
        clear HI HE0 HC hX2 K2 F2 O2 q1 o1 hn hNR
        go_wp2_with fail
        rw [← hu1]
        clear r0 r3 f3 hu1
        have HAP : Hid (∀ u2 u3 iv, Only (fun _ => False) u1 u2 → NwAt u3 u2.heap.size 12400 true fm iv → RdAt u3 R q2 (s.size : Int) 0 z2 → Only (fun b => b = R) u2 u3 → ∃ ao' cap' u4, (∀ ty, (Builtin.append_ #[43, 43] ty #[.slice ao acc.length cap, .slice (some ⟨u3.heap.size, 0, none⟩) 1 1]).run Tryd.prog (u3.alloc (.cells #[iv] 54)) = .ok (.slice ao' (acc.length + 1) cap') u4) ∧ u3.cell? ⟨N, 0, none⟩ = some (.slice ao acc.length cap) ∧ u4.cell? ⟨N, 0, none⟩ = some (.slice ao acc.length cap) ∧ u4.frozen? ⟨N, 0, none⟩ = false ∧ (∃ T y, iv = .iface T y) ∧ Hid (RaKI N (.slice ao' (acc.length + 1) cap') (a : Int) 0 (u4.setCell ⟨N, 0, none⟩ (.slice ao' (acc.length + 1) cap')) ∧ RwAt (u4.setCell ⟨N, 0, none⟩ (.slice ao' (acc.length + 1) cap')) (R + 1) 54 12400 true (.slice ao' (acc.length + 1) cap') (acc ++ [fm]) ∧ RdAt (u4.setCell ⟨N, 0, none⟩ (.slice ao' (acc.length + 1) cap')) R q2 (s.size : Int) 0 z2 ∧ Only (fun _ => False) w (u4.setCell ⟨N, 0, none⟩ (.slice ao' (acc.length + 1) cap')))) := by
          intro u2 u3 iv o2 nf rd o3
          have hNR : N + 2 < R := HNR.out
          have hn : N = w.heap.size := HN.out
          have hR1 : R < u1.heap.size := HK.out.2.2.1.lt
          have K3 := (HK.out.1.only o2 (fun _ _ _ h => h)).only o3 (fun b h1 h2 e => by omega)
          have F3 := (HK.out.2.2.2.only o2 (fun _ _ h => h)).only o3 (fun b h1 e => by omega)
          have O3 : Only (fun _ => False) w u3 := (HK.out.2.1.trans o2 (fun _ _ h => h)).trans o3 (fun b h1 e => by omega)
          have hone := nf.form
          have hb := HB.out
          simp only [List.length_cons] at hb
          have s2 := o2.size
          have s3 := o3.size
          obtain ⟨us, S, hown, _⟩ := HK.out.2.2.2
          obtain ⟨v', u4, hr, hf, ho⟩ := app_item F3 nf (by omega) (fun k hk => by have := (hown.lt k hk).2; omega) (by omega) (by omega)
          obtain ⟨ao', cap', hv⟩ := hf.form
          simp only [List.length_append, List.length_cons, List.length_nil, Nat.zero_add] at hv
          subst hv
          have K4 := K3.only ho (fun b h1 h2 e => by omega)
          have oN : Only (fun b => b = N) u4 (u4.setCell ⟨N, 0, none⟩ (.slice ao' (acc.length + 1) cap')) := (Only.refl (fun b => b = N) u4).setCell ⟨N, 0, none⟩ _ (fun _ => rfl)
          refine ⟨ao', cap', u4, hr, by rw [blk_cells K3.bx]; rfl, by rw [blk_cells K4.bx]; rfl, blk_froz K4.bx 0, hone, K4.setX _, hf.only oN (fun b h1 e => by omega), (rd.other (fun b h1 e => by omega) ho).one K4.bx (by omega) _, (O3.trans ho (fun b h1 e => by omega)).trans oN (fun b h1 e => by omega)⟩
        refine wp_region_any (by kernel_rfl) ?_
        change wpAny _ _ _ _ _ _ _ (World.drew _)
        refine wpAny_take (i := 1) (v := .func (.func 32) #[] #[]) rfl (by kernel_rfl) (by kernel_rfl) (by kernel_rfl) (fun c a w h => ra_putI (k := 35) (by omega) (by omega) (by omega) h) (Or.inl ⟨by rfl, fun w => by rfl⟩) ?_
        refine wpAny_take (i := 2) (v := .pointer (some ⟨R, 0, none⟩)) rfl (by kernel_rfl) (by kernel_rfl) (by kernel_rfl) (fun c a w h => ra_putI (k := 36) (by omega) (by omega) (by omega) h) (Or.inl ⟨by rfl, fun w => by rfl⟩) ?_
        refine wpAny_ready (rs := [0, 3]) (by kernel_rfl) (by simp) ?_
        refine AllReady.cons rfl (fun K hK => ?_) (AllReady.cons rfl (fun K hK => ?_) AllReady.nil)
        · skip
          go_simp
          refine hK _ _ ?_
          clear hK K
          refine wpAny_ready (rs := [3]) (by kernel_rfl) (by simp) ?_
          refine AllReady.cons rfl (fun K hK => ?_) AllReady.nil
          go_simp
          go_wp2_with (go_at_call 32; refine (show Calls Tryd.prog 32 _ _ _ from HCE.out _ (HK.out.2.2.1.only ((Only.refl _ u1).drew))).mono ?_; rintro ex u3 ⟨iv, rfl, g3⟩; obtain ⟨T, y, hiv⟩ := g3.out.1.form; subst hiv)
          obtain ⟨ao', cap', u4, hr, y3, y4, yf, b1, HZZ⟩ := HAP.out u1.drew u3 (.iface T y) ((Only.refl _ u1).drew) g3.out.1 g3.out.2.1 g3.out.2.2
          have y5 : ∀ x, (u3.alloc x).cell? ⟨N, 0, none⟩ = some (.slice ao acc.length cap) := fun x => alloc_cell u3 _ x _ y3
          clear g3
          refine wpAny_ready (rs := [4]) (by kernel_rfl) (by simp) ?_
          refine AllReady.cons rfl (fun K hK => ?_) AllReady.nil
          go_simp
          refine hK _ _ ?_
          clear hK K
          refine wpAny_ready (rs := [5]) (by kernel_rfl) (by simp) ?_
          refine AllReady.cons rfl (fun K hK => ?_) AllReady.nil
          refine step_append_run (by rfl) _ _ 43 (by rfl) _ _ (.slice ao' (acc.length + 1) cap') (by rfl) (by rfl) hr ?_
          refine hK _ _ ?_
          clear hK K
          refine wpAny_ready (rs := [6]) (by kernel_rfl) (by simp) ?_
          refine AllReady.cons rfl (fun K hK => ?_) AllReady.nil
          go_simp
          refine hK _ _ ?_
          clear hK K
          refine wpAny_done (by kernel_rfl) ?_ _
          clear hr y3 y4 yf b1 y5
          obtain ⟨U, hU⟩ : ∃ U, U = u4.setCell ⟨N, 0, none⟩ (.slice ao' (acc.length + 1) cap') := ⟨_, rfl⟩
          rw [← hU] at HZZ
          rw [← hU]
          clear hU
          go_wp2
          go_roundw
          case rel => exact ⟨g0, q2, z2, acc ++ [fm], ao', cap', HE.out, by have := HB.out; have := HQ.out; omega, by have := HB.out; have := HQ.out; simp only [List.length_append, List.length_cons, List.length_nil] at *; omega, by simpa using HZZ.out.1, by simpa using HZZ.out.2.1, HZZ.out.2.2.1, HZZ.out.2.2.2⟩
          case measure => rw [HB.out.2.2, qLen_of HZZ.out.2.2.1]; exact HQ.out
        · skip
          go_simp
          go_wp2_with (go_at_call 32; refine (show Calls Tryd.prog 32 _ _ _ from HCE.out _ (HK.out.2.2.1.only ((Only.refl _ u1).drew))).mono ?_; rintro ex u3 ⟨iv, rfl, g3⟩; obtain ⟨T, y, hiv⟩ := g3.out.1.form; subst hiv)
          obtain ⟨ao', cap', u4, hr, y3, y4, yf, b1, HZZ⟩ := HAP.out u1.drew u3 (.iface T y) ((Only.refl _ u1).drew) g3.out.1 g3.out.2.1 g3.out.2.2
          have y5 : ∀ x, (u3.alloc x).cell? ⟨N, 0, none⟩ = some (.slice ao acc.length cap) := fun x => alloc_cell u3 _ x _ y3
          clear g3
          refine wpAny_ready (rs := [0, 4]) (by kernel_rfl) (by simp) ?_
          refine AllReady.cons rfl (fun K hK => ?_) (AllReady.cons rfl (fun K hK => ?_) AllReady.nil)
          · skip
            go_simp
            refine hK _ _ ?_
            clear hK K
            refine wpAny_ready (rs := [4]) (by kernel_rfl) (by simp) ?_
            refine AllReady.cons rfl (fun K hK => ?_) AllReady.nil
            go_simp
            refine hK _ _ ?_
            clear hK K
            refine wpAny_ready (rs := [5]) (by kernel_rfl) (by simp) ?_
            refine AllReady.cons rfl (fun K hK => ?_) AllReady.nil
            refine step_append_run (by rfl) _ _ 43 (by rfl) _ _ (.slice ao' (acc.length + 1) cap') (by rfl) (by rfl) hr ?_
            refine hK _ _ ?_
            clear hK K
            refine wpAny_ready (rs := [6]) (by kernel_rfl) (by simp) ?_
            refine AllReady.cons rfl (fun K hK => ?_) AllReady.nil
            go_simp
            refine hK _ _ ?_
            clear hK K
            refine wpAny_done (by kernel_rfl) ?_ _
            clear hr y3 y4 yf b1 y5
            obtain ⟨U, hU⟩ : ∃ U, U = u4.setCell ⟨N, 0, none⟩ (.slice ao' (acc.length + 1) cap') := ⟨_, rfl⟩
            rw [← hU] at HZZ
            rw [← hU]
            clear hU
            go_wp2
            go_roundw
            case rel => exact ⟨g0, q2, z2, acc ++ [fm], ao', cap', HE.out, by have := HB.out; have := HQ.out; omega, by have := HB.out; have := HQ.out; simp only [List.length_append, List.length_cons, List.length_nil] at *; omega, by simpa using HZZ.out.1, by simpa using HZZ.out.2.1, HZZ.out.2.2.1, HZZ.out.2.2.2⟩
            case measure => rw [HB.out.2.2, qLen_of HZZ.out.2.2.1]; exact HQ.out
          · skip
            go_simp
            refine hK _ _ ?_
            clear hK K
            refine wpAny_ready (rs := [0]) (by kernel_rfl) (by simp) ?_
            refine AllReady.cons rfl (fun K hK => ?_) AllReady.nil
            go_simp
            refine hK _ _ ?_
            clear hK K
            refine wpAny_ready (rs := [5]) (by kernel_rfl) (by simp) ?_
            refine AllReady.cons rfl (fun K hK => ?_) AllReady.nil
            refine step_append_run (by rfl) _ _ 43 (by rfl) _ _ (.slice ao' (acc.length + 1) cap') (by rfl) (by rfl) hr ?_
            refine hK _ _ ?_
            clear hK K
            refine wpAny_ready (rs := [6]) (by kernel_rfl) (by simp) ?_
            refine AllReady.cons rfl (fun K hK => ?_) AllReady.nil
            go_simp
            refine hK _ _ ?_
            clear hK K
            refine wpAny_done (by kernel_rfl) ?_ _
            clear hr y3 y4 yf b1 y5
            obtain ⟨U, hU⟩ : ∃ U, U = u4.setCell ⟨N, 0, none⟩ (.slice ao' (acc.length + 1) cap') := ⟨_, rfl⟩
            rw [← hU] at HZZ
            rw [← hU]
            clear hU
            go_wp2
            go_roundw
            case rel => exact ⟨g0, q2, z2, acc ++ [fm], ao', cap', HE.out, by have := HB.out; have := HQ.out; omega, by have := HB.out; have := HQ.out; simp only [List.length_append, List.length_cons, List.length_nil] at *; omega, by simpa using HZZ.out.1, by simpa using HZZ.out.2.1, HZZ.out.2.2.1, HZZ.out.2.2.2⟩
            case measure => rw [HB.out.2.2, qLen_of HZZ.out.2.2.1]; exact HQ.out
end Go.Proofs.YtokponkokpdhiaaDoor
namespace Go.Proofs.YtokponkokpdhiaaDoor
open Go.RowKit
set_option linter.unusedSimpArgs false
set_option linter.unusedVariables false
theorem readAll_any (s : ByteArray) (w : World) (h : Nog w) : Calls Tryd.prog 15 #[.string s, .func (.func 16) #[] #[]] w (raP s w) := by
  by_cases hb : (tokR s).2.2 = 0
  · exact readAll_good s w h hb (tokR_len s) (by have := tokR_size hb; omega)
  · exact readAll_bad s w h hb
theorem readAll_anyI (s : ByteArray) (w : World) (h : Nog w) : Calls Tryd.prog 31 #[.string s, .func (.func 32) #[] #[]] w (raPI s w) := by
  by_cases hb : (tokR s).2.2 = 0
  · exact readAll_goodI s w h hb (tokR_len s) (by have := tokR_size hb; omega)
  · exact readAll_badI s w h hb
set_option maxRecDepth 100000 in
theorem parse_any (s : ByteArray) (w : World) (h : Nog w) : Calls Tryd.prog 7 #[.string s] w (raP s w) := by
  have HC : Hid (Calls Tryd.prog 15 #[.string s, .func (.func 16) #[] #[]] w (raP s w)) := readAll_any s w h
  clear h
  go_enter Tryd.func7, Tryd.ntmps7
  go_wp2_with fail
  refine (show Calls Tryd.prog 15 _ _ _ from HC.out).mono ?_
  rintro e w1 ⟨v, rfl, g⟩
  clear HC
  go_wp2
  go_ret3
  exact ⟨v, rfl, g⟩
set_option maxRecDepth 100000 in
theorem items_any (s : ByteArray) (w : World) (h : Nog w) : Calls Tryd.prog 14 #[.string s] w (raPI s w) := by
  have HC : Hid (Calls Tryd.prog 31 #[.string s, .func (.func 32) #[] #[]] w (raPI s w)) := readAll_anyI s w h
  clear h
  go_enter Tryd.func14, Tryd.ntmps14
  go_wp2_with fail
  refine (show Calls Tryd.prog 31 _ _ _ from HC.out).mono ?_
  rintro e w1 ⟨v, rfl, g⟩
  clear HC
  go_wp2
  go_ret3
  exact ⟨v, rfl, g⟩
theorem seven : (parI ⟨#[55]⟩).2.2 = 0 ∧ (parI ⟨#[55]⟩).1.length = 1 := ⟨by kernel_rfl, by kernel_rfl⟩
set_option maxRecDepth 100000 in
theorem awake_any (w : World) (h : Nog w) : Calls Tryd.prog 6 #[] w fun e w' => e = .returned (.bool true) ∧ Below w.heap.size w w' := by
  have HC : Hid (Calls Tryd.prog 14 #[.string ⟨#[55]⟩] w fun x w' => ∃ ao cap a, x = .returned (.tuple #[.slice ao 1 cap, .int .i64 a, .int .i64 0]) ∧ Below w.heap.size w w') := (items_any ⟨#[55]⟩ w h).mono fun x w' g => by
    obtain ⟨v, he, g⟩ := g
    obtain ⟨ao, cap, hv⟩ := g.out.1.form
    rw [seven.2] at hv
    rw [seven.1, hv] at he
    exact ⟨ao, cap, _, he, g.out.2⟩
  clear h
  go_enter Tryd.func6, Tryd.ntmps6
  go_wp2_with fail
  refine (show Calls Tryd.prog 14 _ _ _ from HC.out).mono ?_
  rintro e w1 ⟨ao, cap, a, rfl, o1⟩
  have O1 : Hid (Below w.heap.size w w1) := o1
  clear HC o1
  go_wp2
  go_ret
  exact ⟨rfl, O1.out⟩
end Go.Proofs.YtokponkokpdhiaaDoor
namespace Go.Proofs.YtokponkokpdhiaaDoor
open Go.RowKit
set_option linter.unusedSimpArgs false
set_option linter.unusedVariables false
/-- the text: a opening, b closing brackets -/
def quoT (a b : Nat) : ByteArray := tx (wtx (List.replicate a [91] ++ List.replicate b [93]))
/-- the same in a definition -/
def quoD (k : Nat) : ByteArray := tx (wtx ([[58], [120], [40], [45, 45], [41]] ++ (List.replicate k [91] ++ List.replicate k [93])) ++ [59])
theorem quo_gd (a b : Nat) : ∀ m ∈ (List.replicate a [91] ++ List.replicate b [93]), Gd m := by
  intro m hm
  simp only [List.mem_append, List.mem_replicate] at hm
  rcases hm with ⟨_, rfl⟩ | ⟨_, rfl⟩
  · exact gd_open
  · exact gd_shut
theorem quo_wl (a b : Nat) : wl (wtx (List.replicate a [91] ++ List.replicate b [93])) = 2 * a + 2 * b := by
  have h1 : ∀ c, wl (wtx (List.replicate c [91])) = 2 * c := by
    intro c
    induction c with
    | zero => rfl
    | succ c ih =>
      rw [List.replicate_succ, wtx_cons, wl_app, wl_cons 32, wr_32, ih, show wl [91] = 1 from rfl]
      omega
  have h2 : ∀ c, wl (wtx (List.replicate c [93])) = 2 * c := by
    intro c
    induction c with
    | zero => rfl
    | succ c ih =>
      rw [List.replicate_succ, wtx_cons, wl_app, wl_cons 32, wr_32, ih, show wl [93] = 1 from rfl]
      omega
  rw [wtx_app, wl_app, h1, h2]
theorem quo_res (k : Nat) (hk : k < 80) : (32 < k → parR (quoT k k) = ([], 64, 11)) ∧ (k = 0 → parR (quoT k k) = ([], 0, 0)) ∧ (k ≤ 32 → 0 < k → ∃ fm, parR (quoT k k) = ([fm], 0, 0)) := by
  have ht : tokR (quoT k k) = (wtk 0 (List.replicate k [91] ++ List.replicate k [93]), 0, 0) := by
    have := tokR_words (ws := List.replicate k [91] ++ List.replicate k [93]) (e := []) (quo_gd k k) (.inl rfl) (by simp; omega) (by rw [List.append_nil, quo_wl]; omega)
    rw [List.append_nil] at this
    unfold quoT
    rw [this]
    simp [lst]
  have hl : (wtk 0 (List.replicate k [91] ++ List.replicate k [93])).length = 2 * k := by rw [wtk_len]; simp; omega
  have hp : ∀ A, alR ((quoT k k).size : Int) 12400 (2 * k + 1) (wtk 0 (List.replicate k [91] ++ List.replicate k [93])) = A → parR (quoT k k) = match A with | .error (a, e) => ([], a, e) | .ok l => (l, 0, 0) := by
    intro A hA
    unfold parR
    rw [ht]
    dsimp only
    rw [if_pos rfl, hl, hA]
    cases A <;> rfl
  refine ⟨fun h => ?_, fun h => ?_, fun h h0 => ?_⟩
  · rw [hp (.error (64, 11)) (by rw [show 2 * k + 1 = (2 * k - 1) + 2 by omega]; exact (quo_alone _ k (2 * k - 1) hk).1 h)]
  · subst h
    rw [hp (.ok []) rfl]
  · obtain ⟨fm, hfm⟩ := (quo_alone ((quoT k k).size : Int) k (2 * k - 1) hk).2 h h0
    rw [show (2 * k - 1) + 2 = 2 * k + 1 by omega] at hfm
    exact ⟨fm, hp _ hfm⟩
theorem quo_resD (k : Nat) (hk : k < 80) : (31 < k → parR (quoD k) = ([], 73, 11)) ∧ (k ≤ 31 → ∃ fm, parR (quoD k) = ([fm], 0, 0)) := by
  have hg : ∀ m ∈ ([[58], [120], [40], [45, 45], [41]] ++ (List.replicate k [91] ++ List.replicate k [93]) : List (List Nat)), Gd m := by
    intro m hm
    simp only [List.mem_append, List.mem_cons, List.not_mem_nil, or_false] at hm
    rcases hm with (rfl | rfl | rfl | rfl | rfl) | hm
    · exact gd_colon
    · exact gd_x
    · exact gd_in
    · exact gd_mid
    · exact gd_out
    · exact quo_gd k k m (by simpa using hm)
  have hwl : wl (wtx ([[58], [120], [40], [45, 45], [41]] ++ (List.replicate k [91] ++ List.replicate k [93]))) = 11 + (2 * k + 2 * k) := by rw [wtx_app, wl_app, quo_wl]; rfl
  obtain ⟨c, ht⟩ : ∃ c : Nat, tokR (quoD k) = (wtk 0 ([[58], [120], [40], [45, 45], [41]] ++ (List.replicate k [91] ++ List.replicate k [93])) ++ [⟨1, tx [59], 0, (c : Int)⟩], 0, 0) := by
    have := tokR_words (ws := [[58], [120], [40], [45, 45], [41]] ++ (List.replicate k [91] ++ List.replicate k [93])) (e := [59]) hg (.inr gd_semi) (by simp; omega) (by rw [wl_app, hwl, show wl [59] = 1 from rfl]; omega)
    exact ⟨_, by unfold quoD; rw [this]; simp [lst]; rfl⟩
  have hl : (wtk 0 ([[58], [120], [40], [45, 45], [41]] ++ (List.replicate k [91] ++ List.replicate k [93])) ++ [(⟨1, tx [59], 0, (c : Int)⟩ : Tok)]).length = 2 * k + 6 := by rw [List.length_append, wtk_len]; simp; omega
  have hp : ∀ A, alR ((quoD k).size : Int) 12400 (2 * k + 6 + 1) (wtk 0 ([[58], [120], [40], [45, 45], [41]] ++ (List.replicate k [91] ++ List.replicate k [93])) ++ [⟨1, tx [59], 0, (c : Int)⟩]) = A → parR (quoD k) = match A with | .error (a, e) => ([], a, e) | .ok l => (l, 0, 0) := by
    intro A hA
    unfold parR
    rw [ht]
    dsimp only
    rw [if_pos rfl, hl, hA]
    cases A <;> rfl
  refine ⟨fun h => ?_, fun h => ?_⟩
  · rw [hp (.error (73, 11)) (by rw [show 2 * k + 6 + 1 = (2 * k + 5) + 2 by omega]; exact (quo_within _ k (2 * k + 5) c hk).1 h)]
  · obtain ⟨fm, hfm⟩ := (quo_within ((quoD k).size : Int) k (2 * k + 5) c hk).2 h
    rw [show (2 * k + 5) + 2 = 2 * k + 6 + 1 by omega] at hfm
    exact ⟨fm, hp _ hfm⟩
theorem quo_add (i : Nat) (hi : i < 80) (W : World) : (Op.stringOp .add (quoT i 0) ⟨#[91, 32]⟩).run Tryd.prog W = .ok (.string (quoT (i + 1) 0)) W := by
  have e : quoT i 0 ++ ⟨#[91, 32]⟩ = quoT (i + 1) 0 := by
    unfold quoT
    rw [show (⟨#[91, 32]⟩ : ByteArray) = tx [91, 32] from rfl, tx_app]
    congr 1
    rw [show List.replicate 0 [93] = [] from rfl, List.append_nil, List.append_nil, List.replicate_succ', wtx_app]
    rfl
  exact add_str _ W e (by unfold quoT; rw [tx_size, quo_wl]; omega) (by show 2 ≤ 1000000; omega)
theorem quo_addS (k i : Nat) (hk : k < 80) (hi : i < 80) (W : World) : (Op.stringOp .add (quoT k i) ⟨#[93, 32]⟩).run Tryd.prog W = .ok (.string (quoT k (i + 1))) W := by
  have e : quoT k i ++ ⟨#[93, 32]⟩ = quoT k (i + 1) := by
    unfold quoT
    rw [show (⟨#[93, 32]⟩ : ByteArray) = tx [93, 32] from rfl, tx_app]
    congr 1
    rw [List.replicate_succ', ← List.append_assoc, wtx_app (List.replicate k [91] ++ List.replicate i [93])]
    rfl
  exact add_str _ W e (by unfold quoT; rw [tx_size, quo_wl]; omega) (by show 2 ≤ 1000000; omega)
theorem quo_addD (k : Nat) (hk : k < 80) : ∃ S, (∀ W : World, (Op.stringOp .add ⟨#[58, 32, 120, 32, 40, 32, 45, 45, 32, 41, 32]⟩ (quoT k k)).run Tryd.prog W = .ok (.string S) W) ∧ ∀ W : World, (Op.stringOp .add S ⟨#[59]⟩).run Tryd.prog W = .ok (.string (quoD k)) W := by
  have e0 : (⟨#[58, 32, 120, 32, 40, 32, 45, 45, 32, 41, 32]⟩ : ByteArray) = tx (wtx [[58], [120], [40], [45, 45], [41]]) := rfl
  refine ⟨tx (wtx ([[58], [120], [40], [45, 45], [41]] ++ (List.replicate k [91] ++ List.replicate k [93]))), fun W => ?_, fun W => ?_⟩
  · refine add_str _ W ?_ (by show 11 ≤ 1000000; omega) (by unfold quoT; rw [tx_size, quo_wl]; omega)
    rw [e0]
    unfold quoT
    rw [tx_app, ← wtx_app]
  · refine add_str _ W ?_ (by rw [tx_size, wtx_app, wl_app, quo_wl]; show 11 + _ ≤ 1000000; omega) (by show 1 ≤ 1000000; omega)
    rw [show (⟨#[59]⟩ : ByteArray) = tx [59] from rfl, tx_app]
    rfl
theorem quo_nil : quoT 0 0 = ⟨#[]⟩ := rfl
/-- the text: a opening, b closing brackets -/
def lisT (a b : Nat) : ByteArray := tx (wtx (List.replicate a [123] ++ List.replicate b [125]))
/-- the same in a definition -/
def lisD (k : Nat) : ByteArray := tx (wtx ([[58], [120], [40], [45, 45], [41]] ++ (List.replicate k [123] ++ List.replicate k [125])) ++ [59])
theorem lis_gd (a b : Nat) : ∀ m ∈ (List.replicate a [123] ++ List.replicate b [125]), Gd m := by
  intro m hm
  simp only [List.mem_append, List.mem_replicate] at hm
  rcases hm with ⟨_, rfl⟩ | ⟨_, rfl⟩
  · exact gd_openL
  · exact gd_shutL
theorem lis_wl (a b : Nat) : wl (wtx (List.replicate a [123] ++ List.replicate b [125])) = 2 * a + 2 * b := by
  have h1 : ∀ c, wl (wtx (List.replicate c [123])) = 2 * c := by
    intro c
    induction c with
    | zero => rfl
    | succ c ih =>
      rw [List.replicate_succ, wtx_cons, wl_app, wl_cons 32, wr_32, ih, show wl [123] = 1 from rfl]
      omega
  have h2 : ∀ c, wl (wtx (List.replicate c [125])) = 2 * c := by
    intro c
    induction c with
    | zero => rfl
    | succ c ih =>
      rw [List.replicate_succ, wtx_cons, wl_app, wl_cons 32, wr_32, ih, show wl [125] = 1 from rfl]
      omega
  rw [wtx_app, wl_app, h1, h2]
theorem lis_res (k : Nat) (hk : k < 80) : (32 < k → parR (lisT k k) = ([], 64, 11)) ∧ (k = 0 → parR (lisT k k) = ([], 0, 0)) ∧ (k ≤ 32 → 0 < k → ∃ fm, parR (lisT k k) = ([fm], 0, 0)) := by
  have ht : tokR (lisT k k) = (wtk 0 (List.replicate k [123] ++ List.replicate k [125]), 0, 0) := by
    have := tokR_words (ws := List.replicate k [123] ++ List.replicate k [125]) (e := []) (lis_gd k k) (.inl rfl) (by simp; omega) (by rw [List.append_nil, lis_wl]; omega)
    rw [List.append_nil] at this
    unfold lisT
    rw [this]
    simp [lst]
  have hl : (wtk 0 (List.replicate k [123] ++ List.replicate k [125])).length = 2 * k := by rw [wtk_len]; simp; omega
  have hp : ∀ A, alR ((lisT k k).size : Int) 12400 (2 * k + 1) (wtk 0 (List.replicate k [123] ++ List.replicate k [125])) = A → parR (lisT k k) = match A with | .error (a, e) => ([], a, e) | .ok l => (l, 0, 0) := by
    intro A hA
    unfold parR
    rw [ht]
    dsimp only
    rw [if_pos rfl, hl, hA]
    cases A <;> rfl
  refine ⟨fun h => ?_, fun h => ?_, fun h h0 => ?_⟩
  · rw [hp (.error (64, 11)) (by rw [show 2 * k + 1 = (2 * k - 1) + 2 by omega]; exact (lis_alone _ k (2 * k - 1) hk).1 h)]
  · subst h
    rw [hp (.ok []) rfl]
  · obtain ⟨fm, hfm⟩ := (lis_alone ((lisT k k).size : Int) k (2 * k - 1) hk).2 h h0
    rw [show (2 * k - 1) + 2 = 2 * k + 1 by omega] at hfm
    exact ⟨fm, hp _ hfm⟩
theorem lis_resD (k : Nat) (hk : k < 80) : (31 < k → parR (lisD k) = ([], 73, 11)) ∧ (k ≤ 31 → ∃ fm, parR (lisD k) = ([fm], 0, 0)) := by
  have hg : ∀ m ∈ ([[58], [120], [40], [45, 45], [41]] ++ (List.replicate k [123] ++ List.replicate k [125]) : List (List Nat)), Gd m := by
    intro m hm
    simp only [List.mem_append, List.mem_cons, List.not_mem_nil, or_false] at hm
    rcases hm with (rfl | rfl | rfl | rfl | rfl) | hm
    · exact gd_colon
    · exact gd_x
    · exact gd_in
    · exact gd_mid
    · exact gd_out
    · exact lis_gd k k m (by simpa using hm)
  have hwl : wl (wtx ([[58], [120], [40], [45, 45], [41]] ++ (List.replicate k [123] ++ List.replicate k [125]))) = 11 + (2 * k + 2 * k) := by rw [wtx_app, wl_app, lis_wl]; rfl
  obtain ⟨c, ht⟩ : ∃ c : Nat, tokR (lisD k) = (wtk 0 ([[58], [120], [40], [45, 45], [41]] ++ (List.replicate k [123] ++ List.replicate k [125])) ++ [⟨1, tx [59], 0, (c : Int)⟩], 0, 0) := by
    have := tokR_words (ws := [[58], [120], [40], [45, 45], [41]] ++ (List.replicate k [123] ++ List.replicate k [125])) (e := [59]) hg (.inr gd_semi) (by simp; omega) (by rw [wl_app, hwl, show wl [59] = 1 from rfl]; omega)
    exact ⟨_, by unfold lisD; rw [this]; simp [lst]; rfl⟩
  have hl : (wtk 0 ([[58], [120], [40], [45, 45], [41]] ++ (List.replicate k [123] ++ List.replicate k [125])) ++ [(⟨1, tx [59], 0, (c : Int)⟩ : Tok)]).length = 2 * k + 6 := by rw [List.length_append, wtk_len]; simp; omega
  have hp : ∀ A, alR ((lisD k).size : Int) 12400 (2 * k + 6 + 1) (wtk 0 ([[58], [120], [40], [45, 45], [41]] ++ (List.replicate k [123] ++ List.replicate k [125])) ++ [⟨1, tx [59], 0, (c : Int)⟩]) = A → parR (lisD k) = match A with | .error (a, e) => ([], a, e) | .ok l => (l, 0, 0) := by
    intro A hA
    unfold parR
    rw [ht]
    dsimp only
    rw [if_pos rfl, hl, hA]
    cases A <;> rfl
  refine ⟨fun h => ?_, fun h => ?_⟩
  · rw [hp (.error (73, 11)) (by rw [show 2 * k + 6 + 1 = (2 * k + 5) + 2 by omega]; exact (lis_within _ k (2 * k + 5) c hk).1 h)]
  · obtain ⟨fm, hfm⟩ := (lis_within ((lisD k).size : Int) k (2 * k + 5) c hk).2 h
    rw [show (2 * k + 5) + 2 = 2 * k + 6 + 1 by omega] at hfm
    exact ⟨fm, hp _ hfm⟩
theorem lis_add (i : Nat) (hi : i < 80) (W : World) : (Op.stringOp .add (lisT i 0) ⟨#[123, 32]⟩).run Tryd.prog W = .ok (.string (lisT (i + 1) 0)) W := by
  have e : lisT i 0 ++ ⟨#[123, 32]⟩ = lisT (i + 1) 0 := by
    unfold lisT
    rw [show (⟨#[123, 32]⟩ : ByteArray) = tx [123, 32] from rfl, tx_app]
    congr 1
    rw [show List.replicate 0 [125] = [] from rfl, List.append_nil, List.append_nil, List.replicate_succ', wtx_app]
    rfl
  exact add_str _ W e (by unfold lisT; rw [tx_size, lis_wl]; omega) (by show 2 ≤ 1000000; omega)
theorem lis_addS (k i : Nat) (hk : k < 80) (hi : i < 80) (W : World) : (Op.stringOp .add (lisT k i) ⟨#[125, 32]⟩).run Tryd.prog W = .ok (.string (lisT k (i + 1))) W := by
  have e : lisT k i ++ ⟨#[125, 32]⟩ = lisT k (i + 1) := by
    unfold lisT
    rw [show (⟨#[125, 32]⟩ : ByteArray) = tx [125, 32] from rfl, tx_app]
    congr 1
    rw [List.replicate_succ', ← List.append_assoc, wtx_app (List.replicate k [123] ++ List.replicate i [125])]
    rfl
  exact add_str _ W e (by unfold lisT; rw [tx_size, lis_wl]; omega) (by show 2 ≤ 1000000; omega)
theorem lis_addD (k : Nat) (hk : k < 80) : ∃ S, (∀ W : World, (Op.stringOp .add ⟨#[58, 32, 120, 32, 40, 32, 45, 45, 32, 41, 32]⟩ (lisT k k)).run Tryd.prog W = .ok (.string S) W) ∧ ∀ W : World, (Op.stringOp .add S ⟨#[59]⟩).run Tryd.prog W = .ok (.string (lisD k)) W := by
  have e0 : (⟨#[58, 32, 120, 32, 40, 32, 45, 45, 32, 41, 32]⟩ : ByteArray) = tx (wtx [[58], [120], [40], [45, 45], [41]]) := rfl
  refine ⟨tx (wtx ([[58], [120], [40], [45, 45], [41]] ++ (List.replicate k [123] ++ List.replicate k [125]))), fun W => ?_, fun W => ?_⟩
  · refine add_str _ W ?_ (by show 11 ≤ 1000000; omega) (by unfold lisT; rw [tx_size, lis_wl]; omega)
    rw [e0]
    unfold lisT
    rw [tx_app, ← wtx_app]
  · refine add_str _ W ?_ (by rw [tx_size, wtx_app, wl_app, lis_wl]; show 11 + _ ≤ 1000000; omega) (by show 1 ≤ 1000000; omega)
    rw [show (⟨#[59]⟩ : ByteArray) = tx [59] from rfl, tx_app]
    rfl
theorem lis_nil : lisT 0 0 = ⟨#[]⟩ := rfl
end Go.Proofs.YtokponkokpdhiaaDoor
