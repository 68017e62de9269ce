/- readAll: the loop. readAll's deferred function, of items. All items of a source: readAll. -/
import Derived.Test.YtmpfbjmaiddigaaGreatDoorGal
import Derived.Test.YtmpfbjmaiddigaaGreatDoorGaj
namespace Go.Proofs.YtmpfbjmaiddigaaGreatDoor
open Go.RowKit
set_option linter.unusedSimpArgs false
set_option linter.unusedVariables false
set_option maxRecDepth 100000 in
theorem fm_info : ∃ i z, Tryz.prog.info? 38 = some i ∧ i.zero = some z ∧ i.size = 6 ∧ i.bytes = 80 ∧ z.cells.size = 6 := ⟨_, _, rfl, rfl, rfl, rfl, rfl⟩
theorem TrAt.form {w : World} {S : Nat → Prop} {d : Nat} {i : Bool} {t : Tre} {v : Value} (ht : TrAt w S d i t v) : ∃ T x, v = .iface T x := by
  cases d with
  | zero => exact ht.elim
  | succ d =>
    cases i with
    | true => rcases ht with h | ⟨_, u, h, _⟩
              · exact ⟨_, _, h.2.2⟩
              · exact ⟨_, _, h⟩
    | false => rcases ht with h | h | h | ⟨_, _, _, h, _⟩
               · exact ⟨_, _, h.2.2⟩
               · exact ⟨_, _, h.2.2⟩
               · exact ⟨_, _, h.2.2⟩
               · exact ⟨_, _, h⟩
theorem FmAt.one {w : World} {S : Nat → Prop} {d : Nat} {fm : Fm} {bv iv : Value} (h : FmAt w S d fm bv iv) : bv.oneCell' = true ∧ iv.oneCell' = true := by
  rcases h with ⟨_, _, ⟨ao, cap, rfl, _⟩, rfl⟩ | ⟨_, _, _, _, _, rfl, h7⟩
  · exact ⟨rfl, rfl⟩
  · obtain ⟨T, x, rfl⟩ := h7.form
    exact ⟨rfl, rfl⟩
/-- a form is put behind a row -/
theorem app_form {w : World} {B C d : Nat} {v : Value} {acc : List Fm} {fm : Fm} {bv iv : Value} (hf : FsAt w B d v acc) (hn : NfAt w C d fm bv iv) (hC : B ≤ C) (hv : ∀ k, v.ownBlock = some k → k < C) (hB : B ≤ w.heap.size) (hl : acc.length ≤ 4096) :
    ∃ v' w', (∀ ty, (Builtin.append_ #[39, 39] ty #[v, .slice (some ⟨w.heap.size, 0, none⟩) 1 1]).run Tryz.prog (w.alloc (.cells #[.bool fm.d, .string fm.nm, .int .i64 (fm.i : Int), .int .i64 (fm.j : Int), bv, iv] 38)) = .ok v' w') ∧ FsAt w' B d v' (acc ++ [fm]) ∧ Only (fun k => B ≤ k) w w' := by
  obtain ⟨i0, z0, hi, hz0, hz1, hz2, hz3⟩ := fm_info
  obtain ⟨W, hW⟩ : ∃ W, W = w.alloc (.cells #[.bool fm.d, .string fm.nm, .int .i64 (fm.i : Int), .int .i64 (fm.j : Int), bv, iv] 38) := ⟨_, rfl⟩
  have oo : Only (fun _ => False) w W := by rw [hW]; exact (Only.refl _ w).alloc _
  have hf2 := hf.only oo (fun _ _ h => h)
  have hn2 := hn.only oo (fun _ _ h => h)
  have hblk : W.heap[w.heap.size]? = some (.cells #[.bool fm.d, .string fm.nm, .int .i64 (fm.i : Int), .int .i64 (fm.j : Int), bv, iv] 38) := by rw [hW]; exact alloc_at _ _ _ rfl
  obtain ⟨us, S, ho, ht, hS⟩ := hf2
  obtain ⟨S1, h1, hs1⟩ := id hn2
  have hone := h1.one
  have key := fun ty => run_append_own_at (P := Tryz.prog) W B 39 ty 38 i0 z0 6 80 Tryz.underlying39 hi hz0 hz1 hz2 hz3 (by omega) v acc.length us ho ⟨w.heap.size, 0, none⟩ 1 1 [.bool fm.d, .string fm.nm, .int .i64 (fm.i : Int), .int .i64 (fm.j : Int), bv, iv] rfl (by
      intro j u hj
      rw [addr_ad, blk_cells hblk]
      simpa using hj) (by
      intro u hu
      simp only [List.mem_cons, List.not_mem_nil, or_false] at hu
      rcases hu with rfl | rfl | rfl | rfl | rfl | rfl
      · rfl
      · rfl
      · rfl
      · rfl
      · exact hone.1
      · exact hone.2) (by unfold maxLen; omega) (by omega) (by have := oo.size; omega)
  obtain ⟨v', w', hr, own', hg, _, hat⟩ := key 0
  refine ⟨v', w', fun ty => ?_, FsAt.snoc hg ho ht hS hn2 hC hv own' hat, oo.mono (bs' := fun k => B ≤ k) (fun _ _ h => h.elim) |>.trans ((Only.refl (fun k => v.ownBlock = some k) W).grown hg (fun k e _ => e)) (fun k hk e => (ho.lt k e).1)⟩
  rw [← hW, ← hr]
  rfl
/-- the reader as it begins -/
theorem rd_start {w1 W : World} {N : Nat} {v : Value} {q : List Tok} {n : Int} (h : ToksAt w1 (N + 3) v q) (o : Only (fun b => b < N + 3) w1 W) (hW : W.heap[w1.heap.size]? = some (.cells #[v, .int .i64 n, .int .i64 0, .int .i64 0] 110)) : RdAt W w1.heap.size q n 0 0 := by
  refine ⟨v, hW, ?_⟩
  obtain ⟨ao, cap, hv⟩ := h.1
  have hc : q.length ≤ cap := by
    rcases h.2.2 with ⟨e, h0⟩ | ⟨g, cap', cur, fz, e, _, _, _, hcap, _⟩
    · omega
    · rw [hv] at e
      injection e with _ _ e3
      omega
  refine ⟨ao, cap, hv, hc, fun i t ht => ?_⟩
  obtain ⟨g, cap', e, hB, hg, c0, c1, c2, c3⟩ := toks_cells h ht
  rw [hv] at e
  injection e with e1
  exact ⟨g, 0, e1, hg, by rw [Nat.zero_add]; exact o.cell c0 (by simp only; omega), by rw [Nat.zero_add]; exact o.cell c1 (by simp only; omega), by rw [Nat.zero_add]; exact o.cell c2 (by simp only; omega), by rw [Nat.zero_add]; exact o.cell c3 (by simp only; omega)⟩
/-- a block of one cell is none of the tokens' -/
theorem RdAt.one {w : World} {R N : Nat} {q : List Tok} {n o z : Int} {vx : Value} {T : TypeId} (h : RdAt w R q n o z) (hN : w.heap[N]? = some (.cells #[vx] T)) (hR : N ≠ R) (y : Value) : RdAt (w.setCell ⟨N, 0, none⟩ y) R q n o z := by
  obtain ⟨v, hv, ao, cap, e, hc, hq⟩ := h
  refine ⟨v, by rw [heap_setCell_other _ _ _ _ (by simp only; omega)]; exact hv, ao, cap, e, hc, fun i t ht => ?_⟩
  obtain ⟨g, k, ha, hg, c0, c1, c2, c3⟩ := hq i t ht
  have hgN : g ≠ N := by
    rintro rfl
    rw [blk_cells hN] at c1
    simp at c1
  have oN : Only (fun b => b = N) w (w.setCell ⟨N, 0, none⟩ y) := (Only.refl (fun b => b = N) w).setCell ⟨N, 0, none⟩ _ (fun _ => rfl)
  exact ⟨g, k, ha, hg, oN.cell c0 hgN, oN.cell c1 hgN, oN.cell c2 hgN, oN.cell c3 hgN⟩
section
variable {P : Program} {op : Oper} {a : Act} {w w' : World} {K : Act → World → Prop} {Q : Exit → Act → World → Prop}
theorem wp_append_run (s x : Operand) (t : TypeId) (ho : op.op = .call { callee := .builtin .append, args := #[s, x], argTypes := #[t, t] }) (v1 v2 v' : Value) (hs : a.eval s = v1) (hx : a.eval x = v2)
    (hr : (Builtin.append_ #[t, t] op.type #[v1, v2]).run P w = .ok v' w') (h : K (a.put op.dst v') w') : op.wp P a w K Q := by
  unfold Oper.wp
  simp [execOp, ho, resolve, invoke, builtin, hs, hx, hr, Result.andThen]
  exact h
theorem step_append_run {ops : Array Oper} {E : Prop} (hgd : op.guard = none) (s x : Operand) (t : TypeId) (ho : op.op = .call { callee := .builtin .append, args := #[s, x], argTypes := #[t, t] }) (v1 v2 v' : Value) (hs : a.eval s = v1) (hx : a.eval x = v2)
    (hr : ∀ ty, (Builtin.append_ #[t, t] ty #[v1, v2]).run P w = .ok v' w') (h : K (a.put op.dst v') w') : if Region.wanted op (yielded ops a.tmps) = true then Oper.wp P op a w K Q else E := by
  have hw : Region.wanted op (yielded ops a.tmps) = true := by simp [Region.wanted, hgd]
  rw [if_pos hw]
  exact wp_append_run s x t ho v1 v2 v' hs hx (hr _) h
end
theorem leaves_same {P : Program} {fn : Func} {R : Ending → World → Prop} {t t' : Array Value} (h : results fn t = results fn t') : ∀ (ds : List Deferred) (u : FrameMode) (w : World), Leaves P fn t R ds u w → Leaves P fn t' R ds u w
  | [], .returning, w, g => by obtain ⟨v, h1, h2⟩ := g; exact ⟨v, by rw [← h]; exact h1, h2⟩
  | [], .panicking c, w, g => g
  | [], .run, w, g => g
  | d :: ds, u, w, g => by
    obtain ⟨h1, fv, cap, f, args, h2, h3, h4⟩ := g
    refine ⟨h1, fv, cap, f, args, h2, h3, h4.mono fun e u' w' g => ?_⟩
    cases e with
    | returned v => exact leaves_same h ds _ _ g
    | panicked c => exact leaves_same h ds _ _ g
    | outgrown => exact g
theorem ra_put {R : Ending → World → Prop} {a : Act} {k : Nat} {v : Value} {c : List PanicEntry} {w : World} (h4 : k ≠ 4) (h5 : k ≠ 5) (h6 : k ≠ 6) (h : bodyPostD Tryz.prog Tryz.f24 R (.panic c) (a.put (some k) v) w) : bodyPostD Tryz.prog Tryz.f24 R (.panic c) a w := by
  refine leaves_same (t := (a.put (some k) v).tmps) ?_ _ _ _ h
  simp [results, Tryz.results24, Act.put, Array.getElem?_setIfInBounds, h4, h5, h6]
set_option maxRecDepth 100000 in
set_option maxHeartbeats 8000000 in
theorem readAll_good (s : ByteArray) (w : World) (h : Nog w) (hb : (tokR s).2.2 = 0) (hlen : (tokR s).1.length ≤ 4096) (hs : s.size ≤ 1000000) :
    Calls Tryz.prog 24 #[.string s, .func (.func 25) #[] #[]] w (raP s w) := by
  have HT : Hid (∀ w1, Only (fun _ => False) w w1 → Calls Tryz.prog 39 #[.string s] w1 fun e w' => ∃ v, e = .returned (.tuple #[v, .int .i64 ((tokR s).2.1 : Nat), .int .i64 0]) ∧ Hid (ToksAt w' w1.heap.size v (tokR s).1 ∧ Below w1.heap.size w1 w')) := fun w1 o1 => by have := tokens_any s w1 (h.frame o1); rw [hb] at this; exact this
  obtain ⟨X, hX⟩ : ∃ X, X = alR (s.size : Int) 12400 ((tokR s).1.length + 1) (tokR s).1 := ⟨_, rfl⟩
  have HP : Hid (∀ w' v a e l, (match X with | .error (a, e) => ([], a, e) | .ok l => (l, 0, 0)) = (l, a, e) → FsAt w' w.heap.size 12400 v l → Below w.heap.size w w' → raP s w (.returned (.tuple #[v, .int .i64 a, .int .i64 e])) w') := by
    intro w' v a e l h1 h2 h3
    have e1 : parR s = (l, a, e) := by unfold parR; rw [if_pos hb, ← hX]; exact h1
    unfold raP
    rw [e1]
    exact ⟨_, rfl, h2, h3⟩
  obtain ⟨a, ha⟩ : ∃ a, a = (tokR s).2.1 := ⟨_, rfl⟩
  obtain ⟨q, hq⟩ : ∃ q, q = (tokR s).1 := ⟨_, rfl⟩
  rw [← ha, ← hq] at HT
  rw [← hq] at hlen hX
  have HX : Hid (X = preF [] (alR (s.size : Int) 12400 (q.length + 1) q) ∧ q.length ≤ 4096) := ⟨by
    rw [hX]
    cases alR (s.size : Int) 12400 (q.length + 1) q <;> rfl, hlen⟩
  have K0 : Hid (RaK w.heap.size (.slice none 0 0) 0 0 (((w.alloc (.cells #[.slice none 0 0] 39)).alloc (.cells #[.int .i64 0] 3)).alloc (.cells #[.int .i64 0] 27))) := RaK.start w
  have O0 : Hid (Only (fun _ => False) w (((w.alloc (.cells #[.slice none 0 0] 39)).alloc (.cells #[.int .i64 0] 3)).alloc (.cells #[.int .i64 0] 27))) := (((Only.refl _ w).alloc _).alloc _).alloc _
  have hmf : ∀ (fn : Fn) (first cap : Array Value) (w : World), (Instr.makeFunc fn first cap).run Tryz.prog w = .ok (.func fn first cap) w := fun _ _ _ _ => rfl
  clear ha hq h hX hlen hb
  go_enter_defers Tryz.func24, Tryz.ntmps24
  go_wp2_with fail
  refine (show Calls Tryz.prog 39 _ _ _ from HT.out _ O0.out).mono ?_
  rintro ex w1 ⟨v, rfl, g1⟩
  have o1 := below_only g1.out.2
  have K1 := K0.out.only o1 (fun _ _ _ h => h)
  have O1 : Hid (Only (fun _ => False) w w1) := O0.out.trans o1 (fun _ _ g => g)
  obtain ⟨N, hN⟩ : ∃ N, N = w.heap.size := ⟨_, rfl⟩
  have HN : Hid (N = w.heap.size) := hN
  have TK : Hid (ToksAt w1 (N + 3) v q) := ⟨g1.out.1.1, by have := g1.out.1.2; rw [hN]; exact owns_lower this (by simp)⟩
  rw [← hN] at K1
  have HK1 : Hid (RaK N (.slice none 0 0) 0 0 w1) := K1
  have y0 : w1.cell? ⟨N + 1, 0, none⟩ = some (.int .i64 0) := by rw [blk_cells K1.by_]; rfl
  have z0 : w1.cell? ⟨N + 1 + 1, 0, none⟩ = some (.int .i64 0) := by rw [blk_cells K1.bz]; rfl
  have fy : w1.frozen? ⟨N + 1, 0, none⟩ = false := blk_froz K1.by_ 0
  have fz : w1.frozen? ⟨N + 1 + 1, 0, none⟩ = false := blk_froz K1.bz 0
  obtain ⟨ao, cap, hv⟩ := g1.out.1.1
  subst hv
  rw [← hN]
  clear HT O0 K0 o1 g1 hN K1
  go_wp2_with fail
  obtain ⟨W, hW⟩ : ∃ W, W = (((w1.setCell ⟨N + 1, 0, none⟩ (.int .i64 (a : Int))).setCell ⟨N + 1 + 1, 0, none⟩ (.int .i64 0)).alloc (.cells #[.slice ao q.length cap, .int .i64 (s.size : Int), .int .i64 0, .int .i64 0] 110)) := ⟨_, rfl⟩
  obtain ⟨R, hR⟩ : ∃ R, R = w1.heap.size := ⟨_, rfl⟩
  have hn : N = w.heap.size := HN.out
  have hNR : N + 2 < R := by rw [hR]; exact (Array.getElem?_eq_some_iff.1 HK1.out.bz).1
  have K2 : Hid (RaK N (.slice none 0 0) (a : Int) 0 W) := by
    show RaK _ _ _ _ _
    rw [hW]
    exact ((HK1.out.setY (a : Int)).setZ 0).only ((Only.refl (fun _ => False) _).alloc _) (fun _ _ _ h => h)
  have O2 : Hid (Only (fun _ => False) w W) := by
    show Only _ _ _
    rw [hW]
    exact ((O1.out.setCell ⟨N + 1, 0, none⟩ _ (fun h => by simp only at h; omega)).setCell ⟨N + 1 + 1, 0, none⟩ _ (fun h => by simp only at h; omega)).alloc _
  have R2 : Hid (RdAt W R q (s.size : Int) 0 0) := by
    show RdAt _ _ _ _ _ _
    rw [hR]
    refine rd_start TK.out ?_ ?_
    · rw [hW]
      exact (((Only.refl (fun b => b < N + 3) w1).setCell ⟨N + 1, 0, none⟩ _ (fun _ => by simp only; omega)).setCell ⟨N + 1 + 1, 0, none⟩ _ (fun _ => by simp only; omega)).alloc _
    · rw [hW]
      exact alloc_at _ _ _ (by simp)
  rw [← hW, ← hR]
  clear hW hR hn TK HK1 O1 y0 z0 fy fz
  have HNR : Hid (N + 2 < R) := hNR
  clear hNR
  go_loopw [] (fun wr => ∃ (g : Nat) (q' : List Tok) (z' : Int) (acc : List Fm) (ao : Option Addr) (cap : Nat), Hid (X = preF acc (alR (s.size : Int) 12400 g q') ∧ q'.length < g ∧ acc.length + q'.length ≤ 4096 ∧ RaK N (.slice ao acc.length cap) (a : Int) 0 wr ∧ FsAt wr (R + 1) 12400 (.slice ao acc.length cap) acc ∧ RdAt wr R q' (s.size : Int) 0 z' ∧ Only (fun _ => False) w wr)) (fun wr => qLen wr R)
  case atStart => exact ⟨q.length + 1, q, 0, [], none, 0, HX.out.1, by omega, by simpa using HX.out.2, K2.out, fs_nil _ _ _, R2.out, O2.out⟩
  case round =>
    obtain ⟨g, q', z', acc, ao, cap, HI⟩ := hrel
    obtain ⟨u, rfl⟩ : ∃ u, u = wr := ⟨_, rfl⟩
    clear K2 O2 R2
    obtain ⟨g0, rfl⟩ : ∃ g0, g = g0 + 1 := ⟨g - 1, by have := HI.out.2.1; omega⟩
    obtain ⟨vv, hRR, av, cv, hvv, hcv, _⟩ := HI.out.2.2.2.2.2.1
    subst hvv
    have r0 : u.cell? ⟨R, 0, none⟩ = some (.slice av q'.length cv) := by rw [blk_cells hRR]; rfl
    have r3 : u.cell? ⟨R, 3, none⟩ = some (.int .i64 z') := by rw [blk_cells hRR]; rfl
    have f3 : u.frozen? ⟨R, 3, none⟩ = false := blk_froz hRR 3
    clear hRR hcv
    have hNR : N + 2 < R := HNR.out
    cases q' with
    | nil =>
      have HE : Hid (X = .ok acc) := by show X = _; rw [HI.out.1]; simp [alR, preF]
      have K2 := HI.out.2.2.2.1
      have x0 : u.cell? ⟨N, 0, none⟩ = some (.slice ao acc.length cap) := by rw [blk_cells K2.bx]; rfl
      have y0 : u.cell? ⟨N + 1, 0, none⟩ = some (.int .i64 (a : Int)) := by rw [blk_cells K2.by_]; rfl
      have z0 : u.cell? ⟨N + 1 + 1, 0, none⟩ = some (.int .i64 0) := by rw [blk_cells K2.bz]; rfl
      have fx : u.frozen? ⟨N, 0, none⟩ = false := blk_froz K2.bx 0
      have fy : u.frozen? ⟨N + 1, 0, none⟩ = false := blk_froz K2.by_ 0
      have fz : u.frozen? ⟨N + 1 + 1, 0, none⟩ = false := blk_froz K2.bz 0
      have HK : Hid (RaK N (.slice ao acc.length cap) (a : Int) 0 u ∧ FsAt u (R + 1) 12400 (.slice ao acc.length cap) acc ∧ Only (fun _ => False) w u) := ⟨K2, HI.out.2.2.2.2.1, HI.out.2.2.2.2.2.2⟩
      clear HI K2
      simp only [List.length_nil] at r0
      obtain ⟨L, hL⟩ : ∃ L, L = acc.length := ⟨_, rfl⟩
      have HL : Hid (L = acc.length) := hL
      rw [← hL] at HK x0
      clear hL
      go_wp2
      obtain ⟨U, hU⟩ : ∃ U, U = ((u.setCell ⟨N, 0, none⟩ (.slice ao L cap)).setCell ⟨N + 1, 0, none⟩ (.int .i64 0)).setCell ⟨N + 1 + 1, 0, none⟩ (.int .i64 0) := ⟨_, rfl⟩
      have hn : N = w.heap.size := HN.out
      have e1 : L = acc.length := HL.out
      have OO : Only (fun b => b ≤ N + 2) u U := by
        rw [hU]
        exact (((Only.refl (fun b => b ≤ N + 2) u).setCell ⟨N, 0, none⟩ _ (fun _ => by simp only; omega)).setCell ⟨N + 1, 0, none⟩ _ (fun _ => by simp only; omega)).setCell ⟨N + 1 + 1, 0, none⟩ _ (fun _ => by simp only; omega)
      have K3 : Hid (RaK N (.slice ao L cap) 0 0 U) := by
        show RaK _ _ _ _ _
        rw [hU]
        exact ((HK.out.1.setX _).setY 0).setZ 0
      have K4 : Hid (FsAt U w.heap.size 12400 (.slice ao L cap) acc ∧ Below w.heap.size w U) := by
        refine ⟨(HK.out.2.1.only OO (fun b h1 e => by omega)).lower (by omega), only_below ?_⟩
        rw [hU]
        exact ((HK.out.2.2.setCell ⟨N, 0, none⟩ _ (fun h => by simp only at h; omega)).setCell ⟨N + 1, 0, none⟩ _ (fun h => by simp only at h; omega)).setCell ⟨N + 1 + 1, 0, none⟩ _ (fun h => by simp only at h; omega)
      rw [← hU]
      clear hU OO HK x0 y0 z0 fx fy fz
      refine leaves_cons (f := 40) (args := #[.pointer (some ⟨N, 0, none⟩), .pointer (some ⟨N + 1, 0, none⟩), .pointer (some ⟨N + 1 + 1, 0, none⟩)]) (by simp) (by simp [go_sem]) ?_
      refine (caught_idle _ _ _ _).mono ?_
      rintro ex u' w'' ⟨rfl, rfl, rfl⟩
      exact ⟨_, results_ra rfl _ _ N (N + 1) (N + 2) (by rw [blk_cells K3.out.bx]; rfl) (by rw [blk_cells K3.out.by_]; rfl) (by rw [blk_cells K3.out.bz]; rfl) rfl rfl rfl, HP.out _ _ _ _ acc (by rw [show X = _ from HE.out]) K4.out.1 K4.out.2⟩
    | cons t r =>
      have HB : Hid ((t :: r).length < g0 + 1 ∧ acc.length + (t :: r).length ≤ 4096 ∧ qLen u R = (t :: r).length) := ⟨HI.out.2.1, HI.out.2.2.1, qLen_of HI.out.2.2.2.2.2.1⟩
      obtain ⟨q1, o1⟩ := HI.out.2.2.2.2.2.1.size 0
      obtain ⟨u1, hu1⟩ : ∃ u1, u1 = u.setCell ⟨R, 3, none⟩ (.int .i64 0) := ⟨_, rfl⟩
      rw [← hu1] at q1 o1
      have K2 := HI.out.2.2.2.1.only o1 (fun b h1 h2 e => by omega)
      have F2 := HI.out.2.2.2.2.1.only o1 (fun b h1 e => by omega)
      have hn : N = w.heap.size := HN.out
      have O2 : Only (fun _ => False) w u1 := HI.out.2.2.2.2.2.2.trans o1 (fun b h1 e => by omega)
      have HE0 := HI.out.1
      rw [alR_go] at HE0
      have HC : ∀ u2, RdAt u2 R (t :: r) (s.size : Int) 0 0 → Calls Tryz.prog 25 #[.pointer (some ⟨R, 0, none⟩)] u2 (fmP R 12400 (s.size : Int) 0 u2 (fmR (s.size : Int) 12400 (t :: r) 0 0)) := by
        intro u2 h2
        have := HB.out
        exact form_any R 12400 (t :: r) (s.size : Int) 0 0 u2 (by omega) (by omega) (by omega) (by omega) (by omega) (by omega) h2
      have i1 : (0 : Int) < ((t :: r).length : Int) := by simp only [List.length_cons]; omega
      obtain ⟨L2, hL2⟩ : ∃ L2, L2 = (t :: r).length := ⟨_, rfl⟩
      rw [← hL2] at r0 i1
      clear hL2
      cases hX2 : fmR (s.size : Int) 12400 (t :: r) 0 0 with
      | error p =>
        obtain ⟨pa, pe⟩ := p
        rw [hX2] at HE0
        have HE : Hid (X = .error (pa, pe)) := HE0
        have HCE : Hid (∀ u2, RdAt u2 R (t :: r) (s.size : Int) 0 0 → Calls Tryz.prog 25 #[.pointer (some ⟨R, 0, none⟩)] u2 fun x w' => x = gup pa pe ∧ Only (fun b => b = R) u2 w') := fun u2 h2 => by have := HC u2 h2; rw [hX2] at this; exact this
        have HK : Hid (RaK N (.slice ao acc.length cap) (a : Int) 0 u1 ∧ Only (fun _ => False) w u1 ∧ RdAt u1 R (t :: r) (s.size : Int) 0 0) := ⟨K2, O2, q1⟩
        have x0 : u1.cell? ⟨N, 0, none⟩ = some (.slice ao acc.length cap) := by rw [blk_cells K2.bx]; rfl
        have fx : u1.frozen? ⟨N, 0, none⟩ = false := blk_froz K2.bx 0
        clear HI HE0 HC hX2 K2 F2 O2 q1 o1 hn hNR
        go_wp2_with fail
        rw [← hu1]
        clear r0 r3 f3 hu1
        refine wp_region_any (by kernel_rfl) ?_
        change wpAny _ _ _ _ _ _ _ (World.drew _)
        refine wpAny_take (i := 1) (v := .func (.func 25) #[] #[]) rfl (by kernel_rfl) (by kernel_rfl) (by kernel_rfl) (fun c a w h => ra_put (k := 35) (by omega) (by omega) (by omega) h) (Or.inl ⟨by rfl, fun w => by rfl⟩) ?_
        refine wpAny_take (i := 2) (v := .pointer (some ⟨R, 0, none⟩)) rfl (by kernel_rfl) (by kernel_rfl) (by kernel_rfl) (fun c a w h => ra_put (k := 36) (by omega) (by omega) (by omega) h) (Or.inl ⟨by rfl, fun w => by rfl⟩) ?_
        refine wpAny_ready (rs := [0, 3]) (by kernel_rfl) (by simp) ?_
        refine AllReady.cons rfl (fun K hK => ?_) (AllReady.cons rfl (fun K hK => ?_) AllReady.nil)
        · go_simp
          refine hK _ _ ?_
          clear hK K
          refine wpAny_ready (rs := [3]) (by kernel_rfl) (by simp) ?_
          refine AllReady.cons rfl (fun K hK => ?_) AllReady.nil
          go_simp
          · skip
            go_wp2_with (go_at_call 25; refine (show Calls Tryz.prog 25 _ _ _ from HCE.out _ (HK.out.2.2.only ((Only.refl _ u1).drew))).mono ?_; rintro ex u3 ⟨rfl, o3⟩; unfold gup)
            have hNR : N + 2 < R := HNR.out
            have hn : N = w.heap.size := HN.out
            have K3 := (HK.out.1.only ((Only.refl (fun _ => False) u1).drew) (fun _ _ _ h => h)).only o3 (fun b h1 h2 e => by omega)
            have O3 : Only (fun _ => False) w u3 := HK.out.2.1.drew.trans o3 (fun b h1 e => by omega)
            refine leaves_cons (f := 40) (args := #[.pointer (some ⟨N, 0, none⟩), .pointer (some ⟨N + 1, 0, none⟩), .pointer (some ⟨N + 1 + 1, 0, none⟩)]) (by simp) (by simp [go_sem]) ?_
            refine (caught_own N (N + 1) (N + 1 + 1) _ _ _ _ _ _ pa pe [] _ K3.bx K3.by_ K3.bz (by omega) (by omega) (by omega)).mono ?_
            rintro ex u' w'' ⟨rfl, rfl, g⟩
            exact ⟨_, results_ra rfl _ _ N (N + 1) (N + 1 + 1) g.out.1 g.out.2.1 g.out.2.2.1 rfl rfl rfl, HP.out _ _ pa pe [] (by rw [show X = _ from HE.out]) (fs_nil _ _ _) (only_below (O3.trans g.out.2.2.2 (fun b h1 e => by omega)))⟩
        · go_simp
          · skip
            go_wp2_with (go_at_call 25; refine (show Calls Tryz.prog 25 _ _ _ from HCE.out _ (HK.out.2.2.only ((Only.refl _ u1).drew))).mono ?_; rintro ex u3 ⟨rfl, o3⟩; unfold gup)
            have hNR : N + 2 < R := HNR.out
            have hn : N = w.heap.size := HN.out
            have K3 := (HK.out.1.only ((Only.refl (fun _ => False) u1).drew) (fun _ _ _ h => h)).only o3 (fun b h1 h2 e => by omega)
            have O3 : Only (fun _ => False) w u3 := HK.out.2.1.drew.trans o3 (fun b h1 e => by omega)
            refine leaves_cons (f := 40) (args := #[.pointer (some ⟨N, 0, none⟩), .pointer (some ⟨N + 1, 0, none⟩), .pointer (some ⟨N + 1 + 1, 0, none⟩)]) (by simp) (by simp [go_sem]) ?_
            refine (caught_own N (N + 1) (N + 1 + 1) _ _ _ _ _ _ pa pe [] _ K3.bx K3.by_ K3.bz (by omega) (by omega) (by omega)).mono ?_
            rintro ex u' w'' ⟨rfl, rfl, g⟩
            exact ⟨_, results_ra rfl _ _ N (N + 1) (N + 1 + 1) g.out.1 g.out.2.1 g.out.2.2.1 rfl rfl rfl, HP.out _ _ pa pe [] (by rw [show X = _ from HE.out]) (fs_nil _ _ _) (only_below (O3.trans g.out.2.2.2 (fun b h1 e => by omega)))⟩
      | ok p =>
        obtain ⟨fm, q2, z2⟩ := p
        rw [hX2] at HE0
        have HE : Hid (X = preF (acc ++ [fm]) (alR (s.size : Int) 12400 g0 q2)) := HE0
        have HCE : Hid (∀ u2, RdAt u2 R (t :: r) (s.size : Int) 0 0 → Calls Tryz.prog 25 #[.pointer (some ⟨R, 0, none⟩)] u2 fun x w' => ∃ bv iv, x = .returned (fmV fm bv iv) ∧ Hid (NfAt w' u2.heap.size 12400 fm bv iv ∧ RdAt w' R q2 (s.size : Int) 0 z2 ∧ Only (fun b => b = R) u2 w')) := fun u2 h2 => by have := HC u2 h2; rw [hX2] at this; exact this
        have HQ : Hid (q2.length < (t :: r).length) := fmR_len (by omega) hX2
        have HK : Hid (RaK N (.slice ao acc.length cap) (a : Int) 0 u1 ∧ Only (fun _ => False) w u1 ∧ RdAt u1 R (t :: r) (s.size : Int) 0 0 ∧ FsAt u1 (R + 1) 12400 (.slice ao acc.length cap) acc) := ⟨K2, O2, q1, F2⟩
        have x0 : u1.cell? ⟨N, 0, none⟩ = some (.slice ao acc.length cap) := by rw [blk_cells K2.bx]; rfl
        have fx : u1.frozen? ⟨N, 0, none⟩ = false := blk_froz K2.bx 0
        clear HI HE0 HC hX2 K2 F2 O2 q1 o1 hn hNR
        go_wp2_with fail
        rw [← hu1]
        clear r0 r3 f3 hu1
        have HAP : Hid (∀ u2 u3 bv iv, Only (fun _ => False) u1 u2 → NfAt u3 u2.heap.size 12400 fm bv iv → RdAt u3 R q2 (s.size : Int) 0 z2 → Only (fun b => b = R) u2 u3 → ∃ ao' cap' u4, (∀ ty, (Builtin.append_ #[39, 39] ty #[.slice ao acc.length cap, .slice (some ⟨u3.heap.size, 0, none⟩) 1 1]).run Tryz.prog (u3.alloc (.cells #[.bool fm.d, .string fm.nm, .int .i64 (fm.i : Int), .int .i64 (fm.j : Int), bv, iv] 38)) = .ok (.slice ao' (acc.length + 1) cap') u4) ∧ u3.cell? ⟨N, 0, none⟩ = some (.slice ao acc.length cap) ∧ u4.cell? ⟨N, 0, none⟩ = some (.slice ao acc.length cap) ∧ u4.frozen? ⟨N, 0, none⟩ = false ∧ bv.oneCell' = true ∧ iv.oneCell' = true ∧ Hid (RaK N (.slice ao' (acc.length + 1) cap') (a : Int) 0 (u4.setCell ⟨N, 0, none⟩ (.slice ao' (acc.length + 1) cap')) ∧ FsAt (u4.setCell ⟨N, 0, none⟩ (.slice ao' (acc.length + 1) cap')) (R + 1) 12400 (.slice ao' (acc.length + 1) cap') (acc ++ [fm]) ∧ RdAt (u4.setCell ⟨N, 0, none⟩ (.slice ao' (acc.length + 1) cap')) R q2 (s.size : Int) 0 z2 ∧ Only (fun _ => False) w (u4.setCell ⟨N, 0, none⟩ (.slice ao' (acc.length + 1) cap')))) := by
          intro u2 u3 bv iv o2 nf rd o3
          have hNR : N + 2 < R := HNR.out
          have hn : N = w.heap.size := HN.out
          have hR1 : R < u1.heap.size := HK.out.2.2.1.lt
          have K3 := (HK.out.1.only o2 (fun _ _ _ h => h)).only o3 (fun b h1 h2 e => by omega)
          have F3 := (HK.out.2.2.2.only o2 (fun _ _ h => h)).only o3 (fun b h1 e => by omega)
          have O3 : Only (fun _ => False) w u3 := (HK.out.2.1.trans o2 (fun _ _ h => h)).trans o3 (fun b h1 e => by omega)
          obtain ⟨S1, h1, _⟩ := id nf
          have hone := h1.one
          have hb := HB.out
          simp only [List.length_cons] at hb
          have s2 := o2.size
          have s3 := o3.size
          obtain ⟨us, S, hown, _⟩ := HK.out.2.2.2
          obtain ⟨v', u4, hr, hf, ho⟩ := app_form F3 nf (by omega) (fun k hk => by have := (hown.lt k hk).2; omega) (by omega) (by omega)
          obtain ⟨ao', cap', hv⟩ := hf.form
          simp only [List.length_append, List.length_cons, List.length_nil, Nat.zero_add] at hv
          subst hv
          have K4 := K3.only ho (fun b h1 h2 e => by omega)
          have oN : Only (fun b => b = N) u4 (u4.setCell ⟨N, 0, none⟩ (.slice ao' (acc.length + 1) cap')) := (Only.refl (fun b => b = N) u4).setCell ⟨N, 0, none⟩ _ (fun _ => rfl)
          refine ⟨ao', cap', u4, hr, by rw [blk_cells K3.bx]; rfl, by rw [blk_cells K4.bx]; rfl, blk_froz K4.bx 0, hone.1, hone.2, K4.setX _, hf.only oN (fun b h1 e => by omega), (rd.other (fun b h1 e => by omega) ho).one K4.bx (by omega) _, (O3.trans ho (fun b h1 e => by omega)).trans oN (fun b h1 e => by omega)⟩
        refine wp_region_any (by kernel_rfl) ?_
        change wpAny _ _ _ _ _ _ _ (World.drew _)
        refine wpAny_take (i := 1) (v := .func (.func 25) #[] #[]) rfl (by kernel_rfl) (by kernel_rfl) (by kernel_rfl) (fun c a w h => ra_put (k := 35) (by omega) (by omega) (by omega) h) (Or.inl ⟨by rfl, fun w => by rfl⟩) ?_
        refine wpAny_take (i := 2) (v := .pointer (some ⟨R, 0, none⟩)) rfl (by kernel_rfl) (by kernel_rfl) (by kernel_rfl) (fun c a w h => ra_put (k := 36) (by omega) (by omega) (by omega) h) (Or.inl ⟨by rfl, fun w => by rfl⟩) ?_
        refine wpAny_ready (rs := [0, 3]) (by kernel_rfl) (by simp) ?_
        refine AllReady.cons rfl (fun K hK => ?_) (AllReady.cons rfl (fun K hK => ?_) AllReady.nil)
        · skip
          go_simp
          refine hK _ _ ?_
          clear hK K
          refine wpAny_ready (rs := [3]) (by kernel_rfl) (by simp) ?_
          refine AllReady.cons rfl (fun K hK => ?_) AllReady.nil
          go_simp
          go_wp2_with (go_at_call 25; refine (show Calls Tryz.prog 25 _ _ _ from HCE.out _ (HK.out.2.2.1.only ((Only.refl _ u1).drew))).mono ?_; rintro ex u3 ⟨bv, iv, rfl, g3⟩; unfold fmV)
          obtain ⟨ao', cap', u4, hr, y3, y4, yf, b1, b2, HZZ⟩ := HAP.out u1.drew u3 bv iv ((Only.refl _ u1).drew) g3.out.1 g3.out.2.1 g3.out.2.2
          have y5 : ∀ x, (u3.alloc x).cell? ⟨N, 0, none⟩ = some (.slice ao acc.length cap) := fun x => alloc_cell u3 _ x _ y3
          clear g3
          refine wpAny_ready (rs := [4]) (by kernel_rfl) (by simp) ?_
          refine AllReady.cons rfl (fun K hK => ?_) AllReady.nil
          go_simp
          refine hK _ _ ?_
          clear hK K
          refine wpAny_ready (rs := [5]) (by kernel_rfl) (by simp) ?_
          refine AllReady.cons rfl (fun K hK => ?_) AllReady.nil
          refine step_append_run (by rfl) _ _ 39 (by rfl) _ _ (.slice ao' (acc.length + 1) cap') (by rfl) (by rfl) hr ?_
          refine hK _ _ ?_
          clear hK K
          refine wpAny_ready (rs := [6]) (by kernel_rfl) (by simp) ?_
          refine AllReady.cons rfl (fun K hK => ?_) AllReady.nil
          go_simp
          refine hK _ _ ?_
          clear hK K
          refine wpAny_done (by kernel_rfl) ?_ _
          clear hr y3 y4 yf b1 b2 y5
          obtain ⟨U, hU⟩ : ∃ U, U = u4.setCell ⟨N, 0, none⟩ (.slice ao' (acc.length + 1) cap') := ⟨_, rfl⟩
          rw [← hU] at HZZ
          rw [← hU]
          clear hU
          go_wp2
          go_roundw
          case rel => exact ⟨g0, q2, z2, acc ++ [fm], ao', cap', HE.out, by have := HB.out; have := HQ.out; omega, by have := HB.out; have := HQ.out; simp only [List.length_append, List.length_cons, List.length_nil] at *; omega, by simpa using HZZ.out.1, by simpa using HZZ.out.2.1, HZZ.out.2.2.1, HZZ.out.2.2.2⟩
          case measure => rw [HB.out.2.2, qLen_of HZZ.out.2.2.1]; exact HQ.out
        · skip
          go_simp
          go_wp2_with (go_at_call 25; refine (show Calls Tryz.prog 25 _ _ _ from HCE.out _ (HK.out.2.2.1.only ((Only.refl _ u1).drew))).mono ?_; rintro ex u3 ⟨bv, iv, rfl, g3⟩; unfold fmV)
          obtain ⟨ao', cap', u4, hr, y3, y4, yf, b1, b2, HZZ⟩ := HAP.out u1.drew u3 bv iv ((Only.refl _ u1).drew) g3.out.1 g3.out.2.1 g3.out.2.2
          have y5 : ∀ x, (u3.alloc x).cell? ⟨N, 0, none⟩ = some (.slice ao acc.length cap) := fun x => alloc_cell u3 _ x _ y3
          clear g3
          refine wpAny_ready (rs := [0, 4]) (by kernel_rfl) (by simp) ?_
          refine AllReady.cons rfl (fun K hK => ?_) (AllReady.cons rfl (fun K hK => ?_) AllReady.nil)
          · skip
            go_simp
            refine hK _ _ ?_
            clear hK K
            refine wpAny_ready (rs := [4]) (by kernel_rfl) (by simp) ?_
            refine AllReady.cons rfl (fun K hK => ?_) AllReady.nil
            go_simp
            refine hK _ _ ?_
            clear hK K
            refine wpAny_ready (rs := [5]) (by kernel_rfl) (by simp) ?_
            refine AllReady.cons rfl (fun K hK => ?_) AllReady.nil
            refine step_append_run (by rfl) _ _ 39 (by rfl) _ _ (.slice ao' (acc.length + 1) cap') (by rfl) (by rfl) hr ?_
            refine hK _ _ ?_
            clear hK K
            refine wpAny_ready (rs := [6]) (by kernel_rfl) (by simp) ?_
            refine AllReady.cons rfl (fun K hK => ?_) AllReady.nil
            go_simp
            refine hK _ _ ?_
            clear hK K
            refine wpAny_done (by kernel_rfl) ?_ _
            clear hr y3 y4 yf b1 b2 y5
            obtain ⟨U, hU⟩ : ∃ U, U = u4.setCell ⟨N, 0, none⟩ (.slice ao' (acc.length + 1) cap') := ⟨_, rfl⟩
            rw [← hU] at HZZ
            rw [← hU]
            clear hU
            go_wp2
            go_roundw
            case rel => exact ⟨g0, q2, z2, acc ++ [fm], ao', cap', HE.out, by have := HB.out; have := HQ.out; omega, by have := HB.out; have := HQ.out; simp only [List.length_append, List.length_cons, List.length_nil] at *; omega, by simpa using HZZ.out.1, by simpa using HZZ.out.2.1, HZZ.out.2.2.1, HZZ.out.2.2.2⟩
            case measure => rw [HB.out.2.2, qLen_of HZZ.out.2.2.1]; exact HQ.out
          · skip
            go_simp
            refine hK _ _ ?_
            clear hK K
            refine wpAny_ready (rs := [0]) (by kernel_rfl) (by simp) ?_
            refine AllReady.cons rfl (fun K hK => ?_) AllReady.nil
            go_simp
            refine hK _ _ ?_
            clear hK K
            refine wpAny_ready (rs := [5]) (by kernel_rfl) (by simp) ?_
            refine AllReady.cons rfl (fun K hK => ?_) AllReady.nil
            refine step_append_run (by rfl) _ _ 39 (by rfl) _ _ (.slice ao' (acc.length + 1) cap') (by rfl) (by rfl) hr ?_
            refine hK _ _ ?_
            clear hK K
            refine wpAny_ready (rs := [6]) (by kernel_rfl) (by simp) ?_
            refine AllReady.cons rfl (fun K hK => ?_) AllReady.nil
            go_simp
            refine hK _ _ ?_
            clear hK K
            refine wpAny_done (by kernel_rfl) ?_ _
            clear hr y3 y4 yf b1 b2 y5
            obtain ⟨U, hU⟩ : ∃ U, U = u4.setCell ⟨N, 0, none⟩ (.slice ao' (acc.length + 1) cap') := ⟨_, rfl⟩
            rw [← hU] at HZZ
            rw [← hU]
            clear hU
            go_wp2
            go_roundw
            case rel => exact ⟨g0, q2, z2, acc ++ [fm], ao', cap', HE.out, by have := HB.out; have := HQ.out; omega, by have := HB.out; have := HQ.out; simp only [List.length_append, List.length_cons, List.length_nil] at *; omega, by simpa using HZZ.out.1, by simpa using HZZ.out.2.1, HZZ.out.2.2.1, HZZ.out.2.2.2⟩
            case measure => rw [HB.out.2.2, qLen_of HZZ.out.2.2.1]; exact HQ.out
end Go.Proofs.YtmpfbjmaiddigaaGreatDoor
namespace Go.Proofs.YtmpfbjmaiddigaaGreatDoor
open Go.RowKit
set_option linter.unusedSimpArgs false
set_option linter.unusedVariables false
set_option maxRecDepth 100000 in
theorem caught_idleI (x y z : Addr) (w : World) :
    CallsD Tryz.prog 43 #[.pointer (some x), .pointer (some y), .pointer (some z)] .returning w fun e u' w' => e = .returned (.tuple #[]) ∧ u' = .returning ∧ w' = w := by
  refine callsD_of_wpS Tryz.func43 rfl fun c₀ cs hu => ?_
  apply wpS_seq
  apply wpS_region
  simp [wpOpsS, go_sem, recoverD, hu, Tryz.ntmps43, Exit.thenS]
  apply wpS_seq
  apply wpS_seq
  apply wpS_region
  simp [wpOpsS, go_sem, recoverD, hu, Tryz.ntmps43, Exit.thenS]
  refine wpS_cond (t := true) (by simp [Act.eval, Array.replicate]) ?_
  simp only [if_true]
  refine wpS_of_wp (wp_ret ?_)
  cases c₀
  simp_all [Exit.thenS, bodyPostS, results, Tryz.results43]
set_option maxRecDepth 100000 in
set_option maxHeartbeats 4000000 in
theorem caught_ownI (X Y Z : Nat) (vx vy vz : Value) (tx ty tz : TypeId) (a e : Int) (older : List PanicEntry) (w : World) (hx : w.heap[X]? = some (.cells #[vx] tx)) (hy : w.heap[Y]? = some (.cells #[vy] ty)) (hz : w.heap[Z]? = some (.cells #[vz] tz)) (hxy : X ≠ Y) (hxz : X ≠ Z) (hyz : Y ≠ Z) :
    CallsD Tryz.prog 43 #[.pointer (some ⟨X, 0, none⟩), .pointer (some ⟨Y, 0, none⟩), .pointer (some ⟨Z, 0, none⟩)] (.panicking ({ v := .iface 107 (.agg #[.int .i64 a, .int .i64 e]), recovered := false } :: older)) w fun en u' w' => en = .returned (.tuple #[]) ∧ u' = .panicking ({ v := .iface 107 (.agg #[.int .i64 a, .int .i64 e]), recovered := true } :: older) ∧ Hid (w'.cell? ⟨X, 0, none⟩ = some (.slice none 0 0) ∧ w'.cell? ⟨Y, 0, none⟩ = some (.int .i64 a) ∧ w'.cell? ⟨Z, 0, none⟩ = some (.int .i64 e) ∧ Only (fun b => b = X ∨ b = Y ∨ b = Z) w w') := by
  have al : ∀ (ob : Obj) (b : Nat) (o : Obj), w.heap[b]? = some o → (w.alloc ob).heap[b]? = some o := fun ob b o hb => (((Only.refl (fun _ => False) w).alloc ob).block b (Array.getElem?_eq_some_iff.1 hb).1 (fun h => h)).trans hb
  have cx : ∀ ob, (w.alloc ob).cell? ⟨X, 0, none⟩ = some vx := fun ob => by rw [blk_cells (al ob X _ hx)]; rfl
  have cy : ∀ ob, (w.alloc ob).cell? ⟨Y, 0, none⟩ = some vy := fun ob => by rw [blk_cells (al ob Y _ hy)]; rfl
  have cz : ∀ ob, (w.alloc ob).cell? ⟨Z, 0, none⟩ = some vz := fun ob => by rw [blk_cells (al ob Z _ hz)]; rfl
  have fx : ∀ ob, (w.alloc ob).frozen? ⟨X, 0, none⟩ = false := fun ob => blk_froz (al ob X _ hx) 0
  have fy : ∀ ob, (w.alloc ob).frozen? ⟨Y, 0, none⟩ = false := fun ob => blk_froz (al ob Y _ hy) 0
  have fz : ∀ ob, (w.alloc ob).frozen? ⟨Z, 0, none⟩ = false := fun ob => blk_froz (al ob Z _ hz) 0
  have lx : X < w.heap.size := (Array.getElem?_eq_some_iff.1 hx).1
  have ly : Y < w.heap.size := (Array.getElem?_eq_some_iff.1 hy).1
  have lz : Z < w.heap.size := (Array.getElem?_eq_some_iff.1 hz).1
  clear al hx hy hz
  refine callsD_of_wpS Tryz.func43 rfl fun c₀ cs hu => ?_
  apply wpS_seq
  apply wpS_region
  simp [wpOpsS, go_sem, recoverD, hu, Tryz.ntmps43, Exit.thenS]
  apply wpS_seq
  apply wpS_seq
  apply wpS_region
  simp [wpOpsS, go_sem, recoverD, hu, Tryz.ntmps43, Exit.thenS]
  refine wpS_cond (t := false) (by simp [Act.eval, Array.replicate]) ?_
  simp only [Bool.false_eq_true, if_false]
  refine wpS_of_wp (wp_skip ?_)
  simp only [Exit.thenS]
  refine wpS_of_wp (a := { tmps := #[.pointer (some ⟨X, 0, none⟩), .pointer (some ⟨Y, 0, none⟩), .pointer (some ⟨Z, 0, none⟩), .iface 107 (.agg #[.int .i64 a, .int .i64 e]), undef, undef, .iface 107 (.agg #[.int .i64 a, .int .i64 e]), .iface 107 (.agg #[.int .i64 a, .int .i64 e]), .bool false, undef, undef, undef, undef, undef, undef, undef, undef, undef, undef, undef, undef], defers := [] }) ?_
  have hta := flt_as
  go_wp2_with fail
  obtain ⟨W, hW⟩ : ∃ W, W = w.alloc (.cells #[.int .i64 a, .int .i64 e] 107) := ⟨_, rfl⟩
  have HW : Hid (W = w.alloc (.cells #[.int .i64 a, .int .i64 e] 107)) := hW
  obtain ⟨B, hB⟩ : ∃ B, B = w.heap.size := ⟨_, rfl⟩
  have b0 : W.cell? ⟨B, 0, none⟩ = some (.int .i64 a) := by rw [hW, hB]; simp
  have b1 : W.cell? ⟨B, 1, none⟩ = some (.int .i64 e) := by rw [hW, hB]; simp
  have dx := cx (.cells #[.int .i64 a, .int .i64 e] 107)
  have dy := cy (.cells #[.int .i64 a, .int .i64 e] 107)
  have dz := cz (.cells #[.int .i64 a, .int .i64 e] 107)
  have gx := fx (.cells #[.int .i64 a, .int .i64 e] 107)
  have gy := fy (.cells #[.int .i64 a, .int .i64 e] 107)
  have gz := fz (.cells #[.int .i64 a, .int .i64 e] 107)
  rw [← hW] at dx dy dz gx gy gz
  rw [← hW, ← hB]
  have nx : ¬ X = B := by omega
  have ny : ¬ Y = B := by omega
  have nz : ¬ Z = B := by omega
  have nx' : ¬ B = X := by omega
  have ny' : ¬ B = Y := by omega
  have nz' : ¬ B = Z := by omega
  have nyx : ¬ Y = X := fun h => hxy h.symm
  have nzx : ¬ Z = X := fun h => hxz h.symm
  have nzy : ¬ Z = Y := fun h => hyz h.symm
  clear cx cy cz fx fy fz hW hB lx ly lz
  have hx2 : ((((W.setCell ⟨X, 0, none⟩ (.slice none 0 0)).setCell ⟨Y, 0, none⟩ (.int .i64 a)).setCell ⟨Z, 0, none⟩ (.int .i64 e)).drew).cell? ⟨X, 0, none⟩ = some (.slice none 0 0) := by
    show (((W.setCell ⟨X, 0, none⟩ (.slice none 0 0)).setCell ⟨Y, 0, none⟩ (.int .i64 a)).setCell ⟨Z, 0, none⟩ (.int .i64 e)).cell? ⟨X, 0, none⟩ = _
    rw [World.cell?_setCell_other _ _ _ _ (by intro h; injection h with h; exact nzx h), World.cell?_setCell_other _ _ _ _ (by intro h; injection h with h; exact nyx h)]
    exact World.cell?_setCell_same' _ _ _ (by rw [dx]; rfl)
  have hy2 : ((((W.setCell ⟨X, 0, none⟩ (.slice none 0 0)).setCell ⟨Y, 0, none⟩ (.int .i64 a)).setCell ⟨Z, 0, none⟩ (.int .i64 e)).drew).cell? ⟨Y, 0, none⟩ = some (.int .i64 a) := by
    show (((W.setCell ⟨X, 0, none⟩ (.slice none 0 0)).setCell ⟨Y, 0, none⟩ (.int .i64 a)).setCell ⟨Z, 0, none⟩ (.int .i64 e)).cell? ⟨Y, 0, none⟩ = _
    rw [World.cell?_setCell_other _ _ _ _ (by intro h; injection h with h; exact nzy h)]
    exact World.cell?_setCell_same' _ _ _ (by rw [World.cell?_setCell_other _ _ _ _ (by intro h; injection h with h; exact hxy h), dy]; rfl)
  have hz2 : ((((W.setCell ⟨X, 0, none⟩ (.slice none 0 0)).setCell ⟨Y, 0, none⟩ (.int .i64 a)).setCell ⟨Z, 0, none⟩ (.int .i64 e)).drew).cell? ⟨Z, 0, none⟩ = some (.int .i64 e) := by
    show (((W.setCell ⟨X, 0, none⟩ (.slice none 0 0)).setCell ⟨Y, 0, none⟩ (.int .i64 a)).setCell ⟨Z, 0, none⟩ (.int .i64 e)).cell? ⟨Z, 0, none⟩ = _
    exact World.cell?_setCell_same' _ _ _ (by rw [World.cell?_setCell_other _ _ _ _ (by intro h; injection h with h; exact hyz h), World.cell?_setCell_other _ _ _ _ (by intro h; injection h with h; exact hxz h), dz]; rfl)
  have ho2 : Only (fun b => b = X ∨ b = Y ∨ b = Z) w ((((W.setCell ⟨X, 0, none⟩ (.slice none 0 0)).setCell ⟨Y, 0, none⟩ (.int .i64 a)).setCell ⟨Z, 0, none⟩ (.int .i64 e)).drew) := by
    rw [HW.out]
    exact (((((Only.refl _ w).alloc _).setCell ⟨X, 0, none⟩ _ (fun _ => .inl rfl)).setCell ⟨Y, 0, none⟩ _ (fun _ => .inr (.inl rfl))).setCell ⟨Z, 0, none⟩ _ (fun _ => .inr (.inr rfl))).drew
  have HH : Hid (((((W.setCell ⟨X, 0, none⟩ (.slice none 0 0)).setCell ⟨Y, 0, none⟩ (.int .i64 a)).setCell ⟨Z, 0, none⟩ (.int .i64 e)).drew).cell? ⟨X, 0, none⟩ = some (.slice none 0 0) ∧ ((((W.setCell ⟨X, 0, none⟩ (.slice none 0 0)).setCell ⟨Y, 0, none⟩ (.int .i64 a)).setCell ⟨Z, 0, none⟩ (.int .i64 e)).drew).cell? ⟨Y, 0, none⟩ = some (.int .i64 a) ∧ ((((W.setCell ⟨X, 0, none⟩ (.slice none 0 0)).setCell ⟨Y, 0, none⟩ (.int .i64 a)).setCell ⟨Z, 0, none⟩ (.int .i64 e)).drew).cell? ⟨Z, 0, none⟩ = some (.int .i64 e) ∧ Only (fun b => b = X ∨ b = Y ∨ b = Z) w ((((W.setCell ⟨X, 0, none⟩ (.slice none 0 0)).setCell ⟨Y, 0, none⟩ (.int .i64 a)).setCell ⟨Z, 0, none⟩ (.int .i64 e)).drew)) := ⟨hx2, hy2, hz2, ho2⟩
  clear hx2 hy2 hz2 ho2 HW
  go_region
  exact ⟨rfl, _, rfl, .tuple #[], by simp [results, Tryz.results43], rfl, rfl, HH⟩
end Go.Proofs.YtmpfbjmaiddigaaGreatDoor
namespace Go.Proofs.YtmpfbjmaiddigaaGreatDoor
open Go.RowKit
set_option linter.unusedSimpArgs false
set_option linter.unusedVariables false
/-- all items -/
def alI (n : Int) (F : Nat) : Nat → List Tok → Except (Int × Int) (List Tre)
  | 0, _ => .error (0, 0)
  | g + 1, [] => .ok []
  | g + 1, t :: r =>
    match prs n F 1 (t :: r) 0 0 with
    | .error e => .error e
    | .ok (l1, q, _) =>
      match alI n F g q with
      | .error e => .error e
      | .ok l => .ok (l1 ++ l)
/-- what stands ahead of an answer -/
def preI (acc : List Tre) (r : Except (Int × Int) (List Tre)) : Except (Int × Int) (List Tre) :=
  match r with
  | .error e => .error e
  | .ok l => .ok (acc ++ l)
theorem alI_go (n : Int) (F g : Nat) (t : Tok) (r : List Tok) (acc : List Tre) : preI acc (alI n F (g + 1) (t :: r)) =
    match prs n F 1 (t :: r) 0 0 with
    | .error e => .error e
    | .ok (l1, q, _) => preI (acc ++ l1) (alI n F g q) := by
  simp only [alI]
  cases prs n F 1 (t :: r) 0 0 with
  | error e => rfl
  | ok p =>
    obtain ⟨fm, q, z⟩ := p
    dsimp only
    cases alI n F g q with
    | error e => rfl
    | ok l => simp [preI]
/-- what a source of items is read as -/
def parI (s : ByteArray) : List Tre × Int × Int :=
  if (tokR s).2.2 = 0 then
    match alI (s.size : Int) 12400 ((tokR s).1.length + 1) (tokR s).1 with
    | .error (a, e) => ([], a, e)
    | .ok l => (l, 0, 0)
  else ([], ((tokR s).2.1 : Int), (tokR s).2.2)
theorem results_raI {fn : Func} {t u v : Tmp} (h : fn.results = #[.cell t 24, .cell u 3, .cell v 27]) (tmps : Array Value) (w : World) (X Y Z : Nat) {x y z : Value} (h0 : w.cell? ⟨X, 0, none⟩ = some x) (h1 : w.cell? ⟨Y, 0, none⟩ = some y) (h2 : w.cell? ⟨Z, 0, none⟩ = some z) (ha : tmps.getD t undef = .pointer (some ⟨X, 0, none⟩)) (hb : tmps.getD u undef = .pointer (some ⟨Y, 0, none⟩)) (hc : tmps.getD v undef = .pointer (some ⟨Z, 0, none⟩)) :
    (results fn tmps).run Tryz.prog w = .ok (.tuple #[x, y, z]) w := by
  have ha' : tmps[t]?.getD undef = .pointer (some ⟨X, 0, none⟩) := by simpa using ha
  have hb' : tmps[u]?.getD undef = .pointer (some ⟨Y, 0, none⟩) := by simpa using hb
  have hc' : tmps[v]?.getD undef = .pointer (some ⟨Z, 0, none⟩) := by simpa using hc
  simp [results, h, ha', hb', hc', asAddr, go_sem, loadVar, isAgg, Tryz.underlying24, Tryz.underlying3, Tryz.underlying27, h0, h1, h2]
/-- the three results of readAll in memory -/
structure RaKI (N : Nat) (vx : Value) (vy vz : Int) (w : World) : Prop where
  bx : w.heap[N]? = some (.cells #[vx] 24)
  by_ : w.heap[N + 1]? = some (.cells #[.int .i64 vy] 3)
  bz : w.heap[N + 2]? = some (.cells #[.int .i64 vz] 27)
theorem RaKI.only {N : Nat} {vx : Value} {vy vz : Int} {w w' : World} {bs : Nat → Prop} (h : RaKI N vx vy vz w) (o : Only bs w w') (hb : ∀ b, b ≤ N + 2 → N ≤ b → ¬ bs b) : RaKI N vx vy vz w' :=
  ⟨(o.block _ (Array.getElem?_eq_some_iff.1 h.bx).1 (hb _ (by omega) (by omega))).trans h.bx, (o.block _ (Array.getElem?_eq_some_iff.1 h.by_).1 (hb _ (by omega) (by omega))).trans h.by_, (o.block _ (Array.getElem?_eq_some_iff.1 h.bz).1 (hb _ (by omega) (by omega))).trans h.bz⟩
theorem RaKI.setY {N : Nat} {vx : Value} {vy vz : Int} {w : World} (h : RaKI N vx vy vz w) (y : Int) : RaKI N vx y vz (w.setCell ⟨N + 1, 0, none⟩ (.int .i64 y)) :=
  ⟨by rw [heap_setCell_other _ _ _ _ (by simp only; omega)]; exact h.bx, (heap_setCell_same _ _ _ _ _ _ h.by_).trans rfl, by rw [heap_setCell_other _ _ _ _ (by simp only; omega)]; exact h.bz⟩
theorem RaKI.setZ {N : Nat} {vx : Value} {vy vz : Int} {w : World} (h : RaKI N vx vy vz w) (z : Int) : RaKI N vx vy z (w.setCell ⟨N + 2, 0, none⟩ (.int .i64 z)) :=
  ⟨by rw [heap_setCell_other _ _ _ _ (by simp only; omega)]; exact h.bx, by rw [heap_setCell_other _ _ _ _ (by simp only; omega)]; exact h.by_, (heap_setCell_same _ _ _ _ _ _ h.bz).trans rfl⟩
theorem RaKI.setX {N : Nat} {vx : Value} {vy vz : Int} {w : World} (h : RaKI N vx vy vz w) (x : Value) : RaKI N x vy vz (w.setCell ⟨N, 0, none⟩ x) :=
  ⟨(heap_setCell_same _ _ _ _ _ _ h.bx).trans rfl, by rw [heap_setCell_other _ _ _ _ (by simp only; omega)]; exact h.by_, by rw [heap_setCell_other _ _ _ _ (by simp only; omega)]; exact h.bz⟩
theorem RaKI.start (w : World) : RaKI w.heap.size (.slice none 0 0) 0 0 (((w.alloc (.cells #[.slice none 0 0] 24)).alloc (.cells #[.int .i64 0] 3)).alloc (.cells #[.int .i64 0] 27)) := by
  have h1 := alloc_at w (.cells #[.slice none 0 0] 24) _ rfl
  have h2 := alloc_at (w.alloc (.cells #[.slice none 0 0] 24)) (.cells #[.int .i64 0] 3) (w.heap.size + 1) (by simp)
  have h3 := alloc_at ((w.alloc (.cells #[.slice none 0 0] 24)).alloc (.cells #[.int .i64 0] 3)) (.cells #[.int .i64 0] 27) (w.heap.size + 2) (by simp)
  have al : ∀ (W : World) (ob : Obj) (b : Nat) (o : Obj), W.heap[b]? = some o → (W.alloc ob).heap[b]? = some o := fun W ob b o hb => (((Only.refl (fun _ => False) W).alloc ob).block b (Array.getElem?_eq_some_iff.1 hb).1 (fun h => h)).trans hb
  exact ⟨al _ _ _ _ (al _ _ _ _ h1), al _ _ _ _ h2, h3⟩
def raPI (s : ByteArray) (w : World) (x : Ending) (w' : World) : Prop := ∃ v, x = .returned (.tuple #[v, .int .i64 (parI s).2.1, .int .i64 (parI s).2.2]) ∧ Hid (RwAt w' w.heap.size 36 12400 true v (parI s).1 ∧ Below w.heap.size w w')
set_option maxRecDepth 100000 in
set_option maxHeartbeats 8000000 in
theorem readAll_badI (s : ByteArray) (w : World) (h : Nog w) (hb : ¬ (tokR s).2.2 = 0) :
    Calls Tryz.prog 28 #[.string s, .func (.func 29) #[] #[]] w (raPI s w) := by
  have HT : Hid (∀ w1, Only (fun _ => False) w w1 → Calls Tryz.prog 39 #[.string s] w1 fun e w' => ∃ v, e = .returned (.tuple #[v, .int .i64 ((tokR s).2.1 : Nat), .int .i64 (tokR s).2.2]) ∧ Hid (ToksAt w' w1.heap.size v (tokR s).1 ∧ Below w1.heap.size w1 w')) := fun w1 o1 => tokens_any s w1 (h.frame o1)
  have HP : Hid (∀ w', Below w.heap.size w w' → raPI s w (.returned (.tuple #[.slice none 0 0, .int .i64 ((tokR s).2.1 : Nat), .int .i64 (tokR s).2.2])) w') := by
    intro w' hw
    have e1 : parI s = ([], ((tokR s).2.1 : Int), (tokR s).2.2) := by unfold parI; rw [if_neg hb]
    unfold raPI
    rw [e1]
    exact ⟨_, rfl, rw_nil _ _ _ _ _, hw⟩
  obtain ⟨a, ha⟩ : ∃ a, a = (tokR s).2.1 := ⟨_, rfl⟩
  obtain ⟨e, he⟩ : ∃ e, e = (tokR s).2.2 := ⟨_, rfl⟩
  rw [← ha, ← he] at HT HP
  rw [← he] at hb
  have K0 : Hid (RaKI w.heap.size (.slice none 0 0) 0 0 (((w.alloc (.cells #[.slice none 0 0] 24)).alloc (.cells #[.int .i64 0] 3)).alloc (.cells #[.int .i64 0] 27))) := RaKI.start w
  have O0 : Hid (Only (fun _ => False) w (((w.alloc (.cells #[.slice none 0 0] 24)).alloc (.cells #[.int .i64 0] 3)).alloc (.cells #[.int .i64 0] 27))) := (((Only.refl _ w).alloc _).alloc _).alloc _
  clear ha he h
  go_enter_defers Tryz.func28, Tryz.ntmps28
  go_wp2_with fail
  refine (show Calls Tryz.prog 39 _ _ _ from HT.out _ O0.out).mono ?_
  rintro ex w1 ⟨v, rfl, g1⟩
  have o1 := below_only g1.out.2
  have K1 := K0.out.only o1 (fun _ _ _ h => h)
  have O1 : Hid (Only (fun _ => False) w w1) := O0.out.trans o1 (fun _ _ g => g)
  have e1 : (((w.alloc (.cells #[.slice none 0 0] 24)).alloc (.cells #[.int .i64 0] 3))).heap.size = w.heap.size + 2 := by simp
  obtain ⟨N, hN⟩ : ∃ N, N = w.heap.size := ⟨_, rfl⟩
  have HN : Hid (N = w.heap.size) := hN
  rw [← hN] at K1
  have HK1 : Hid (RaKI N (.slice none 0 0) 0 0 w1) := K1
  have x0 : w1.cell? ⟨N, 0, none⟩ = some (.slice none 0 0) := by rw [blk_cells K1.bx]; rfl
  have y0 : w1.cell? ⟨N + 1, 0, none⟩ = some (.int .i64 0) := by rw [blk_cells K1.by_]; rfl
  have z0 : w1.cell? ⟨N + 2, 0, none⟩ = some (.int .i64 0) := by rw [blk_cells K1.bz]; rfl
  have fx : w1.frozen? ⟨N, 0, none⟩ = false := blk_froz K1.bx 0
  have fy : w1.frozen? ⟨N + 1, 0, none⟩ = false := blk_froz K1.by_ 0
  have fz : w1.frozen? ⟨N + 2, 0, none⟩ = false := blk_froz K1.bz 0
  rw [← hN]
  clear HT O0 K0 o1 g1 hN K1 e1
  go_wp2
  obtain ⟨W, hW⟩ : ∃ W, W = ((w1.setCell ⟨N + 1, 0, none⟩ (.int .i64 (a : Int))).setCell ⟨N + 1 + 1, 0, none⟩ (.int .i64 e)) := ⟨_, rfl⟩
  have K2 : RaKI N (.slice none 0 0) (a : Int) e W := by rw [hW]; exact (HK1.out.setY _).setZ _
  have O2 : Hid (Only (fun _ => False) w W) := by
    show Only _ _ _
    have hn : N = w.heap.size := HN.out
    rw [hW]
    exact (O1.out.setCell ⟨N + 1, 0, none⟩ _ (fun h => by simp only at h; omega)).setCell ⟨N + 1 + 1, 0, none⟩ _ (fun h => by simp only at h; omega)
  rw [← hW]
  clear x0 y0 z0 fx fy fz hW HK1 O1
  have HK2 : Hid (RaKI N (.slice none 0 0) (a : Int) e W) := K2
  have x0 : W.cell? ⟨N, 0, none⟩ = some (.slice none 0 0) := by rw [blk_cells K2.bx]; rfl
  have y0 : W.cell? ⟨N + 1, 0, none⟩ = some (.int .i64 (a : Int)) := by rw [blk_cells K2.by_]; rfl
  have z0 : W.cell? ⟨N + 1 + 1, 0, none⟩ = some (.int .i64 e) := by rw [blk_cells K2.bz]; rfl
  have fx : W.frozen? ⟨N, 0, none⟩ = false := blk_froz K2.bx 0
  have fy : W.frozen? ⟨N + 1, 0, none⟩ = false := blk_froz K2.by_ 0
  have fz : W.frozen? ⟨N + 1 + 1, 0, none⟩ = false := blk_froz K2.bz 0
  clear K2
  go_region
  obtain ⟨W2, hW2⟩ : ∃ W2, W2 = (((W.setCell ⟨N, 0, none⟩ (.slice none 0 0)).setCell ⟨N + 1, 0, none⟩ (.int .i64 (a : Int))).setCell ⟨N + 1 + 1, 0, none⟩ (.int .i64 e)).drew := ⟨_, rfl⟩
  have K3 : Hid (RaKI N (.slice none 0 0) (a : Int) e W2) := by
    show RaKI _ _ _ _ _
    rw [hW2]
    have := ((HK2.out.setX (.slice none 0 0)).setY (a : Int)).setZ e
    exact ⟨this.bx, this.by_, this.bz⟩
  have O3 : Hid (Only (fun _ => False) w W2) := by
    show Only _ _ _
    have hn : N = w.heap.size := HN.out
    rw [hW2]
    exact (((O2.out.setCell ⟨N, 0, none⟩ _ (fun h => by simp only at h; omega)).setCell ⟨N + 1, 0, none⟩ _ (fun h => by simp only at h; omega)).setCell ⟨N + 1 + 1, 0, none⟩ _ (fun h => by simp only at h; omega)).drew
  rw [← hW2]
  clear hW2 x0 y0 z0 fx fy fz HK2 O2
  go_wp2
  exact ⟨_, results_raI rfl _ _ N (N + 1) (N + 2) (by rw [blk_cells K3.out.bx]; rfl) (by rw [blk_cells K3.out.by_]; rfl) (by rw [blk_cells K3.out.bz]; rfl) rfl rfl rfl, HP.out _ (only_below O3.out)⟩
end Go.Proofs.YtmpfbjmaiddigaaGreatDoor
