/- Going through items: all of it; whole. An inference that gives up is caught. caught. Known words: allBounded, firsts. Known words by their names: firsts; Of. Of. -/
import Derived.Test.YtodbkihobgdpdaaGreatDoorGan
import Derived.Defers
import Derived.Recover
import Derived.Maps.OwnSet
import Derived.Maps.Ext
import Derived.MapKept
import Derived.StringKeys
namespace Go.Proofs.YtodbkihobgdpdaaGreatDoor
open Go.RowKit Go.Lib
set_option linter.unusedSimpArgs false
set_option linter.unusedVariables false
theorem thrL_app (I : Vt → Ist → Except Int Ist) : ∀ (a b : List Vt) (s : Ist), thrL I (a ++ b) s = bdE (thrL I a s) (thrL I b)
  | [], b, s => rfl
  | x :: a, b, s => by
    show bdE (I x s) (thrL I (a ++ b)) = bdE (bdE (I x s) (thrL I a)) (thrL I b)
    cases I x s with
    | error e => rfl
    | ok t => exact thrL_app I a b t
theorem thrL_err {I : Vt → Ist → Except Int Ist} {l : List Vt} {j : Nat} {x : Vt} {s t : Ist} {e : Int} (hx : l[j]? = some x) (h : thrL I (l.take j) s = .ok t) (he : I x t = .error e) : thrL I l s = .error e := by
  have hj : j < l.length := (List.getElem?_eq_some_iff.1 hx).1
  have e1 : l = l.take j ++ x :: l.drop (j + 1) := by
    rw [← List.getElem?_eq_getElem hj |>.symm.trans hx |> Option.some.inj, ← List.drop_eq_getElem_cons hj, List.take_append_drop]
  rw [e1, thrL_app, h]
  show bdE (I x t) _ = _
  rw [he]
  rfl
theorem thrL_next {I : Vt → Ist → Except Int Ist} {l : List Vt} {j : Nat} {x : Vt} {s t t2 : Ist} (hx : l[j]? = some x) (h : thrL I (l.take j) s = .ok t) (he : I x t = .ok t2) : thrL I (l.take (j + 1)) s = .ok t2 := by
  rw [List.take_add_one, hx, thrL_app, h]
  show bdE (I x t) _ = _
  rw [he]
  rfl
set_option maxRecDepth 100000 in
set_option maxHeartbeats 1000000 in
theorem through_of {W : ByteArray → Option (Nat × Nat)} {S : Nat → Prop} {d F M n : Nat} (hW : WdOk W) (IT : ItC W S d F M n) : ThC W S d F M n := by
  intro l ao cap s v t w he hev hes hq hc hsm hp ha
  have HE : Hid (Env S F M s ∧ WdOk W ∧ ItC W S d F M n ∧ potE t ≤ 900000 ∧ t.a < n ∧ InV w w S d F M W s v v t ∧ QsAt w S d l ao ∧ SmL l) := ⟨he, hW, IT, hp, ha, InV.refl hev hes, hq, hsm⟩
  obtain ⟨R, hR0⟩ : ∃ R, R = thrE W n l t := ⟨_, rfl⟩
  rw [← hR0]
  have HR : Hid (R = thrE W n l t) := hR0
  obtain ⟨L, hL⟩ : ∃ L, L = l.length := ⟨_, rfl⟩
  rw [← hL]
  have HL : Hid (L = l.length ∧ L ≤ 2513169434900) := ⟨hL, by rw [hL]; exact hsm.1⟩
  clear he hW IT hp ha hev hes hq hsm hR0 hL hc
  go_enter Tryz.func41, Tryz.ntmps41
  go_wp2
  go_loopw [10] (fun r10 wr => ∃ (j : Nat) (t1 : Ist) (v1 : Value), r10 = .int .i64 (j : Int) ∧ j ≤ L ∧ Hid (thrL (itmE W n) (l.take j) t = .ok t1 ∧ InV w wr S d F M W s v v1 t1)) (fun r10 _ => L - vuOf r10)
  case atStart => exact ⟨0, t, v, rfl, Nat.zero_le _, rfl, HE.out.2.2.2.2.2.1⟩
  case round =>
    obtain ⟨j, t1, v1, rfl, hj, HI⟩ := hrel
    obtain ⟨w1, hw1⟩ : ∃ w1, w1 = wr := ⟨_, rfl⟩
    rw [← hw1] at HI ⊢
    clear hw1
    have hLl := HL.out.1
    have hLb := HL.out.2
    by_cases hjL : j < L
    · obtain ⟨x, hx⟩ : ∃ x, l[j]? = some x := ⟨l[j]'(by omega), List.getElem?_eq_getElem (by omega)⟩
      obtain ⟨g, q, u, rfl, hg, hu, hti⟩ := (HE.out.2.2.2.2.2.2.1.in HE.out.2.2.2.2.2.1.2.1 HE.out.1 HI.out.2.2.2.2) j x hx
      have hpt := thrL_pot (itmE_pot HE.out.2.1 n) _ _ _ HI.out.1
      obtain ⟨Z, hZ⟩ : ∃ Z, Z = itmE W n x t1 := ⟨_, rfl⟩
      have HC : Hid _ := HE.out.2.2.1 x u s v1 t1 w1 HE.out.1 HI.out.2.1 HI.out.2.2.1 hti (HE.out.2.2.2.2.2.2.2.2 x (List.mem_of_getElem? hx)) (by have := HE.out.2.2.2.1; omega) (by have := HE.out.2.2.2.2.1; omega)
      rw [← hZ] at HC
      have HZ : Hid (Z = itmE W n x t1) := hZ
      have HX : Hid (l[j]? = some x ∧ j < L) := ⟨hx, hjL⟩
      have i1 : (j : Int) < (L : Int) := by omega
      have i0 : (0 : Int) ≤ (j : Int) := by omega
      have i4 : j ≤ 2513169434900 := by omega
      have hsh := hti.shape
      clear hti hg hx hjL hj hpt hZ hLl hLb
      rcases hsh with rfl | ⟨T1, y1, rfl⟩
      all_goals
        go_wp2_with fail
        refine (show Calls Tryz.prog 46 _ _ _ from HC.out).mono ?_
        clear HC
        intro e w2 G
        rcases Z with k | t2
        · obtain ⟨rfl, o1⟩ := G
          have hR : R = .error k := by rw [HR.out]; exact thrL_err HX.out.1 HI.out.1 HZ.out.symm
          have OO : Hid (Only (BsF F s v) w w2) := HI.out.2.wide o1
          clear HR o1
          subst hR
          unfold gupE
          go_wp2
          exact ⟨rfl, rfl, OO.out⟩
        · obtain ⟨rfl, G⟩ := G
          have HF : Hid (∃ v2, thrL (itmE W n) (l.take (j + 1)) t = .ok t2 ∧ InV w w2 S d F M W s v v2 t2) := by
            obtain ⟨v2, g2⟩ := G.out
            exact ⟨v2, thrL_next HX.out.1 HI.out.1 HZ.out.symm, HI.out.2.trans g2⟩
          clear HI G
          go_wp2
          go_roundw
          case rel =>
            obtain ⟨v2, g1, g2⟩ := HF.out
            exact ⟨j + 1, t2, v2, by go_num, by have := HX.out.2; omega, g1, g2⟩
          case measure => simp only [vuOf]; have := HX.out.2; omega
    · obtain rfl : j = L := by omega
      have i1 : ¬ (j : Int) < (j : Int) := by omega
      have hR : R = .ok t1 := by
        rw [HR.out]
        have := HI.out.1
        rwa [show l.take j = l from by rw [hLl]; exact List.take_length] at this
      have F9 : Hid (∃ v', InV w w1 S d F M W s v v' t1) := ⟨v1, HI.out.2⟩
      clear HI hLl hLb hjL hj HR
      subst hR
      go_wp2
      first | (refine bodyPost_ret (results_none rfl _ _ _) rfl ?_; exact ⟨rfl, F9.out⟩) | (refine ⟨_, results_none rfl _ _ _, rfl, F9.out⟩) | (refine ⟨rfl, _, results_none rfl _ _ _, rfl, F9.out⟩)
theorem thr_all {W : ByteArray → Option (Nat × Nat)} {S : Nat → Prop} {d F M : Nat} (hW : WdOk W) : ∀ n, ThC W S d F M n
  | 0 => through_of hW (fun x u s v t w _ _ _ _ _ _ ha => absurd ha (Nat.not_lt_zero _))
  | n + 1 => through_of hW (item_of hW (thr_all hW n))
/-- what whole comes to -/
def whE (r : Except Int Ist) : Except Int Ist := bdE r fun t => if t.tk ≤ 16 ∧ t.st.length ≤ 16 then .ok t else .error 11
set_option maxRecDepth 100000 in
set_option maxHeartbeats 1000000 in
theorem whole_any {W : ByteArray → Option (Nat × Nat)} {S : Nat → Prop} {d F M : Nat} (hW : WdOk W) {l : List Vt} {ao : Option Addr} {cap : Nat} {w : World} (hF : F < w.heap.size) (hM : M < w.heap.size) (hMF : M ≠ F) (hS : ∀ b, S b → b < w.heap.size ∧ b ≠ F) (hev : EvAt w F M W 4096) (hq : QsAt w S d l ao) (hc : l.length ≤ cap) (hsm : SmL l) :
    Calls Tryz.prog 23 #[.pointer (some ⟨F, 0, none⟩), .slice ao l.length cap] w (OwP F M W (whE (thrE W 4097 l ⟨4096, [], 0⟩)) w) := by
  obtain ⟨N, hN⟩ : ∃ N, N = w.heap.size := ⟨_, rfl⟩
  obtain ⟨W1, hW1⟩ : ∃ X, X = w.alloc (.cells #[.int .i64 0, .int .i64 0] 30) := ⟨_, rfl⟩
  have o1 : Only (fun _ => False) w W1 := by rw [hW1]; exact (Only.refl _ w).alloc _
  have b1 : W1.heap[N]? = some (.cells #[.int .i64 0, .int .i64 0] 30) := by rw [hW1]; exact ealloc_at _ _ _ hN
  have hz := o1.size
  obtain ⟨X, hX⟩ : ∃ X, X = thrE W 4097 l ⟨4096, [], 0⟩ := ⟨_, rfl⟩
  have HC : Hid _ := own_of (thr_all hW 4097) (a := 4096) (w := W1) (by omega) (by omega) hMF (fun b hb => ⟨by have := (hS b hb).1; omega, (hS b hb).2⟩) (hev.only o1 (fun e => e) (fun e => e)) (hq.only o1 (fun _ _ e => e)) hc hsm (by omega) (by omega)
  rw [← hX] at HC ⊢
  have HX : Hid (X = thrE W 4097 l ⟨4096, [], 0⟩ ∧ WdOk W) := ⟨hX, hW⟩
  have HB : Hid (∀ x y w1, Calls Tryz.prog 24 #[.agg #[.int .i64 x, .int .i64 y]] w1 fun e w' => e = .returned (.bool (bdB x y)) ∧ Only (fun _ => False) w1 w') := bounded_any
  have HH : Hid (N = w.heap.size ∧ Only (fun _ => False) w W1 ∧ W1.heap[N]? = some (.cells #[.int .i64 0, .int .i64 0] 30) ∧ F < N ∧ M < N) := ⟨hN, o1, b1, by omega, by omega⟩
  obtain ⟨R, hR0⟩ : ∃ R, R = whE X := ⟨_, rfl⟩
  rw [← hR0]
  have HR : Hid (R = whE X) := hR0
  obtain ⟨L, hL⟩ : ∃ L, L = l.length := ⟨_, rfl⟩
  rw [← hL] at HC ⊢
  clear hF hM hMF hS hev hq hc hsm o1 b1 hz hX hW hR0 hL
  subst hW1
  subst hN
  go_enter Tryz.func23, Tryz.ntmps23
  go_wp2_with fail
  refine (show Calls Tryz.prog 34 _ _ _ from HC.out).mono ?_
  clear HC
  obtain ⟨-, o1, b1, hFN, hMN⟩ := HH.out
  obtain ⟨N, hN⟩ : ∃ N, N = w.heap.size := ⟨_, rfl⟩
  rw [← hN] at b1 hFN hMN ⊢
  have HN : Hid (N = w.heap.size) := hN
  clear HH hN
  intro e w1 G
  rcases X with k | t
  · obtain ⟨rfl, o2⟩ := G
    have hR : R = .error k := HR.out
    have OO : Hid (Only (fun b => b = F) w w1) := (o1.mono (bs' := fun b => b = F) (fun _ _ g => g.elim)).trans o2 (fun _ _ e => e)
    clear HR o1 o2 b1 hFN hMN
    subst hR
    unfold gupE
    go_wp2
    exact ⟨rfl, rfl, OO.out⟩
  obtain ⟨rfl, G⟩ := G
  obtain ⟨g1, o2⟩ := G.out
  have O2 : Only (fun b => b = F) w w1 := (o1.mono (bs' := fun b => b = F) (fun _ _ g => g.elim)).trans o2 (fun _ _ e => e)
  have b2 : w1.heap[N]? = some (.cells #[.int .i64 0, .int .i64 0] 30) := (o2.block N (Array.getElem?_eq_some_iff.1 b1).1 (by omega)).trans b1
  have HI : Hid (EvAt w1 F M W t.a ∧ Only (fun b => b = F) w w1 ∧ w1.heap[N]? = some (.cells #[.int .i64 0, .int .i64 0] 30) ∧ F < N ∧ M < N) := ⟨g1, O2, b2, hFN, hMN⟩
  clear G g1 o2 O2 b2 hFN hMN o1 b1
  go_wp2_with fail
  refine (show Calls Tryz.prog 24 _ _ _ from HB.out _ _ _).mono ?_
  rintro e w2 ⟨rfl, o3⟩
  have o4 : Only (fun _ => False) w1 w2 := ((Only.refl (fun _ => False) w1).alloc _).trans o3 (fun _ _ e => e)
  have be : w2.heap[w1.heap.size]? = some (.cells #[.int .i64 (t.tk : Int), .int .i64 (t.st.length : Int)] 30) := o3.at (ealloc_at _ _ _ rfl)
  by_cases hb : t.tk ≤ 16 ∧ t.st.length ≤ 16
  · have hbd : bdB (t.tk : Int) (t.st.length : Int) = true := by unfold bdB; exact decide_eq_true ⟨by omega, by omega, by omega, by omega⟩
    have hR : R = .ok t := by rw [HR.out]; show (if _ then _ else _) = _; rw [if_pos hb]
    rw [hbd]
    have b3 := o4.at HI.out.2.2.1
    obtain ⟨m0, m1, f0, f1⟩ := wr2_cell b3
    obtain ⟨y0, y1, -, -⟩ := wr2_cell be
    have Q := fset2 b3 (.int .i64 (t.tk : Int)) (.int .i64 (t.st.length : Int))
    have HQ : Hid _ := Q
    have OO : Hid (EvAt ((w2.setCell ⟨N, 0, none⟩ (.int .i64 (t.tk : Int))).setCell ⟨N, 1, none⟩ (.int .i64 (t.st.length : Int))) F M W t.a ∧ Only (fun b => b = F) w ((w2.setCell ⟨N, 0, none⟩ (.int .i64 (t.tk : Int))).setCell ⟨N, 1, none⟩ (.int .i64 (t.st.length : Int)))) := by
      have o5 : Only (fun b => b = N) w2 ((w2.setCell ⟨N, 0, none⟩ (.int .i64 (t.tk : Int))).setCell ⟨N, 1, none⟩ (.int .i64 (t.st.length : Int))) := ((Only.refl (fun b => b = N) w2).setCell _ _ (fun _ => rfl)).setCell _ _ (fun _ => rfl)
      obtain ⟨h1, h2, h3, h4, h5⟩ := HI.out
      have hn := HN.out
      exact ⟨(h1.only o4 (fun e => e) (fun e => e)).only o5 (by omega) (by omega), (h2.trans o4 (fun _ _ e => e.elim)).trans o5 (fun k hk e => by omega)⟩
    clear HR HB o3 o4 be b3 Q hbd hb HI
    subst hR
    go_wp2
    refine bodyPost_ret (results_ef1 rfl _ _ N HQ.out.1 HQ.out.2 rfl) rfl ?_
    exact ⟨rfl, OO.out⟩
  · have hbd : bdB (t.tk : Int) (t.st.length : Int) = false := by unfold bdB; exact decide_eq_false (fun h => hb ⟨by omega, by omega⟩)
    have hR : R = .error 11 := by rw [HR.out]; show (if _ then _ else _) = _; rw [if_neg hb]
    rw [hbd]
    have OO : Hid (Only (fun b => b = F) w w2) := HI.out.2.1.trans o4 (fun _ _ e => e.elim)
    clear HR HB o3 o4 be hbd hb HI
    subst hR
    go_wp2
    exact ⟨rfl, rfl, OO.out⟩
end Go.Proofs.YtodbkihobgdpdaaGreatDoor
namespace Go.Proofs.YtodbkihobgdpdaaGreatDoor
open Go.RowKit Go.Lib
set_option linter.unusedSimpArgs false
set_option linter.unusedVariables false
set_option maxRecDepth 100000 in
theorem ecaught_idle (x y : Addr) (w : World) :
    CallsD Tryz.prog 33 #[.pointer (some x), .pointer (some y)] .returning w fun e u' w' => e = .returned (.tuple #[]) ∧ u' = .returning ∧ w' = w := by
  refine callsD_of_wpS Tryz.func33 rfl fun c₀ cs hu => ?_
  apply wpS_seq
  apply wpS_region
  simp [wpOpsS, go_sem, recoverD, hu, Tryz.ntmps33, Exit.thenS]
  apply wpS_seq
  apply wpS_seq
  apply wpS_region
  simp [wpOpsS, go_sem, recoverD, hu, Tryz.ntmps33, Exit.thenS]
  refine wpS_cond (t := true) (by simp [Act.eval, Array.replicate]) ?_
  simp only [if_true]
  refine wpS_of_wp (wp_ret ?_)
  cases c₀
  simp_all [Exit.thenS, bodyPostS, results, Tryz.results33]
theorem eflt_as (v : Value) (W : World) : (Instr.typeAssert (.iface 83 v) 20 83 true).run Tryz.prog W = .ok (.tuple #[v, .bool true]) W := by
  simp [Instr.typeAssert, run_underlying Tryz.underlying83]
set_option maxRecDepth 100000 in
set_option maxHeartbeats 4000000 in
theorem ecaught_own (X Y : Nat) (vx vx' vy : Value) (ty : TypeId) (e : Int) (older : List PanicEntry) (w : World) (hx : w.heap[X]? = some (.cells #[vx, vx'] 30)) (hy : w.heap[Y]? = some (.cells #[vy] ty)) (hxy : X ≠ Y) :
    CallsD Tryz.prog 33 #[.pointer (some ⟨X, 0, none⟩), .pointer (some ⟨Y, 0, none⟩)] (.panicking ({ v := .iface 83 (.agg #[.int .i64 e]), recovered := false } :: older)) w fun en u' w' => en = .returned (.tuple #[]) ∧ u' = .panicking ({ v := .iface 83 (.agg #[.int .i64 e]), recovered := true } :: older) ∧ Hid (w'.cell? ⟨X, 0, none⟩ = some (.int .i64 0) ∧ w'.cell? ⟨X, 1, none⟩ = some (.int .i64 0) ∧ w'.cell? ⟨Y, 0, none⟩ = some (.int .i64 e) ∧ Only (fun b => b = X ∨ b = Y) w w') := by
  obtain ⟨W, hW⟩ : ∃ W, W = w.alloc (.cells #[.int .i64 e] 83) := ⟨_, rfl⟩
  have oW : Only (fun _ => False) w W := by rw [hW]; exact (Only.refl _ w).alloc _
  have lx : X < w.heap.size := (Array.getElem?_eq_some_iff.1 hx).1
  have ly : Y < w.heap.size := (Array.getElem?_eq_some_iff.1 hy).1
  have bx := oW.at hx
  have bY := oW.at hy
  obtain ⟨x0, x1, fx0, fx1⟩ := wr2_cell bx
  have y0 : W.cell? ⟨Y, 0, none⟩ = some vy := (vblk_cells bY 0).trans rfl
  have fy : W.frozen? ⟨Y, 0, none⟩ = false := eblk_froz bY 0
  obtain ⟨B, hB⟩ : ∃ B, B = w.heap.size := ⟨_, rfl⟩
  have b0 : W.cell? ⟨B, 0, none⟩ = some (.int .i64 e) := by rw [hW]; exact (vblk_cells (ealloc_at _ _ _ hB) 0).trans rfl
  have q1 := fset2 bx (.int .i64 0) (.int .i64 0)
  have bY2 : ((W.setCell ⟨X, 0, none⟩ (.int .i64 0)).setCell ⟨X, 1, none⟩ (.int .i64 0)).heap[Y]? = some (.cells #[vy] ty) := by
    rw [heap_setCell_other _ _ _ _ (by simp only; omega), heap_setCell_other _ _ _ _ (by simp only; omega)]; exact bY
  have y2 : ((W.setCell ⟨X, 0, none⟩ (.int .i64 0)).setCell ⟨X, 1, none⟩ (.int .i64 0)).cell? ⟨Y, 0, none⟩ = some vy := (vblk_cells bY2 0).trans rfl
  have fy2 : ((W.setCell ⟨X, 0, none⟩ (.int .i64 0)).setCell ⟨X, 1, none⟩ (.int .i64 0)).frozen? ⟨Y, 0, none⟩ = false := eblk_froz bY2 0
  have nxy : ¬ Y = X := fun h => hxy h.symm
  have ne0 : ∀ (V : World) (j : Nat), (V.setCell ⟨Y, 0, none⟩ (.int .i64 e)).cell? ⟨X, j, none⟩ = V.cell? ⟨X, j, none⟩ := fun V j => World.cell?_setCell_other _ _ _ _ (by intro h; injection h with h; exact nxy h)
  have HH : Hid (((((W.setCell ⟨X, 0, none⟩ (.int .i64 0)).setCell ⟨X, 1, none⟩ (.int .i64 0)).setCell ⟨Y, 0, none⟩ (.int .i64 e)).drew).cell? ⟨X, 0, none⟩ = some (.int .i64 0) ∧ ((((W.setCell ⟨X, 0, none⟩ (.int .i64 0)).setCell ⟨X, 1, none⟩ (.int .i64 0)).setCell ⟨Y, 0, none⟩ (.int .i64 e)).drew).cell? ⟨X, 1, none⟩ = some (.int .i64 0) ∧ ((((W.setCell ⟨X, 0, none⟩ (.int .i64 0)).setCell ⟨X, 1, none⟩ (.int .i64 0)).setCell ⟨Y, 0, none⟩ (.int .i64 e)).drew).cell? ⟨Y, 0, none⟩ = some (.int .i64 e) ∧ Only (fun b => b = X ∨ b = Y) w ((((W.setCell ⟨X, 0, none⟩ (.int .i64 0)).setCell ⟨X, 1, none⟩ (.int .i64 0)).setCell ⟨Y, 0, none⟩ (.int .i64 e)).drew)) :=
    ⟨(ne0 _ 0).trans q1.1, (ne0 _ 1).trans q1.2, World.cell?_setCell_same' _ _ _ (by rw [y2]; rfl), ((((oW.mono (bs' := fun b => b = X ∨ b = Y) (fun _ _ g => g.elim)).setCell ⟨X, 0, none⟩ _ (fun _ => .inl rfl)).setCell ⟨X, 1, none⟩ _ (fun _ => .inl rfl)).setCell ⟨Y, 0, none⟩ _ (fun _ => .inr rfl)).drew⟩
  have nX : ¬ X = B := by omega
  have nY : ¬ Y = B := by omega
  have nX' : ¬ B = X := by omega
  have nY' : ¬ B = Y := by omega
  have hxy2 : ¬ X = Y := hxy
  have HW : Hid (W = w.alloc (.cells #[.int .i64 e] 83) ∧ B = w.heap.size) := ⟨hW, hB⟩
  clear hx hy oW lx ly bx bY q1 bY2 ne0 hW hB hxy
  refine callsD_of_wpS Tryz.func33 rfl fun c₀ cs hu => ?_
  apply wpS_seq
  apply wpS_region
  simp [wpOpsS, go_sem, recoverD, hu, Tryz.ntmps33, Exit.thenS]
  apply wpS_seq
  apply wpS_seq
  apply wpS_region
  simp [wpOpsS, go_sem, recoverD, hu, Tryz.ntmps33, Exit.thenS]
  refine wpS_cond (t := false) (by simp [Act.eval, Array.replicate]) ?_
  simp only [Bool.false_eq_true, if_false]
  refine wpS_of_wp (wp_skip ?_)
  simp only [Exit.thenS]
  refine wpS_of_wp (a := { tmps := #[.pointer (some ⟨X, 0, none⟩), .pointer (some ⟨Y, 0, none⟩), .iface 83 (.agg #[.int .i64 e]), undef, undef, .iface 83 (.agg #[.int .i64 e]), .iface 83 (.agg #[.int .i64 e]), .bool false, undef, undef, undef, undef, undef, undef, undef, undef, undef, undef, undef], defers := [] }) ?_
  have hta := eflt_as
  go_wp2_with fail
  rw [← HW.out.1, ← HW.out.2]
  go_region
  all_goals exact ⟨rfl, _, rfl, .tuple #[], by simp [results, Tryz.results33], rfl, rfl, HH⟩
/-- the function that is caught: the whole of the items at the block B -/
theorem of1_any {W : ByteArray → Option (Nat × Nat)} {S : Nat → Prop} {d F M B : Nat} (hW : WdOk W) {l : List Vt} {ao : Option Addr} {cap : Nat} {w : World} (hF : F < w.heap.size) (hM : M < w.heap.size) (hMF : M ≠ F) (hS : ∀ b, S b → b < w.heap.size ∧ b ≠ F) (hev : EvAt w F M W 4096) (hq : QsAt w S d l ao) (hc : l.length ≤ cap) (hsm : SmL l) (hB : w.heap[B]? = some (.cells #[.slice ao l.length cap] 27)) :
    Calls Tryz.prog 22 #[.pointer (some ⟨F, 0, none⟩), .pointer (some ⟨B, 0, none⟩)] w (OwP F M W (whE (thrE W 4097 l ⟨4096, [], 0⟩)) w) := by
  obtain ⟨N, hN⟩ : ∃ N, N = w.heap.size := ⟨_, rfl⟩
  obtain ⟨W1, hW1⟩ : ∃ X, X = w.alloc (.cells #[.int .i64 0, .int .i64 0] 30) := ⟨_, rfl⟩
  have o1 : Only (fun _ => False) w W1 := by rw [hW1]; exact (Only.refl _ w).alloc _
  have b1 : W1.heap[N]? = some (.cells #[.int .i64 0, .int .i64 0] 30) := by rw [hW1]; exact ealloc_at _ _ _ hN
  have hz := o1.size
  have c0 : W1.cell? ⟨B, 0, none⟩ = some (.slice ao l.length cap) := (vblk_cells (o1.at hB) 0).trans rfl
  obtain ⟨X, hX⟩ : ∃ X, X = whE (thrE W 4097 l ⟨4096, [], 0⟩) := ⟨_, rfl⟩
  have HC : Hid _ := whole_any hW (w := W1) (by omega) (by omega) hMF (fun b hb => ⟨by have := (hS b hb).1; omega, (hS b hb).2⟩) (hev.only o1 (fun e => e) (fun e => e)) (hq.only o1 (fun _ _ e => e)) hc hsm
  rw [← hX] at HC ⊢
  have HH : Hid (N = w.heap.size ∧ Only (fun _ => False) w W1 ∧ W1.heap[N]? = some (.cells #[.int .i64 0, .int .i64 0] 30) ∧ F < N ∧ M < N) := ⟨hN, o1, b1, by omega, by omega⟩
  obtain ⟨L, hL⟩ : ∃ L, L = l.length := ⟨_, rfl⟩
  rw [← hL] at HC c0
  clear hF hM hMF hS hev hq hc hsm o1 b1 hz hX hW hL hB
  subst hW1
  subst hN
  go_enter Tryz.func22, Tryz.ntmps22
  go_wp2_with fail
  refine (show Calls Tryz.prog 23 _ _ _ from HC.out).mono ?_
  clear HC c0
  obtain ⟨-, o1, b1, hFN, hMN⟩ := HH.out
  obtain ⟨N, hN⟩ : ∃ N, N = w.heap.size := ⟨_, rfl⟩
  rw [← hN] at b1 hFN hMN ⊢
  have HN : Hid (N = w.heap.size) := hN
  clear HH hN
  intro e w1 G
  rcases X with k | t
  · obtain ⟨rfl, o2⟩ := G
    have OO : Hid (Only (fun b => b = F) w w1) := (o1.mono (bs' := fun b => b = F) (fun _ _ g => g.elim)).trans o2 (fun _ _ e => e)
    clear o1 o2 b1 hFN hMN
    unfold gupE
    go_wp2
    exact ⟨rfl, rfl, OO.out⟩
  obtain ⟨rfl, G⟩ := G
  obtain ⟨g1, o2⟩ := G.out
  have b2 : w1.heap[N]? = some (.cells #[.int .i64 0, .int .i64 0] 30) := (o2.block N (Array.getElem?_eq_some_iff.1 b1).1 (by omega)).trans b1
  obtain ⟨m0, m1, f0, f1⟩ := wr2_cell b2
  have Q := fset2 b2 (.int .i64 (t.tk : Int)) (.int .i64 (t.st.length : Int))
  have HQ : Hid _ := Q
  have OO : Hid (EvAt ((w1.setCell ⟨N, 0, none⟩ (.int .i64 (t.tk : Int))).setCell ⟨N, 1, none⟩ (.int .i64 (t.st.length : Int))) F M W t.a ∧ Only (fun b => b = F) w ((w1.setCell ⟨N, 0, none⟩ (.int .i64 (t.tk : Int))).setCell ⟨N, 1, none⟩ (.int .i64 (t.st.length : Int)))) := by
    have o5 : Only (fun b => b = N) w1 ((w1.setCell ⟨N, 0, none⟩ (.int .i64 (t.tk : Int))).setCell ⟨N, 1, none⟩ (.int .i64 (t.st.length : Int))) := ((Only.refl (fun b => b = N) w1).setCell _ _ (fun _ => rfl)).setCell _ _ (fun _ => rfl)
    have hn := HN.out
    exact ⟨g1.only o5 (by omega) (by omega), ((o1.mono (bs' := fun b => b = F) (fun _ _ g => g.elim)).trans o2 (fun _ _ e => e)).trans o5 (fun k hk e => by omega)⟩
  clear G g1 o2 b2 Q o1 b1 hFN hMN
  go_wp2
  first | (refine bodyPost_ret (results_ef1 rfl _ _ N HQ.out.1 HQ.out.2 rfl) rfl ?_; exact ⟨rfl, OO.out⟩) | (refine ⟨_, results_ef1 rfl _ _ N HQ.out.1 HQ.out.2 rfl, rfl, OO.out⟩)
/-- what an inference answers -/
def ofR (r : Except Int Ist) : Nat × Nat × Int := match r with
  | .error e => (0, 0, e)
  | .ok t => (t.tk, t.st.length, 0)
theorem results_ef2 {fn : Func} {u v : Tmp} (h : fn.results = #[.cell u 30, .cell v 31]) (tmps : Array Value) (w : World) (B C : Nat) {x y z : Value} (h0 : w.cell? ⟨B, 0, none⟩ = some x) (h1 : w.cell? ⟨B, 1, none⟩ = some y) (h2 : w.cell? ⟨C, 0, none⟩ = some z) (ha : tmps.getD u undef = .pointer (some ⟨B, 0, none⟩)) (hb : tmps.getD v undef = .pointer (some ⟨C, 0, none⟩)) :
    (results fn tmps).run Tryz.prog w = .ok (.tuple #[.agg #[x, y], z]) w := by
  have ha' : tmps[u]?.getD undef = .pointer (some ⟨B, 0, none⟩) := by simpa using ha
  have hb' : tmps[v]?.getD undef = .pointer (some ⟨C, 0, none⟩) := by simpa using hb
  simp [results, h, ha', hb', asAddr, go_sem, loadVar, isAgg, Tryz.underlying30, Tryz.underlying31, h0, h1, h2]
end Go.Proofs.YtodbkihobgdpdaaGreatDoor
namespace Go.Proofs.YtodbkihobgdpdaaGreatDoor
open Go.RowKit Go.Lib
set_option linter.unusedSimpArgs false
set_option linter.unusedVariables false
set_option maxRecDepth 100000 in
set_option maxHeartbeats 4000000 in
theorem ecaught_any {W : ByteArray → Option (Nat × Nat)} {S : Nat → Prop} {d F M B : Nat} (hW : WdOk W) {l : List Vt} {ao : Option Addr} {cap : Nat} {w : World} (hF : F < w.heap.size) (hM : M < w.heap.size) (hMF : M ≠ F) (hS : ∀ b, S b → b < w.heap.size ∧ b ≠ F) (hev : EvAt w F M W 4096) (hq : QsAt w S d l ao) (hc : l.length ≤ cap) (hsm : SmL l) (hB : w.heap[B]? = some (.cells #[.slice ao l.length cap] 27)) (R : Except Int Ist) (hR : R = whE (thrE W 4097 l ⟨4096, [], 0⟩)) :
    Calls Tryz.prog 21 #[.func (.func 22) #[] #[.pointer (some ⟨F, 0, none⟩), .pointer (some ⟨B, 0, none⟩)]] w fun e w' => e = .returned (.tuple #[.agg #[.int .i64 ((ofR R).1 : Int), .int .i64 ((ofR R).2.1 : Int)], .int .i64 (ofR R).2.2]) ∧ Only (fun b => b = F) w w' := by
  obtain ⟨N, hN⟩ : ∃ N, N = w.heap.size := ⟨_, rfl⟩
  obtain ⟨W1, hW1⟩ : ∃ X, X = (w.alloc (.cells #[.int .i64 0, .int .i64 0] 30)).alloc (.cells #[.int .i64 0] 31) := ⟨_, rfl⟩
  have o1 : Only (fun _ => False) w W1 := by rw [hW1]; exact ((Only.refl _ w).alloc _).alloc _
  have b1 : W1.heap[N]? = some (.cells #[.int .i64 0, .int .i64 0] 30) := by rw [hW1]; exact alloc_old (ealloc_at _ _ _ hN)
  have b2 : W1.heap[N + 1]? = some (.cells #[.int .i64 0] 31) := by rw [hW1]; exact ealloc_at _ _ _ (by simp [hN])
  have hz := o1.size
  have HC : Hid _ := of1_any hW (w := W1) (B := B) (by omega) (by omega) hMF (fun b hb => ⟨by have := (hS b hb).1; omega, (hS b hb).2⟩) (hev.only o1 (fun e => e) (fun e => e)) (hq.only o1 (fun _ _ e => e)) hc hsm (o1.at hB)
  rw [← hR] at HC
  have HH : Hid (N = w.heap.size ∧ Only (fun _ => False) w W1 ∧ W1.heap[N]? = some (.cells #[.int .i64 0, .int .i64 0] 30) ∧ W1.heap[N + 1]? = some (.cells #[.int .i64 0] 31) ∧ F < N) := ⟨hN, o1, b1, b2, by omega⟩
  have hmf : ∀ (fn : Fn) (first cap : Array Value) (w : World), (Instr.makeFunc fn first cap).run Tryz.prog w = .ok (.func fn first cap) w := fun _ _ _ _ => rfl
  clear hF hM hMF hS hev hq hc hsm o1 b1 b2 hz hR hW hB
  subst hW1
  subst hN
  go_enter_defers Tryz.func21, Tryz.ntmps21
  go_wp2_with fail
  refine (show Calls Tryz.prog 22 _ _ _ from HC.out).mono ?_
  clear HC
  obtain ⟨-, o1, b1, b2, hFN⟩ := HH.out
  obtain ⟨N, hN⟩ : ∃ N, N = w.heap.size := ⟨_, rfl⟩
  rw [← hN] at b1 b2 hFN ⊢
  have HN : Hid (N = w.heap.size) := hN
  clear HH hN hmf
  intro e w1 G
  rcases R with k | t
  · obtain ⟨rfl, o2⟩ := G
    have c1 : w1.heap[N]? = some (.cells #[.int .i64 0, .int .i64 0] 30) := (o2.block N (Array.getElem?_eq_some_iff.1 b1).1 (by omega)).trans b1
    have c2 : w1.heap[N + 1]? = some (.cells #[.int .i64 0] 31) := (o2.block (N + 1) (Array.getElem?_eq_some_iff.1 b2).1 (by omega)).trans b2
    have OO : Hid (Only (fun b => b = F) w w1 ∧ w1.heap[N]? = some (.cells #[.int .i64 0, .int .i64 0] 30) ∧ w1.heap[N + 1]? = some (.cells #[.int .i64 0] 31)) := ⟨(o1.mono (bs' := fun b => b = F) (fun _ _ g => g.elim)).trans o2 (fun _ _ e => e), c1, c2⟩
    clear o1 o2 b1 b2 hFN c1 c2
    unfold gupE
    go_wp2
    refine leaves_cons (f := 33) (args := #[.pointer (some ⟨N, 0, none⟩), .pointer (some ⟨N + 1, 0, none⟩)]) (by simp) (by simp [go_sem]) ?_
    refine (ecaught_own N (N + 1) _ _ _ _ k [] _ OO.out.2.1 OO.out.2.2 (by omega)).mono ?_
    rintro ex u' w'' ⟨rfl, rfl, g⟩
    exact ⟨_, results_ef2 rfl _ _ N (N + 1) g.out.1 g.out.2.1 g.out.2.2.1 rfl rfl, rfl, OO.out.1.trans g.out.2.2.2 (fun b hb e => by have := HN.out; omega)⟩
  · obtain ⟨rfl, G⟩ := G
    obtain ⟨g1, o2⟩ := G.out
    have c1 : w1.heap[N]? = some (.cells #[.int .i64 0, .int .i64 0] 30) := (o2.block N (Array.getElem?_eq_some_iff.1 b1).1 (by omega)).trans b1
    have c2 : w1.heap[N + 1]? = some (.cells #[.int .i64 0] 31) := (o2.block (N + 1) (Array.getElem?_eq_some_iff.1 b2).1 (by omega)).trans b2
    obtain ⟨m0, m1, f0, f1⟩ := wr2_cell c1
    obtain ⟨V, hV⟩ : ∃ V, V = (w1.setCell ⟨N, 0, none⟩ (.int .i64 (t.tk : Int))).setCell ⟨N, 1, none⟩ (.int .i64 (t.st.length : Int)) := ⟨_, rfl⟩
    have Q := fset2 c1 (.int .i64 (t.tk : Int)) (.int .i64 (t.st.length : Int))
    rw [← hV] at Q
    have d2 : V.heap[N + 1]? = some (.cells #[.int .i64 0] 31) := by
      rw [hV, heap_setCell_other _ _ _ _ (by simp only; omega), heap_setCell_other _ _ _ _ (by simp only; omega)]; exact c2
    have e0 : V.cell? ⟨N + 1, 0, none⟩ = some (.int .i64 0) := (vblk_cells d2 0).trans rfl
    have ef : V.frozen? ⟨N + 1, 0, none⟩ = false := eblk_froz d2 0
    have OV : Only (fun b => b = F) w V := by
      have hn := HN.out
      rw [hV]
      exact (((o1.mono (bs' := fun b => b = F) (fun _ _ g => g.elim)).trans o2 (fun _ _ e => e)).setCell _ _ (fun g => by simp only at g; omega)).setCell _ _ (fun g => by simp only at g; omega)
    have ne0 : ∀ j, (V.setCell ⟨N + 1, 0, none⟩ (.int .i64 0)).cell? ⟨N, j, none⟩ = V.cell? ⟨N, j, none⟩ := fun j => World.cell?_setCell_other _ _ _ _ (by intro h; injection h with h; omega)
    have OO : Hid ((V.setCell ⟨N + 1, 0, none⟩ (.int .i64 0)).cell? ⟨N, 0, none⟩ = some (.int .i64 (t.tk : Int)) ∧ (V.setCell ⟨N + 1, 0, none⟩ (.int .i64 0)).cell? ⟨N, 1, none⟩ = some (.int .i64 (t.st.length : Int)) ∧ (V.setCell ⟨N + 1, 0, none⟩ (.int .i64 0)).cell? ⟨N + 1, 0, none⟩ = some (.int .i64 0) ∧ Only (fun b => b = F) w (V.setCell ⟨N + 1, 0, none⟩ (.int .i64 0))) :=
      ⟨(ne0 0).trans Q.1, (ne0 1).trans Q.2, World.cell?_setCell_same' _ _ _ (by rw [e0]; rfl), OV.setCell _ _ (fun g => by have hn := HN.out; simp only at g; omega)⟩
    rw [hV] at e0 ef OO
    clear G g1 o1 o2 b1 b2 hFN c1 c2 Q d2 OV ne0 hV V
    go_wp2
    refine leaves_cons (f := 33) (args := #[.pointer (some ⟨N, 0, none⟩), .pointer (some ⟨N + 1, 0, none⟩)]) (by simp) (by simp [go_sem]) ?_
    refine (ecaught_idle _ _ _).mono ?_
    rintro ex u' w'' ⟨rfl, rfl, rfl⟩
    exact ⟨_, results_ef2 rfl _ _ N (N + 1) OO.out.1 OO.out.2.1 OO.out.2.2.1 rfl rfl, rfl, OO.out.2.2.2⟩
end Go.Proofs.YtodbkihobgdpdaaGreatDoor
namespace Go.Proofs.YtodbkihobgdpdaaGreatDoor
open Go.RowKit Go.Lib
set_option linter.unusedSimpArgs false
set_option linter.unusedVariables false
/-- known words in memory, from the place ka on -/
def KnAt (w : World) (K : Nat → Prop) (kl : List (ByteArray × Int × Int)) (ka : Option Addr) : Prop := ∀ (j : Nat) (x : ByteArray × Int × Int), kl[j]? = some x → ∃ g q, ka = some ⟨g, q, none⟩ ∧ K g ∧ w.cell? ⟨g, q + j * 3, none⟩ = some (.string x.1) ∧ w.cell? ⟨g, q + j * 3 + 1, none⟩ = some (.int .i64 x.2.1) ∧ w.cell? ⟨g, q + j * 3 + 1 + 1, none⟩ = some (.int .i64 x.2.2)
theorem KnAt.only {w w' : World} {K bs : Nat → Prop} {kl : List (ByteArray × Int × Int)} {ka : Option Addr} (h : KnAt w K kl ka) (o : Only bs w w') (hb : ∀ b, K b → ¬ bs b) : KnAt w' K kl ka := fun j x hx => by
  obtain ⟨g, q, h1, h2, h3, h4, h5⟩ := h j x hx
  exact ⟨g, q, h1, h2, o.cell h3 (hb g h2), o.cell h4 (hb g h2), o.cell h5 (hb g h2)⟩
/-- are all effects such as words may have? -/
def alB9 (kl : List (ByteArray × Int × Int)) : Bool := kl.all fun x => bdB x.2.1 x.2.2
theorem alB9_take {kl : List (ByteArray × Int × Int)} {j : Nat} {x : ByteArray × Int × Int} (hx : kl[j]? = some x) (h : alB9 (kl.take j) = true) : alB9 (kl.take (j + 1)) = bdB x.2.1 x.2.2 := by
  unfold alB9 at *
  rw [List.take_add_one, hx, List.all_append, h]
  simp
theorem alB9_no {kl : List (ByteArray × Int × Int)} {j : Nat} {x : ByteArray × Int × Int} (hx : kl[j]? = some x) (h : bdB x.2.1 x.2.2 = false) : alB9 kl = false := by
  unfold alB9
  rw [List.all_eq_false]
  exact ⟨x, List.mem_of_getElem? hx, by simp [h]⟩
set_option maxRecDepth 100000 in
set_option maxHeartbeats 1000000 in
theorem allBounded_any {w : World} {K : Nat → Prop} {kl : List (ByteArray × Int × Int)} {ka : Option Addr} {kc : Nat} (h : KnAt w K kl ka) (hn : kl.length ≤ 4398046511104) : Calls Tryz.prog 19 #[.slice ka kl.length kc] w fun e w' => e = .returned (.bool (alB9 kl)) ∧ Only (fun _ => False) w w' := by
  have HB : Hid (∀ x y w1, Calls Tryz.prog 24 #[.agg #[.int .i64 x, .int .i64 y]] w1 fun e w' => e = .returned (.bool (bdB x y)) ∧ Only (fun _ => False) w1 w') := bounded_any
  obtain ⟨L, hL⟩ : ∃ L, L = kl.length := ⟨_, rfl⟩
  obtain ⟨R, hR⟩ : ∃ R, R = alB9 kl := ⟨_, rfl⟩
  rw [← hL, ← hR]
  have HH : Hid (KnAt w K kl ka ∧ L = kl.length ∧ L ≤ 4398046511104 ∧ R = alB9 kl) := ⟨h, hL, by omega, hR⟩
  clear h hn hL hR
  go_enter Tryz.func19, Tryz.ntmps19
  go_wp2
  go_loopw [7] (fun r7 wr => ∃ (j : Nat), r7 = .int .i64 (j : Int) ∧ j ≤ L ∧ Hid (alB9 (kl.take j) = true ∧ Only (fun _ => False) w wr)) (fun r7 _ => L - vuOf r7)
  case atStart => exact ⟨0, rfl, Nat.zero_le _, rfl, Only.refl _ _⟩
  case round =>
    obtain ⟨j, rfl, hj, HI⟩ := hrel
    obtain ⟨w1, hw1⟩ : ∃ w1, w1 = wr := ⟨_, rfl⟩
    rw [← hw1] at HI ⊢
    clear hw1
    obtain ⟨hk, hLl, hLb, hR⟩ := HH.out
    by_cases hjL : j < L
    · obtain ⟨x, hx⟩ : ∃ x, kl[j]? = some x := ⟨kl[j]'(by omega), List.getElem?_eq_getElem (by omega)⟩
      obtain ⟨g, q, rfl, hg, c0, c1, c2⟩ := (hk.only HI.out.2 (fun _ _ e => e)) j x hx
      have HX : Hid (kl[j]? = some x ∧ j < L) := ⟨hx, hjL⟩
      obtain ⟨nm, a, b⟩ := x
      have i1 : (j : Int) < (L : Int) := by omega
      have i0 : (0 : Int) ≤ (j : Int) := by omega
      have i4 : j ≤ 4398046511104 := by omega
      obtain ⟨Z, hZ⟩ : ∃ Z, Z = bdB a b := ⟨_, rfl⟩
      have HZ : Hid (Z = bdB a b) := hZ
      have HC : Hid (∀ w1, Calls Tryz.prog 24 #[.agg #[.int .i64 a, .int .i64 b]] w1 fun e w' => e = .returned (.bool Z) ∧ Only (fun _ => False) w1 w') := fun w1 => by rw [hZ]; exact HB.out a b w1
      simp only at c0 c1 c2
      clear hx hk hLl hLb hR hjL hj hg hZ
      go_wp2_with fail
      refine (show Calls Tryz.prog 24 _ _ _ from HC.out _).mono ?_
      rintro e w2 ⟨rfl, o2⟩
      have O2 : Hid (Only (fun _ => False) w w2) := (HI.out.2.alloc _).trans o2 (fun _ _ e => e)
      clear HC c0 c1 c2 o2
      cases Z with
      | true =>
        have HF : Hid (alB9 (kl.take (j + 1)) = true ∧ Only (fun _ => False) w w2) := ⟨(alB9_take HX.out.1 HI.out.1).trans HZ.out.symm, O2.out⟩
        clear HI O2
        go_wp2
        go_roundw
        case rel => exact ⟨j + 1, by go_num, by have := HX.out.2; omega, HF⟩
        case measure => simp only [vuOf]; have := HX.out.2; omega
      | false =>
        have hR2 : R = false := by rw [HH.out.2.2.2]; exact alB9_no HX.out.1 HZ.out.symm
        clear HI HH
        subst hR2
        go_wp2
        go_ret
        exact ⟨rfl, O2.out⟩
    · obtain rfl : j = L := by omega
      have i1 : ¬ (j : Int) < (j : Int) := by omega
      have hR2 : R = true := by
        rw [hR]
        have := HI.out.1
        rwa [show kl.take j = kl from by rw [hLl]; exact List.take_length] at this
      have OO : Hid (Only (fun _ => False) w w1) := HI.out.2
      clear HI hk hLl hLb hR hjL hj HH
      subst hR2
      go_wp2
      go_ret
      exact ⟨rfl, OO.out⟩
end Go.Proofs.YtodbkihobgdpdaaGreatDoor
namespace Go.Proofs.YtodbkihobgdpdaaGreatDoor
open Go.RowKit Go.Lib
set_option linter.unusedSimpArgs false
set_option linter.unusedVariables false
/-- the effect of a known word; of several with one name that of the first -/
def fsF (s : ByteArray) : List (ByteArray × Int × Int) → Option (Nat × Nat)
  | [] => none
  | x :: r => if x.1.toList = s.toList then some (x.2.1.toNat, x.2.2.toNat) else fsF s r
theorem fsF_snoc (s : ByteArray) (x : ByteArray × Int × Int) : ∀ l : List (ByteArray × Int × Int), fsF s (l ++ [x]) = (match fsF s l with | some e => some e | none => if x.1.toList = s.toList then some (x.2.1.toNat, x.2.2.toNat) else none)
  | [] => by simp [fsF]
  | y :: l => by
    show fsF s (y :: (l ++ [x])) = _
    unfold fsF
    split
    · rfl
    · exact fsF_snoc s x l
theorem toList_inj {a b : ByteArray} (h : a.toList = b.toList) : a = b := by rw [to_lit h]; exact (to_lit rfl).symm
theorem data_ne {a b : ByteArray} (h : ¬ a.toList = b.toList) : (Lit.string a.data.toList) ≠ .string b.data.toList := fun e => h (by
  injection e with e
  rw [ByteArray.toList_eq, ByteArray.toList_eq, e])
def evR : Value → Option (DataW Value × List MemPlace) := fun v => some (.held v, [])
/-- the map at M holds the words W -/
def WmA (w : World) (M n : Nat) (W : ByteArray → Option (Nat × Nat)) : Prop := ∃ D, w.ownsMap Tryz.prog 9 evR M n D ∧ ∀ s : ByteArray, s.size ≤ 140737488355328 → D.atKey (.string s.data.toList) (.held (eoV none)) = .held (eoV (W s)) ∧ Maps.has D (.string s.data.toList) = (W s).isSome
theorem WmA.made (w : World) : WmA (w.alloc (.map #[] 0)) w.heap.size 0 (fun s => fsF s []) := ⟨.map [], World.ownsMap_made w _ _ _, fun s hs => ⟨rfl, rfl⟩⟩
theorem WmA.only {w w' : World} {M n : Nat} {W : ByteArray → Option (Nat × Nat)} {bs : Nat → Prop} (h : WmA w M n W) (o : Only bs w w') (hn : ¬ bs M) : WmA w' M n W := by
  obtain ⟨D, h1, h2⟩ := h
  have hlt := h1.lt
  obtain ⟨es, clock, hb, r⟩ := h1
  exact ⟨D, ⟨es, clock, (o.block M hlt hn).trans hb, r⟩, h2⟩
theorem ezero (w : World) : (zeroValue 30).run Tryz.prog w = .ok (eoV none) w := by kernel_rfl
theorem ekeyed : Maps.Keyed Tryz.prog 9 := Maps.string_keyed Tryz.underlying9
theorem ekey {s : ByteArray} (hs : s.size ≤ 140737488355328) : keyOf Tryz.prog 9 (.string s) = some (.string s.data.toList) := WideMaps.keyOf_string_mk Tryz.underlying9 (by unfold maxLen; omega)
theorem WmA.look {w : World} {M n : Nat} {W : ByteArray → Option (Nat × Nat)} (h : WmA w M n W) (s : ByteArray) (hs : s.size ≤ 140737488355328) : (Instr.lookup 58 (.map (some M)) (.string s) true).run Tryz.prog w = .ok (.tuple #[eoV (W s), .bool (W s).isSome]) w := by
  obtain ⟨D, h1, h2⟩ := h
  obtain ⟨v, ps, hr, hR⟩ := h1.look_ok ekeyed Tryz.underlying58 (ezero w) (zd := .held (eoV none)) (zp := []) rfl (ekey hs)
  rw [(h2 s hs).1] at hR
  rw [(h2 s hs).2] at hr
  simp only [evR, Option.some.injEq, Prod.mk.injEq, DataW.held.injEq] at hR
  rw [hr, hR.1]
theorem WmA.obj {w : World} {M n : Nat} {W : ByteArray → Option (Nat × Nat)} (h : WmA w M n W) : ∃ o, w.heap[M]? = some o ∧ WmO M W o := by
  obtain ⟨D, ⟨es, clock, hb, r⟩, h2⟩ := h
  exact ⟨_, hb, fun w' hw s hs => WmA.look ⟨D, ⟨es, clock, hw, r⟩, h2⟩ s hs⟩
theorem eturned_only {w w' : World} {b : Nat} (h : w.mapTurned w' b) : Only (fun i => i = b) w w' := by
  have hg := h.grown
  exact ⟨hg.os, hg.tape, hg.output, hg.size, fun k hk hn => hg.block k hk (fun e => hn (by injection e))⟩
/-- a word that is not there yet is put -/
theorem WmA.put {w : World} {M n : Nat} {kl : List (ByteArray × Int × Int)} {x : ByteArray × Int × Int} (h : WmA w M n (fun s => fsF s kl)) (hn : n < maxLen) (hs : x.1.size ≤ 140737488355328) (hnot : fsF x.1 kl = none) (hb : bdB x.2.1 x.2.2 = true) :
    ∃ w', (Instr.mapUpdate 58 (.map (some M)) (.string x.1) (.agg #[.int .i64 x.2.1, .int .i64 x.2.2])).run Tryz.prog w = .ok () w' ∧ WmA w' M (n + 1) (fun s => fsF s (kl ++ [x])) ∧ Only (fun i => i = M) w w' := by
  obtain ⟨D, h1, h2⟩ := h
  obtain ⟨w', hr, ho, ht⟩ := h1.store ekeyed Tryz.underlying58 hn (ekey hs) (val := .agg #[.int .i64 x.2.1, .int .i64 x.2.2]) (d := .held (.agg #[.int .i64 x.2.1, .int .i64 x.2.2])) (ps := []) rfl
  have hm := h1.isMap
  have hkl : WideAt.IsKeyLit (Lit.string x.1.data.toList) := trivial
  unfold bdB at hb
  have hb2 := of_decide_eq_true hb
  have t1 : ((x.2.1.toNat : Nat) : Int) = x.2.1 := by omega
  have t2 : ((x.2.2.toNat : Nat) : Int) = x.2.2 := by omega
  refine ⟨w', hr, ⟨_, ho, fun s hsz => ?_⟩, eturned_only ht⟩
  simp only [fsF_snoc]
  by_cases e : x.1.toList = s.toList
  · have e2 := toList_inj e
    rw [← e2, hnot]
    simp only [if_true]
    rw [Maps.atKey_put_same hm hkl, Maps.has_put_same hm hkl]
    exact ⟨by simp only [eoV, Option.getD_some, t1, t2], rfl⟩
  · rw [Maps.atKey_put_other (fun q => data_ne e q.symm), Maps.has_put_other (fun q => data_ne e q.symm), (h2 s hsz).1, (h2 s hsz).2]
    simp only
    cases fsF s kl with
    | none => rw [if_neg e]; exact ⟨rfl, rfl⟩
    | some y => exact ⟨rfl, rfl⟩
theorem WmA.same {w : World} {M n : Nat} {W W' : ByteArray → Option (Nat × Nat)} (h : WmA w M n W) (he : ∀ s, W' s = W s) : WmA w M n W' := by
  have : W' = W := funext he
  rw [this]
  exact h
theorem WmA.mono {w : World} {M n : Nat} {W : ByteArray → Option (Nat × Nat)} (h : WmA w M n W) : WmA w M (n + 1) W := by
  obtain ⟨D, h1, h2⟩ := h
  exact ⟨D, h1.mono (by omega), h2⟩
theorem alB9_at {kl : List (ByteArray × Int × Int)} {j : Nat} {x : ByteArray × Int × Int} (hx : kl[j]? = some x) (h : alB9 kl = true) : bdB x.2.1 x.2.2 = true := by
  unfold alB9 at h
  exact List.all_eq_true.1 h x (List.mem_of_getElem? hx)
set_option maxRecDepth 100000 in
set_option maxHeartbeats 1000000 in
theorem firsts_any {w : World} {K : Nat → Prop} {kl : List (ByteArray × Int × Int)} {ka : Option Addr} {kc : Nat} (h : KnAt w K kl ka) (hn : kl.length ≤ 4398046511104) (hs : ∀ x ∈ kl, x.1.size ≤ 140737488355328) (hb : alB9 kl = true) : Calls Tryz.prog 20 #[.slice ka kl.length kc] w fun e w' => ∃ M, e = .returned (.map (some M)) ∧ Hid (w.heap.size ≤ M ∧ (∃ o, w'.heap[M]? = some o ∧ WmO M (fun s => fsF s kl) o) ∧ Only (fun _ => False) w w') := by
  obtain ⟨L, hL⟩ : ∃ L, L = kl.length := ⟨_, rfl⟩
  rw [← hL]
  obtain ⟨M, hM⟩ : ∃ M, M = w.heap.size := ⟨_, rfl⟩
  have HH : Hid (KnAt w K kl ka ∧ L = kl.length ∧ L ≤ 4398046511104 ∧ (∀ x ∈ kl, x.1.size ≤ 140737488355328) ∧ alB9 kl = true ∧ M = w.heap.size) := ⟨h, hL, by omega, hs, hb, hM⟩
  have H0 : Hid (WmA (w.alloc (.map #[] 0)) M 0 (fun s => fsF s (kl.take 0)) ∧ Only (fun _ => False) w (w.alloc (.map #[] 0))) := ⟨by rw [hM]; exact WmA.made w, (Only.refl _ w).alloc _⟩
  have hmk : (Instr.makeMap 58 none).run Tryz.prog w = .ok (.map (some w.heap.size)) (w.alloc (.map #[] 0)) := by kernel_rfl
  clear h hn hL hs hb
  go_enter Tryz.func20, Tryz.ntmps20
  go_wp2
  rw [← hM]
  clear hM hmk
  go_loopw [11] (fun r11 wr => ∃ (j : Nat), r11 = .int .i64 (j : Int) ∧ j ≤ L ∧ Hid (WmA wr M j (fun s => fsF s (kl.take j)) ∧ Only (fun _ => False) w wr)) (fun r11 _ => L - vuOf r11)
  case atStart => exact ⟨0, rfl, Nat.zero_le _, H0.out⟩
  case round =>
    obtain ⟨j, rfl, hj, HI⟩ := hrel
    obtain ⟨w1, hw1⟩ : ∃ w1, w1 = wr := ⟨_, rfl⟩
    rw [← hw1] at HI ⊢
    clear hw1 H0
    obtain ⟨hk, hLl, hLb, hsz, hbd, hM⟩ := HH.out
    by_cases hjL : j < L
    · obtain ⟨x, hx⟩ : ∃ x, kl[j]? = some x := ⟨kl[j]'(by omega), List.getElem?_eq_getElem (by omega)⟩
      obtain ⟨g, q, rfl, hg, c0, c1, c2⟩ := (hk.only HI.out.2 (fun _ _ e => e)) j x hx
      have HX : Hid (kl[j]? = some x ∧ j < L) := ⟨hx, hjL⟩
      have hsx := hsz x (List.mem_of_getElem? hx)
      have hbx := alB9_at hx hbd
      obtain ⟨nm, a, b⟩ := x
      simp only at c0 c1 c2 hsx hbx
      have i1 : (j : Int) < (L : Int) := by omega
      have i0 : (0 : Int) ≤ (j : Int) := by omega
      have i4 : j ≤ 4398046511104 := by omega
      obtain ⟨W2, hW2⟩ : ∃ X, X = w1.alloc (.cells #[.string nm, .int .i64 a, .int .i64 b] 48) := ⟨_, rfl⟩
      have o2 : Only (fun _ => False) w1 W2 := by rw [hW2]; exact (Only.refl _ _).alloc _
      have m2 := HI.out.1.only o2 (fun e => e)
      have hlk := m2.look nm hsx
      obtain ⟨Z, hZ⟩ : ∃ Z, Z = fsF nm (kl.take j) := ⟨_, rfl⟩
      simp only [← hZ] at hlk
      rw [hW2] at hlk
      cases Z with
      | some y =>
        have hlk2 : (Instr.lookup 58 (.map (some M)) (.string nm) true).run Tryz.prog (w1.alloc (.cells #[.string nm, .int .i64 a, .int .i64 b] 48)) = .ok (.tuple #[.agg #[.int .i64 (y.1 : Int), .int .i64 (y.2 : Int)], .bool true]) (w1.alloc (.cells #[.string nm, .int .i64 a, .int .i64 b] 48)) := hlk
        have HF : Hid (WmA ((w1.alloc (.cells #[.string nm, .int .i64 a, .int .i64 b] 48)).alloc (.cells #[.int .i64 (y.1 : Int), .int .i64 (y.2 : Int)] 30)) M (j + 1) (fun s => fsF s (kl.take (j + 1))) ∧ Only (fun _ => False) w ((w1.alloc (.cells #[.string nm, .int .i64 a, .int .i64 b] 48)).alloc (.cells #[.int .i64 (y.1 : Int), .int .i64 (y.2 : Int)] 30))) := by
          have oo : Only (fun _ => False) w1 ((w1.alloc (.cells #[.string nm, .int .i64 a, .int .i64 b] 48)).alloc (.cells #[.int .i64 (y.1 : Int), .int .i64 (y.2 : Int)] 30)) := ((Only.refl _ _).alloc _).alloc _
          refine ⟨((HI.out.1.only oo (fun e => e)).mono).same (fun s => ?_), HI.out.2.trans oo (fun _ _ e => e)⟩
          rw [List.take_add_one, HX.out.1]
          simp only [Option.toList, fsF_snoc]
          by_cases e : nm.toList = s.toList
          · have e2 := toList_inj e
            subst e2
            rw [← hZ]
          · rw [if_neg e]
            cases fsF s (kl.take j) <;> rfl
        clear hlk hx hk hLl hLb hsz hbd hM hjL hj hg hZ o2 m2 hW2 hsx hbx HI
        go_wp2
        go_roundw
        case rel => exact ⟨j + 1, by go_num, by have := HX.out.2; omega, HF⟩
        case measure => simp only [vuOf]; have := HX.out.2; omega
      | none =>
        have hlk2 : (Instr.lookup 58 (.map (some M)) (.string nm) true).run Tryz.prog (w1.alloc (.cells #[.string nm, .int .i64 a, .int .i64 b] 48)) = .ok (.tuple #[.agg #[.int .i64 0, .int .i64 0], .bool false]) (w1.alloc (.cells #[.string nm, .int .i64 a, .int .i64 b] 48)) := hlk
        have oo : Only (fun _ => False) w1 ((w1.alloc (.cells #[.string nm, .int .i64 a, .int .i64 b] 48)).alloc (.cells #[.int .i64 0, .int .i64 0] 30)) := ((Only.refl _ _).alloc _).alloc _
        obtain ⟨w4, hup, hw4, o4⟩ := WmA.put (x := (nm, a, b)) (HI.out.1.only oo (fun e => e)) (by unfold maxLen; omega) hsx hZ.symm hbx
        have HF : Hid (WmA w4 M (j + 1) (fun s => fsF s (kl.take (j + 1))) ∧ Only (fun _ => False) w w4) := by
          refine ⟨hw4.same (fun s => ?_), (HI.out.2.trans oo (fun _ _ e => e)).trans o4 (fun k hk e => by omega)⟩
          rw [List.take_add_one, HX.out.1]
          rfl
        have hup2 : (Instr.mapUpdate 58 (.map (some M)) (.string nm) (.agg #[.int .i64 a, .int .i64 b])).run Tryz.prog ((w1.alloc (.cells #[.string nm, .int .i64 a, .int .i64 b] 48)).alloc (.cells #[.int .i64 0, .int .i64 0] 30)) = .ok () w4 := hup
        clear hlk hx hk hLl hLb hsz hbd hM hjL hj hg hZ o2 m2 hW2 hsx hbx HI hup hw4 o4 oo
        go_wp2
        go_roundw
        case rel => exact ⟨j + 1, by go_num, by have := HX.out.2; omega, HF⟩
        case measure => simp only [vuOf]; have := HX.out.2; omega
    · obtain rfl : j = L := by omega
      have i1 : ¬ (j : Int) < (j : Int) := by omega
      have F9 : Hid (w.heap.size ≤ M ∧ (∃ o, w1.heap[M]? = some o ∧ WmO M (fun s => fsF s kl) o) ∧ Only (fun _ => False) w w1) := by
        refine ⟨by omega, ?_, HI.out.2⟩
        have := HI.out.1
        rw [show kl.take j = kl from by rw [hLl]; exact List.take_length] at this
        exact this.obj
      clear HI hk hLl hLb hsz hbd hM hjL hj HH
      go_wp2
      go_ret
      exact ⟨M, rfl, F9.out⟩
end Go.Proofs.YtodbkihobgdpdaaGreatDoor
namespace Go.Proofs.YtodbkihobgdpdaaGreatDoor
open Go.RowKit Go.Lib
set_option linter.unusedSimpArgs false
set_option linter.unusedVariables false
/-- items as a quotation -/
def qT (l : List Vt) : Vt := ⟨5, 0, ⟨#[]⟩, l⟩
theorem sm_max : ∀ {l : List Vt}, (∀ x ∈ l, ∃ e, SmT e x) → ∃ e, ∀ x ∈ l, SmT e x
  | [], _ => ⟨0, fun x hx => by simp at hx⟩
  | y :: l, h => by
    obtain ⟨e1, h1⟩ := sm_max (l := l) (fun x hx => h x (by simp [hx]))
    obtain ⟨e2, h2⟩ := h y (by simp)
    refine ⟨max e1 e2, fun x hx => ?_⟩
    rcases List.mem_cons.1 hx with rfl | hx
    · exact h2.mono (Nat.le_max_right _ _)
    · exact (h1 x hx).mono (Nat.le_max_left _ _)
theorem SmL.tree {l : List Vt} (h : SmL l) : ∃ e, SmT e (qT l) := by
  obtain ⟨e, he⟩ := sm_max h.2
  exact ⟨e + 1, Nat.zero_le _, h.1, ⟨by show (-9223372036854775808 : Int) ≤ 5; omega, by show (5 : Int) ≤ 9223372036854775807; omega⟩, ⟨by show (-9223372036854775808 : Int) ≤ 0; omega, by show (0 : Int) ≤ 9223372036854775807; omega⟩, he⟩
theorem QsAt.tree {w : World} {S : Nat → Prop} {d cap : Nat} {l : List Vt} {ao : Option Addr} (h : QsAt w S d l ao) (hc : l.length ≤ cap) : TiAt w S (d + 1) false (qT l) (.iface 81 (.agg #[.slice ao l.length cap])) :=
  .inr (.inr (.inr (.inr (.inr ⟨.inr rfl, ao, cap, rfl, hc, fun i x hx => h i x hx⟩))))
set_option maxRecDepth 100000 in
theorem checkItems_any {w : World} {S : Nat → Prop} {d cap : Nat} {l : List Vt} {ao : Option Addr} (h : QsAt w S d l ao) (hc : l.length ≤ cap) (hsm : SmL l) (hS : ∀ b, S b → b < w.heap.size) (hT : Tb w) : Calls Tryz.prog 18 #[.slice ao l.length cap] w fun e w' => e = .returned (.int .i64 (if sdB (d + 1) (qT l) then 0 else 1)) ∧ Only (fun _ => False) w w' := by
  have HV : Hid _ := vcheck_any (h.tree hc) hS hsm.tree hT
  obtain ⟨X, hX⟩ : ∃ X : Int, X = (if sdB (d + 1) (qT l) then 0 else 1) := ⟨_, rfl⟩
  rw [← hX] at HV ⊢
  obtain ⟨L, hL⟩ : ∃ L, L = l.length := ⟨_, rfl⟩
  rw [← hL] at HV ⊢
  clear h hc hsm hS hT hX hL
  go_enter Tryz.func18, Tryz.ntmps18
  go_wp2_with fail
  refine (show Calls Tryz.prog 32 _ _ _ from HV.out).mono ?_
  rintro e w1 ⟨rfl, o1⟩
  have O1 : Hid (Only (fun _ => False) w w1) := o1
  clear HV o1
  go_wp2
  go_ret
  exact ⟨rfl, O1.out⟩
theorem fs_ok {kl : List (ByteArray × Int × Int)} (h : alB9 kl = true) : WdOk (fun s => fsF s kl) := by
  intro s e he
  induction kl with
  | nil => exact nomatch he
  | cons x r ih =>
    have hx := alB9_at (j := 0) (x := x) (kl := x :: r) rfl h
    unfold bdB at hx
    have hb := of_decide_eq_true hx
    simp only [fsF] at he
    split at he
    · injection he with he
      rw [← he]
      simp only
      omega
    · refine ih ?_ he
      unfold alB9 at h ⊢
      simp only [List.all_cons, Bool.and_eq_true] at h
      exact h.2
/-- what Of answers -/
def oF (d : Nat) (l : List Vt) (kl : List (ByteArray × Int × Int)) : Nat × Nat × Int := if sdB (d + 1) (qT l) = true ∧ alB9 kl = true then ofR (whE (thrE (fun s => fsF s kl) 4097 l ⟨4096, [], 0⟩)) else (0, 0, 1)
def OfP (r : Nat × Nat × Int) (w : World) (e : Ending) (w' : World) : Prop := e = .returned (.tuple #[.agg #[.int .i64 (r.1 : Int), .int .i64 (r.2.1 : Int)], .int .i64 r.2.2]) ∧ Only (fun _ => False) w w'
set_option maxRecDepth 100000 in
set_option maxHeartbeats 1000000 in
theorem of_any {w : World} {S K : Nat → Prop} {d cap kc : Nat} {l : List Vt} {ao ka : Option Addr} {kl : List (ByteArray × Int × Int)} (h : QsAt w S d l ao) (hc : l.length ≤ cap) (hsm : SmL l) (hS : ∀ b, S b → b < w.heap.size) (hk : KnAt w K kl ka) (hkn : kl.length ≤ 4398046511104) (hks : ∀ x ∈ kl, x.1.size ≤ 140737488355328) (hT : Tb w) :
    Calls Tryz.prog 9 #[.slice ao l.length cap, .slice ka kl.length kc] w (OfP (oF d l kl) w) := by
  obtain ⟨N, hN⟩ : ∃ N, N = w.heap.size := ⟨_, rfl⟩
  obtain ⟨W1, hW1⟩ : ∃ X, X = (w.alloc (.cells #[.slice ao l.length cap] 27)).alloc (.cells #[.int .i64 0, .int .i64 0] 30) := ⟨_, rfl⟩
  have o1 : Only (fun _ => False) w W1 := by rw [hW1]; exact ((Only.refl _ w).alloc _).alloc _
  have b1 : W1.heap[N]? = some (.cells #[.slice ao l.length cap] 27) := by rw [hW1]; exact alloc_old (ealloc_at _ _ _ hN)
  have b2 : W1.heap[N + 1]? = some (.cells #[.int .i64 0, .int .i64 0] 30) := by rw [hW1]; exact ealloc_at _ _ _ (by simp [hN])
  have hz := o1.size
  have lN : N + 1 < W1.heap.size := (Array.getElem?_eq_some_iff.1 b2).1
  have HCk : Hid _ := checkItems_any (w := W1) (h.only o1 (fun _ _ e => e)) hc hsm (fun b hb => by have := hS b hb; omega) (hT.frame o1)
  obtain ⟨Z, hZ⟩ : ∃ Z, Z = sdB (d + 1) (qT l) := ⟨_, rfl⟩
  rw [← hZ] at HCk
  have HAb : Hid (∀ w2, Only (fun _ => False) w w2 → Calls Tryz.prog 19 #[.slice ka kl.length kc] w2 fun e w' => e = .returned (.bool (alB9 kl)) ∧ Only (fun _ => False) w2 w') := fun w2 o2 => allBounded_any (hk.only o2 (fun _ _ e => e)) hkn
  obtain ⟨Y, hY⟩ : ∃ Y, Y = alB9 kl := ⟨_, rfl⟩
  rw [← hY] at HAb
  have HFs : Hid (∀ w2, Y = true → Only (fun _ => False) w w2 → Calls Tryz.prog 20 #[.slice ka kl.length kc] w2 fun e w' => ∃ M, e = .returned (.map (some M)) ∧ Hid (w2.heap.size ≤ M ∧ (∃ o, w'.heap[M]? = some o ∧ WmO M (fun s => fsF s kl) o) ∧ Only (fun _ => False) w2 w')) := fun w2 hy o2 => firsts_any (hk.only o2 (fun _ _ e => e)) hkn hks (hY ▸ hy)
  obtain ⟨R, hR⟩ : ∃ R, R = oF d l kl := ⟨_, rfl⟩
  rw [← hR]
  have HR : Hid (R = if Z = true ∧ Y = true then ofR (whE (thrE (fun s => fsF s kl) 4097 l ⟨4096, [], 0⟩)) else (0, 0, 1)) := by rw [hR, hZ, hY]; rfl
  have HH : Hid (N = w.heap.size ∧ Only (fun _ => False) w W1 ∧ W1.heap[N]? = some (.cells #[.slice ao l.length cap] 27) ∧ W1.heap[N + 1]? = some (.cells #[.int .i64 0, .int .i64 0] 30) ∧ QsAt w S d l ao ∧ l.length ≤ cap ∧ SmL l ∧ (∀ b, S b → b < w.heap.size) ∧ N + 1 < W1.heap.size) := ⟨hN, o1, b1, b2, h, hc, hsm, hS, lN⟩
  have HY : Hid (Y = alB9 kl) := hY
  have c1 : W1.cell? ⟨N, 0, none⟩ = some (.slice ao l.length cap) := (vblk_cells b1 0).trans rfl
  obtain ⟨L, hL⟩ : ∃ L, L = l.length := ⟨_, rfl⟩
  obtain ⟨KL, hKL⟩ : ∃ L, L = kl.length := ⟨_, rfl⟩
  rw [← hL] at HCk c1 hW1 ⊢
  rw [← hKL] at HAb HFs ⊢
  have HL : Hid (L = l.length) := hL
  have HW : Hid (W1 = (w.alloc (.cells #[.slice ao L cap] 27)).alloc (.cells #[.int .i64 0, .int .i64 0] 30)) := hW1
  clear h hc hsm hS hk hkn hks hT o1 b1 b2 hz lN hZ hY hR hL hKL
  subst hW1
  subst hN
  go_enter Tryz.func9, Tryz.ntmps9
  go_wp2_with fail
  refine (show Calls Tryz.prog 18 _ _ _ from HCk.out).mono ?_
  clear HCk c1
  obtain ⟨-, o1, b1, b2, hq, hc, hsm, hS, lN⟩ := HH.out
  obtain ⟨N, hN⟩ : ∃ N, N = w.heap.size := ⟨_, rfl⟩
  rw [← hN] at b1 b2 lN ⊢
  obtain ⟨W1, hW1⟩ : ∃ X, X = (w.alloc (.cells #[.slice ao L cap] 27)).alloc (.cells #[.int .i64 0, .int .i64 0] 30) := ⟨_, rfl⟩
  rw [← hW1] at o1 b1 b2 lN
  have HH2 : Hid (N = w.heap.size ∧ Only (fun _ => False) w W1 ∧ W1.heap[N]? = some (.cells #[.slice ao l.length cap] 27) ∧ W1.heap[N + 1]? = some (.cells #[.int .i64 0, .int .i64 0] 30) ∧ QsAt w S d l ao ∧ l.length ≤ cap ∧ SmL l ∧ (∀ b, S b → b < w.heap.size) ∧ N + 1 < W1.heap.size) := ⟨hN, o1, b1, b2, hq, hc, hsm, hS, lN⟩
  have HW1 : Hid (W1 = (w.alloc (.cells #[.slice ao L cap] 27)).alloc (.cells #[.int .i64 0, .int .i64 0] 30)) := hW1
  rintro e w1 ⟨rfl, o2⟩
  rw [← hW1] at o2
  have O2 : Only (fun _ => False) w w1 := o1.trans o2 (fun _ _ e => e)
  have HI : Hid (Only (fun _ => False) w w1 ∧ Only (fun _ => False) W1 w1) := ⟨O2, o2⟩
  have zero : ∀ w9, Only (fun _ => False) W1 w9 → ∃ f0 : w9.frozen? ⟨N + 1, 0, none⟩ = false, ∃ f1 : w9.frozen? ⟨N + 1, 1, none⟩ = false, ∃ c0 : w9.cell? ⟨N + 1, 0, none⟩ = some (.int .i64 0), ∃ c1 : w9.cell? ⟨N + 1, 1, none⟩ = some (.int .i64 0), ∀ x y : Value, Hid ((((w9.setCell ⟨N + 1, 0, none⟩ x).setCell ⟨N + 1, 1, none⟩ y).cell? ⟨N + 1, 0, none⟩ = some x ∧ ((w9.setCell ⟨N + 1, 0, none⟩ x).setCell ⟨N + 1, 1, none⟩ y).cell? ⟨N + 1, 1, none⟩ = some y) ∧ Only (fun _ => False) w ((w9.setCell ⟨N + 1, 0, none⟩ x).setCell ⟨N + 1, 1, none⟩ y)) := fun w9 o9 => by
    obtain ⟨q0, q1, p0, p1⟩ := wr2_cell (o9.at b2)
    exact ⟨p0, p1, q0, q1, fun x y => ⟨fset2 (o9.at b2) x y, ((o1.trans o9 (fun _ _ e => e)).setCell _ _ (fun g => by simp only at g; omega)).setCell _ _ (fun g => by simp only at g; omega)⟩⟩
  have HZ : Hid (∀ w9, Only (fun _ => False) W1 w9 → ∃ f0 : w9.frozen? ⟨N + 1, 0, none⟩ = false, ∃ f1 : w9.frozen? ⟨N + 1, 1, none⟩ = false, ∃ c0 : w9.cell? ⟨N + 1, 0, none⟩ = some (.int .i64 0), ∃ c1 : w9.cell? ⟨N + 1, 1, none⟩ = some (.int .i64 0), ∀ x y : Value, Hid ((((w9.setCell ⟨N + 1, 0, none⟩ x).setCell ⟨N + 1, 1, none⟩ y).cell? ⟨N + 1, 0, none⟩ = some x ∧ ((w9.setCell ⟨N + 1, 0, none⟩ x).setCell ⟨N + 1, 1, none⟩ y).cell? ⟨N + 1, 1, none⟩ = some y) ∧ Only (fun _ => False) w ((w9.setCell ⟨N + 1, 0, none⟩ x).setCell ⟨N + 1, 1, none⟩ y))) := zero
  clear HH o1 b1 b2 hq hc hsm hS lN o2 O2 zero hN hW1
  cases Z with
  | false =>
    have hR : R = (0, 0, 1) := by rw [HR.out, if_neg (by simp)]
    obtain ⟨f0, f1, c0, c1, Q⟩ := HZ.out w1 HI.out.2
    have Q := Q (.int .i64 0) (.int .i64 0)
    clear HR HZ HI HAb HFs
    subst hR
    simp only [Bool.false_eq_true, if_false]
    go_wp2
    refine bodyPost_ret (results_eff rfl _ _ (N + 1) Q.out.1.1 Q.out.1.2 rfl) rfl ?_
    exact ⟨rfl, Q.out.2⟩
  | true =>
    simp only [if_true]
    have HC : Hid _ := HAb.out w1 HI.out.1
    clear HAb
    go_wp2_with fail
    refine (show Calls Tryz.prog 19 _ _ _ from HC.out).mono ?_
    clear HC
    rintro e w2 ⟨rfl, o3⟩
    have HI2 : Hid (Only (fun _ => False) w w2 ∧ Only (fun _ => False) W1 w2) := ⟨HI.out.1.trans o3 (fun _ _ e => e), HI.out.2.trans o3 (fun _ _ e => e)⟩
    clear o3 HI
    cases Y with
    | false =>
      have hR : R = (0, 0, 1) := by rw [HR.out, if_neg (by simp)]
      obtain ⟨f0, f1, c0, c1, Q⟩ := HZ.out w2 HI2.out.2
      have Q := Q (.int .i64 0) (.int .i64 0)
      clear HR HZ HI2 HFs
      subst hR
      go_wp2
      refine bodyPost_ret (results_eff rfl _ _ (N + 1) Q.out.1.1 Q.out.1.2 rfl) rfl ?_
      exact ⟨rfl, Q.out.2⟩
    | true =>
      have hR : R = ofR (whE (thrE (fun s => fsF s kl) 4097 l ⟨4096, [], 0⟩)) := by rw [HR.out]; simp
      have HC : Hid _ := HFs.out w2 rfl HI2.out.1
      have HR2 : Hid (R = ofR (whE (thrE (fun s => fsF s kl) 4097 l ⟨4096, [], 0⟩))) := hR
      clear HR HFs hR
      go_wp2_with fail
      refine (show Calls Tryz.prog 20 _ _ _ from HC.out).mono ?_
      clear HC
      rintro e w3 ⟨M, rfl, G⟩
      obtain ⟨gM, ⟨ob, gb, gw⟩, o4⟩ := G.out
      obtain ⟨W4, hW4⟩ : ∃ X, X = w3.alloc (.cells #[.map (some M), .int .i64 4096] 61) := ⟨_, rfl⟩
      obtain ⟨F, hF⟩ : ∃ F, F = w3.heap.size := ⟨_, rfl⟩
      have o5 : Only (fun _ => False) w3 W4 := by rw [hW4]; exact (Only.refl _ _).alloc _
      have bF : W4.heap[F]? = some (.cells #[.map (some M), .int .i64 4096] 61) := by rw [hW4]; exact ealloc_at _ _ _ hF
      have lM : M < w3.heap.size := (Array.getElem?_eq_some_iff.1 gb).1
      have lF : F < W4.heap.size := (Array.getElem?_eq_some_iff.1 bF).1
      obtain ⟨hN, hO, hb1, hb2, hq, hc, hsm, hS, lN⟩ := HH2.out
      have oW : Only (fun _ => False) w W4 := (HI2.out.1.trans o4 (fun _ _ e => e)).trans o5 (fun _ _ e => e)
      have oW1 : Only (fun _ => False) W1 W4 := (HI2.out.2.trans o4 (fun _ _ e => e)).trans o5 (fun _ _ e => e)
      have hz3 := (HI2.out.1.trans o4 (fun _ _ e => e)).size
      have hz4 := o5.size
      have hz1 := (HI2.out.2.trans o4 (fun _ _ e => e)).size
      have hB9 := oW1.at hb1
      rw [← HL.out] at hB9
      have HC : Hid _ := ecaught_any (S := S) (d := d) (fs_ok HY.out.symm) (w := W4) (F := F) (M := M) (B := N) (l := l) (ao := ao) (cap := cap) lF (by omega) (by omega) (fun b hb => ⟨by have := hS b hb; omega, by have := hS b hb; omega⟩) ⟨bF, ob, o5.at gb, gw⟩ (hq.only oW (fun _ _ e => e)) hc hsm (oW1.at hb1) _ rfl
      have HO : Hid (Only (fun _ => False) w W4 ∧ Only (fun _ => False) W1 W4 ∧ F ≠ N + 1 ∧ w.heap.size ≤ F) := ⟨oW, oW1, by omega, by omega⟩
      rw [← HR2.out] at HC
      rw [hW4, hF] at HC
      clear G gM gb gw o4 o5 bF lM lF hN hO hb1 hb2 hq hc hsm hS lN oW oW1 hz3 hz4 hz1 hB9
      have HF : Hid (W4 = w3.alloc (.cells #[.map (some M), .int .i64 4096] 61) ∧ F = w3.heap.size) := ⟨hW4, hF⟩
      clear hW4 hF
      go_wp2_with fail
      refine (show Calls Tryz.prog 21 _ _ _ from HC.out).mono ?_
      clear HC
      rintro e w5 ⟨rfl, o6⟩
      rw [← HF.out.1, ← HF.out.2] at o6
      have hb2 := HH2.out.2.2.2.1
      have b5 : w5.heap[N + 1]? = some (.cells #[.int .i64 0, .int .i64 0] 30) := (o6.block (N + 1) (Array.getElem?_eq_some_iff.1 (HO.out.2.1.at hb2)).1 (by have := HO.out.2.2.1; omega)).trans (HO.out.2.1.at hb2)
      obtain ⟨c0, c1, f0, f1⟩ := wr2_cell b5
      have Q := fset2 b5 (.int .i64 (R.1 : Int)) (.int .i64 (R.2.1 : Int))
      have HQ : Hid _ := Q
      have OO : Hid (Only (fun _ => False) w ((w5.setCell ⟨N + 1, 0, none⟩ (.int .i64 (R.1 : Int))).setCell ⟨N + 1, 1, none⟩ (.int .i64 (R.2.1 : Int)))) := by
        have hn := HH2.out.1
        exact ((HO.out.1.trans o6 (fun k hk e => by have := HO.out.2.2.2; omega)).setCell _ _ (fun g => by simp only at g; omega)).setCell _ _ (fun g => by simp only at g; omega)
      clear o6 hb2 b5 Q HF HO
      go_wp2
      refine bodyPost_ret (results_eff rfl _ _ (N + 1) HQ.out.1 HQ.out.2 rfl) rfl ?_
      exact ⟨rfl, OO.out⟩
end Go.Proofs.YtodbkihobgdpdaaGreatDoor
