/-        -/
import Derived.Test.YtbbeoobihdldcaaGreatDoorGag
import Derived.Test.YtbbeoobihdldcaaGreatDoorGac
import Derived.Test.YtbbeoobihdldcaaGreatDoorGaa
namespace Go.Proofs.YtbbeoobihdldcaaGreatDoor
open Go.RowKit Go.Lib
set_option linter.unusedSimpArgs false
set_option linter.unusedVariables false
theorem bx_of (d : Nat) (H1 : BxC d 101 false) (H2 : BxC d 127 true) : BxC (d + 1) 101 false := by
 intro t v w0 S h hok hsm w ao n cap ns o hw hb
 rcases h with ⟨h1, _, rfl⟩ | ⟨h1, _, rfl⟩ | ⟨h1, _, rfl⟩ | ⟨h1, _, rfl⟩ | ⟨h1, _, rfl⟩ | ⟨h1, la, lc, rfl, hc, hel⟩
 ·rw [show bxL (d + 1) false t = [] from by unfold bxL; rw [if_neg (by omega), if_neg (by omega), if_neg (by omega)], List.append_nil]
  exact (bx_int _ w ao n cap).mono fun e w' g => ⟨ao, n, cap, g.1, hw.only g.2 (fun _ _ _ g => g), o.trans g.2 (fun _ _ g => g)⟩
 ·rw [show bxL (d + 1) false t = [] from by unfold bxL; rw [if_neg (by omega), if_neg (by omega), if_neg (by omega)], List.append_nil]
  exact (bx_str _ w ao n cap).mono fun e w' g => ⟨ao, n, cap, g.1, hw.only g.2 (fun _ _ _ g => g), o.trans g.2 (fun _ _ g => g)⟩
 ·rw [show bxL (d + 1) false t = [] from by unfold bxL; rw [if_neg (by omega), if_neg (by omega), if_neg (by omega)], List.append_nil]
  exact (bx_bool _ w ao n cap).mono fun e w' g => ⟨ao, n, cap, g.1, hw.only g.2 (fun _ _ _ g => g), o.trans g.2 (fun _ _ g => g)⟩
 ·rw [show bxL (d + 1) false t = [t.n] from by unfold bxL; rw [if_pos h1]]
  exact bx_box t.n w0 w ao n cap ns o hw (by omega)
 ·exfalso
  unfold okV at hok
  rw [if_neg (by omega)] at hok
  unfold alB at hok
  rw [if_neg (by omega), if_neg (by omega), if_neg (by omega)] at hok
  simp at hok
  omega
 ·obtain ⟨e, hs⟩ := hsm
  have hlen := hs.len
  have hparts := hs.parts
  unfold okV at hok
  rw [if_pos h1, List.all_eq_true] at hok
  rcases h1 with h4 | h5
  ·have e5 : decide (t.k = 5) = false := decide_eq_false (by omega)
   rw [e5] at hel hok
   rw [show bxL (d + 1) false t = t.l.flatMap (bxL d false) from by unfold bxL; rw [if_neg (by omega), if_pos h4]] at hb ⊢
   rw [if_pos h4]
   exact bx_list d H1 t.l la lc w0 S hel hok hparts hlen w ao n cap ns o hw hb
  ·have e5 : decide (t.k = 5) = true := decide_eq_true h5
   rw [e5] at hel hok
   rw [show bxL (d + 1) false t = t.l.flatMap (bxL d true) from by unfold bxL; rw [if_neg (by omega), if_neg (by omega), if_pos h5]] at hb ⊢
   rw [if_neg (by omega)]
   exact bx_quot d H2 t.l la lc w0 S hel hok hparts hlen w ao n cap ns o hw hb
set_option maxRecDepth 100000 in
theorem bi_push (u : Value) (hu : u = .nilIface ∨ ∃ T y, u = .iface T y) (Q : List Int) (w0 w : World) (ao : Option Addr) (n cap : Nat) (HC0 : ∀ w1, Only (fun _ => False) w w1 → Calls Tryz.prog 101 #[.slice ao n cap, u] w1 fun e w' => ∃ ao' n' cap', e = .returned (.slice ao' n' cap') ∧ Hid (BnAt w' w0.heap.size (.slice ao' n' cap') Q ∧ Only (fun _ => False) w0 w')) :
  Calls Tryz.prog 127 #[.slice ao n cap, .iface 148 (.agg #[u])] w fun e w' => ∃ ao' n' cap', e = .returned (.slice ao' n' cap') ∧ Hid (BnAt w' w0.heap.size (.slice ao' n' cap') Q ∧ Only (fun _ => False) w0 w') := by
 have HC : Hid (∀ w1, Only (fun _ => False) w w1 → Calls Tryz.prog 101 #[.slice ao n cap, u] w1 fun e w' => ∃ ao' n' cap', e = .returned (.slice ao' n' cap') ∧ Hid (BnAt w' w0.heap.size (.slice ao' n' cap') Q ∧ Only (fun _ => False) w0 w')) := HC0
 have hPush := va_hit 148 86 _ Tryz.underlying148 (by intro m h; cases h)
 clear HC0
 rcases hu with rfl | ⟨T, y, rfl⟩
 all_goals
  go_enter Tryz.func127, Tryz.ntmps127
  go_wp2_with fail
  refine (show Calls Tryz.prog 101 _ _ _ from HC.out _ (by repeat' first | exact Only.refl _ _ | apply Only.alloc)).mono ?_
  rintro e w1 ⟨a1, n1, c1, rfl, G1⟩
  clear HC
  go_wp2
  go_ret
  exact ⟨a1, n1, c1, rfl, G1⟩
set_option maxRecDepth 100000 in
theorem bi_call (s : ByteArray) (w : World) (ao : Option Addr) (n cap : Nat) :
  Calls Tryz.prog 127 #[.slice ao n cap, .iface 146 (.agg #[.string s])] w fun e w' => e = .returned (.slice ao n cap) ∧ Only (fun _ => False) w w' := by
 have mPush := va_miss 146 148 86 _ Tryz.underlying148 (by intro m h; cases h) (by decide) _ vzero_Push
 have O : Hid (Only (fun _ => False) w w) := Only.refl _ _
 go_enter Tryz.func127, Tryz.ntmps127
 go_wp2
 go_ret
 exact ⟨rfl, by repeat' first | exact O.out | apply Only.alloc⟩
theorem bi_of (d : Nat) (H : BxC d 101 false) : BxC (d + 1) 127 true := by
 intro t v w0 S h hok hsm w ao n cap ns o hw hb
 rcases h with ⟨h1, _, rfl⟩ | ⟨h1, _, _⟩ | ⟨h7, h8, u, rfl, hu⟩
 ·rw [show bxL (d + 1) true t = [] from if_pos h1, List.append_nil]
  exact (bi_call _ w ao n cap).mono fun e w' g => ⟨ao, n, cap, g.1, hw.only g.2 (fun _ _ _ g => g), o.trans g.2 (fun _ _ g => g)⟩
 ·rw [show okV (d + 1) true t = false from (if_neg (by omega)).trans (if_pos h1)] at hok
  exact absurd hok (by decide)
 ·rw [show okV (d + 1) true t = okV d false t from (if_neg h7).trans (if_neg h8)] at hok
  rw [show bxL (d + 1) true t = bxL d false t from if_neg h7] at hb ⊢
  exact bi_push u hu.shape _ w0 w ao n cap (fun w1 o1 => H t _ w0 S hu hok hsm w1 ao n cap ns (o.trans o1 (fun _ _ g => g)) (hw.only o1 (fun _ _ _ g => g)) hb)
theorem bx_all : ∀ (D d : Nat), d < D → BxC d 101 false ∧ BxC d 127 true
 | 0, d, h => by omega
 | D + 1, d, h => by
   cases d with
   | zero => exact ⟨fun t v w0 S h => h.elim, fun t v w0 S h => h.elim⟩
   | succ d =>
     have ih := bx_all D d (by omega)
     exact ⟨bx_of d ih.1 ih.2, bi_of d ih.1⟩
theorem bflat_le {α β : Type} (f : α → List β) (g : α → Nat) (l : List α) (h : ∀ x ∈ l, (f x).length ≤ g x) : (l.flatMap f).length ≤ (l.map g).sum := by
 induction l with
 | nil => simp
 | cons x l ih =>
   simp only [List.flatMap_cons, List.length_append, List.map_cons, List.sum_cons]
   have h1 := h x (List.mem_cons_self ..)
   have h2 := ih (fun y hy => h y (List.mem_cons_of_mem _ hy))
   omega
theorem bx_sz : ∀ (d : Nat) (i : Bool) (t : Vt), (bxL d i t).length ≤ sz d i t
 | 0, _, _ => Nat.zero_le _
 | d + 1, true, t => by
   unfold bxL sz
   by_cases h7 : t.k = 7
   ·rw [if_pos h7, if_pos (.inl h7)]; exact Nat.zero_le _
   ·rw [if_neg h7]
    by_cases h8 : t.k = 8
    ·rw [if_pos (.inr h8)]
     cases d with
     | zero => exact Nat.zero_le _
     | succ d => unfold bxL; rw [if_neg (by omega), if_neg (by omega), if_neg (by omega)]; exact Nat.zero_le _
    ·rw [if_neg (by omega)]; exact bx_sz d false t
 | d + 1, false, t => by
   unfold bxL sz
   split
   ·simp
   split
   ·rename_i h6 h4
    rw [decide_eq_false (show ¬ t.k = 5 by omega)]
    have := bflat_le (bxL d false) (sz d false) t.l (fun x _ => bx_sz d false x)
    omega
   split
   ·rename_i h6 h4 h5
    rw [decide_eq_true h5]
    have := bflat_le (bxL d true) (sz d true) t.l (fun x _ => bx_sz d true x)
    omega
   ·simp
theorem sd_bx {d : Nat} {t : Vt} (h : sdB d t = true) : okV d false t = true ∧ (bxL d false t).length ≤ 1024 := by
 unfold sdB msB at h
 simp only [Bool.and_eq_true, decide_eq_true_eq] at h
 exact ⟨h.1.1, Nat.le_trans (bx_sz d false t) (by omega)⟩
def BoxIs (z : Int) (zs : List Int) (w : World) (e : Ending) (w' : World) : Prop :=
 ∃ Bs Pb sv, e = .returned (.tuple #[.func (.func 126) #[] #[.pointer (some ⟨Bs, 0, none⟩)], .int .i64 z]) ∧ w'.cell? ⟨Bs, 0, none⟩ = some sv ∧ IntsIn w' Pb sv zs ∧ (w.heap.size ≤ Bs ∧ Bs < w'.heap.size) ∧ (w.heap.size ≤ Pb ∧ Pb < w'.heap.size) ∧ Only (fun _ => False) w w'
theorem BnAt.ints {w : World} {B : Nat} {v : Value} {ns : List Int} (h : BnAt w B v ns) : (v = .slice none 0 0 ∧ ns = []) ∨ ∃ Pb, B ≤ Pb ∧ Pb < w.heap.size ∧ IntsIn w Pb v ns := by
 rcases h.2 with ⟨h1, h2⟩ | ⟨g, cap, cur, h1, hB, hg, rest⟩
 ·exact .inl ⟨h1, List.eq_nil_of_length_eq_zero h2⟩
 ·refine .inr ⟨g, hB, (Array.getElem?_eq_some_iff.1 hg).1, .inr ⟨0, cap, h1, fun j hj => ?_⟩⟩
  have h' : w.ownsRow B 3 1 v ns.length (ns.map (Value.int .i64)) := h
  have hc := h'.cells (g := g) (by rw [h1]; rfl) j (.int .i64 (ns.getD j 0)) (by simp [List.getD, hj])
  rw [addr_ad] at hc
  rw [Nat.zero_add]
  exact hc
set_option maxRecDepth 100000 in
theorem vboxes_any {d : Nat} {t : Vt} {v : Value} {w : World} {S : Nat → Prop} (h : TiAt w S d false t v) (hS : ∀ b, S b → b < w.heap.size) (hsm : ∃ e, SmT e t) (hT : Tb w) : Calls Tryz.prog 58 #[v] w fun e w' => BoxIs (if sdB d t then 0 else 1) (if sdB d t then bxL d false t else []) w e w' := by
 have HC : Hid _ := vcheck_any h hS hsm hT
 have HV : Hid (∀ a n c w, Calls Tryz.prog 100 #[.slice a n c] w fun e w' => e = .returned (.func (.func 126) #[] #[.pointer (some ⟨w.heap.size, 0, none⟩)]) ∧ w' = w.alloc (.cells #[.slice a n c] 103)) := fun a n c w => (callsIn_wide (n := 5)).1 (values_in 5 a n c w)
 cases hZ : sdB d t with
 | false =>
   rw [hZ] at HC
   have HP : Hid (∀ w1, Only (fun _ => False) w w1 → BoxIs 1 [] w (.returned (.tuple #[.func (.func 126) #[] #[.pointer (some ⟨w1.heap.size, 0, none⟩)], .int .i64 1])) (w1.alloc (.cells #[.slice none 0 0] 103))) := fun w1 o => ⟨w1.heap.size, w1.heap.size, .slice none 0 0, rfl, (vblk_cells (valloc_at _ _ _ rfl) 0).trans rfl, .inl ⟨rfl, rfl⟩, ⟨o.size, by simp⟩, ⟨o.size, by simp⟩, o.alloc _⟩
   clear h hS hsm hT hZ
   go_enter Tryz.func58, Tryz.ntmps58
   go_wp2_with fail
   refine (show Calls Tryz.prog 99 _ _ _ from HC.out).mono ?_
   rintro e w1 ⟨rfl, o1⟩
   have O1 : Hid (Only (fun _ => False) w w1) := o1
   clear HC o1
   go_wp2_with fail
   refine (show Calls Tryz.prog 100 _ _ _ from HV.out _ _ _ _).mono ?_
   rintro e w2 ⟨rfl, rfl⟩
   clear HV
   go_wp2
   go_ret2
   exact HP.out _ O1.out
 | true =>
   rw [hZ] at HC
   obtain ⟨hok, hle⟩ := sd_bx hZ
   have HB : Hid (∀ w1, Only (fun _ => False) w w1 → Calls Tryz.prog 101 #[.slice none 0 0, v] w1 fun e w' => ∃ ao' n' cap', e = .returned (.slice ao' n' cap') ∧ Hid (BnAt w' w1.heap.size (.slice ao' n' cap') (bxL d false t) ∧ Only (fun _ => False) w1 w')) := fun w1 o1 => by
    have := (bx_all (d + 1) d (by omega)).1 t v w1 S (h.only o1 (fun _ _ g => g)) hok hsm w1 none 0 0 [] (Only.refl _ _) (bn_nil _ _) (by simp; omega)
    rwa [List.nil_append] at this
   have HP : Hid (∀ w1 w2 ao' n' cap', Only (fun _ => False) w w1 → BnAt w2 w1.heap.size (.slice ao' n' cap') (bxL d false t) → Only (fun _ => False) w1 w2 → BoxIs 0 (bxL d false t) w (.returned (.tuple #[.func (.func 126) #[] #[.pointer (some ⟨w2.heap.size, 0, none⟩)], .int .i64 0])) (w2.alloc (.cells #[.slice ao' n' cap'] 103))) := fun w1 w2 ao' n' cap' o1 hb o2 => by
    have o3 : Only (fun _ => False) w2 (w2.alloc (.cells #[.slice ao' n' cap'] 103)) := (Only.refl _ _).alloc _
    have hc : (w2.alloc (.cells #[.slice ao' n' cap'] 103)).cell? ⟨w2.heap.size, 0, none⟩ = some (.slice ao' n' cap') := (vblk_cells (valloc_at _ _ _ rfl) 0).trans rfl
    have l1 := o1.size
    have l2 := o2.size
    rcases (hb.only o3 (fun _ _ _ g => g)).ints with ⟨h1, h2⟩ | ⟨Pb, p1, p2, p3⟩
    ·exact ⟨_, w2.heap.size, _, rfl, hc, .inl ⟨h1, h2⟩, ⟨by omega, by simp⟩, ⟨by omega, by simp⟩, (o1.trans o2 (fun _ _ g => g)).alloc _⟩
    ·exact ⟨_, Pb, _, rfl, hc, p3, ⟨by omega, by simp⟩, ⟨by omega, p2⟩, (o1.trans o2 (fun _ _ g => g)).alloc _⟩
   clear h hS hsm hT hZ hok hle
   go_enter Tryz.func58, Tryz.ntmps58
   go_wp2_with fail
   refine (show Calls Tryz.prog 99 _ _ _ from HC.out).mono ?_
   rintro e w1 ⟨rfl, o1⟩
   have O1 : Hid (Only (fun _ => False) w w1) := o1
   clear HC o1
   go_wp2_with fail
   refine (show Calls Tryz.prog 101 _ _ _ from HB.out _ O1.out).mono ?_
   rintro e w2 ⟨a2, n2, c2, rfl, G2⟩
   clear HB
   go_wp2_with fail
   refine (show Calls Tryz.prog 100 _ _ _ from HV.out _ _ _ _).mono ?_
   rintro e w3 ⟨rfl, rfl⟩
   clear HV
   go_wp2
   go_ret2
   exact HP.out _ _ _ _ _ O1.out G2.out.1 G2.out.2
end Go.Proofs.YtbbeoobihdldcaaGreatDoor
namespace Go.Proofs.YtbbeoobihdldcaaGreatDoor
open Go.RowKit
set_option linter.unusedSimpArgs false
set_option linter.unusedVariables false
theorem IntsIn.nil {w W : World} {Pb : Nat} {sv : Value} (h : IntsIn w Pb sv []) : IntsIn W Pb sv [] := by
 rcases h with h | ⟨off, cap, h, _⟩
 ·exact .inl h
 ·exact .inr ⟨off, cap, h, fun j hj => by simp at hj⟩
theorem vals_stops0 (m Bs Pb : Nat) (sv : Value) (w : World) (hBs : w.cell? ⟨Bs, 0, none⟩ = some sv) (hi : IntsIn w Pb sv []) :
  SeqStopsK Fence.wide m Tryz.prog 126 #[.pointer (some ⟨Bs, 0, none⟩)] intEnc (fun _ _ => True) (fun ys : List Int => ys = []) (fun _ => True) 0 w := fun lo J Jx W hW _ _ hY h0 => by
 have hBl := World.block_lt_of_cell? w _ hBs
 have hBs' : W.cell? ⟨Bs, 0, none⟩ = some sv := (hW.cell (p := ⟨Bs, 0, none⟩) hBl).trans hBs
 rcases hi with ⟨rfl, _⟩ | ⟨off, cap, rfl, hc⟩
 ·exact (values_none m lo Bs (J []) W hBs' h0).mono fun e W' ⟨he, hj⟩ => ⟨he, .inl ⟨_, rfl, hj⟩⟩
 ·refine (values_core m lo Bs Pb off cap [] (by simp [maxLen]) J Jx (fun k W1 hk hJ => by simp at hk) W hBs' (fun j hj => by simp at hj) h0).mono ?_
  rintro e W' ⟨he, hj | ⟨k, _, hj⟩⟩
  ·exact ⟨he, .inl ⟨_, rfl, hj⟩⟩
  ·exact ⟨he, .inr ⟨_, trivial, hj⟩⟩
theorem fnnV (b : Nat) (w : World) : (binOp .eql 106 (.func (.func 126) #[] #[.pointer (some ⟨b, 0, none⟩)]) .nilFunc).run Tryz.prog w = .ok (.bool false) w := by kernel_rfl
set_option maxRecDepth 100000 in
set_option maxHeartbeats 2000000 in
theorem appvals_none (Bs Pb : Nat) (sv : Value) (w : World) (hBs : w.cell? ⟨Bs, 0, none⟩ = some sv) (hi : IntsIn w Pb sv []) (hP : Pb < w.heap.size) :
  CallsIn Fence.wide 6 Tryz.prog 59 #[.slice none 0 0, .func (.func 126) #[] #[.pointer (some ⟨Bs, 0, none⟩)]] w fun e w' => e = .returned (.slice none 0 0) ∧ Only (fun _ => False) w w' := by
 refine callsIn_of_wp_marks Tryz.func59 rfl trivial ?_ rfl
 simp only [Tryz.ntmps59, List.size_toArray, List.length_cons, List.length_nil, Nat.reduceAdd, Nat.reduceSub, Array.replicate_succ, Array.replicate_zero, List.push_toArray, List.append_toArray, List.nil_append, List.cons_append]
 have hnn := fnnV Bs
 gi_wp2
 clear hnn
 obtain ⟨wl, hwl⟩ : ∃ x, x = w.alloc (.cells #[.slice none 0 0] 103) := ⟨_, rfl⟩
 have ol : Only (fun _ => False) w wl := by rw [hwl]; exact (Only.refl _ w).alloc _
 have sl : wl.heap.size = w.heap.size + 1 := by rw [hwl]; simp
 have bl : wl.heap[w.heap.size]? = some (.cells #[.slice none 0 0] 103) := by rw [hwl]; exact alloc_at _ _ _ rfl
 rw [← hwl]
 clear hwl
 refine wpIn_rangeFunc_ownG (w := wl) rfl (by omega) (gf := 126) (lb := #[.pointer (some ⟨Bs, 0, none⟩)]) rfl trivial (enters_of Tryz.func126 (by kernel_rfl) rfl)
  (vals_stops0 5 Bs Pb sv wl (ol.cell hBs (fun g => g)) hi.nil) (fun _ _ => trivial) (fun _ _ _ _ _ _ _ _ => trivial) (Below.refl _ _) (fun _ => rfl)
  (fun pre W => Below wl.heap.size wl W)
  (fun _ _ _ => False)
  (ownFrom_below (Nat.le_refl _) (Nat.le_refl _))
  (fun _ _ _ _ _ hs _ _ => hs)
  (Below.refl _ _)
  (fun x => { tmps := #[.slice none 0 0, .func (.func 126) #[] #[.pointer (some ⟨Bs, 0, none⟩)], .pointer (some ⟨w.heap.size, 0, none⟩), undef, .slice none 0 0, .int .i64 x, .func (.func 126) #[] #[.pointer (some ⟨Bs, 0, none⟩)], .int .i64 x, undef, undef, undef, undef, undef], defers := [] }) ?assign ?body ?done ?stop
 case assign =>
  intro l0 x W K hK
  simp only [intEnc, List.zip_toArray, List.zip_cons_cons, List.zip_nil_right, List.foldl_toArray, List.foldl_cons, List.foldl_nil, List.setIfInBounds_toArray, List.set_cons_zero, List.set_cons_succ]
  gi_wp2
  exact hK
 case body =>
  rintro l0 pre x W _ hlt
  omega
 case done =>
  rintro D ys W hD rfl hB hK
  have hc : W.cell? ⟨w.heap.size, 0, none⟩ = some (.slice none 0 0) := hb_cell ((hB.block _ (by omega)).trans bl) 0
  gi_wp2
  refine ⟨by simp, .inl ⟨_, _, rfl, run_takeDeferred hK, ?_⟩⟩
  obtain ⟨WG, hWG⟩ : ∃ x, x = W.putObj D (.deferred none) := ⟨_, rfl⟩
  have oG : Only (fun k => k = D) W WG := by
   rw [hWG]
   exact (Only.refl _ W).grown (grownBy_putObj' W D _) (fun k e _ => by injection e with e; exact e.symm)
  rw [← hWG]
  refine ⟨_, results_tmp (t := 4) rfl _ _ _, rfl, ?_⟩
  have oB : Only (fun k => wl.heap.size ≤ k) wl W := ⟨hB.os, hB.tape, hB.output, hB.size, fun k hk _ => hB.block k hk⟩
  exact (ol.trans oB (fun i hi e => by omega)).trans oG (fun i hi e => by omega)
 case stop =>
  rintro D c pre W _ _ h _
  exact h.elim
def v5 : Value := .iface 36 (.agg #[.int .i64 5])
def t5 : Vt := ⟨1, 5, ⟨#[]⟩, []⟩
theorem boxes5 (w : World) (hT : Tb w) : Calls Tryz.prog 58 #[v5] w fun e w' => BoxIs 0 [] w e w' := by
 have h := vboxes_any (d := 1) (t := t5) (v := v5) (S := fun _ => False) (w := w) (.inl ⟨rfl, rfl, rfl⟩) (fun _ g => g.elim) ⟨1, Nat.zero_le _, Nat.zero_le _, ⟨by decide, by decide⟩, ⟨by decide, by decide⟩, fun x hx => by cases hx⟩ hT
 have e1 : sdB 1 t5 = true := by decide
 have e2 : bxL 1 false t5 = [] := by decide
 rw [e1, e2] at h
 exact h
end Go.Proofs.YtbbeoobihdldcaaGreatDoor
namespace Go.Proofs.YtbbeoobihdldcaaGreatDoor
open Go.RowKit
set_option linter.unusedSimpArgs false
set_option linter.unusedVariables false
theorem mnone_any (M h : Nat) (n : Int) (w : World) (g : MmAt w M h n) : Calls Tryz.prog 19 #[.pointer (some ⟨M, 0, none⟩)] w fun e w' => e = .returned (.bool false) ∧ w' = w := by
 obtain ⟨c0, _, _⟩ := g.cells
 clear g
 go_enter Tryz.func19, Tryz.ntmps19
 go_wp2
 go_ret
 exact ⟨rfl, rfl⟩
theorem depth_any (M h m : Nat) (n cap : Int) (yv rv : Value) (y r : List (Bool × Nat)) (w : World) (g : MmAt w M h n) (hE : Hs w h m cap yv rv y r) : Calls Tryz.prog 15 #[.pointer (some ⟨M, 0, none⟩)] w fun e w' => e = .returned (.int .i64 (r.length : Int)) ∧ w' = w := by
 obtain ⟨c0, _, _⟩ := g.cells
 obtain ⟨_, a, c, hrv⟩ := hE.sl
 have HN := mnone_any M h n w g
 have HR := roots_any h a r.length c w (hrv ▸ hE.cells.2.2.2.2)
 clear g hE hrv
 go_enter Tryz.func15, Tryz.ntmps15
 go_wp2_with (first
  | (go_at_call 19; refine HN.mono ?_; rintro e w1 ⟨rfl, hq⟩; rw [hq]; clear hq)
  | (go_at_call 35; refine HR.mono ?_; rintro e w1 ⟨rfl, hq⟩; rw [hq]; clear hq))
 go_ret
 exact ⟨rfl, rfl⟩
theorem FnAt.cells {w : World} {F h m1 m2 m3 : Nat} (g : FnAt w F h m1 m2 m3) : w.cell? ⟨F, 0, none⟩ = some (.pointer (some ⟨h, 0, none⟩)) ∧ w.cell? ⟨F, 1, none⟩ = some (.slice none 0 0) ∧ w.cell? ⟨F, 2, none⟩ = some (.map (some m1)) ∧ w.frozen? ⟨F, 1, none⟩ = false :=
 ⟨hb_cell g.hb 0, hb_cell g.hb 1, hb_cell g.hb 2, hb_froz g.hb 1⟩
theorem FnAt.only {w w' : World} {F h m1 m2 m3 : Nat} (g : FnAt w F h m1 m2 m3) (o : Only (fun _ => False) w w') : FnAt w' F h m1 m2 m3 := g.keep o (fun g => g) (fun g => g) (fun g => g) (fun g => g)
theorem onstack0 (F h m1 m2 m3 : Nat) (w : World) (g : FnAt w F h m1 m2 m3) : Calls Tryz.prog 60 #[.pointer (some ⟨F, 0, none⟩)] w fun e w' => e = .returned (.bool true) ∧ w' = w := by
 obtain ⟨c0, c1, c2, _⟩ := g.cells
 clear g
 go_enter Tryz.func60, Tryz.ntmps60
 go_wp2
 go_ret
 exact ⟨rfl, rfl⟩
theorem FnAt.same {w : World} {F h m1 m2 m3 : Nat} (g : FnAt w F h m1 m2 m3) : FnAt (w.setCell ⟨F, 1, none⟩ (.slice none 0 0)) F h m1 m2 m3 := by
 obtain ⟨k1, e1⟩ := g.b1
 obtain ⟨k2, e2⟩ := g.b2
 obtain ⟨k3, e3⟩ := g.b3
 have ne : ∀ {m k}, w.heap[m]? = some (.map #[] k) → m ≠ F := fun e q => by
  have := g.hb
  rw [← q, e] at this
  simp at this
 exact ⟨set_blk g.hb 1 _, ⟨k1, (Below.heap_setCell _ _ _ _ (ne e1)).trans e1⟩, ⟨k2, (Below.heap_setCell _ _ _ _ (ne e2)).trans e2⟩, ⟨k3, (Below.heap_setCell _ _ _ _ (ne e3)).trans e3⟩, g.n1⟩
set_option maxRecDepth 100000 in
set_option maxHeartbeats 8000000 in
theorem find5 (M h L : Nat) (n : Int) (w : World) (g : MmAt w M h n) (hL : w.cell? ⟨L, 0, none⟩ = some v5) (hT : Tb w) : Calls Tryz.prog 26 #[.pointer (some ⟨M, 0, none⟩), .slice (some ⟨L, 0, none⟩) 1 1] w fun e w' => ∃ F m1 m2 m3, e = .returned (.tuple #[.pointer (some ⟨F, 0, none⟩), .int .i64 0]) ∧ Hid (FnAt w' F h m1 m2 m3 ∧ w.heap.size ≤ F ∧ w.heap.size ≤ m1 ∧ w.heap.size ≤ m2 ∧ w.heap.size ≤ m3 ∧ Only (fun _ => False) w w') := by
 obtain ⟨c0, _, _⟩ := g.cells
 have HN : Hid _ := newfinder_any h w
 have HC : Hid (∀ W, Only (fun _ => False) w W → W.cell? ⟨L, 0, none⟩ = some v5 ∧ Calls Tryz.prog 58 #[v5] W fun e w' => BoxIs 0 [] W e w') := fun W o => ⟨o.cell hL (fun g => g), boxes5 W (hT.frame o)⟩
 clear g hL hT
 go_enter Tryz.func26, Tryz.ntmps26
 go_wp2_with (go_at_call 52; refine (show Calls Tryz.prog 52 _ _ _ from HN.out).mono ?_; rintro e w1 ⟨F, m1, m2, m3, rfl, H1⟩)
 go_loopw [18] (fun r wr => ∃ i : Nat, r = .int .i64 (i : Int) ∧ i ≤ 1 ∧ Hid (FnAt wr F h m1 m2 m3 ∧ Only (fun _ => False) w wr)) (fun r _ => 1 - uOH r)
 case atStart => exact ⟨0, rfl, by omega, H1.out.1, H1.out.2.2.2.2.2⟩
 case round =>
  obtain ⟨i, rfl, hi, HI⟩ := hrel
  obtain ⟨w2, rfl⟩ : ∃ w2, w2 = wr := ⟨_, rfl⟩
  by_cases h0 : i = 0
  ·subst h0
   obtain ⟨k0, hB⟩ := HC.out w2 HI.out.2
   have HB : Hid (Calls Tryz.prog 58 #[v5] w2 fun e w' => BoxIs 0 [] w2 e w') := hB
   clear hB c0
   go_wp2_with (first
    | (go_at_call 58; refine (show Calls Tryz.prog 58 _ _ _ from HB.out).mono ?_; rintro e w3 ⟨Bs, Pb, sv, rfl, hs, hi3, hBs, hPb, o3⟩; have G3 : Hid (FnAt w3 F h m1 m2 m3 ∧ Only (fun _ => False) w w3) := ⟨HI.out.1.only o3, HI.out.2.trans o3 (fun _ _ g => g)⟩; have HA : Hid _ := (callsIn_wide (n := 6)).1 (appvals_none Bs Pb sv w3 hs hi3 hPb.2); have c1 := G3.out.1.cells.2.1; clear hs hi3 hBs hPb o3)
    | (go_at_call 59; refine (show Calls Tryz.prog 59 _ _ _ from HA.out).mono ?_; rintro e w4 ⟨rfl, o4⟩; have G4 : Hid (FnAt w4 F h m1 m2 m3 ∧ Only (fun _ => False) w w4) := ⟨G3.out.1.only o4, G3.out.2.trans o4 (fun _ _ g => g)⟩; have d1 := G4.out.1.cells.2.1; have f1 := G4.out.1.cells.2.2.2; clear o4))
   go_roundw
   case rel =>
    have hF := H1.out.2.1
    exact ⟨1, by go_num, by omega, G4.out.1.same, G4.out.2.setCell _ _ (fun q => by simp only at q; omega)⟩
   case measure => simp only [uOH]; omega
  ·obtain rfl : i = 1 := by omega
   have HS : Hid _ := onstack0 F h m1 m2 m3 w2 HI.out.1
   go_wp2_with (go_at_call 60; refine (show Calls Tryz.prog 60 _ _ _ from HS.out).mono ?_; rintro e w3 ⟨rfl, hq⟩; rw [hq]; clear hq)
   go_ret2
   exact ⟨F, m1, m2, m3, rfl, HI.out.1, H1.out.2.1, H1.out.2.2.1, H1.out.2.2.2.1, H1.out.2.2.2.2.1, HI.out.2⟩
end Go.Proofs.YtbbeoobihdldcaaGreatDoor
namespace Go.Proofs.YtbbeoobihdldcaaGreatDoor
open Go.RowKit
set_option linter.unusedSimpArgs false
set_option linter.unusedVariables false
theorem PuP.trans {w w1 w2 : World} {h m : Nat} {cap : Int} {yv rv rv1 : Value} {y r2 : List (Bool × Nat)} (hat : ∀ k, rv1.ownBlock = some k → rv.ownBlock = some k ∨ w.heap.size ≤ k) (o : Only (fun k => k = h ∨ rv.ownBlock = some k) w w1) (p : PuP w1 w2 h m cap yv rv1 y r2) : PuP w w2 h m cap yv rv y r2 := by
 obtain ⟨rv2, h2, hat2, o2⟩ := p
 have s := o.size
 refine ⟨rv2, h2, fun k hk => ?_, o.trans o2 (fun k hk q => ?_)⟩
 ·rcases hat2 k hk with e | e
  ·exact hat k e
  ·exact .inr (by omega)
 ·rcases q with q | q
  ·exact .inl q
  ·rcases hat k q with e | e
   ·exact .inr e
   ·omega
theorem open0 (F h m1 m2 m3 : Nat) (w : World) (g : FnAt w F h m1 m2 m3) : Calls Tryz.prog 56 #[.pointer (some ⟨F, 0, none⟩)] w fun e w' => e = .returned (.map (some m1)) ∧ w' = w := by
 obtain ⟨c0, c1, c2, _⟩ := g.cells
 clear g
 go_enter Tryz.func56, Tryz.ntmps56
 go_wp2
 go_loopw [12] (fun r wr => r = .int .i64 0 ∧ wr = w) (fun _ _ => 0)
 case atStart => exact ⟨rfl, rfl⟩
 case round =>
  obtain ⟨rfl, rfl⟩ := hrel
  go_wp2
  go_ret
  exact ⟨rfl, rfl⟩
set_option maxRecDepth 100000 in
set_option maxHeartbeats 8000000 in
theorem lv5 (h m : Nat) (cap : Int) (yv rv fv : Value) (y r : List (Bool × Nat)) (w : World) (hE : Hs w h m cap yv rv y r) (hr : r.length < 65536) (hf : fv.oneCell' = true) :
  Calls Tryz.prog 103 #[.agg #[.pointer (some ⟨h, 0, none⟩), fv], v5] w fun e w' => e = .returned (.int .i64 0) ∧ PuP w w' h m cap yv rv y (r ++ [(false, 20)]) := by
 have hI := va_hit 36 24 _ Tryz.underlying36 (by intro m h; cases h)
 have HX := fix5
 have HN : Hid (∀ W, Only (fun _ => False) w W → Calls Tryz.prog 66 #[.pointer (some ⟨h, 0, none⟩), .int .u64 20] W fun e w' => e = .returned (.int .i64 0) ∧ PuP w w' h m cap yv rv y (r ++ [(false, 20)])) := fun W o => (num_any h m cap yv rv y r 20 W (hE.only o) hr).mono (by rintro e w' ⟨rfl, p⟩; exact ⟨rfl, p.after o⟩)
 clear hE hr
 unfold v5
 go_enter Tryz.func103, Tryz.ntmps103
 go_wp2_with (first
  | (go_at_call 128; refine (HX _).mono ?_; rintro e w1 ⟨rfl, hq⟩; rw [hq]; clear hq)
  | (go_at_call 66; refine (show Calls Tryz.prog 66 _ _ _ from HN.out _ (by repeat' first | exact Only.refl _ _ | apply Only.alloc | apply Only.drew)).mono ?_; rintro e w2 ⟨rfl, p⟩; have HP : Hid (PuP w w2 h m cap yv rv y (r ++ [(false, 20)])) := p; clear p))
 go_ret
 exact ⟨rfl, HP.out⟩
set_option maxRecDepth 100000 in
set_option maxHeartbeats 8000000 in
theorem lvals5 (h m L : Nat) (cap : Int) (yv rv fv : Value) (y r : List (Bool × Nat)) (w : World) (hE : Hs w h m cap yv rv y r) (hr : r.length < 65536) (hf : fv.oneCell' = true) (hL : w.cell? ⟨L, 0, none⟩ = some v5) :
  Calls Tryz.prog 63 #[.agg #[.pointer (some ⟨h, 0, none⟩), fv], .slice (some ⟨L, 0, none⟩) 1 1] w fun e w' => e = .returned (.int .i64 0) ∧ PuP w w' h m cap yv rv y (r ++ [(false, 20)]) := by
 obtain ⟨W, hW⟩ : ∃ W, W = w.alloc (.cells #[.pointer (some ⟨h, 0, none⟩), fv] 57) := ⟨_, rfl⟩
 obtain ⟨N, hN⟩ : ∃ N, N = w.heap.size := ⟨_, rfl⟩
 have oW : Only (fun _ => False) w W := by rw [hW]; exact (Only.refl _ w).alloc _
 have bW : W.heap[N]? = some (.cells #[.pointer (some ⟨h, 0, none⟩), fv] 57) := by rw [hW]; exact alloc_at _ _ _ hN
 have n0 : W.cell? ⟨N, 0, none⟩ = some (.pointer (some ⟨h, 0, none⟩)) := hb_cell bW 0
 have n1 : W.cell? ⟨N, 1, none⟩ = some fv := hb_cell bW 1
 have l0 := oW.cell hL (fun g => g)
 have HV : Hid (Calls Tryz.prog 103 #[.agg #[.pointer (some ⟨h, 0, none⟩), fv], v5] W fun e w' => e = .returned (.int .i64 0) ∧ PuP w w' h m cap yv rv y (r ++ [(false, 20)])) := (lv5 h m cap yv rv fv y r W (hE.only oW) hr hf).mono (by rintro e w' ⟨rfl, p⟩; exact ⟨rfl, p.after oW⟩)
 clear hE hr hL oW bW
 go_enter Tryz.func63, Tryz.ntmps63
 go_wp2
 rw [← hW, ← hN]
 clear hW hN
 go_loopw [10] (fun r10 wr => ∃ i : Nat, r10 = .int .i64 (i : Int) ∧ ((i = 0 ∧ wr = W) ∨ (i = 1 ∧ Hid (PuP w wr h m cap yv rv y (r ++ [(false, 20)]))))) (fun r _ => 1 - uOH r)
 case atStart => exact ⟨0, rfl, .inl ⟨rfl, rfl⟩⟩
 case round =>
  obtain ⟨i, rfl, ⟨rfl, rfl⟩ | ⟨rfl, HP⟩⟩ := hrel
  ·go_wp2_with (go_at_call 103; refine (show Calls Tryz.prog 103 _ _ _ from HV.out).mono ?_; rintro e w2 ⟨rfl, p⟩; have HP : Hid (PuP w w2 h m cap yv rv y (r ++ [(false, 20)])) := p; clear p)
   go_roundw
   case rel => exact ⟨1, by go_num, .inr ⟨rfl, HP⟩⟩
   case measure => simp only [uOH]; omega
  ·go_wp2
   go_ret
   exact ⟨rfl, HP.out⟩
end Go.Proofs.YtbbeoobihdldcaaGreatDoor
namespace Go.Proofs.YtbbeoobihdldcaaGreatDoor
open Go.RowKit
set_option linter.unusedSimpArgs false
set_option linter.unusedVariables false
set_option maxRecDepth 100000 in
set_option maxHeartbeats 8000000 in
theorem exch5 (M h m F m1 m2 m3 L : Nat) (n cap : Int) (yv rv : Value) (y : List (Bool × Nat)) (w : World) (g : MmAt w M h n) (hE : Hs w h m cap yv rv y []) (hF : FnAt w F h m1 m2 m3) (hL : w.cell? ⟨L, 0, none⟩ = some v5) :
  Calls Tryz.prog 27 #[.pointer (some ⟨M, 0, none⟩), .int .i64 0, .slice (some ⟨L, 0, none⟩) 1 1, .pointer (some ⟨F, 0, none⟩)] w fun e w' => e = .returned (.int .i64 0) ∧ PuP w w' h m cap yv rv y [(false, 20)] := by
 obtain ⟨W, hW⟩ : ∃ W, W = w.alloc (.cells #[.pointer (some ⟨M, 0, none⟩)] 22) := ⟨_, rfl⟩
 obtain ⟨N, hN⟩ : ∃ N, N = w.heap.size := ⟨_, rfl⟩
 have oW : Only (fun _ => False) w W := by rw [hW]; exact (Only.refl _ w).alloc _
 have bW : W.heap[N]? = some (.cells #[.pointer (some ⟨M, 0, none⟩)] 22) := by rw [hW]; exact alloc_at _ _ _ hN
 have lN : N < W.heap.size := (Array.getElem?_eq_some_iff.1 bW).1
 have n0 : W.cell? ⟨N, 0, none⟩ = some (.pointer (some ⟨M, 0, none⟩)) := hb_cell bW 0
 have gW := g.keep oW (fun g => g)
 have eW := hE.only oW
 have hD : Hid _ := depth_any M h m n cap yv rv y [] W gW eW
 have hO : Hid _ := open0 F h m1 m2 m3 W (hF.only oW)
 obtain ⟨W2, hW2⟩ : ∃ W2, W2 = W.alloc (.cells #[.map (some m1)] 108) := ⟨_, rfl⟩
 obtain ⟨P, hP⟩ : ∃ P, P = W.heap.size := ⟨_, rfl⟩
 have o2 : Only (fun _ => False) W W2 := by rw [hW2]; exact (Only.refl _ W).alloc _
 have n2 : W2.cell? ⟨N, 0, none⟩ = some (.pointer (some ⟨M, 0, none⟩)) := o2.cell n0 (fun g => g)
 have k2 : W2.cell? ⟨M, 0, none⟩ = some (.pointer (some ⟨h, 0, none⟩)) := (gW.keep o2 (fun g => g)).cells.1
 have n2A : ∀ x, (W.alloc x).cell? ⟨N, 0, none⟩ = some (.pointer (some ⟨M, 0, none⟩)) := fun x => ((Only.refl (fun _ => False) W).alloc x).cell n0 (fun g => g)
 have k2A : ∀ x, (W.alloc x).cell? ⟨M, 0, none⟩ = some (.pointer (some ⟨h, 0, none⟩)) := fun x => (gW.keep ((Only.refl (fun _ => False) W).alloc x) (fun g => g)).cells.1
 obtain ⟨_, a0, q0, hrv⟩ := hE.sl
 have hR : Hid _ := roots_any h a0 0 q0 W2 (by have := (eW.only o2).cells.2.2.2.2; rw [hrv] at this; exact this)
 have HV : Hid (∀ W3, Only (fun _ => False) W2 W3 → Calls Tryz.prog 63 #[.agg #[.pointer (some ⟨h, 0, none⟩), .func (.func 62) #[] #[.pointer (some ⟨N, 0, none⟩), .pointer (some ⟨P, 0, none⟩)]], .slice (some ⟨L, 0, none⟩) 1 1] W3 fun e w' => e = .returned (.int .i64 0) ∧ ∃ rv1, Hid (Hs w' h m cap yv rv1 y [(false, 20)] ∧ (∀ k, rv1.ownBlock = some k → rv.ownBlock = some k ∨ w.heap.size ≤ k) ∧ Only (fun k => k = h ∨ rv.ownBlock = some k) w w') ∧ w'.cell? ⟨N, 0, none⟩ = some (.pointer (some ⟨M, 0, none⟩)) ∧ w'.cell? ⟨M, 0, none⟩ = some (.pointer (some ⟨h, 0, none⟩))) := fun W3 o3 => by
  have oo : Only (fun _ => False) w W3 := (oW.trans o2 (fun _ _ g => g)).trans o3 (fun _ _ g => g)
  refine (lvals5 h m L cap yv rv _ y [] W3 (hE.only oo) (by simp) rfl (oo.cell hL (fun g => g))).mono ?_
  rintro e w' ⟨rfl, p⟩
  obtain ⟨rv1, h1, h2, h3⟩ := p
  have e3 := hE.only oo
  have g3 := g.keep oo (fun g => g)
  have nM := g3.ne e3
  have s1 := oo.size
  have lh := hE.lt.1
  refine ⟨rfl, rv1, ⟨h1, fun k hk => ?_, (oo.mono (bs' := fun k => k = h ∨ rv.ownBlock = some k) (fun _ _ g => g.elim)).trans h3 (fun _ _ g => g)⟩, ?_, ?_⟩
  ·rcases h2 k hk with e | e
   ·exact .inl e
   ·exact .inr (by omega)
  ·refine h3.cell (o3.cell n2 (fun g => g)) (fun q => ?_)
   rcases q with q | q
   ·simp only at q; omega
   ·have := own_lt hE.rr q
    simp only at this; omega
  ·refine h3.cell g3.cells.1 (fun q => ?_)
   rcases q with q | q
   ·exact nM.1 q
   ·exact nM.2.2 q
 have HB : Hid (N = w.heap.size) := hN
 clear g hE hF hL oW bW lN gW eW hrv
 have w00 : IntKind.i64.wrap 0 = 0 := by decide
 have hst : ∀ (a : Addr) (f : Fn) (b : Array Value) (W : World), (store a (.func f #[] b)).run Tryz.prog W = stored Tryz.prog W a (.func f #[] b) .plain := fun a f b W => run_store Tryz.prog W a _ _ rfl
 go_enter Tryz.func27, Tryz.ntmps27
 go_wp2_with fail
 rw [← hW, ← hN]
 clear hW hN
 refine (show Calls Tryz.prog 15 _ _ _ from hD.out).mono ?_
 rintro e w1 ⟨rfl, hq⟩
 rw [hq]
 clear hq hD w1
 go_wp2_with fail
 refine (show Calls Tryz.prog 56 _ _ _ from hO.out).mono ?_
 rintro e w1 ⟨rfl, hq⟩
 rw [hq]
 clear hq hO w1
 go_wp2_with fail
 rw [← hW2, ← hP]
 clear hW2 hP
 refine (show Calls Tryz.prog 35 _ _ _ from hR.out).mono ?_
 rintro e w1 ⟨rfl, hq⟩
 rw [hq]
 clear hq hR w1
 go_wp2_with fail
 refine (show Calls Tryz.prog 63 _ _ _ from HV.out _ (by repeat' first | exact Only.refl _ _ | apply Only.alloc | apply Only.drew)).mono ?_
 rintro e w4 ⟨rfl, rv1, H4, x0, x1⟩
 have HSl : Hid (Calls Tryz.prog 18 #[.pointer (some ⟨h, 0, none⟩), .int .i64 0, .int .i64 1] w4 fun e w' => e = .returned (.int .i64 0) ∧ PuP w4 w' h m cap yv rv1 y [(false, 20)]) := slide_any h m cap yv rv1 y [] [] [(false, 20)] w4 H4.out.1 (by simp)
 go_wp2_with fail
 refine (show Calls Tryz.prog 18 _ _ _ from HSl.out).mono ?_
 rintro e w5 ⟨rfl, p5⟩
 have H5 : Hid _ := p5
 clear p5
 go_wp2
 go_ret
 exact ⟨rfl, PuP.trans H4.out.2.1 H4.out.2.2 H5.out⟩
set_option maxRecDepth 100000 in
set_option maxHeartbeats 8000000 in
theorem repl5 (M h m L : Nat) (n cap : Int) (yv rv : Value) (y : List (Bool × Nat)) (w : World) (g : MmAt w M h n) (hE : Hs w h m cap yv rv y []) (hL : w.cell? ⟨L, 0, none⟩ = some v5) (hT : Tb w) :
  Calls Tryz.prog 10 #[.pointer (some ⟨M, 0, none⟩), .int .i64 0, .slice (some ⟨L, 0, none⟩) 1 1] w fun e w' => e = .returned (.int .i64 0) ∧ PuP w w' h m cap yv rv y [(false, 20)] := by
 have HN : Hid _ := mnone_any M h n w g
 have HF : Hid _ := find5 M h L n w g hL hT
 have HX : Hid (∀ W F m1 m2 m3, Only (fun _ => False) w W → FnAt W F h m1 m2 m3 → (Calls Tryz.prog 15 #[.pointer (some ⟨M, 0, none⟩)] W fun e w' => e = .returned (.int .i64 0) ∧ w' = W) ∧ Calls Tryz.prog 27 #[.pointer (some ⟨M, 0, none⟩), .int .i64 0, .slice (some ⟨L, 0, none⟩) 1 1, .pointer (some ⟨F, 0, none⟩)] W fun e w' => e = .returned (.int .i64 0) ∧ PuP w w' h m cap yv rv y [(false, 20)]) := fun W F m1 m2 m3 o hF => ⟨depth_any M h m n cap yv rv y [] W (g.keep o (fun g => g)) (hE.only o), (exch5 M h m F m1 m2 m3 L n cap yv rv y W (g.keep o (fun g => g)) (hE.only o) hF (o.cell hL (fun g => g))).mono (by rintro e w' ⟨rfl, p⟩; exact ⟨rfl, p.after o⟩)⟩
 clear g hE hL hT
 go_enter Tryz.func10, Tryz.ntmps10
 go_wp2_with fail
 refine (show Calls Tryz.prog 19 _ _ _ from HN.out).mono ?_
 rintro e w1 ⟨rfl, hq⟩
 rw [hq]
 clear hq HN w1
 go_wp2_with fail
 refine (show Calls Tryz.prog 26 _ _ _ from HF.out).mono ?_
 rintro e w1 ⟨F, m1, m2, m3, rfl, H1⟩
 obtain ⟨hd, hx⟩ := HX.out w1 F m1 m2 m3 H1.out.2.2.2.2.2 H1.out.1
 have HD : Hid _ := hd
 have HE : Hid _ := hx
 clear hd hx HF HX
 go_wp2_with (first
  | (go_at_call 15; refine (show Calls Tryz.prog 15 _ _ _ from HD.out).mono ?_; rintro e w2 ⟨rfl, hq⟩; rw [hq]; clear hq)
  | (go_at_call 27; refine (show Calls Tryz.prog 27 _ _ _ from HE.out).mono ?_; rintro e w3 ⟨rfl, p⟩; have HP : Hid (PuP w w3 h m cap yv rv y [(false, 20)]) := p; clear p))
 go_ret
 exact ⟨rfl, HP.out⟩
theorem one_val (v : Value) (W : World) : (Instr.buildSlice 29 1 #[(0, v5)]).run Tryz.prog W = .ok (.slice (some ⟨W.heap.size, 0, none⟩) 1 1) (W.alloc (.cells #[v5] 24)) := by kernel_rfl
set_option maxRecDepth 100000 in
set_option maxHeartbeats 8000000 in
theorem push5 (M h m : Nat) (n cap : Int) (yv rv : Value) (y : List (Bool × Nat)) (w : World) (g : MmAt w M h n) (hE : Hs w h m cap yv rv y []) (hT : Tb w) :
  Calls Tryz.prog 9 #[.pointer (some ⟨M, 0, none⟩), v5] w fun e w' => e = .returned (.int .i64 0) ∧ PuP w w' h m cap yv rv y [(false, 20)] := by
 obtain ⟨W, hW⟩ : ∃ W, W = w.alloc (.cells #[v5] 24) := ⟨_, rfl⟩
 have oW : Only (fun _ => False) w W := by rw [hW]; exact (Only.refl _ w).alloc _
 have bW : W.heap[w.heap.size]? = some (.cells #[v5] 24) := by rw [hW]; exact alloc_at _ _ _ rfl
 have HR : Hid (Calls Tryz.prog 10 #[.pointer (some ⟨M, 0, none⟩), .int .i64 0, .slice (some ⟨w.heap.size, 0, none⟩) 1 1] W fun e w' => e = .returned (.int .i64 0) ∧ PuP w w' h m cap yv rv y [(false, 20)]) := (repl5 M h m _ n cap yv rv y W (g.keep oW (fun g => g)) (hE.only oW) (hb_cell bW 0) (hT.frame oW)).mono (by rintro e w' ⟨rfl, p⟩; exact ⟨rfl, p.after oW⟩)
 have hB := one_val v5
 clear g hE hT oW bW
 go_enter Tryz.func9, Tryz.ntmps9
 go_wp2_with fail
 rw [← hW]
 clear hW
 refine (show Calls Tryz.prog 10 _ _ _ from HR.out).mono ?_
 rintro e w1 ⟨rfl, p⟩
 have HP : Hid _ := p
 clear p HR
 go_wp2
 go_ret
 exact ⟨rfl, HP.out⟩
end Go.Proofs.YtbbeoobihdldcaaGreatDoor
namespace Go.Proofs.YtbbeoobihdldcaaGreatDoor
open Go.RowKit
set_option linter.unusedSimpArgs false
set_option linter.unusedVariables false
theorem AlP.trans {w w1 w2 : World} {h m : Nat} {cap : Int} {yv rv yv1 rv1 : Value} {y r : List (Bool × Nat)} (a1 : ∀ k, yv1.ownBlock = some k → yv.ownBlock = some k ∨ w.heap.size ≤ k) (a2 : ∀ k, rv1.ownBlock = some k → rv.ownBlock = some k ∨ w.heap.size ≤ k) (o : Only (fun k => k = h ∨ yv.ownBlock = some k ∨ rv.ownBlock = some k) w w1) (p : AlP w1 w2 h m cap yv1 rv1 y r) : AlP w w2 h m cap yv rv y r := by
 obtain ⟨yv2, rv2, h2, b1, b2, o2⟩ := p
 have s := o.size
 refine ⟨yv2, rv2, h2, fun k hk => ?_, fun k hk => ?_, o.trans o2 (fun k hk q => ?_)⟩
 ·rcases b1 k hk with e | e
  ·exact a1 k e
  ·exact .inr (by omega)
 ·rcases b2 k hk with e | e
  ·exact a2 k e
  ·exact .inr (by omega)
 ·rcases q with q | q | q
  ·exact .inl q
  ·rcases a1 k q with e | e
   ·exact .inr (.inl e)
   ·omega
  ·rcases a2 k q with e | e
   ·exact .inr (.inr e)
   ·omega
theorem Hs.other {w w1 : World} {h m : Nat} {cap : Int} {yv rv : Value} {y r : List (Bool × Nat)} (g : Hs w h m cap yv rv y r) (o : Only (fun k => k = h ∨ yv.ownBlock = some k ∨ rv.ownBlock = some k) w w1) {b : Nat} {c : Array Value} {T : TypeId} (hb : w.heap[b]? = some (.cells c T)) (h1 : T ≠ 72) (h2 : T ≠ 68) : w1.heap[b]? = some (.cells c T) := by
 refine (o.block b (Array.getElem?_eq_some_iff.1 hb).1 (fun q => ?_)).trans hb
 rcases q with q | q | q
 ·have := g.hb
  rw [← q, hb] at this
  simp only [Option.some.injEq, Obj.cells.injEq] at this
  exact h2 this.2.1
 ·exact own_ne g.ry hb (fun c' e => by simp only [Obj.cells.injEq] at e; exact h1 e.2.1) q
 ·exact own_ne g.rr hb (fun c' e => by simp only [Obj.cells.injEq] at e; exact h1 e.2.1) q
theorem sz1028 : SzC 1028 3 := by
 intro w
 go_enter Tryz.func88, Tryz.ntmps88
 go_wp2
 go_ret
 exact ⟨rfl, (Only.refl _ w).alloc _⟩
theorem hd1028 : HdC 4 2 1028 := by
 intro w
 go_enter Tryz.func157, Tryz.ntmps157
 go_wp2
 refine bodyPost_ret (results_fd rfl _ _ w.heap.size (x := .bool false) (y := .int .u64 1028) ?_ ?_ rfl) rfl ⟨rfl, ?_⟩
 ·simp [go_sem]
 ·have e : bits .or .u64 1024 4 = 1028 := by decide
  rw [e]
  exact hb_cell (alloc_at _ _ _ rfl) 1
 ·exact (Only.refl _ w).alloc _
def R1 : List (Bool × Nat) := [(false, 20)]
def R2 : List (Bool × Nat) := [(false, 20), (true, 0)]
structure BvAt (W : World) (M h A B A' B' C' : Nat) : Prop where
 mm : MmAt W M h 1
 ca : W.heap[A]? = some (.cells #[.pointer (some ⟨M, 0, none⟩)] 22)
 cb : W.heap[B]? = some (.cells #[.int .i64 0] 3)
 da : W.heap[A']? = some (.cells #[.pointer (some ⟨h, 0, none⟩), .nilFunc] 57)
 db : W.heap[B']? = some (.cells #[.int .i64 1] 3)
 dc : W.heap[C']? = some (.cells #[.func (.func 29) #[] #[.pointer (some ⟨A, 0, none⟩), .pointer (some ⟨B, 0, none⟩)]] 38)
theorem BvAt.keep {W W' : World} {M h A B A' B' C' : Nat} (g : BvAt W M h A B A' B' C') {m : Nat} {cap : Int} {yv rv : Value} {y r : List (Bool × Nat)} (hE : Hs W h m cap yv rv y r) (o : Only (fun k => k = h ∨ yv.ownBlock = some k ∨ rv.ownBlock = some k) W W') : BvAt W' M h A B A' B' C' :=
 ⟨hE.other o g.mm (by decide) (by decide), hE.other o g.ca (by decide) (by decide), hE.other o g.cb (by decide) (by decide), hE.other o g.da (by decide) (by decide), hE.other o g.db (by decide) (by decide), hE.other o g.dc (by decide) (by decide)⟩
theorem BvAt.only {W W' : World} {M h A B A' B' C' : Nat} (g : BvAt W M h A B A' B' C') (o : Only (fun _ => False) W W') : BvAt W' M h A B A' B' C' :=
 ⟨g.mm.keep o (fun g => g), o.at g.ca, o.at g.cb, o.at g.da, o.at g.db, o.at g.dc⟩
set_option maxRecDepth 100000 in
theorem bx1 (M h m A B A' B' C' : Nat) (cap : Int) (yv rv : Value) (y : List (Bool × Nat)) (W : World) (g : BvAt W M h A B A' B' C') (hE : Hs W h m cap yv rv y R2) : Calls Tryz.prog 29 #[.pointer (some ⟨A, 0, none⟩), .pointer (some ⟨B, 0, none⟩)] W fun e w' => e = .returned (.int .i64 0) ∧ PuP W w' h m cap yv rv y (R2 ++ [(false, 20)]) := by
 have c0 := g.mm.cells.1
 have a0 : W.cell? ⟨A, 0, none⟩ = some (.pointer (some ⟨M, 0, none⟩)) := hb_cell g.ca 0
 have b0 : W.cell? ⟨B, 0, none⟩ = some (.int .i64 0) := hb_cell g.cb 0
 have HD : Hid (∀ W', Only (fun _ => False) W W' → Calls Tryz.prog 30 #[.pointer (some ⟨h, 0, none⟩), .int .i64 0] W' fun e w' => e = .returned (.int .i64 0) ∧ PuP W w' h m cap yv rv y (R2 ++ [(false, 20)])) := fun W' o => (dup_any h m cap yv rv y R2 0 (false, 20) W' (hE.only o) (by decide) rfl).mono (by rintro e w' ⟨rfl, p⟩; exact ⟨rfl, p.after o⟩)
 clear g hE
 go_enter Tryz.func29, Tryz.ntmps29
 go_wp2_with fail
 go_region_with (go_at_call 30; refine (show Calls Tryz.prog 30 _ _ _ from HD.out _ (by repeat' first | exact Only.refl _ _ | apply Only.alloc | apply Only.drew)).mono ?_; rintro e w2 ⟨rfl, p⟩; have HP : Hid (PuP W w2 h m cap yv rv y (R2 ++ [(false, 20)])) := p; clear p)
 all_goals
  go_wp2
  go_ret
  exact ⟨rfl, HP.out⟩
theorem nb1_0 (M h m A B A' B' C' : Nat) (cap : Int) (yv rv : Value) (y : List (Bool × Nat)) (W : World) (g : BvAt W M h A B A' B' C') (hE : Hs W h m cap yv rv y R2) : Calls Tryz.prog 65 #[.int .i64 0, .pointer (some ⟨A', 0, none⟩), .pointer (some ⟨B', 0, none⟩), .pointer (some ⟨C', 0, none⟩)] W fun e w' => e = .returned (.int .i64 0) ∧ PuP W w' h m cap yv rv y (R2 ++ [(false, 1)]) := by
 have a0 : W.cell? ⟨A', 0, none⟩ = some (.pointer (some ⟨h, 0, none⟩)) := hb_cell g.da 0
 have b0 : W.cell? ⟨B', 0, none⟩ = some (.int .i64 1) := hb_cell g.db 0
 have HD : Hid (Calls Tryz.prog 66 #[.pointer (some ⟨h, 0, none⟩), .int .u64 1] W fun e w' => e = .returned (.int .i64 0) ∧ PuP W w' h m cap yv rv y (R2 ++ [(false, 1)])) := num_any h m cap yv rv y R2 1 W hE (by decide)
 have w1 : IntKind.u64.wrap 1 = 1 := by decide
 clear g hE
 go_enter Tryz.func65, Tryz.ntmps65
 go_wp2_with (go_at_call 66; refine (show Calls Tryz.prog 66 _ _ _ from HD.out).mono ?_; rintro e w2 ⟨rfl, p⟩; have HP : Hid (PuP W w2 h m cap yv rv y (R2 ++ [(false, 1)])) := p; clear p)
 go_ret
 exact ⟨rfl, HP.out⟩
theorem nb1_1 (M h m A B A' B' C' : Nat) (cap : Int) (yv rv : Value) (y : List (Bool × Nat)) (W : World) (g : BvAt W M h A B A' B' C') (hE : Hs W h m cap yv rv y R2) : Calls Tryz.prog 65 #[.int .i64 1, .pointer (some ⟨A', 0, none⟩), .pointer (some ⟨B', 0, none⟩), .pointer (some ⟨C', 0, none⟩)] W fun e w' => e = .returned (.int .i64 0) ∧ PuP W w' h m cap yv rv y (R2 ++ [(false, 20)]) := by
 have c0 : W.cell? ⟨C', 0, none⟩ = some (.func (.func 29) #[] #[.pointer (some ⟨A, 0, none⟩), .pointer (some ⟨B, 0, none⟩)]) := hb_cell g.dc 0
 have HD : Hid _ := bx1 M h m A B A' B' C' cap yv rv y W g hE
 clear g hE
 go_enter Tryz.func65, Tryz.ntmps65
 go_wp2_with (go_at_call 29; refine (show Calls Tryz.prog 29 _ _ _ from HD.out).mono ?_; rintro e w2 ⟨rfl, p⟩; have HP : Hid (PuP W w2 h m cap yv rv y (R2 ++ [(false, 20)])) := p; clear p)
 go_ret
 exact ⟨rfl, HP.out⟩
end Go.Proofs.YtbbeoobihdldcaaGreatDoor
namespace Go.Proofs.YtbbeoobihdldcaaGreatDoor
open Go.RowKit
set_option linter.unusedSimpArgs false
set_option linter.unusedVariables false
def yI : Nat → List (Bool × Nat)
 | 0 => [(false, 1028), (false, 0), (false, 0)]
 | 1 => [(false, 1028), (false, 1), (false, 0)]
 | _ => [(false, 1028), (false, 1), (false, 20)]
theorem yI_ob (i : Nat) : ObA (yI i) 0 1028 3 := by
 match i with
 | 0 => exact ⟨rfl, sz1028, by decide, by decide⟩
 | 1 => exact ⟨rfl, sz1028, by decide, by decide⟩
 | _ + 2 => exact ⟨rfl, sz1028, Nat.le_refl 3, by decide⟩
theorem yI_len (i : Nat) : (yI i).length = 3 := by
 match i with
 | 0 => rfl
 | 1 => rfl
 | _ + 2 => rfl
def qI : Nat → Bool × Nat
 | 0 => (false, 1)
 | _ => (false, 20)
theorem yI_set (i : Nat) (hi : i < 2) : (yI i).set (0 + 1 + i) (qI i) = yI (i + 1) := by
 match i, hi with
 | 0, _ => rfl
 | 1, _ => rfl
theorem nb1 (i : Nat) (hi : i < 2) (M h m A B A' B' C' : Nat) (cap : Int) (yv rv : Value) (y : List (Bool × Nat)) (W : World) (g : BvAt W M h A B A' B' C') (hE : Hs W h m cap yv rv y R2) : Calls Tryz.prog 65 #[.int .i64 (i : Int), .pointer (some ⟨A', 0, none⟩), .pointer (some ⟨B', 0, none⟩), .pointer (some ⟨C', 0, none⟩)] W fun e w' => e = .returned (.int .i64 0) ∧ PuP W w' h m cap yv rv y (R2 ++ [qI i]) := by
 match i, hi with
 | 0, _ => exact nb1_0 M h m A B A' B' C' cap yv rv y W g hE
 | 1, _ => exact nb1_1 M h m A B A' B' C' cap yv rv y W g hE
def RdP (w W : World) (h m : Nat) (yv rv : Value) (i : Nat) : Prop := ∃ yv' rv', Hs W h m 50 yv' rv' (yI i) R2 ∧ (∀ k, yv'.ownBlock = some k → yv.ownBlock = some k ∨ w.heap.size ≤ k) ∧ (∀ k, rv'.ownBlock = some k → rv.ownBlock = some k ∨ w.heap.size ≤ k) ∧ Only (fun k => k = h ∨ yv.ownBlock = some k ∨ rv.ownBlock = some k) w W
set_option maxRecDepth 100000 in
set_option maxHeartbeats 8000000 in
theorem object5 (M h m A B A' B' C' : Nat) (yv rv : Value) (w : World) (g : BvAt w M h A B A' B' C') (hE : Hs w h m 50 yv rv [] R1) :
  Calls Tryz.prog 64 #[.agg #[.pointer (some ⟨h, 0, none⟩), .nilFunc], .int .i64 4, .int .i64 2, .bool false, .func (.func 65) #[] #[.pointer (some ⟨A', 0, none⟩), .pointer (some ⟨B', 0, none⟩), .pointer (some ⟨C', 0, none⟩)]] w fun e w' => e = .returned (.int .i64 0) ∧ AlP w w' h m 50 yv rv (yI 2) R2 := by
 obtain ⟨W, hW⟩ : ∃ W, W = w.alloc (.cells #[.pointer (some ⟨h, 0, none⟩), .nilFunc] 57) := ⟨_, rfl⟩
 obtain ⟨N, hN⟩ : ∃ N, N = w.heap.size := ⟨_, rfl⟩
 have oW : Only (fun _ => False) w W := by rw [hW]; exact (Only.refl _ w).alloc _
 have bW : W.heap[N]? = some (.cells #[.pointer (some ⟨h, 0, none⟩), .nilFunc] 57) := by rw [hW]; exact alloc_at _ _ _ hN
 have n0 : W.cell? ⟨N, 0, none⟩ = some (.pointer (some ⟨h, 0, none⟩)) := hb_cell bW 0
 have eW := hE.only oW
 have HA : Hid (Calls Tryz.prog 104 #[.pointer (some ⟨h, 0, none⟩), .int .i64 4, .int .i64 2, .bool false] W fun e w' => e = .returned (.int .i64 0) ∧ Hid (RdP w w' h m yv rv 0 ∧ BvAt w' M h A B A' B' C' ∧ w'.heap[N]? = some (.cells #[.pointer (some ⟨h, 0, none⟩), .nilFunc] 57))) := (alloc_any h m 50 yv rv [] R1 4 2 1028 hd1028 W eW (by decide) (by decide) (by decide) (by decide) (by decide) (by decide) (by decide)).mono (by
  rintro e w' ⟨rfl, yv', rv', h1, b1, b2, o1⟩
  have s := oW.size
  refine ⟨rfl, ⟨yv', rv', h1, fun k hk => (b1 k hk).elim .inl (fun q => .inr (by omega)), fun k hk => (b2 k hk).elim .inl (fun q => .inr (by omega)), (oW.mono (bs' := fun k => k = h ∨ yv.ownBlock = some k ∨ rv.ownBlock = some k) (fun _ _ g => g.elim)).trans o1 (fun _ _ g => g)⟩, (g.only oW).keep eW o1, eW.other o1 bW (by decide) (by decide)⟩)
 clear g hE oW bW eW
 have w2 : IntKind.i64.wrap 1 = 1 := by decide
 go_enter Tryz.func64, Tryz.ntmps64
 go_wp2_with fail
 rw [← hW, ← hN]
 clear hW hN
 refine (show Calls Tryz.prog 104 _ _ _ from HA.out).mono ?_
 rintro e w3 ⟨rfl, H3⟩
 obtain ⟨⟨yv3, rv3, e3, _⟩, _, b3⟩ := H3.out
 have n3 : w3.cell? ⟨N, 0, none⟩ = some (.pointer (some ⟨h, 0, none⟩)) := hb_cell b3 0
 obtain ⟨_, a0, q0, hrv⟩ := e3.sl
 have HR : Hid _ := roots_any h a0 2 q0 w3 (by have := e3.cells.2.2.2.2; rw [hrv] at this; exact this)
 clear e3 b3 hrv HA
 go_wp2_with fail
 refine (show Calls Tryz.prog 35 _ _ _ from HR.out).mono ?_
 rintro e w4 ⟨rfl, hq⟩
 rw [hq]
 clear hq HR w4
 have w5 : IntKind.i64.wrap (((2 : Nat) : Int) - 1) = 1 := by decide
 go_wp2_with fail
 go_loopw [29] (fun r wr => ∃ i : Nat, r = .int .i64 (i : Int) ∧ i ≤ 2 ∧ Hid (RdP w wr h m yv rv i ∧ BvAt wr M h A B A' B' C' ∧ wr.heap[N]? = some (.cells #[.pointer (some ⟨h, 0, none⟩), .nilFunc] 57))) (fun r _ => 2 - uOH r)
 case atStart => exact ⟨0, rfl, by omega, H3.out⟩
 case round =>
  obtain ⟨i, rfl, hi, HI⟩ := hrel
  obtain ⟨w6, rfl⟩ : ∃ w6, w6 = wr := ⟨_, rfl⟩
  by_cases hlt : i < 2
  ·obtain ⟨⟨yv6, rv6, e6, u1, u2, o6⟩, g6, b6⟩ := HI.out
   have HP : Hid (Calls Tryz.prog 65 #[.int .i64 (i : Int), .pointer (some ⟨A', 0, none⟩), .pointer (some ⟨B', 0, none⟩), .pointer (some ⟨C', 0, none⟩)] w6 fun e w' => e = .returned (.int .i64 0) ∧ ∃ rv7, Hid (Hs w' h m 50 yv6 rv7 (yI i) (R2 ++ [qI i]) ∧ (∀ k, rv7.ownBlock = some k → rv.ownBlock = some k ∨ w.heap.size ≤ k) ∧ Only (fun k => k = h ∨ yv.ownBlock = some k ∨ rv.ownBlock = some k) w w' ∧ BvAt w' M h A B A' B' C' ∧ w'.heap[N]? = some (.cells #[.pointer (some ⟨h, 0, none⟩), .nilFunc] 57))) := (nb1 i hlt M h m A B A' B' C' 50 yv6 rv6 (yI i) w6 g6 e6).mono (by
    rintro e w' ⟨rfl, p⟩
    obtain ⟨rv7, h7, v7, o7⟩ := p
    have o7' := o7.mono (bs' := fun k => k = h ∨ yv6.ownBlock = some k ∨ rv6.ownBlock = some k) (fun k _ q => q.elim .inl (fun q => .inr (.inr q)))
    have s6 := o6.size
    refine ⟨rfl, rv7, h7, fun k hk => ?_, o6.trans o7 (fun k hk q => ?_), g6.keep e6 o7', e6.other o7' b6 (by decide) (by decide)⟩
    ·rcases v7 k hk with q | q
     ·exact u2 k q
     ·exact .inr (by omega)
    ·rcases q with q | q
     ·exact .inl q
     ·rcases u2 k q with q | q
      ·exact .inr (.inr q)
      ·omega)
   have U1 : Hid (∀ k, yv6.ownBlock = some k → yv.ownBlock = some k ∨ w.heap.size ≤ k) := u1
   have hne : (i : Int) < 2 := by omega
   have n6 : w6.cell? ⟨N, 0, none⟩ = some (.pointer (some ⟨h, 0, none⟩)) := hb_cell b6 0
   clear e6 u1 u2 o6 g6 b6
   go_wp2_with fail
   refine (show Calls Tryz.prog 65 _ _ _ from HP.out).mono ?_
   rintro e w7 ⟨rfl, rv7, H7⟩
   have n7 : w7.cell? ⟨N, 0, none⟩ = some (.pointer (some ⟨h, 0, none⟩)) := hb_cell H7.out.2.2.2.2 0
   have HSe : Hid (Calls Tryz.prog 33 #[.pointer (some ⟨h, 0, none⟩), .int .i64 1, .int .i64 (i : Int), .int .i64 2] w7 fun e w' => e = .returned (.int .i64 0) ∧ Hid (Hs w' h m 50 yv6 rv7 (yI (i + 1)) (R2 ++ [qI i]) ∧ Only (fun k => k = h ∨ yv.ownBlock = some k ∨ rv.ownBlock = some k) w w' ∧ BvAt w' M h A B A' B' C' ∧ w'.heap[N]? = some (.cells #[.pointer (some ⟨h, 0, none⟩), .nilFunc] 57))) := (set_any h m 50 yv6 rv7 (yI i) (R2 ++ [qI i]) 1 0 1028 3 i 2 (qI i) w7 H7.out.1 (yI_ob i) (by rw [yI_len]; decide) (by decide) (by omega) rfl rfl (by decide)).mono (by
    rintro e w' ⟨rfl, h8, o8⟩
    rw [yI_set i hlt] at h8
    obtain ⟨h7, v7, o7, g7, b7⟩ := H7.out
    have o8' := o8.mono (bs' := fun k => k = h ∨ yv6.ownBlock = some k ∨ rv7.ownBlock = some k) (fun k _ q => .inr (.inl q))
    refine ⟨rfl, h8, o7.trans o8 (fun k hk q => ?_), g7.keep h7 o8', h7.other o8' b7 (by decide) (by decide)⟩
    rcases U1.out k q with q | q
    ·exact .inr (.inl q)
    ·omega)
   clear HP n6
   go_wp2_with fail
   refine (show Calls Tryz.prog 33 _ _ _ from HSe.out).mono ?_
   rintro e w8 ⟨rfl, H8⟩
   have n8 : w8.cell? ⟨N, 0, none⟩ = some (.pointer (some ⟨h, 0, none⟩)) := hb_cell H8.out.2.2.2 0
   have HSl : Hid (Calls Tryz.prog 18 #[.pointer (some ⟨h, 0, none⟩), .int .i64 1, .int .i64 0] w8 fun e w' => e = .returned (.int .i64 0) ∧ Hid (RdP w w' h m yv rv (i + 1) ∧ BvAt w' M h A B A' B' C' ∧ w'.heap[N]? = some (.cells #[.pointer (some ⟨h, 0, none⟩), .nilFunc] 57))) := (slide_any h m 50 yv6 rv7 (yI (i + 1)) R2 [qI i] [] w8 (by rw [List.append_nil]; exact H8.out.1) (by simp [R2])).mono (by
    rintro e w' ⟨rfl, rv9, h9, v9, o9⟩
    rw [List.append_nil] at h9
    obtain ⟨h8, o8, g8, b8⟩ := H8.out
    have o9' := o9.mono (bs' := fun k => k = h ∨ yv6.ownBlock = some k ∨ rv7.ownBlock = some k) (fun k _ q => q.elim .inl (fun q => .inr (.inr q)))
    have s8 := o8.size
    refine ⟨rfl, ⟨yv6, rv9, h9, U1.out, fun k hk => ?_, o8.trans o9 (fun k hk q => ?_)⟩, g8.keep h8 o9', h8.other o9' b8 (by decide) (by decide)⟩
    ·rcases v9 k hk with q | q
     ·exact H7.out.2.1 k q
     ·exact .inr (by omega)
    ·rcases q with q | q
     ·exact .inl q
     ·rcases H7.out.2.1 k q with q | q
      ·exact .inr (.inr q)
      ·omega)
   clear HSe n7
   go_wp2_with fail
   refine (show Calls Tryz.prog 18 _ _ _ from HSl.out).mono ?_
   rintro e w9 ⟨rfl, H9⟩
   clear HSl n8
   go_wp2
   go_roundw
   case rel => exact ⟨i + 1, by go_num, by omega, H9⟩
   case measure => simp only [uOH]; omega
  ·obtain rfl : i = 2 := by omega
   go_wp2
   go_ret
   exact ⟨rfl, HI.out.1⟩
end Go.Proofs.YtbbeoobihdldcaaGreatDoor
