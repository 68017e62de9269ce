/- The numbers of a value's boxes: addBoxes, addItemBoxes. slices.Values of numbers: its closure gives them in their order, to every loop body that keeps the block in which they lie. The numbers of any sound value's boxes; slices.Values of numbers, value.Boxes. What boxes of the law gives of value.Boxes. -/
import Derived.Test.YtllpacppedobjaaGreatDoorHaf
import Derived.Test.YtllpacppedobjaaGreatDoorHaa
import Derived.Test.YtllpacppedobjaaGreatDoorRows
import Derived.RangeFuncNested
import Derived.RangeFuncBound
import Derived.RangeFuncCalls
import Derived.RangeFuncLeaves
import Derived.RangeFuncBox
import Derived.Shelf.Abstract
import Derived.Shelf.RegionOpen
import Derived.OwnWalkIn
import Derived.TacticsInMore
import Derived.LoopNIn
import Derived.LoopIn
namespace Go.Proofs.YtllpacppedobjaaGreatDoor
open Go.RowKit Go.Lib
set_option linter.unusedSimpArgs false
set_option linter.unusedVariables false
/-- the numbers of the boxes in a value, in an item -/
def bxL : Nat → Bool → Vt → List Int
  | 0, _, _ => []
  | d + 1, true, t => if t.k = 7 then [] else bxL d false t
  | d + 1, false, t => if t.k = 6 then [t.n] else if t.k = 4 then t.l.flatMap (bxL d false) else if t.k = 5 then t.l.flatMap (bxL d true) else []
/-- a row of numbers of one's own since block B -/
def BnAt (w : World) (B : Nat) (v : Value) (ns : List Int) : Prop := w.ownsRow B 3 1 v ns.length (ns.map (Value.int .i64))
theorem bn_nil (w : World) (B : Nat) : BnAt w B (.slice none 0 0) [] := ⟨rfl, .inl ⟨rfl, rfl⟩⟩
theorem BnAt.form {w : World} {B : Nat} {v : Value} {ns : List Int} (h : BnAt w B v ns) : ∃ ao cap, v = .slice ao ns.length cap := by
  rcases h.2 with ⟨h1, h2⟩ | ⟨g, cap, cur, h1, _⟩
  · exact ⟨_, _, by rw [h1, h2]⟩
  · exact ⟨_, _, h1⟩
theorem BnAt.only {w w' : World} {B : Nat} {v : Value} {ns : List Int} {bs : Nat → Prop} (h : BnAt w B v ns) (o : Only bs w w') (hb : ∀ b, B ≤ b → b < w.heap.size → ¬ bs b) : BnAt w' B v ns := o.owns h (fun k hk => hb k (h.lt k hk).1 (h.lt k hk).2)
theorem bninfo : (Tryz.prog.info? 3).map (fun i => (i.zero, i.size, i.bytes)) = some (some (.int .i64 0), 1, 8) := by kernel_rfl
/-- a number is put behind a row -/
theorem app_bn {w : World} {B : Nat} {v : Value} {ns : List Int} {n : Int} (hf : BnAt w B v ns) (hB : B ≤ w.heap.size) (hl : ns.length ≤ 1048576) :
    ∃ v' w', (∀ ty, (Builtin.append_ #[37, 37] ty #[v, .slice (some ⟨w.heap.size, 0, none⟩) 1 1]).run Tryz.prog (w.alloc (.cells #[.int .i64 n] 3)) = .ok v' w') ∧ BnAt w' B v' (ns ++ [n]) ∧ Only (fun k => v.ownBlock = some k) w w' := by
  obtain ⟨i0, hi, hz0, hz1, hz2⟩ := vinfo_parts bninfo
  obtain ⟨W, hW⟩ : ∃ W, W = w.alloc (.cells #[.int .i64 n] 3) := ⟨_, rfl⟩
  have oo : Only (fun _ => False) w W := by rw [hW]; exact (Only.refl _ w).alloc _
  have hf2 : BnAt W B v ns := hf.only oo (fun _ _ _ h => h)
  have hblk : W.heap[w.heap.size]? = some (.cells #[.int .i64 n] 3) := by rw [hW]; exact valloc_at _ _ _ rfl
  have key := fun ty => run_append_own_at (P := Tryz.prog) W B 37 ty 3 i0 (.int .i64 0) 1 8 Tryz.underlying37 hi hz0 hz1 hz2 rfl (by omega) v ns.length (ns.map (Value.int .i64)) hf2 ⟨w.heap.size, 0, none⟩ 1 1 [.int .i64 n] rfl (by
      intro j u hj
      rw [addr_ad, vblk_cells hblk]
      simpa using hj) (by
      intro u hu
      simp only [List.mem_cons, List.not_mem_nil, or_false] at hu
      subst hu
      rfl) (by unfold maxLen; omega) (by omega) (by have := oo.size; omega)
  obtain ⟨v', w', hr, own', hg, _, hat⟩ := key 0
  refine ⟨v', w', fun ty => ?_, ?_, (oo.mono (bs' := fun k => v.ownBlock = some k) (fun _ _ h => h.elim)).trans ((Only.refl (fun k => v.ownBlock = some k) W).grown hg (fun k e _ => e)) (fun k hk e => e)⟩
  · rw [← hW, ← hr]
    rfl
  · unfold BnAt
    simpa using own'
/-- what addBoxes, addItemBoxes answer -/
def BxC (d F : Nat) (i : Bool) : Prop := ∀ (t : Vt) (v : Value) (w0 : World) (S : Nat → Prop), TiAt w0 S d i t v → okV d i t = true → (∃ e, SmT e t) → ∀ (w : World) (ao : Option Addr) (n cap : Nat) (ns : List Int), Only (fun _ => False) w0 w → BnAt w w0.heap.size (.slice ao n cap) ns → ns.length + (bxL d i t).length ≤ 1000000 →
  Calls Tryz.prog F #[.slice ao n cap, v] w fun e w' => ∃ ao' n' cap', e = .returned (.slice ao' n' cap') ∧ Hid (BnAt w' w0.heap.size (.slice ao' n' cap') (ns ++ bxL d i t) ∧ Only (fun _ => False) w0 w')
/-- how an append is met in the walk -/
theorem bn_app {w0 w : World} {ao : Option Addr} {n cap : Nat} {ns : List Int} (z : Int) (o : Only (fun _ => False) w0 w) (h : BnAt w w0.heap.size (.slice ao n cap) ns) (hl : ns.length ≤ 1000000) (b : Nat) (hb : b = w.heap.size) :
    ∃ ao' cap' w', (∀ ty, (Builtin.append_ #[37, 37] ty #[.slice ao n cap, .slice (some ⟨b, 0, none⟩) 1 1]).run Tryz.prog (w.alloc (.cells #[.int .i64 z] 3)) = .ok (.slice ao' (ns.length + 1) cap') w') ∧ BnAt w' w0.heap.size (.slice ao' (ns.length + 1) cap') (ns ++ [z]) ∧ Only (fun _ => False) w0 w' := by
  subst hb
  obtain ⟨v', w', hr, hw, o2⟩ := app_bn (n := z) h o.size (by omega)
  obtain ⟨ao', cap', hf⟩ := hw.form
  rw [List.length_append, List.length_singleton] at hf
  subst hf
  exact ⟨ao', cap', w', hr, hw, o.trans o2 (fun b hb e => by have := (h.lt b e).1; omega)⟩
set_option maxRecDepth 100000 in
theorem bx_int (n1 : Int) (w : World) (ao : Option Addr) (n cap : Nat) :
    Calls Tryz.prog 42 #[.slice ao n cap, .iface 63 (.agg #[.int .i64 n1])] w fun e w' => e = .returned (.slice ao n cap) ∧ Only (fun _ => False) w w' := by
  have mBox := va_miss 63 75 27 _ Tryz.underlying75 (by intro m h; cases h) (by decide) _ zB
  have mList := va_miss 63 71 27 _ Tryz.underlying71 (by intro m h; cases h) (by decide) _ zL
  have mQuot := va_miss 63 73 27 _ Tryz.underlying73 (by intro m h; cases h) (by decide) _ zQ
  have O : Hid (Only (fun _ => False) w w) := Only.refl _ _
  go_enter Tryz.func42, Tryz.ntmps42
  go_wp2
  go_ret
  exact ⟨rfl, by repeat' first | exact O.out | apply Only.alloc⟩
set_option maxRecDepth 100000 in
theorem bx_str (s1 : ByteArray) (w : World) (ao : Option Addr) (n cap : Nat) :
    Calls Tryz.prog 42 #[.slice ao n cap, .iface 65 (.agg #[.string s1])] w fun e w' => e = .returned (.slice ao n cap) ∧ Only (fun _ => False) w w' := by
  have mBox := va_miss 65 75 27 _ Tryz.underlying75 (by intro m h; cases h) (by decide) _ zB
  have mList := va_miss 65 71 27 _ Tryz.underlying71 (by intro m h; cases h) (by decide) _ zL
  have mQuot := va_miss 65 73 27 _ Tryz.underlying73 (by intro m h; cases h) (by decide) _ zQ
  have O : Hid (Only (fun _ => False) w w) := Only.refl _ _
  go_enter Tryz.func42, Tryz.ntmps42
  go_wp2
  go_ret
  exact ⟨rfl, by repeat' first | exact O.out | apply Only.alloc⟩
set_option maxRecDepth 100000 in
theorem bx_bool (b1 : Bool) (w : World) (ao : Option Addr) (n cap : Nat) :
    Calls Tryz.prog 42 #[.slice ao n cap, .iface 67 (.agg #[.bool b1])] w fun e w' => e = .returned (.slice ao n cap) ∧ Only (fun _ => False) w w' := by
  have mBox := va_miss 67 75 27 _ Tryz.underlying75 (by intro m h; cases h) (by decide) _ zB
  have mList := va_miss 67 71 27 _ Tryz.underlying71 (by intro m h; cases h) (by decide) _ zL
  have mQuot := va_miss 67 73 27 _ Tryz.underlying73 (by intro m h; cases h) (by decide) _ zQ
  have O : Hid (Only (fun _ => False) w w) := Only.refl _ _
  go_enter Tryz.func42, Tryz.ntmps42
  go_wp2
  go_ret
  exact ⟨rfl, by repeat' first | exact O.out | apply Only.alloc⟩
set_option maxRecDepth 100000 in
theorem bx_box (n1 : Int) (w0 w : World) (ao : Option Addr) (n cap : Nat) (ns : List Int) (o : Only (fun _ => False) w0 w) (h : BnAt w w0.heap.size (.slice ao n cap) ns) (hl : ns.length ≤ 1000000) :
    Calls Tryz.prog 42 #[.slice ao n cap, .iface 75 (.agg #[.int .i64 n1])] w fun e w' => ∃ ao' n' cap', e = .returned (.slice ao' n' cap') ∧ Hid (BnAt w' w0.heap.size (.slice ao' n' cap') (ns ++ [n1]) ∧ Only (fun _ => False) w0 w') := by
  have hBox := va_hit 75 27 _ Tryz.underlying75 (by intro m h; cases h)
  obtain ⟨W, hW⟩ : ∃ W, W = w.alloc (.cells #[.int .i64 n1] 75) := ⟨_, rfl⟩
  have O1 : Only (fun _ => False) w W := by rw [hW]; exact (Only.refl _ w).alloc _
  obtain ⟨ao', cap', w2, hr, hw2, o2⟩ := bn_app n1 (o.trans O1 (fun _ _ g => g)) (h.only O1 (fun _ _ _ g => g)) hl (w.heap.size + 1) (by rw [hW]; simp)
  rw [hW] at hr
  have HR : Hid _ := hr
  have H2 : Hid (BnAt w2 w0.heap.size (.slice ao' (ns.length + 1) cap') (ns ++ [n1]) ∧ Only (fun _ => False) w0 w2) := ⟨hw2, o2⟩
  obtain ⟨L, hL⟩ : ∃ L, L = ns.length + 1 := ⟨_, rfl⟩
  rw [← hL] at HR H2
  clear O1 hr hw2 o2 hL hW o h hl
  go_enter Tryz.func42, Tryz.ntmps42
  go_wp2_with (at_builtin; refine vwpList_append_run rfl _ _ 37 rfl _ _ _ rfl rfl HR.out ?_)
  go_ret
  exact ⟨ao', L, cap', rfl, H2⟩
set_option maxRecDepth 100000 in
set_option maxHeartbeats 4000000 in
theorem bx_list (d : Nat) (H : BxC d 42 false) (l : List Vt) (la : Option Addr) (lc : Nat) (w0 : World) (S : Nat → Prop) (hel : ∀ (j : Nat) (x : Vt), l[j]? = some x → ∃ g k u, la = some ⟨g, k, none⟩ ∧ S g ∧ w0.cell? ⟨g, k + j, none⟩ = some u ∧ TiAt w0 S d false x u) (hok : ∀ x ∈ l, okV d false x = true) (hsm : ∀ x ∈ l, ∃ e, SmT e x) (hlen : l.length ≤ 1048576) (w : World) (ao : Option Addr) (n cap : Nat) (ns : List Int) (o : Only (fun _ => False) w0 w) (h : BnAt w w0.heap.size (.slice ao n cap) ns) (hb : ns.length + (l.flatMap (bxL d false)).length ≤ 1000000) :
    Calls Tryz.prog 42 #[.slice ao n cap, .iface 71 (.agg #[.slice la l.length lc])] w fun e w' => ∃ ao' n' cap', e = .returned (.slice ao' n' cap') ∧ Hid (BnAt w' w0.heap.size (.slice ao' n' cap') (ns ++ l.flatMap (bxL d false)) ∧ Only (fun _ => False) w0 w') := by
  have HE : Hid (∀ (j : Nat) (x : Vt), l[j]? = some x → ∃ g k u, la = some ⟨g, k, none⟩ ∧ w0.cell? ⟨g, k + j, none⟩ = some u ∧ (u = .nilIface ∨ ∃ T y, u = .iface T y) ∧ ∀ (w1 : World) (ao : Option Addr) (n cap : Nat) (ns : List Int), Only (fun _ => False) w0 w1 → BnAt w1 w0.heap.size (.slice ao n cap) ns → ns.length + (bxL d false x).length ≤ 1000000 → Calls Tryz.prog 42 #[.slice ao n cap, u] w1 fun e w' => ∃ ao' n' cap', e = .returned (.slice ao' n' cap') ∧ Hid (BnAt w' w0.heap.size (.slice ao' n' cap') (ns ++ bxL d false x) ∧ Only (fun _ => False) w0 w')) := by
    intro j x hx
    obtain ⟨g, k, u, p1, p2, p3, p4⟩ := hel j x hx
    exact ⟨g, k, u, p1, p3, p4.shape, H x u w0 S p4 (hok x (List.mem_of_getElem? hx)) (hsm x (List.mem_of_getElem? hx))⟩
  obtain ⟨N, hN⟩ : ∃ N, N = l.length := ⟨_, rfl⟩
  have HN : Hid (N = l.length ∧ N ≤ 1048576 ∧ ns.length + (l.flatMap (bxL d false)).length ≤ 1000000) := ⟨hN, by omega, hb⟩
  rw [← hN]
  have mBox := va_miss 71 75 27 _ Tryz.underlying75 (by intro m h; cases h) (by decide) _ zB
  have hList := va_hit 71 27 _ Tryz.underlying71 (by intro m h; cases h)
  have HS1 : Hid (∀ w1, Only (fun _ => False) w w1 → BnAt w1 w0.heap.size (.slice ao n cap) ns ∧ Only (fun _ => False) w0 w1) := fun w1 o1 => ⟨h.only o1 (fun _ _ _ g => g), o.trans o1 (fun _ _ g => g)⟩
  have O : Hid (Only (fun _ => False) w w) := Only.refl _ _
  clear h o hel hok hsm hlen hb hN H
  go_enter Tryz.func42, Tryz.ntmps42
  go_wp2
  obtain ⟨wS, hwS⟩ : ∃ x, x = (w.alloc (.cells #[.int .i64 0] 75)).alloc (.cells #[.slice la N lc] 71) := ⟨_, rfl⟩
  have HS2 : Hid (BnAt wS w0.heap.size (.slice ao n cap) ns ∧ Only (fun _ => False) w0 wS) := HS1.out wS (by rw [hwS]; repeat' first | exact O.out | apply Only.alloc)
  rw [← hwS]
  clear hwS HS1 O
  go_loopw [0, 35] (fun r0 r27 wr => ∃ (j : Nat) (a' : Option Addr) (n' c' : Nat), r27 = .int .i64 (j : Int) ∧ j ≤ N ∧ r0 = .slice a' n' c' ∧ Hid (BnAt wr w0.heap.size (.slice a' n' c') (ns ++ (l.take j).flatMap (bxL d false)) ∧ Only (fun _ => False) w0 wr)) (fun _ r27 _ => N - vuOf r27)
  case atStart => exact ⟨0, ao, n, cap, rfl, Nat.zero_le _, rfl, by simpa using HS2.out.1, HS2.out.2⟩
  case round =>
    obtain ⟨j, a', n', c', rfl, hj, rfl, HI⟩ := hrel
    obtain ⟨w2, hw2⟩ : ∃ w2, w2 = wr := ⟨_, rfl⟩
    rw [← hw2] at HI ⊢
    clear hw2
    have hNl := HN.out.1
    have hN2 := HN.out.2.1
    have hN3 := HN.out.2.2
    by_cases hjN : j < N
    · obtain ⟨x, hx⟩ : ∃ x, l[j]? = some x := ⟨l[j]'(by omega), List.getElem?_eq_getElem (by omega)⟩
      obtain ⟨g, k, u, rfl, h0, hsh, hcall⟩ := HE.out j x hx
      have c0 := HI.out.2.cell h0 (fun g => g)
      have htk : (l.take (j + 1)).flatMap (bxL d false) = (l.take j).flatMap (bxL d false) ++ bxL d false x := by
        rw [List.take_add_one, hx]
        simp
      have hle : ((l.take (j + 1)).flatMap (bxL d false)).length ≤ (l.flatMap (bxL d false)).length := by
        conv => rhs; rw [← List.take_append_drop (j + 1) l]
        rw [List.flatMap_append, List.length_append]
        omega
      have HC : Hid _ := hcall w2 a' n' c' _ HI.out.2 HI.out.1 (by
        rw [htk, List.length_append] at hle
        simp only [List.length_append]
        omega)
      have HX : Hid (j < N ∧ (l.take (j + 1)).flatMap (bxL d false) = (l.take j).flatMap (bxL d false) ++ bxL d false x) := ⟨hjN, htk⟩
      have i1 : (j : Int) < (N : Int) := by omega
      have i0 : (0 : Int) ≤ (j : Int) := by omega
      have i4 : j ≤ 1048576 := by omega
      clear h0 hcall hNl hN2 hN3 hjN hj hx htk hle HI HE
      rcases hsh with rfl | ⟨T, y, rfl⟩
      all_goals
        go_wp2_with fail
        refine (show Calls Tryz.prog 42 _ _ _ from HC.out).mono ?_
        rintro e w3 ⟨a3, n3, c3, rfl, G3⟩
        have HF : Hid (BnAt w3 w0.heap.size (.slice a3 n3 c3) (ns ++ (l.take (j + 1)).flatMap (bxL d false)) ∧ Only (fun _ => False) w0 w3) := by
          rw [HX.out.2, ← List.append_assoc]
          exact G3.out
        clear HC G3 c0
        go_wp2
        go_roundw
        case rel => exact ⟨j + 1, a3, n3, c3, by go_num, by have := HX.out.1; omega, rfl, HF⟩
        case measure => simp only [vuOf]; have := HX.out.1; omega
    · obtain rfl : j = N := by omega
      have i1 : ¬ (j : Int) < (j : Int) := by omega
      have hI := HI.out
      rw [show l.take j = l from by rw [hNl]; exact List.take_length] at hI
      have HF : Hid (BnAt w2 w0.heap.size (.slice a' n' c') (ns ++ l.flatMap (bxL d false)) ∧ Only (fun _ => False) w0 w2) := hI
      clear HI hI hNl hN2 hN3 hjN hj HE
      have mQ := va_miss 71 73 27 _ Tryz.underlying73 (by intro m h; cases h) (by decide) _ zQ
      go_wp2
      go_ret
      exact ⟨a', n', c', rfl, HF.out.1.only (by repeat' first | exact Only.refl _ _ | apply Only.alloc) (fun _ _ _ g => g), by repeat' first | exact HF.out.2 | apply Only.alloc⟩
set_option maxRecDepth 100000 in
set_option maxHeartbeats 4000000 in
theorem bx_quot (d : Nat) (H : BxC d 58 true) (l : List Vt) (la : Option Addr) (lc : Nat) (w0 : World) (S : Nat → Prop) (hel : ∀ (j : Nat) (x : Vt), l[j]? = some x → ∃ g k u, la = some ⟨g, k, none⟩ ∧ S g ∧ w0.cell? ⟨g, k + j, none⟩ = some u ∧ TiAt w0 S d true x u) (hok : ∀ x ∈ l, okV d true x = true) (hsm : ∀ x ∈ l, ∃ e, SmT e x) (hlen : l.length ≤ 1048576) (w : World) (ao : Option Addr) (n cap : Nat) (ns : List Int) (o : Only (fun _ => False) w0 w) (h : BnAt w w0.heap.size (.slice ao n cap) ns) (hb : ns.length + (l.flatMap (bxL d true)).length ≤ 1000000) :
    Calls Tryz.prog 42 #[.slice ao n cap, .iface 73 (.agg #[.slice la l.length lc])] w fun e w' => ∃ ao' n' cap', e = .returned (.slice ao' n' cap') ∧ Hid (BnAt w' w0.heap.size (.slice ao' n' cap') (ns ++ l.flatMap (bxL d true)) ∧ Only (fun _ => False) w0 w') := by
  have HE : Hid (∀ (j : Nat) (x : Vt), l[j]? = some x → ∃ g k u, la = some ⟨g, k, none⟩ ∧ w0.cell? ⟨g, k + j, none⟩ = some u ∧ (u = .nilIface ∨ ∃ T y, u = .iface T y) ∧ ∀ (w1 : World) (ao : Option Addr) (n cap : Nat) (ns : List Int), Only (fun _ => False) w0 w1 → BnAt w1 w0.heap.size (.slice ao n cap) ns → ns.length + (bxL d true x).length ≤ 1000000 → Calls Tryz.prog 58 #[.slice ao n cap, u] w1 fun e w' => ∃ ao' n' cap', e = .returned (.slice ao' n' cap') ∧ Hid (BnAt w' w0.heap.size (.slice ao' n' cap') (ns ++ bxL d true x) ∧ Only (fun _ => False) w0 w')) := by
    intro j x hx
    obtain ⟨g, k, u, p1, p2, p3, p4⟩ := hel j x hx
    exact ⟨g, k, u, p1, p3, p4.shape, H x u w0 S p4 (hok x (List.mem_of_getElem? hx)) (hsm x (List.mem_of_getElem? hx))⟩
  obtain ⟨N, hN⟩ : ∃ N, N = l.length := ⟨_, rfl⟩
  have HN : Hid (N = l.length ∧ N ≤ 1048576 ∧ ns.length + (l.flatMap (bxL d true)).length ≤ 1000000) := ⟨hN, by omega, hb⟩
  rw [← hN]
  have mBox := va_miss 73 75 27 _ Tryz.underlying75 (by intro m h; cases h) (by decide) _ zB
  have mList := va_miss 73 71 27 _ Tryz.underlying71 (by intro m h; cases h) (by decide) _ zL
  have hQuot := va_hit 73 27 _ Tryz.underlying73 (by intro m h; cases h)
  have HS1 : Hid (∀ w1, Only (fun _ => False) w w1 → BnAt w1 w0.heap.size (.slice ao n cap) ns ∧ Only (fun _ => False) w0 w1) := fun w1 o1 => ⟨h.only o1 (fun _ _ _ g => g), o.trans o1 (fun _ _ g => g)⟩
  have O : Hid (Only (fun _ => False) w w) := Only.refl _ _
  clear h o hel hok hsm hlen hb hN H
  go_enter Tryz.func42, Tryz.ntmps42
  go_wp2
  obtain ⟨wS, hwS⟩ : ∃ x, x = ((w.alloc (.cells #[.int .i64 0] 75)).alloc (.cells #[.slice none 0 0] 71)).alloc (.cells #[.slice la N lc] 73) := ⟨_, rfl⟩
  have HS2 : Hid (BnAt wS w0.heap.size (.slice ao n cap) ns ∧ Only (fun _ => False) w0 wS) := HS1.out wS (by rw [hwS]; repeat' first | exact O.out | apply Only.alloc)
  rw [← hwS]
  clear hwS HS1 O
  go_loopw [0, 52] (fun r0 r27 wr => ∃ (j : Nat) (a' : Option Addr) (n' c' : Nat), r27 = .int .i64 (j : Int) ∧ j ≤ N ∧ r0 = .slice a' n' c' ∧ Hid (BnAt wr w0.heap.size (.slice a' n' c') (ns ++ (l.take j).flatMap (bxL d true)) ∧ Only (fun _ => False) w0 wr)) (fun _ r27 _ => N - vuOf r27)
  case atStart => exact ⟨0, ao, n, cap, rfl, Nat.zero_le _, rfl, by simpa using HS2.out.1, HS2.out.2⟩
  case round =>
    obtain ⟨j, a', n', c', rfl, hj, rfl, HI⟩ := hrel
    obtain ⟨w2, hw2⟩ : ∃ w2, w2 = wr := ⟨_, rfl⟩
    rw [← hw2] at HI ⊢
    clear hw2
    have hNl := HN.out.1
    have hN2 := HN.out.2.1
    have hN3 := HN.out.2.2
    by_cases hjN : j < N
    · obtain ⟨x, hx⟩ : ∃ x, l[j]? = some x := ⟨l[j]'(by omega), List.getElem?_eq_getElem (by omega)⟩
      obtain ⟨g, k, u, rfl, h0, hsh, hcall⟩ := HE.out j x hx
      have c0 := HI.out.2.cell h0 (fun g => g)
      have htk : (l.take (j + 1)).flatMap (bxL d true) = (l.take j).flatMap (bxL d true) ++ bxL d true x := by
        rw [List.take_add_one, hx]
        simp
      have hle : ((l.take (j + 1)).flatMap (bxL d true)).length ≤ (l.flatMap (bxL d true)).length := by
        conv => rhs; rw [← List.take_append_drop (j + 1) l]
        rw [List.flatMap_append, List.length_append]
        omega
      have HC : Hid _ := hcall w2 a' n' c' _ HI.out.2 HI.out.1 (by
        rw [htk, List.length_append] at hle
        simp only [List.length_append]
        omega)
      have HX : Hid (j < N ∧ (l.take (j + 1)).flatMap (bxL d true) = (l.take j).flatMap (bxL d true) ++ bxL d true x) := ⟨hjN, htk⟩
      have i1 : (j : Int) < (N : Int) := by omega
      have i0 : (0 : Int) ≤ (j : Int) := by omega
      have i4 : j ≤ 1048576 := by omega
      clear h0 hcall hNl hN2 hN3 hjN hj hx htk hle HI HE
      rcases hsh with rfl | ⟨T, y, rfl⟩
      all_goals
        go_wp2_with fail
        refine (show Calls Tryz.prog 58 _ _ _ from HC.out).mono ?_
        rintro e w3 ⟨a3, n3, c3, rfl, G3⟩
        have HF : Hid (BnAt w3 w0.heap.size (.slice a3 n3 c3) (ns ++ (l.take (j + 1)).flatMap (bxL d true)) ∧ Only (fun _ => False) w0 w3) := by
          rw [HX.out.2, ← List.append_assoc]
          exact G3.out
        clear HC G3 c0
        go_wp2
        go_roundw
        case rel => exact ⟨j + 1, a3, n3, c3, by go_num, by have := HX.out.1; omega, rfl, HF⟩
        case measure => simp only [vuOf]; have := HX.out.1; omega
    · obtain rfl : j = N := by omega
      have i1 : ¬ (j : Int) < (j : Int) := by omega
      have hI := HI.out
      rw [show l.take j = l from by rw [hNl]; exact List.take_length] at hI
      have HF : Hid (BnAt w2 w0.heap.size (.slice a' n' c') (ns ++ l.flatMap (bxL d true)) ∧ Only (fun _ => False) w0 w2) := hI
      clear HI hI hNl hN2 hN3 hjN hj HE
      go_wp2
      go_ret
      exact ⟨a', n', c', rfl, HF⟩
end Go.Proofs.YtllpacppedobjaaGreatDoor
namespace Go.Proofs.YtllpacppedobjaaGreatDoor
open Go.RowKit
set_option linter.unusedSimpArgs false
set_option linter.unusedVariables false

attribute [local go_sem] Oper.semAt_some

/-- The block in which the numbers lie stands. -/
def KpP (Pb : Nat) (W W' : World) : Prop := W'.heap[Pb]? = W.heap[Pb]?
def intEnc (x : Int) : Array Value := #[.int .i64 x]
theorem take_succ_getD (zs : List Int) (k : Nat) (h : k < zs.length) : zs.take (k + 1) = zs.take k ++ [zs.getD k 0] := by
  rw [List.take_succ_eq_append_getElem h]
  simp [List.getD, h]
/-- Numbers in memory: nil, or cells of the block Pb. -/
def IntsIn (w : World) (Pb : Nat) (sv : Value) (zs : List Int) : Prop :=
  (sv = .slice none 0 0 ∧ zs = []) ∨ ∃ off cap, sv = .slice (some ⟨Pb, off, none⟩) zs.length cap ∧ ∀ j, j < zs.length → w.cell? ⟨Pb, off + j, none⟩ = some (.int .i64 (zs.getD j 0))

set_option maxRecDepth 100000 in
set_option maxHeartbeats 2000000 in
theorem values_core (m : Nat) (l Bs Pb off cap : Nat) (zs : List Int) (hlen : zs.length ≤ maxLen) (J Jx : List Int → World → Prop)
    (hY : ∀ k W, k < zs.length → J (zs.take k) W → YieldAt Fence.wide (m - 1) Tryz.prog l (intEnc (zs.getD k 0)) W fun e W' =>
      (e = .returned (.bool true) ∧ J (zs.take k ++ [zs.getD k 0]) W' ∧ KpP Pb W W') ∨ (e = .returned (.bool false) ∧ Jx (zs.take k ++ [zs.getD k 0]) W'))
    (W : World) (hBs : W.cell? ⟨Bs, 0, none⟩ = some (.slice (some ⟨Pb, off, none⟩) zs.length cap)) (hc : ∀ j, j < zs.length → W.cell? ⟨Pb, off + j, none⟩ = some (.int .i64 (zs.getD j 0))) (h0 : J [] W) :
    CallsIn Fence.wide m Tryz.prog 57 #[.func (.yield l) #[] #[], .pointer (some ⟨Bs, 0, none⟩)] W fun e W' => (∃ v, e = .returned v) ∧ (J zs W' ∨ ∃ k, k ≤ zs.length ∧ Jx (zs.take k) W') := by
  unfold maxLen at hlen
  refine callsIn_of_wp Tryz.func57 rfl trivial ?_ rfl
  simp only [Tryz.ntmps57, List.size_toArray, List.length_cons, List.length_nil, Nat.reduceAdd, Nat.reduceSub, Array.replicate_succ, Array.replicate_zero, List.push_toArray, List.append_toArray, List.nil_append, List.cons_append]
  gi_wp2
  gi_loopw [7] (fun i wr => ∃ k : Nat, k ≤ zs.length ∧ i = .int .i64 k ∧ J (zs.take k) wr ∧ KpP Pb W wr) (fun i _ => zs.length - (intOf i).toNat)
  case atStart => exact ⟨0, Nat.zero_le _, rfl, h0, rfl⟩
  case round =>
    obtain ⟨k, hk, rfl, hJ, hkp⟩ := hrel
    by_cases hlt : k < zs.length
    · obtain ⟨fn, tmps, assign, body, hyr, hR⟩ := hY k wr hlt hJ
      have hcx : wr.cell? ⟨Pb, off + k, none⟩ = some (.int .i64 (zs.getD k 0)) := (World.cell?_of_block (w := W) (show wr.heap[Pb]? = W.heap[Pb]? from hkp)).trans (hc k hlt)
      have hj0 : (0 : Int) ≤ (k : Int) := Int.natCast_nonneg _
      have hj1 : (k : Int) < (zs.length : Int) := by omega
      have HT := take_succ_getD zs k hlt
      obtain ⟨z, hz⟩ : ∃ z, z = zs.getD k 0 := ⟨_, rfl⟩
      rw [← hz] at hyr hR hcx HT
      have HT' : Hid _ := HT
      have HKP : Hid (KpP Pb W wr) := hkp
      unfold intEnc at hyr
      clear hY hc h0 hBs hkp hz HT hJ
      gi_wp2
      refine ⟨fun h => (by simp [Fence.wide] at h), hR.mono ?_⟩
      rintro e W3 (⟨rfl, hJ3, hk3⟩ | ⟨rfl, hJx3⟩)
      · have HK4 : Hid (KpP Pb W W3) := Eq.trans hk3 HKP.out
        clear hk3
        gi_wp2
        go_roundw
        case rel => exact ⟨k + 1, by omega, by simp, by rw [HT'.out]; exact hJ3, HK4.out⟩
        case measure => simp [intOf]; omega
      · gi_wp2
        refine bodyPost_ret (results_none rfl _ _ _) rfl ?_
        exact ⟨⟨_, rfl⟩, .inr ⟨k + 1, by omega, by rw [HT'.out]; exact hJx3⟩⟩
    · obtain rfl : k = zs.length := by omega
      rw [List.take_length] at hJ
      clear hY hc h0 hBs hkp
      gi_wp2
      go_end0
      exact ⟨⟨_, rfl⟩, .inl hJ⟩
set_option maxRecDepth 100000 in
set_option maxHeartbeats 1000000 in
theorem values_none (m l Bs : Nat) (J : World → Prop) (W : World) (hBs : W.cell? ⟨Bs, 0, none⟩ = some (.slice none 0 0)) (h0 : J W) :
    CallsIn Fence.wide m Tryz.prog 57 #[.func (.yield l) #[] #[], .pointer (some ⟨Bs, 0, none⟩)] W fun e W' => (∃ v, e = .returned v) ∧ J W' := by
  refine callsIn_of_wp Tryz.func57 rfl trivial ?_ rfl
  simp only [Tryz.ntmps57, List.size_toArray, List.length_cons, List.length_nil, Nat.reduceAdd, Nat.reduceSub, Array.replicate_succ, Array.replicate_zero, List.push_toArray, List.append_toArray, List.nil_append, List.cons_append]
  gi_wp2
  gi_loopw [7] (fun i wr => i = .int .i64 0 ∧ J wr) (fun _ _ => 0)
  case atStart => exact ⟨rfl, h0⟩
  case round =>
    obtain ⟨rfl, hJ⟩ := hrel
    gi_wp2
    go_end0
    exact ⟨⟨_, rfl⟩, hJ⟩
set_option maxRecDepth 100000 in
set_option maxHeartbeats 1000000 in
/-- slices.Values boxes the slice; the function that it answers has the box. -/
theorem values_in (m : Nat) (a : Option Addr) (n c : Nat) (w : World) :
    CallsIn Fence.wide m Tryz.prog 41 #[.slice a n c] w fun e w' => e = .returned (.func (.func 57) #[] #[.pointer (some ⟨w.heap.size, 0, none⟩)]) ∧ w' = w.alloc (.cells #[.slice a n c] 37) := by
  refine callsIn_of_wp Tryz.func41 rfl trivial ?_ rfl
  simp only [Tryz.ntmps41, List.size_toArray, List.length_cons, List.length_nil, Nat.reduceAdd, Nat.reduceSub, Array.replicate_succ, Array.replicate_zero, List.push_toArray, List.append_toArray, List.nil_append, List.cons_append]
  gi_wp2
  go_ret
  exact ⟨rfl, rfl⟩
/-- .. and gives the numbers in their order. -/
theorem values_stops (m Bs Pb : Nat) (sv : Value) (zs : List Int) (w : World) (hl : zs.length ≤ maxLen) (hBs : w.cell? ⟨Bs, 0, none⟩ = some sv) (hi : IntsIn w Pb sv zs) (hP : Pb < w.heap.size) :
    SeqStopsK Fence.wide m Tryz.prog 57 #[.pointer (some ⟨Bs, 0, none⟩)] intEnc (KpP Pb) (fun ys => ys = zs) (fun _ => True) zs.length w := fun lo J Jx W hW _ _ hY h0 => by
  have hBl := World.block_lt_of_cell? w _ hBs
  have hBs' : W.cell? ⟨Bs, 0, none⟩ = some sv := (hW.cell (p := ⟨Bs, 0, none⟩) hBl).trans hBs
  rcases hi with ⟨rfl, rfl⟩ | ⟨off, cap, rfl, hc⟩
  · exact (values_none m lo Bs (J []) W hBs' h0).mono fun e W' ⟨he, hj⟩ => ⟨he, .inl ⟨_, rfl, hj⟩⟩
  · refine (values_core m lo Bs Pb off cap zs hl J Jx (fun k W1 hk hJ => ?_) W hBs' (fun j hj => (hW.cell (p := ⟨Pb, off + j, none⟩) hP).trans (hc j hj)) h0).mono ?_
    · exact hY (zs.take k) (zs.getD k 0) W1 hJ (by rw [List.length_take]; omega)
    · rintro e W' ⟨he, hj | ⟨k, _, hj⟩⟩
      · exact ⟨he, .inl ⟨_, rfl, hj⟩⟩
      · exact ⟨he, .inr ⟨_, trivial, hj⟩⟩
/-- a number by its place -/
def nthEnc (zs : List Int) (k : Nat) : Array Value := #[.int .i64 (zs.getD k 0)]
/-- slices.Values gives the numbers, each by its place; where it is stopped, a beginning of them was given. -/
theorem values_pre (m Bs Pb : Nat) (sv : Value) (zs : List Int) (w : World) (hl : zs.length ≤ maxLen) (hBs : w.cell? ⟨Bs, 0, none⟩ = some sv) (hi : IntsIn w Pb sv zs) (hP : Pb < w.heap.size) :
    SeqStopsK Fence.wide m Tryz.prog 57 #[.pointer (some ⟨Bs, 0, none⟩)] (nthEnc zs) (KpP Pb) (fun ys => ys = List.range zs.length) (fun ys => ys = List.range ys.length) zs.length w := fun lo J Jx W hW _ _ hY h0 => by
  have hBl := World.block_lt_of_cell? w _ hBs
  have hBs' : W.cell? ⟨Bs, 0, none⟩ = some sv := (hW.cell (p := ⟨Bs, 0, none⟩) hBl).trans hBs
  rcases hi with ⟨rfl, rfl⟩ | ⟨off, cap, rfl, hc⟩
  · exact (values_none m lo Bs (J []) W hBs' h0).mono fun e W' ⟨he, hj⟩ => ⟨he, .inl ⟨_, rfl, hj⟩⟩
  · have key : ∀ k, k < zs.length → List.range (zs.take k ++ [zs.getD k 0]).length = List.range (zs.take k).length ++ [k] := fun k hk => by
      rw [List.length_append, List.length_take, Nat.min_eq_left (by omega)]
      exact List.range_succ
    refine (values_core m lo Bs Pb off cap zs hl (fun ys W => J (List.range ys.length) W) (fun ys W => Jx (List.range ys.length) W) (fun k W1 hk hJ => ?_) W hBs' (fun j hj => (hW.cell (p := ⟨Pb, off + j, none⟩) hP).trans (hc j hj)) h0).mono ?_
    · have := hY (List.range (zs.take k).length) k W1 hJ (by rw [List.length_range, List.length_take]; omega)
      simp only [key k hk]
      exact this
    · rintro e W' ⟨he, hj | ⟨k, _, hj⟩⟩
      · exact ⟨he, .inl ⟨_, rfl, hj⟩⟩
      · exact ⟨he, .inr ⟨_, by simp, hj⟩⟩
end Go.Proofs.YtllpacppedobjaaGreatDoor
namespace Go.Proofs.YtllpacppedobjaaGreatDoor
open Go.RowKit Go.Lib
set_option linter.unusedSimpArgs false
set_option linter.unusedVariables false
theorem bx_of (d : Nat) (H1 : BxC d 42 false) (H2 : BxC d 58 true) : BxC (d + 1) 42 false := by
  intro t v w0 S h hok hsm w ao n cap ns o hw hb
  rcases h with ⟨h1, _, rfl⟩ | ⟨h1, _, rfl⟩ | ⟨h1, _, rfl⟩ | ⟨h1, _, rfl⟩ | ⟨h1, _, rfl⟩ | ⟨h1, la, lc, rfl, hc, hel⟩
  · rw [show bxL (d + 1) false t = [] from by unfold bxL; rw [if_neg (by omega), if_neg (by omega), if_neg (by omega)], List.append_nil]
    exact (bx_int _ w ao n cap).mono fun e w' g => ⟨ao, n, cap, g.1, hw.only g.2 (fun _ _ _ g => g), o.trans g.2 (fun _ _ g => g)⟩
  · rw [show bxL (d + 1) false t = [] from by unfold bxL; rw [if_neg (by omega), if_neg (by omega), if_neg (by omega)], List.append_nil]
    exact (bx_str _ w ao n cap).mono fun e w' g => ⟨ao, n, cap, g.1, hw.only g.2 (fun _ _ _ g => g), o.trans g.2 (fun _ _ g => g)⟩
  · rw [show bxL (d + 1) false t = [] from by unfold bxL; rw [if_neg (by omega), if_neg (by omega), if_neg (by omega)], List.append_nil]
    exact (bx_bool _ w ao n cap).mono fun e w' g => ⟨ao, n, cap, g.1, hw.only g.2 (fun _ _ _ g => g), o.trans g.2 (fun _ _ g => g)⟩
  · rw [show bxL (d + 1) false t = [t.n] from by unfold bxL; rw [if_pos h1]]
    exact bx_box t.n w0 w ao n cap ns o hw (by omega)
  · exfalso
    unfold okV at hok
    rw [if_neg (by omega)] at hok
    unfold alB at hok
    rw [if_neg (by omega), if_neg (by omega), if_neg (by omega)] at hok
    simp at hok
    omega
  · obtain ⟨e, hs⟩ := hsm
    have hlen := hs.len
    have hparts := hs.parts
    unfold okV at hok
    rw [if_pos h1, List.all_eq_true] at hok
    rcases h1 with h4 | h5
    · have e5 : decide (t.k = 5) = false := decide_eq_false (by omega)
      rw [e5] at hel hok
      rw [show bxL (d + 1) false t = t.l.flatMap (bxL d false) from by unfold bxL; rw [if_neg (by omega), if_pos h4]] at hb ⊢
      rw [if_pos h4]
      exact bx_list d H1 t.l la lc w0 S hel hok hparts hlen w ao n cap ns o hw hb
    · have e5 : decide (t.k = 5) = true := decide_eq_true h5
      rw [e5] at hel hok
      rw [show bxL (d + 1) false t = t.l.flatMap (bxL d true) from by unfold bxL; rw [if_neg (by omega), if_neg (by omega), if_pos h5]] at hb ⊢
      rw [if_neg (by omega)]
      exact bx_quot d H2 t.l la lc w0 S hel hok hparts hlen w ao n cap ns o hw hb
set_option maxRecDepth 100000 in
theorem bi_push (u : Value) (hu : u = .nilIface ∨ ∃ T y, u = .iface T y) (Q : List Int) (w0 w : World) (ao : Option Addr) (n cap : Nat) (HC0 : ∀ w1, Only (fun _ => False) w w1 → Calls Tryz.prog 42 #[.slice ao n cap, u] w1 fun e w' => ∃ ao' n' cap', e = .returned (.slice ao' n' cap') ∧ Hid (BnAt w' w0.heap.size (.slice ao' n' cap') Q ∧ Only (fun _ => False) w0 w')) :
    Calls Tryz.prog 58 #[.slice ao n cap, .iface 99 (.agg #[u])] w fun e w' => ∃ ao' n' cap', e = .returned (.slice ao' n' cap') ∧ Hid (BnAt w' w0.heap.size (.slice ao' n' cap') Q ∧ Only (fun _ => False) w0 w') := by
  have HC : Hid (∀ w1, Only (fun _ => False) w w1 → Calls Tryz.prog 42 #[.slice ao n cap, u] w1 fun e w' => ∃ ao' n' cap', e = .returned (.slice ao' n' cap') ∧ Hid (BnAt w' w0.heap.size (.slice ao' n' cap') Q ∧ Only (fun _ => False) w0 w')) := HC0
  have hPush := va_hit 99 86 _ Tryz.underlying99 (by intro m h; cases h)
  clear HC0
  rcases hu with rfl | ⟨T, y, rfl⟩
  all_goals
    go_enter Tryz.func58, Tryz.ntmps58
    go_wp2_with fail
    refine (show Calls Tryz.prog 42 _ _ _ from HC.out _ (by repeat' first | exact Only.refl _ _ | apply Only.alloc)).mono ?_
    rintro e w1 ⟨a1, n1, c1, rfl, G1⟩
    clear HC
    go_wp2
    go_ret
    exact ⟨a1, n1, c1, rfl, G1⟩
set_option maxRecDepth 100000 in
theorem bi_call (s : ByteArray) (w : World) (ao : Option Addr) (n cap : Nat) :
    Calls Tryz.prog 58 #[.slice ao n cap, .iface 102 (.agg #[.string s])] w fun e w' => e = .returned (.slice ao n cap) ∧ Only (fun _ => False) w w' := by
  have mPush := va_miss 102 99 86 _ Tryz.underlying99 (by intro m h; cases h) (by decide) _ vzero_Push
  have O : Hid (Only (fun _ => False) w w) := Only.refl _ _
  go_enter Tryz.func58, Tryz.ntmps58
  go_wp2
  go_ret
  exact ⟨rfl, by repeat' first | exact O.out | apply Only.alloc⟩
theorem bi_of (d : Nat) (H : BxC d 42 false) : BxC (d + 1) 58 true := by
  intro t v w0 S h hok hsm w ao n cap ns o hw hb
  rcases h with ⟨h1, _, rfl⟩ | ⟨h1, _, _⟩ | ⟨h7, h8, u, rfl, hu⟩
  · rw [show bxL (d + 1) true t = [] from if_pos h1, List.append_nil]
    exact (bi_call _ w ao n cap).mono fun e w' g => ⟨ao, n, cap, g.1, hw.only g.2 (fun _ _ _ g => g), o.trans g.2 (fun _ _ g => g)⟩
  · rw [show okV (d + 1) true t = false from (if_neg (by omega)).trans (if_pos h1)] at hok
    exact absurd hok (by decide)
  · rw [show okV (d + 1) true t = okV d false t from (if_neg h7).trans (if_neg h8)] at hok
    rw [show bxL (d + 1) true t = bxL d false t from if_neg h7] at hb ⊢
    exact bi_push u hu.shape _ w0 w ao n cap (fun w1 o1 => H t _ w0 S hu hok hsm w1 ao n cap ns (o.trans o1 (fun _ _ g => g)) (hw.only o1 (fun _ _ _ g => g)) hb)
theorem bx_all : ∀ (D d : Nat), d < D → BxC d 42 false ∧ BxC d 58 true
  | 0, d, h => by omega
  | D + 1, d, h => by
    cases d with
    | zero => exact ⟨fun t v w0 S h => h.elim, fun t v w0 S h => h.elim⟩
    | succ d =>
      have ih := bx_all D d (by omega)
      exact ⟨bx_of d ih.1 ih.2, bi_of d ih.1⟩
theorem bflat_le {α β : Type} (f : α → List β) (g : α → Nat) (l : List α) (h : ∀ x ∈ l, (f x).length ≤ g x) : (l.flatMap f).length ≤ (l.map g).sum := by
  induction l with
  | nil => simp
  | cons x l ih =>
    simp only [List.flatMap_cons, List.length_append, List.map_cons, List.sum_cons]
    have h1 := h x (List.mem_cons_self ..)
    have h2 := ih (fun y hy => h y (List.mem_cons_of_mem _ hy))
    omega
/-- there are no more boxes than values -/
theorem bx_sz : ∀ (d : Nat) (i : Bool) (t : Vt), (bxL d i t).length ≤ sz d i t
  | 0, _, _ => Nat.zero_le _
  | d + 1, true, t => by
    unfold bxL sz
    by_cases h7 : t.k = 7
    · rw [if_pos h7, if_pos (.inl h7)]; exact Nat.zero_le _
    · rw [if_neg h7]
      by_cases h8 : t.k = 8
      · rw [if_pos (.inr h8)]
        cases d with
        | zero => exact Nat.zero_le _
        | succ d => unfold bxL; rw [if_neg (by omega), if_neg (by omega), if_neg (by omega)]; exact Nat.zero_le _
      · rw [if_neg (by omega)]; exact bx_sz d false t
  | d + 1, false, t => by
    unfold bxL sz
    split
    · simp
    split
    · rename_i h6 h4
      rw [decide_eq_false (show ¬ t.k = 5 by omega)]
      have := bflat_le (bxL d false) (sz d false) t.l (fun x _ => bx_sz d false x)
      omega
    split
    · rename_i h6 h4 h5
      rw [decide_eq_true h5]
      have := bflat_le (bxL d true) (sz d true) t.l (fun x _ => bx_sz d true x)
      omega
    · simp
theorem sd_bx {d : Nat} {t : Vt} (h : sdB d t = true) : okV d false t = true ∧ (bxL d false t).length ≤ 1024 := by
  unfold sdB msB at h
  simp only [Bool.and_eq_true, decide_eq_true_eq] at h
  exact ⟨h.1.1, Nat.le_trans (bx_sz d false t) (by omega)⟩
/-- what Boxes answers: an iterator over the numbers zs -/
def BoxIs (z : Int) (zs : List Int) (w : World) (e : Ending) (w' : World) : Prop :=
  ∃ Bs Pb sv, e = .returned (.tuple #[.func (.func 57) #[] #[.pointer (some ⟨Bs, 0, none⟩)], .int .i64 z]) ∧ w'.cell? ⟨Bs, 0, none⟩ = some sv ∧ IntsIn w' Pb sv zs ∧ (w.heap.size ≤ Bs ∧ Bs < w'.heap.size) ∧ (w.heap.size ≤ Pb ∧ Pb < w'.heap.size) ∧ Only (fun _ => False) w w'
theorem BnAt.ints {w : World} {B : Nat} {v : Value} {ns : List Int} (h : BnAt w B v ns) : (v = .slice none 0 0 ∧ ns = []) ∨ ∃ Pb, B ≤ Pb ∧ Pb < w.heap.size ∧ IntsIn w Pb v ns := by
  rcases h.2 with ⟨h1, h2⟩ | ⟨g, cap, cur, h1, hB, hg, rest⟩
  · exact .inl ⟨h1, List.eq_nil_of_length_eq_zero h2⟩
  · refine .inr ⟨g, hB, (Array.getElem?_eq_some_iff.1 hg).1, .inr ⟨0, cap, h1, fun j hj => ?_⟩⟩
    have h' : w.ownsRow B 3 1 v ns.length (ns.map (Value.int .i64)) := h
    have hc := h'.cells (g := g) (by rw [h1]; rfl) j (.int .i64 (ns.getD j 0)) (by simp [List.getD, hj])
    rw [addr_ad] at hc
    rw [Nat.zero_add]
    exact hc
set_option maxRecDepth 100000 in
theorem vboxes_any {d : Nat} {t : Vt} {v : Value} {w : World} {S : Nat → Prop} (h : TiAt w S d false t v) (hS : ∀ b, S b → b < w.heap.size) (hsm : ∃ e, SmT e t) (hT : Tb w) : Calls Tryz.prog 24 #[v] w fun e w' => BoxIs (if sdB d t then 0 else 1) (if sdB d t then bxL d false t else []) w e w' := by
  have HC : Hid _ := vcheck_any h hS hsm hT
  have HV : Hid (∀ a n c w, Calls Tryz.prog 41 #[.slice a n c] w fun e w' => e = .returned (.func (.func 57) #[] #[.pointer (some ⟨w.heap.size, 0, none⟩)]) ∧ w' = w.alloc (.cells #[.slice a n c] 37)) := fun a n c w => (callsIn_wide (n := 5)).1 (values_in 5 a n c w)
  cases hZ : sdB d t with
  | false =>
    rw [hZ] at HC
    have HP : Hid (∀ w1, Only (fun _ => False) w w1 → BoxIs 1 [] w (.returned (.tuple #[.func (.func 57) #[] #[.pointer (some ⟨w1.heap.size, 0, none⟩)], .int .i64 1])) (w1.alloc (.cells #[.slice none 0 0] 37))) := fun w1 o => ⟨w1.heap.size, w1.heap.size, .slice none 0 0, rfl, (vblk_cells (valloc_at _ _ _ rfl) 0).trans rfl, .inl ⟨rfl, rfl⟩, ⟨o.size, by simp⟩, ⟨o.size, by simp⟩, o.alloc _⟩
    clear h hS hsm hT hZ
    go_enter Tryz.func24, Tryz.ntmps24
    go_wp2_with fail
    refine (show Calls Tryz.prog 9 _ _ _ from HC.out).mono ?_
    rintro e w1 ⟨rfl, o1⟩
    have O1 : Hid (Only (fun _ => False) w w1) := o1
    clear HC o1
    go_wp2_with fail
    refine (show Calls Tryz.prog 41 _ _ _ from HV.out _ _ _ _).mono ?_
    rintro e w2 ⟨rfl, rfl⟩
    clear HV
    go_wp2
    go_ret2
    exact HP.out _ O1.out
  | true =>
    rw [hZ] at HC
    obtain ⟨hok, hle⟩ := sd_bx hZ
    have HB : Hid (∀ w1, Only (fun _ => False) w w1 → Calls Tryz.prog 42 #[.slice none 0 0, v] w1 fun e w' => ∃ ao' n' cap', e = .returned (.slice ao' n' cap') ∧ Hid (BnAt w' w1.heap.size (.slice ao' n' cap') (bxL d false t) ∧ Only (fun _ => False) w1 w')) := fun w1 o1 => by
      have := (bx_all (d + 1) d (by omega)).1 t v w1 S (h.only o1 (fun _ _ g => g)) hok hsm w1 none 0 0 [] (Only.refl _ _) (bn_nil _ _) (by simp; omega)
      rwa [List.nil_append] at this
    have HP : Hid (∀ w1 w2 ao' n' cap', Only (fun _ => False) w w1 → BnAt w2 w1.heap.size (.slice ao' n' cap') (bxL d false t) → Only (fun _ => False) w1 w2 → BoxIs 0 (bxL d false t) w (.returned (.tuple #[.func (.func 57) #[] #[.pointer (some ⟨w2.heap.size, 0, none⟩)], .int .i64 0])) (w2.alloc (.cells #[.slice ao' n' cap'] 37))) := fun w1 w2 ao' n' cap' o1 hb o2 => by
      have o3 : Only (fun _ => False) w2 (w2.alloc (.cells #[.slice ao' n' cap'] 37)) := (Only.refl _ _).alloc _
      have hc : (w2.alloc (.cells #[.slice ao' n' cap'] 37)).cell? ⟨w2.heap.size, 0, none⟩ = some (.slice ao' n' cap') := (vblk_cells (valloc_at _ _ _ rfl) 0).trans rfl
      have l1 := o1.size
      have l2 := o2.size
      rcases (hb.only o3 (fun _ _ _ g => g)).ints with ⟨h1, h2⟩ | ⟨Pb, p1, p2, p3⟩
      · exact ⟨_, w2.heap.size, _, rfl, hc, .inl ⟨h1, h2⟩, ⟨by omega, by simp⟩, ⟨by omega, by simp⟩, (o1.trans o2 (fun _ _ g => g)).alloc _⟩
      · exact ⟨_, Pb, _, rfl, hc, p3, ⟨by omega, by simp⟩, ⟨by omega, p2⟩, (o1.trans o2 (fun _ _ g => g)).alloc _⟩
    clear h hS hsm hT hZ hok hle
    go_enter Tryz.func24, Tryz.ntmps24
    go_wp2_with fail
    refine (show Calls Tryz.prog 9 _ _ _ from HC.out).mono ?_
    rintro e w1 ⟨rfl, o1⟩
    have O1 : Hid (Only (fun _ => False) w w1) := o1
    clear HC o1
    go_wp2_with fail
    refine (show Calls Tryz.prog 42 _ _ _ from HB.out _ O1.out).mono ?_
    rintro e w2 ⟨a2, n2, c2, rfl, G2⟩
    clear HB
    go_wp2_with fail
    refine (show Calls Tryz.prog 41 _ _ _ from HV.out _ _ _ _).mono ?_
    rintro e w3 ⟨rfl, rfl⟩
    clear HV
    go_wp2
    go_ret2
    exact HP.out _ _ _ _ _ O1.out G2.out.1 G2.out.2
end Go.Proofs.YtllpacppedobjaaGreatDoor
namespace Go.Proofs.YtllpacppedobjaaGreatDoor
open Go.RowKit
set_option linter.unusedSimpArgs false
set_option linter.unusedVariables false

attribute [local go_sem] Oper.semAt_some

theorem ownsRow_base {w : World} {B B' e size n : Nat} {v : Value} {xs : List Value} (h : w.ownsRow B e size v n xs) (hb : B' ≤ B) : w.ownsRow B' e size v n xs := by
  refine ⟨h.1, h.2.imp id ?_⟩
  rintro ⟨g, cap, cur, h1, h2, rest⟩
  exact ⟨g, cap, cur, h1, by omega, rest⟩
theorem Below.only {w w' : World} {B : Nat} (h : Below B w w') : Only (fun i => B ≤ i) w w' := ⟨h.os, h.tape, h.output, h.size, fun k hk hn => h.block k (by omega)⟩
theorem results_cell2 {fn : Func} {p u : Tmp} {t1 t2 : TypeId} (h : fn.results = #[.cell p t1, .cell u t2]) (tmps : Array Value) (P : Program) (w : World) :
    (results fn tmps).run P w = ((asAddr (tmps.getD p undef)).run P w).andThen fun a w₁ => ((loadVar t1 a).run P w₁).andThen fun v w₂ => ((asAddr (tmps.getD u undef)).run P w₂).andThen fun b w₃ => ((loadVar t2 b).run P w₃).andThen fun v' w₄ => .ok (.tuple #[v, v']) w₄ := by
  simp only [results, h]
  simp [Sem.run_bind, Result.andThen]
theorem load_ints (b : Nat) (v : Value) (w : World) (h : w.cell? ⟨b, 0, none⟩ = some v) : (loadVar 37 ⟨b, 0, none⟩).run Tryz.prog w = .ok v w := by go_simp
theorem load_bool (b : Nat) (v : Value) (w : World) (h : w.cell? ⟨b, 0, none⟩ = some v) : (loadVar 4 ⟨b, 0, none⟩).run Tryz.prog w = .ok v w := by go_simp
theorem func_not_nil (b : Nat) (w : World) : (binOp .eql 55 (.func (.func 57) #[] #[.pointer (some ⟨b, 0, none⟩)]) .nilFunc).run Tryz.prog w = .ok (.bool false) w := by kernel_rfl

set_option maxRecDepth 100000 in
set_option maxHeartbeats 2000000 in
theorem boxes_core (zs : List Int) (hz : zs.length ≤ 1024) (z : Int) (v : Value) (w : World) (hv : v = .nilIface ∨ ∃ T y, v = .iface T y) (hP : ∀ w1, Only (fun _ => False) w w1 → CallsIn Fence.wide 5 Tryz.prog 24 #[v] w1 (BoxIs z zs w1)) :
    CallsIn Fence.wide 6 Tryz.prog 13 #[v] w fun e w' => ∃ v, e = .returned (.tuple #[v, .bool true]) ∧ w'.ownsRow w.heap.size 3 1 v zs.length (zs.map (Value.int .i64)) ∧ Only (fun _ => False) w w' := by
  obtain ⟨i0, hi, hz0, hz1, hz2⟩ := vinfo_parts bninfo
  refine callsIn_of_wp_marks Tryz.func13 rfl trivial ?_ rfl
  simp only [Tryz.ntmps13, List.size_toArray, List.length_cons, List.length_nil, Nat.reduceAdd, Nat.reduceSub, Array.replicate_succ, Array.replicate_zero, List.push_toArray, List.append_toArray, List.nil_append, List.cons_append]
  gi_wp2_with fail
  have HPc := hP _ (((Only.refl (fun _ => False) w).alloc (.cells #[.slice none 0 0] 37)).alloc (.cells #[.bool false] 4))
  clear hP
  obtain ⟨wA, hwA⟩ : ∃ x, x = (w.alloc (.cells #[.slice none 0 0] 37)).alloc (.cells #[.bool false] 4) := ⟨_, rfl⟩
  have hA1 : wA.heap[w.heap.size]? = some (.cells #[.slice none 0 0] 37 (0, 0)) := by rw [hwA]; exact heap_alloc2_old w _ _
  have hA2 : wA.heap[w.heap.size + 1]? = some (.cells #[.bool false] 4 (0, 0)) := by rw [hwA]; exact heap_alloc2_new w _ _
  have oA : Only (fun _ => False) w wA := by rw [hwA]; exact ((Only.refl _ w).alloc _).alloc _
  have sA : wA.heap.size = w.heap.size + 2 := by rw [hwA]; simp
  rw [← hwA] at HPc ⊢
  clear hwA
  refine ⟨trivial, HPc.mono ?_⟩
  rintro e w2 ⟨Bs, Pb, lv, rfl, hb, hin, hBs0, hPb0, ho2⟩
  have hPb := hPb0.2
  clear hBs0 hPb0
  have s2 := ho2.size
  obtain ⟨wl, hwl⟩ : ∃ x, x = w2.alloc (.cells #[.slice none 0 0] 37) := ⟨_, rfl⟩
  have ol : Only (fun _ => False) w2 wl := by rw [hwl]; exact (Only.refl _ w2).alloc _
  have sl : wl.heap.size = w2.heap.size + 1 := by rw [hwl]; simp
  have bl : Boxed wl w2.heap.size 37 (.slice none 0 0) := by rw [hwl]; exact Boxed.new w2 _ _
  have hbl : wl.cell? ⟨Bs, 0, none⟩ = some lv := ol.cell hb (fun e => e)
  have hil : IntsIn wl Pb lv zs := by
    rcases hin with h | ⟨off, cap, h1, h2⟩
    · exact .inl h
    · exact .inr ⟨off, cap, h1, fun j hj => ol.cell (h2 j hj) (fun e => e)⟩
  have hl1 : wl.heap[w.heap.size]? = some (.cells #[.slice none 0 0] 37 (0, 0)) := by rw [ol.block _ (by omega) (fun e => e), ho2.block _ (by omega) (fun e => e)]; exact hA1
  have hl2 : wl.heap[w.heap.size + 1]? = some (.cells #[.bool false] 4 (0, 0)) := by rw [ol.block _ (by omega) (fun e => e), ho2.block _ (by omega) (fun e => e)]; exact hA2
  have owl : Only (fun _ => False) w wl := (oA.trans ho2 (fun _ _ e => e)).trans ol (fun _ _ e => e)
  have HW : Hid (wl = w2.alloc (.cells #[.slice none 0 0] 37)) := hwl
  have hn0 : w.heap.size + 2 ≤ w2.heap.size := by omega
  clear hwl HPc hA1 hA2 oA sA hb hin ho2 s2 ol
  have hnn := func_not_nil Bs
  gi_wp2
  clear hnn
  rw [← HW.out]
  refine wpIn_rangeFunc_ownG rfl (by omega) (gf := 57) (lb := #[.pointer (some ⟨Bs, 0, none⟩)]) rfl trivial (enters_of Tryz.func57 (by kernel_rfl) rfl)
    (values_stops 5 Bs Pb lv zs wl (by unfold maxLen; omega) hbl hil (by omega)) (fun h k => Eq.trans k h) ?hKb (Below.refl _ _) (fun _ => rfl)
    (fun pre W => (∃ v, Boxed W w2.heap.size 37 v ∧ W.ownsRow w2.heap.size 3 1 v pre.length (pre.map (Value.int .i64)) ∧ True) ∧ Below w2.heap.size wl W)
    (fun _ _ _ => False)
    (OwnFrom.and (Own.from (holdsRow_own w2.heap.size w2.heap.size 37 3 1 (fun pre : List Int => pre.length) (fun pre => pre.map (Value.int .i64)) (fun _ _ => True)) _) (ownFrom_below (by omega) (by omega)))
    (fun _ _ _ _ _ hs _ _ => hs)
    ⟨⟨_, bl, World.ownsRow_nil _ _ _ _, trivial⟩, Below.refl _ _⟩
    (fun x => { tmps := #[v, undef, .pointer (some ⟨w.heap.size, 0, none⟩), .pointer (some ⟨w.heap.size + 1, 0, none⟩), .func (.func 57) #[] #[.pointer (some ⟨Bs, 0, none⟩)], .int .i64 z, .pointer (some ⟨w2.heap.size, 0, none⟩), .int .i64 x, .tuple #[.func (.func 57) #[] #[.pointer (some ⟨Bs, 0, none⟩)], .int .i64 z], v, .tuple #[.func (.func 57) #[] #[.pointer (some ⟨Bs, 0, none⟩)], .int .i64 z], .func (.func 57) #[] #[.pointer (some ⟨Bs, 0, none⟩)], .int .i64 z, .func (.func 57) #[] #[.pointer (some ⟨Bs, 0, none⟩)], .bool false, .func (.func 57) #[] #[.pointer (some ⟨Bs, 0, none⟩)], .int .i64 x, undef, undef, undef, undef, undef, undef, undef, undef], defers := [] }) ?assign ?body ?done ?stop
  case hKb =>
    intro W l0 o o' hl0 hw0 ho1 ho2
    exact (grownBy_putObj' W l0 o').block Pb (by have := (Array.getElem?_eq_some_iff.1 hw0).1; omega) (fun e => by cases e; omega)
  case assign =>
    intro l0 x W K hK
    simp only [intEnc, List.zip_toArray, List.zip_cons_cons, List.zip_nil_right, List.foldl_toArray, List.foldl_cons, List.foldl_nil, List.setIfInBounds_toArray, List.set_cons_zero, List.set_cons_succ]
    gi_wp2
    exact hK
  case body =>
    rintro l0 pre x W ⟨⟨v, hv, hrow, _⟩, hB⟩ hlt
    have hc := hv.cell
    have hBs := hB.size
    have h1024 : ¬ (1024 : Int) < ((pre.length + 1 : Nat) : Int) := by omega
    gi_wp2_with (gi_at_builtin; refine wpListIn_append_own _ rfl _ _ 37 rfl w2.heap.size 3 i0 (.int .i64 0) 1 8 Tryz.underlying37 hi hz0 hz1 hz2 rfl (by decide) _ _ _ rfl (hrow.alloc _) ⟨W.heap.size, 0, none⟩ 1 1 [.int .i64 x] rfl rfl (cell_one_new _ _ _) (by simp [Value.oneCell']) (by unfold maxLen; omega) (by omega) (by simp; omega) ?_; intro v' w1 hown' hgrow _; obtain ⟨g', cap', rfl⟩ := ownsRow_succ hown'; obtain ⟨hv1, hv2, hr2, hk2, hb2⟩ := hv.appended (by decide) hrow (by omega) (Nat.le_refl _) hown' hgrow; have hc1 := hv1.cell; have hf1 := hv1.frozen; have hc2 := hv2.cell)
    exact ⟨hk2.from _, hb2.block Pb hPb, ⟨_, hv2, by simpa using hr2⟩, hB.trans hb2⟩
  case done =>
    rintro D ys W hD rfl ⟨⟨v, hv, hrow, _⟩, hB⟩ hK
    have hc := hv.cell
    have b1 : Boxed W w.heap.size 37 (.slice none 0 0) := (hB.block _ (by omega)).trans hl1
    have b2 : Boxed W (w.heap.size + 1) 4 (.bool false) := (hB.block _ (by omega)).trans hl2
    have c1 := b1.cell
    have f1 := b1.frozen
    obtain ⟨a, c, rfl⟩ := ownsRow_slice hrow
    have b3 : Boxed (W.setCell ⟨w.heap.size, 0, none⟩ (.slice a ys.length c)) (w.heap.size + 1) 4 (.bool false) := (Below.heap_setCell _ _ _ _ (by simp)).trans b2
    have c3 := b3.cell
    have f3 := b3.frozen
    gi_wp2
    obtain ⟨WF, hWF⟩ : ∃ x, x = (W.setCell ⟨w.heap.size, 0, none⟩ (.slice a ys.length c)).setCell ⟨w.heap.size + 1, 0, none⟩ (.bool true) := ⟨_, rfl⟩
    rw [← hWF]
    have e1 : Boxed WF w.heap.size 37 (.slice a ys.length c) := by rw [hWF]; exact (Below.heap_setCell _ _ _ _ (by simp)).trans (b1.set _)
    have e2 : Boxed WF (w.heap.size + 1) 4 (.bool true) := by rw [hWF]; exact b3.set _
    have hDW := (Array.getElem?_eq_some_iff.1 hK).1
    have hKF : WF.heap[D]? = some (.deferred (some [])) := by rw [hWF, Below.heap_setCell _ _ _ _ (by simp; omega), Below.heap_setCell _ _ _ _ (by simp; omega)]; exact hK
    have oF : Only (fun _ => False) w WF := by
      rw [hWF]
      refine (Only.setCell (Only.setCell ?_ _ _ (fun h => by simp at h)) _ _ (fun h => by simp at h; omega))
      exact owl.trans (Below.only hB) (fun k hk e => by omega)
    have hrF : WF.ownsRow w2.heap.size 3 1 (.slice a ys.length c) ys.length (ys.map (Value.int .i64)) := by
      have o1 : Only (fun k => k = w.heap.size ∨ k = w.heap.size + 1) W WF := by rw [hWF]; exact ((Only.refl _ W).setCell _ _ (fun _ => .inl rfl)).setCell _ _ (fun _ => .inr rfl)
      exact o1.owns hrow (fun k hk e => by have := (hrow.lt k hk).1; omega)
    clear hWF
    refine ⟨by simp, .inl ⟨_, _, rfl, run_takeDeferred hKF, ?_⟩⟩
    obtain ⟨WG, hWG⟩ : ∃ x, x = WF.putObj D (.deferred none) := ⟨_, rfl⟩
    have oG : Only (fun k => k = D) WF WG := by
      rw [hWG]
      exact (Only.refl _ WF).grown (grownBy_putObj' WF D _) (fun k e _ => by injection e with e; exact e.symm)
    rw [← hWG]
    have g1 := load_ints _ _ WG (oG.cell e1.cell (by simp; omega))
    have g2 := load_bool _ _ WG (oG.cell e2.cell (by simp; omega))
    refine ⟨.tuple #[.slice a ys.length c, .bool true], ?_, _, rfl, ?_, ?_⟩
    · rw [results_cell2 rfl]
      change ((loadVar 37 ⟨w.heap.size, 0, none⟩).run Tryz.prog WG).andThen (fun v w₂ => ((loadVar 4 ⟨w.heap.size + 1, 0, none⟩).run Tryz.prog w₂).andThen fun v' w₄ => Result.ok (Value.tuple #[v, v']) w₄) = Result.ok (Value.tuple #[.slice a ys.length c, .bool true]) WG
      rw [g1]
      change ((loadVar 4 ⟨w.heap.size + 1, 0, none⟩).run Tryz.prog WG).andThen (fun v' w₄ => Result.ok (Value.tuple #[.slice a ys.length c, v']) w₄) = Result.ok (Value.tuple #[.slice a ys.length c, .bool true]) WG
      rw [g2]
      rfl
    · refine ownsRow_base (oG.owns hrF (fun k hk e => ?_)) (by omega)
      subst e
      rcases hrF.2 with ⟨h1, _⟩ | ⟨g, cap, cur, h1, _, h2, _⟩
      · rw [h1] at hk
        simp [Value.ownBlock] at hk
      · rw [h1] at hk
        simp only [Value.ownBlock, Option.some.injEq] at hk
        subst hk
        rw [hKF] at h2
        cases h2
    · exact oF.trans oG (fun k hk e => by omega)
  case stop =>
    rintro D c pre W _ _ h _
    exact h.elim
end Go.Proofs.YtllpacppedobjaaGreatDoor
