import Derived.Test.YtenjollhlgjjdaaGreatDoorGaa
import Derived.Test.YtenjollhlgjjdaaGreatDoorGan
import Derived.Test.YtenjollhlgjjdaaGreatDoorGaf
import Derived.Lib.Join
/-     -/
set_option linter.unusedSimpArgs false
set_option linter.unusedVariables false
set_option maxRecDepth 100000
set_option maxHeartbeats 40000000
namespace Go.Proofs.YtenjollhlgjjdaaGreatDoor
open Go.RowKit Go.Lib
def lfT (t : Vt) : ByteArray := if t.k = 1 then ⟨(Lib.itoa t.n).toArray⟩ else if t.k = 2 then (quoR t.s).1 else flT (t.n != 0)
def wdL : Nat → Bool → Vt → List ByteArray
 | 0, _, _ => []
 | d + 1, true, t => if t.k = 7 then [t.s] else wdL d false t
 | d + 1, false, t => if t.k = 4 then ⟨#[123]⟩ :: (t.l.flatMap (wdL d false) ++ [⟨#[125]⟩]) else if t.k = 5 then ⟨#[91]⟩ :: (t.l.flatMap (wdL d true) ++ [⟨#[93]⟩]) else if t.k = 6 then [⟨#[98, 111, 120]⟩] else [lfT t]
def WdAt (w : World) (B : Nat) (v : Value) (ws : List ByteArray) : Prop := w.ownsRow B 9 1 v ws.length (ws.map Value.string)
theorem wd_nil (w : World) (B : Nat) : WdAt w B (.slice none 0 0) [] := ⟨rfl, .inl ⟨rfl, rfl⟩⟩
theorem WdAt.form {w : World} {B : Nat} {v : Value} {ws : List ByteArray} (h : WdAt w B v ws) : ∃ ao cap, v = .slice ao ws.length cap := by
 rcases h.2 with ⟨h1, h2⟩ | ⟨g, cap, cur, h1, _⟩
 ·exact ⟨_, _, by rw [h1, h2]⟩
 ·exact ⟨_, _, h1⟩
theorem WdAt.only {w w' : World} {B : Nat} {v : Value} {ws : List ByteArray} {bs : Nat → Prop} (h : WdAt w B v ws) (o : Only bs w w') (hb : ∀ b, B ≤ b → b < w.heap.size → ¬ bs b) : WdAt w' B v ws := o.owns h (fun k hk => hb k (h.lt k hk).1 (h.lt k hk).2)
theorem wdinfo : (Tryz.prog.info? 9).map (fun i => (i.zero, i.size, i.bytes)) = some (some (.string ⟨#[]⟩), 1, 16) := by kernel_rfl
theorem app_w {w : World} {B : Nat} {v : Value} {ws : List ByteArray} {s : ByteArray} (hf : WdAt w B v ws) (hB : B ≤ w.heap.size) (hl : ws.length ≤ 1048576) :
  ∃ v' w', (∀ ty, (Builtin.append_ #[56, 56] ty #[v, .slice (some ⟨w.heap.size, 0, none⟩) 1 1]).run Tryz.prog (w.alloc (.cells #[.string s] 9)) = .ok v' w') ∧ WdAt w' B v' (ws ++ [s]) ∧ Only (fun k => v.ownBlock = some k) w w' := by
 obtain ⟨i0, hi, hz0, hz1, hz2⟩ := vinfo_parts wdinfo
 obtain ⟨W, hW⟩ : ∃ W, W = w.alloc (.cells #[.string s] 9) := ⟨_, rfl⟩
 have oo : Oz w W := by rw [hW]; exact (Only.refl _ w).alloc _
 have hf2 : WdAt W B v ws := hf.only oo (fun _ _ _ h => h)
 have hblk : W.heap[w.heap.size]? = some (.cells #[.string s] 9) := by rw [hW]; exact valloc_at _ _ _ rfl
 have key := fun ty => run_append_own_at (P := Tryz.prog) W B 56 ty 9 i0 (.string ⟨#[]⟩) 1 16 Tryz.underlying56 hi hz0 hz1 hz2 rfl (by omega) v ws.length (ws.map Value.string) hf2 ⟨w.heap.size, 0, none⟩ 1 1 [.string s] rfl (by
   intro j u hj
   rw [addr_ad, vblk_cells hblk]
   simpa using hj) (by
   intro u hu
   simp only [List.mem_cons, List.not_mem_nil, or_false] at hu
   subst hu
   rfl) (by unfold maxLen; omega) (by omega) (by have := oo.size; omega)
 obtain ⟨v', w', hr, own', hg, _, hat⟩ := key 0
 refine ⟨v', w', fun ty => ?_, ?_, (oo.mono (bs' := fun k => v.ownBlock = some k) (fun _ _ h => h.elim)).trans ((Only.refl (fun k => v.ownBlock = some k) W).grown hg (fun k e _ => e)) (fun k hk e => e)⟩
 ·rw [← hW, ← hr]
  rfl
 ·unfold WdAt
  simpa using own'
def AwC (d F : Nat) (i : Bool) : Prop := ∀ (t : Vt) (v : Value) (w0 : World) (S : Nat → Prop), TiAt w0 S d i t v → okV d i t = true → (∃ e, SmT e t) → Tx w0 → ∀ (w : World) (ao : Option Addr) (n cap : Nat) (ws : List ByteArray), Oz w0 w → WdAt w w0.heap.size (.slice ao n cap) ws → ws.length + (wdL d i t).length ≤ 1000000 →
 Cz F #[.slice ao n cap, v] w fun e w' => ∃ ao' n' cap', e = .returned (.slice ao' n' cap') ∧ Hid (WdAt w' w0.heap.size (.slice ao' n' cap') (ws ++ wdL d i t) ∧ Oz w0 w')
theorem wd_app {w0 w : World} {ao : Option Addr} {n cap : Nat} {ws : List ByteArray} (s : ByteArray) (o : Oz w0 w) (h : WdAt w w0.heap.size (.slice ao n cap) ws) (hl : ws.length ≤ 1000000) (b : Nat) (hb : b = w.heap.size) :
  ∃ ao' cap' w', (∀ ty, (Builtin.append_ #[56, 56] ty #[.slice ao n cap, .slice (some ⟨b, 0, none⟩) 1 1]).run Tryz.prog (w.alloc (.cells #[.string s] 9)) = .ok (.slice ao' (ws.length + 1) cap') w') ∧ WdAt w' w0.heap.size (.slice ao' (ws.length + 1) cap') (ws ++ [s]) ∧ Oz w0 w' := by
 subst hb
 obtain ⟨v', w', hr, hw, o2⟩ := app_w (s := s) h o.size (by omega)
 obtain ⟨ao', cap', hf⟩ := hw.form
 rw [List.length_append, List.length_singleton] at hf
 subst hf
 exact ⟨ao', cap', w', hr, hw, o.trans o2 (fun b hb e => by have := (h.lt b e).1; omega)⟩
theorem aw_int (n1 : Int) (t : ByteArray) (w0 w : World) (ao : Option Addr) (n cap : Nat) (ws : List ByteArray) (HW0 : ∀ w1, Oz w0 w1 → Cz 119 #[pV 35 (.agg #[.int .i64 n1])] w1 fun e w' => e = .returned (.string t) ∧ Oz w1 w') (o : Oz w0 w) (h : WdAt w w0.heap.size (.slice ao n cap) ws) (hl : ws.length ≤ 1000000) :
  Cz 92 #[.slice ao n cap, .iface 35 (.agg #[.int .i64 n1])] w fun e w' => ∃ ao' n' cap', e = .returned (.slice ao' n' cap') ∧ Hid (WdAt w' w0.heap.size (.slice ao' n' cap') (ws ++ [t]) ∧ Oz w0 w') := by
 have HW : Hid (∀ w1, Oz w0 w1 → Cz 119 #[.iface 109 (.agg #[.iface 35 (.agg #[.int .i64 n1])])] w1 fun e w' => e = .returned (.string t) ∧ Oz w1 w') := HW0
 have mList := va_miss 35 63 41 _ Tryz.underlying63 (by intro m h; cases h) (by decide) _ zL
 have mQuot := va_miss 35 66 41 _ Tryz.underlying66 (by intro m h; cases h) (by decide) _ zQ
 have mBox := va_miss 35 69 41 _ Tryz.underlying69 (by intro m h; cases h) (by decide) _ zB
 have HH : Hid (Oz w0 w ∧ WdAt w w0.heap.size (.slice ao n cap) ws ∧ ws.length ≤ 1000000) := ⟨o, h, hl⟩
 clear HW0 o h hl
 go_enter Tryz.func92, Tryz.ntmps92
 go_wp2_with fail
 refine (show Cz 119 _ _ _ from HW.out _ (by repeat' first | exact HH.out.1 | apply Only.alloc)).mono ?_
 rintro e w1 ⟨rfl, o1⟩
 have O1 : Oz w w1 := Only.trans (by repeat' first | exact Only.refl _ _ | apply Only.alloc) o1 (fun _ _ g => g)
 obtain ⟨ao', cap', w2, hr, hw2, o2⟩ := wd_app t (HH.out.1.trans O1 (fun _ _ g => g)) (HH.out.2.1.only O1 (fun _ _ _ g => g)) HH.out.2.2 _ rfl
 have HR : Hid _ := hr
 have H2 : Hid (WdAt w2 w0.heap.size (.slice ao' (ws.length + 1) cap') (ws ++ [t]) ∧ Oz w0 w2) := ⟨hw2, o2⟩
 obtain ⟨L, hL⟩ : ∃ L, L = ws.length + 1 := ⟨_, rfl⟩
 rw [← hL] at HR H2
 clear HW o1 O1 hr hw2 o2 hL mList mQuot mBox HH
 go_wp2_with (at_builtin; refine vwpList_append_run rfl _ _ 56 rfl _ _ _ rfl rfl HR.out ?_)
 go_ret
 exact ⟨ao', L, cap', rfl, H2⟩
theorem aw_str (s1 : ByteArray) (t : ByteArray) (w0 w : World) (ao : Option Addr) (n cap : Nat) (ws : List ByteArray) (HW0 : ∀ w1, Oz w0 w1 → Cz 119 #[pV 59 (.agg #[.string s1])] w1 fun e w' => e = .returned (.string t) ∧ Oz w1 w') (o : Oz w0 w) (h : WdAt w w0.heap.size (.slice ao n cap) ws) (hl : ws.length ≤ 1000000) :
  Cz 92 #[.slice ao n cap, .iface 59 (.agg #[.string s1])] w fun e w' => ∃ ao' n' cap', e = .returned (.slice ao' n' cap') ∧ Hid (WdAt w' w0.heap.size (.slice ao' n' cap') (ws ++ [t]) ∧ Oz w0 w') := by
 have HW : Hid (∀ w1, Oz w0 w1 → Cz 119 #[.iface 109 (.agg #[.iface 59 (.agg #[.string s1])])] w1 fun e w' => e = .returned (.string t) ∧ Oz w1 w') := HW0
 have mList := va_miss 59 63 41 _ Tryz.underlying63 (by intro m h; cases h) (by decide) _ zL
 have mQuot := va_miss 59 66 41 _ Tryz.underlying66 (by intro m h; cases h) (by decide) _ zQ
 have mBox := va_miss 59 69 41 _ Tryz.underlying69 (by intro m h; cases h) (by decide) _ zB
 have HH : Hid (Oz w0 w ∧ WdAt w w0.heap.size (.slice ao n cap) ws ∧ ws.length ≤ 1000000) := ⟨o, h, hl⟩
 clear HW0 o h hl
 go_enter Tryz.func92, Tryz.ntmps92
 go_wp2_with fail
 refine (show Cz 119 _ _ _ from HW.out _ (by repeat' first | exact HH.out.1 | apply Only.alloc)).mono ?_
 rintro e w1 ⟨rfl, o1⟩
 have O1 : Oz w w1 := Only.trans (by repeat' first | exact Only.refl _ _ | apply Only.alloc) o1 (fun _ _ g => g)
 obtain ⟨ao', cap', w2, hr, hw2, o2⟩ := wd_app t (HH.out.1.trans O1 (fun _ _ g => g)) (HH.out.2.1.only O1 (fun _ _ _ g => g)) HH.out.2.2 _ rfl
 have HR : Hid _ := hr
 have H2 : Hid (WdAt w2 w0.heap.size (.slice ao' (ws.length + 1) cap') (ws ++ [t]) ∧ Oz w0 w2) := ⟨hw2, o2⟩
 obtain ⟨L, hL⟩ : ∃ L, L = ws.length + 1 := ⟨_, rfl⟩
 rw [← hL] at HR H2
 clear HW o1 O1 hr hw2 o2 hL mList mQuot mBox HH
 go_wp2_with (at_builtin; refine vwpList_append_run rfl _ _ 56 rfl _ _ _ rfl rfl HR.out ?_)
 go_ret
 exact ⟨ao', L, cap', rfl, H2⟩
theorem aw_bool (b1 : Bool) (t : ByteArray) (w0 w : World) (ao : Option Addr) (n cap : Nat) (ws : List ByteArray) (HW0 : ∀ w1, Oz w0 w1 → Cz 119 #[pV 61 (.agg #[.bool b1])] w1 fun e w' => e = .returned (.string t) ∧ Oz w1 w') (o : Oz w0 w) (h : WdAt w w0.heap.size (.slice ao n cap) ws) (hl : ws.length ≤ 1000000) :
  Cz 92 #[.slice ao n cap, .iface 61 (.agg #[.bool b1])] w fun e w' => ∃ ao' n' cap', e = .returned (.slice ao' n' cap') ∧ Hid (WdAt w' w0.heap.size (.slice ao' n' cap') (ws ++ [t]) ∧ Oz w0 w') := by
 have HW : Hid (∀ w1, Oz w0 w1 → Cz 119 #[.iface 109 (.agg #[.iface 61 (.agg #[.bool b1])])] w1 fun e w' => e = .returned (.string t) ∧ Oz w1 w') := HW0
 have mList := va_miss 61 63 41 _ Tryz.underlying63 (by intro m h; cases h) (by decide) _ zL
 have mQuot := va_miss 61 66 41 _ Tryz.underlying66 (by intro m h; cases h) (by decide) _ zQ
 have mBox := va_miss 61 69 41 _ Tryz.underlying69 (by intro m h; cases h) (by decide) _ zB
 have HH : Hid (Oz w0 w ∧ WdAt w w0.heap.size (.slice ao n cap) ws ∧ ws.length ≤ 1000000) := ⟨o, h, hl⟩
 clear HW0 o h hl
 go_enter Tryz.func92, Tryz.ntmps92
 go_wp2_with fail
 refine (show Cz 119 _ _ _ from HW.out _ (by repeat' first | exact HH.out.1 | apply Only.alloc)).mono ?_
 rintro e w1 ⟨rfl, o1⟩
 have O1 : Oz w w1 := Only.trans (by repeat' first | exact Only.refl _ _ | apply Only.alloc) o1 (fun _ _ g => g)
 obtain ⟨ao', cap', w2, hr, hw2, o2⟩ := wd_app t (HH.out.1.trans O1 (fun _ _ g => g)) (HH.out.2.1.only O1 (fun _ _ _ g => g)) HH.out.2.2 _ rfl
 have HR : Hid _ := hr
 have H2 : Hid (WdAt w2 w0.heap.size (.slice ao' (ws.length + 1) cap') (ws ++ [t]) ∧ Oz w0 w2) := ⟨hw2, o2⟩
 obtain ⟨L, hL⟩ : ∃ L, L = ws.length + 1 := ⟨_, rfl⟩
 rw [← hL] at HR H2
 clear HW o1 O1 hr hw2 o2 hL mList mQuot mBox HH
 go_wp2_with (at_builtin; refine vwpList_append_run rfl _ _ 56 rfl _ _ _ rfl rfl HR.out ?_)
 go_ret
 exact ⟨ao', L, cap', rfl, H2⟩
theorem aw_box (n1 : Int) (w0 w : World) (ao : Option Addr) (n cap : Nat) (ws : List ByteArray) (o : Oz w0 w) (h : WdAt w w0.heap.size (.slice ao n cap) ws) (hl : ws.length ≤ 1000000) :
  Cz 92 #[.slice ao n cap, .iface 69 (.agg #[.int .i64 n1])] w fun e w' => ∃ ao' n' cap', e = .returned (.slice ao' n' cap') ∧ Hid (WdAt w' w0.heap.size (.slice ao' n' cap') (ws ++ [⟨#[98, 111, 120]⟩]) ∧ Oz w0 w') := by
 have mList := va_miss 69 63 41 _ Tryz.underlying63 (by intro m h; cases h) (by decide) _ zL
 have mQuot := va_miss 69 66 41 _ Tryz.underlying66 (by intro m h; cases h) (by decide) _ zQ
 have hBox := va_hit 69 41 _ Tryz.underlying69 (by intro m h; cases h)
 obtain ⟨W, hW⟩ : ∃ W, W = ((w.alloc (.cells #[.slice none 0 0] 63)).alloc (.cells #[.slice none 0 0] 66)).alloc (.cells #[.int .i64 n1] 69) := ⟨_, rfl⟩
 have O1 : Oz w W := by rw [hW]; repeat' first | exact Only.refl _ _ | apply Only.alloc
 obtain ⟨ao', cap', w2, hr, hw2, o2⟩ := wd_app ⟨#[98, 111, 120]⟩ (o.trans O1 (fun _ _ g => g)) (h.only O1 (fun _ _ _ g => g)) hl (w.heap.size + 1 + 1 + 1) (by rw [hW]; simp)
 rw [hW] at hr
 have HR : Hid _ := hr
 have H2 : Hid (WdAt w2 w0.heap.size (.slice ao' (ws.length + 1) cap') (ws ++ [⟨#[98, 111, 120]⟩]) ∧ Oz w0 w2) := ⟨hw2, o2⟩
 obtain ⟨L, hL⟩ : ∃ L, L = ws.length + 1 := ⟨_, rfl⟩
 rw [← hL] at HR H2
 clear O1 hr hw2 o2 hL hW o h hl
 go_enter Tryz.func92, Tryz.ntmps92
 go_wp2_with (at_builtin; refine vwpList_append_run rfl _ _ 56 rfl _ _ _ rfl rfl HR.out ?_)
 go_ret
 exact ⟨ao', L, cap', rfl, H2⟩
theorem aw_list (d : Nat) (H : AwC d 92 false) (l : List Vt) (la : Option Addr) (lc : Nat) (w0 : World) (S : Nat → Prop) (hel : ∀ (j : Nat) (x : Vt), l[j]? = some x → ∃ g k u, la = some ⟨g, k, none⟩ ∧ S g ∧ w0.cell? ⟨g, k + j, none⟩ = some u ∧ TiAt w0 S d false x u) (hok : ∀ x ∈ l, okV d false x = true) (hsm : ∀ x ∈ l, ∃ e, SmT e x) (hlen : l.length ≤ 1048576) (hT : Tx w0) (w : World) (ao : Option Addr) (n cap : Nat) (ws : List ByteArray) (o : Oz w0 w) (h : WdAt w w0.heap.size (.slice ao n cap) ws) (hb : ws.length + (l.flatMap (wdL d false)).length + 2 ≤ 1000000) :
  Cz 92 #[.slice ao n cap, .iface 63 (.agg #[.slice la l.length lc])] w fun e w' => ∃ ao' n' cap', e = .returned (.slice ao' n' cap') ∧ Hid (WdAt w' w0.heap.size (.slice ao' n' cap') (ws ++ (⟨#[123]⟩ :: (l.flatMap (wdL d false) ++ [⟨#[125]⟩]))) ∧ Oz w0 w') := by
 have HE : Hid (∀ (j : Nat) (x : Vt), l[j]? = some x → ∃ g k u, la = some ⟨g, k, none⟩ ∧ w0.cell? ⟨g, k + j, none⟩ = some u ∧ ∀ (w1 : World) (ao : Option Addr) (n cap : Nat) (ws : List ByteArray), Oz w0 w1 → WdAt w1 w0.heap.size (.slice ao n cap) ws → ws.length + (wdL d false x).length ≤ 1000000 → Cz 92 #[.slice ao n cap, u] w1 fun e w' => ∃ ao' n' cap', e = .returned (.slice ao' n' cap') ∧ Hid (WdAt w' w0.heap.size (.slice ao' n' cap') (ws ++ wdL d false x) ∧ Oz w0 w')) := by
  intro j x hx
  obtain ⟨g, k, u, p1, p2, p3, p4⟩ := hel j x hx
  exact ⟨g, k, u, p1, p3, H x u w0 S p4 (hok x (List.mem_of_getElem? hx)) (hsm x (List.mem_of_getElem? hx)) hT⟩
 obtain ⟨N, hN⟩ : ∃ N, N = l.length := ⟨_, rfl⟩
 have HN : Hid (N = l.length ∧ N ≤ 1048576 ∧ ws.length + (l.flatMap (wdL d false)).length + 2 ≤ 1000000) := ⟨hN, by omega, hb⟩
 rw [← hN]
 have hList := va_hit 63 41 _ Tryz.underlying63 (by intro m h; cases h)
 obtain ⟨W, hW⟩ : ∃ W, W = w.alloc (.cells #[.slice la N lc] 63) := ⟨_, rfl⟩
 have O1 : Oz w W := by rw [hW]; exact (Only.refl _ w).alloc _
 obtain ⟨ao1, cap1, w1, hr1, hw1, o1⟩ := wd_app ⟨#[123]⟩ (o.trans O1 (fun _ _ g => g)) (h.only O1 (fun _ _ _ g => g)) (by omega) (w.heap.size + 1) (by rw [hW]; simp)
 rw [hW] at hr1
 have HR1 : Hid _ := hr1
 have HB1 : Hid (W.heap[w.heap.size]? = some (.cells #[.slice la N lc] 63)) := by rw [hW]; exact valloc_at _ _ _ rfl
 have HS1 : Hid (WdAt w1 w0.heap.size (.slice ao1 (ws.length + 1) cap1) (ws ++ [⟨#[123]⟩]) ∧ Oz w0 w1 ∧ w1.cell? ⟨w.heap.size, 0, none⟩ = some (.slice la N lc)) := by
  refine ⟨hw1, o1, ?_⟩
  obtain ⟨v9, w9, hr9, hw9, o9⟩ := app_w (s := ⟨#[123]⟩) (h.only O1 (fun _ _ _ g => g)) (Nat.le_trans o.size O1.size) (show ws.length ≤ 1048576 by omega)
  rw [show W.heap.size = w.heap.size + 1 from by rw [hW]; simp] at hr9
  rw [hW] at hr9
  have e9 := (hr9 0).symm.trans (hr1 0)
  injection e9 with e1 e2
  subst e2
  have hlt : ∀ b, (Value.slice ao n cap).ownBlock = some b → b < w.heap.size := fun b hb => (h.lt b hb).2
  have hx : ¬ (Value.slice ao n cap).ownBlock = some w.heap.size := fun e => by have := hlt _ e; omega
  exact (vblk_cells ((o9.block _ (Array.getElem?_eq_some_iff.1 HB1.out).1 hx).trans HB1.out) 0)
 obtain ⟨L1, hL1⟩ : ∃ L, L = ws.length + 1 := ⟨_, rfl⟩
 rw [← hL1] at HR1 HS1
 obtain ⟨BB, hBB⟩ : ∃ b, b = w.heap.size := ⟨_, rfl⟩
 rw [← hBB] at HS1
 clear hr1 hw1 o1 hel hok hsm hlen hT H hb hN o h O1 hW HB1 hL1
 go_enter Tryz.func92, Tryz.ntmps92
 have c0 := HS1.out.2.2
 rw [hBB] at c0
 go_wp2_with (at_builtin; refine vwpList_append_run rfl _ _ 56 rfl _ _ _ rfl rfl HR1.out ?_)
 clear c0
 go_loopw [0, 27] (fun r0 r27 wr => ∃ (j : Nat) (a' : Option Addr) (n' c' : Nat), r27 = .int .i64 (j : Int) ∧ j ≤ N ∧ r0 = .slice a' n' c' ∧ Hid (WdAt wr w0.heap.size (.slice a' n' c') (ws ++ [⟨#[123]⟩] ++ (l.take j).flatMap (wdL d false)) ∧ Oz w0 wr)) (fun _ r27 _ => N - vuOf r27)
 case atStart => exact ⟨0, ao1, L1, cap1, rfl, Nat.zero_le _, rfl, by simpa using HS1.out.1, HS1.out.2.1⟩
 case round =>
  obtain ⟨j, a', n', c', rfl, hj, rfl, HI⟩ := hrel
  obtain ⟨w2, hw2⟩ : ∃ w2, w2 = wr := ⟨_, rfl⟩
  rw [← hw2] at HI ⊢
  clear hw2
  have hNl := HN.out.1
  have hN2 := HN.out.2.1
  have hN3 := HN.out.2.2
  by_cases hjN : j < N
  ·obtain ⟨x, hx⟩ : ∃ x, l[j]? = some x := ⟨l[j]'(by omega), List.getElem?_eq_getElem (by omega)⟩
   obtain ⟨g, k, u, rfl, h0, hcall⟩ := HE.out j x hx
   have c0 := HI.out.2.cell h0 (fun g => g)
   have htk : (l.take (j + 1)).flatMap (wdL d false) = (l.take j).flatMap (wdL d false) ++ wdL d false x := by
    rw [List.take_add_one, hx]
    simp
   have hle : ((l.take (j + 1)).flatMap (wdL d false)).length ≤ (l.flatMap (wdL d false)).length := by
    conv => rhs; rw [← List.take_append_drop (j + 1) l]
    rw [List.flatMap_append, List.length_append]
    omega
   have HC : Hid _ := hcall w2 a' n' c' _ HI.out.2 HI.out.1 (by
    rw [htk, List.length_append] at hle
    simp only [List.length_append, List.length_singleton]
    omega)
   have HX : Hid (j < N ∧ (l.take (j + 1)).flatMap (wdL d false) = (l.take j).flatMap (wdL d false) ++ wdL d false x) := ⟨hjN, htk⟩
   have i1 : (j : Int) < (N : Int) := by omega
   have i0 : (0 : Int) ≤ (j : Int) := by omega
   have i4 : j ≤ 1048576 := by omega
   clear h0 hcall hNl hN2 hN3 hjN hj hx htk hle HI HE
   go_wp2_with fail
   refine (show Cz 92 _ _ _ from HC.out).mono ?_
   rintro e w3 ⟨a3, n3, c3, rfl, G3⟩
   have HF : Hid (WdAt w3 w0.heap.size (.slice a3 n3 c3) (ws ++ [⟨#[123]⟩] ++ (l.take (j + 1)).flatMap (wdL d false)) ∧ Oz w0 w3) := by
    rw [HX.out.2, ← List.append_assoc]
    exact G3.out
   clear HC G3 c0
   go_wp2
   go_roundw
   case rel => exact ⟨j + 1, a3, n3, c3, by go_num, by have := HX.out.1; omega, rfl, HF⟩
   case measure => simp only [vuOf]; have := HX.out.1; omega
  ·obtain rfl : j = N := by omega
   have i1 : ¬ (j : Int) < (j : Int) := by omega
   have hI := HI.out
   rw [show l.take j = l from by rw [hNl]; exact List.take_length] at hI
   obtain ⟨a4, c4, w4, hr4, hw4, o4⟩ := wd_app ⟨#[125]⟩ hI.2 hI.1 (by simp only [List.length_append, List.length_singleton]; omega) _ rfl
   have HR4 : Hid _ := hr4
   obtain ⟨L4, hL4⟩ : ∃ L, L = (ws ++ [(⟨#[123]⟩ : ByteArray)] ++ l.flatMap (wdL d false)).length + 1 := ⟨_, rfl⟩
   rw [← hL4] at HR4 hw4
   have HF : Hid (WdAt w4 w0.heap.size (.slice a4 L4 c4) (ws ++ (⟨#[123]⟩ :: (l.flatMap (wdL d false) ++ [⟨#[125]⟩]))) ∧ Oz w0 w4) := by
    refine ⟨?_, o4⟩
    have := hw4
    simpa using this
   clear HI hI hNl hN2 hN3 hjN hj hr4 hw4 o4 hL4 HE
   go_wp2_with (at_builtin; refine vwpList_append_run rfl _ _ 56 rfl _ _ _ rfl rfl HR4.out ?_)
   go_ret
   exact ⟨a4, L4, c4, rfl, HF⟩
theorem aw_quot (d : Nat) (H : AwC d 118 true) (l : List Vt) (la : Option Addr) (lc : Nat) (w0 : World) (S : Nat → Prop) (hel : ∀ (j : Nat) (x : Vt), l[j]? = some x → ∃ g k u, la = some ⟨g, k, none⟩ ∧ S g ∧ w0.cell? ⟨g, k + j, none⟩ = some u ∧ TiAt w0 S d true x u) (hok : ∀ x ∈ l, okV d true x = true) (hsm : ∀ x ∈ l, ∃ e, SmT e x) (hlen : l.length ≤ 1048576) (hT : Tx w0) (w : World) (ao : Option Addr) (n cap : Nat) (ws : List ByteArray) (o : Oz w0 w) (h : WdAt w w0.heap.size (.slice ao n cap) ws) (hb : ws.length + (l.flatMap (wdL d true)).length + 2 ≤ 1000000) :
  Cz 92 #[.slice ao n cap, .iface 66 (.agg #[.slice la l.length lc])] w fun e w' => ∃ ao' n' cap', e = .returned (.slice ao' n' cap') ∧ Hid (WdAt w' w0.heap.size (.slice ao' n' cap') (ws ++ (⟨#[91]⟩ :: (l.flatMap (wdL d true) ++ [⟨#[93]⟩]))) ∧ Oz w0 w') := by
 have HE : Hid (∀ (j : Nat) (x : Vt), l[j]? = some x → ∃ g k u, la = some ⟨g, k, none⟩ ∧ w0.cell? ⟨g, k + j, none⟩ = some u ∧ ∀ (w1 : World) (ao : Option Addr) (n cap : Nat) (ws : List ByteArray), Oz w0 w1 → WdAt w1 w0.heap.size (.slice ao n cap) ws → ws.length + (wdL d true x).length ≤ 1000000 → Cz 118 #[.slice ao n cap, u] w1 fun e w' => ∃ ao' n' cap', e = .returned (.slice ao' n' cap') ∧ Hid (WdAt w' w0.heap.size (.slice ao' n' cap') (ws ++ wdL d true x) ∧ Oz w0 w')) := by
  intro j x hx
  obtain ⟨g, k, u, p1, p2, p3, p4⟩ := hel j x hx
  exact ⟨g, k, u, p1, p3, H x u w0 S p4 (hok x (List.mem_of_getElem? hx)) (hsm x (List.mem_of_getElem? hx)) hT⟩
 obtain ⟨N, hN⟩ : ∃ N, N = l.length := ⟨_, rfl⟩
 have HN : Hid (N = l.length ∧ N ≤ 1048576 ∧ ws.length + (l.flatMap (wdL d true)).length + 2 ≤ 1000000) := ⟨hN, by omega, hb⟩
 rw [← hN]
 have mList := va_miss 66 63 41 _ Tryz.underlying63 (by intro m h; cases h) (by decide) _ zL
 have hQuot := va_hit 66 41 _ Tryz.underlying66 (by intro m h; cases h)
 obtain ⟨W, hW⟩ : ∃ W, W = (w.alloc (.cells #[.slice none 0 0] 63)).alloc (.cells #[.slice la N lc] 66) := ⟨_, rfl⟩
 have O1 : Oz w W := by rw [hW]; exact ((Only.refl _ w).alloc _).alloc _
 obtain ⟨ao1, cap1, w1, hr1, hw1, o1⟩ := wd_app ⟨#[91]⟩ (o.trans O1 (fun _ _ g => g)) (h.only O1 (fun _ _ _ g => g)) (by omega) (w.heap.size + 1 + 1) (by rw [hW]; simp)
 rw [hW] at hr1
 have HR1 : Hid _ := hr1
 have HB1 : Hid (W.heap[w.heap.size + 1]? = some (.cells #[.slice la N lc] 66)) := by rw [hW]; exact valloc_at _ _ _ (by simp)
 have HS1 : Hid (WdAt w1 w0.heap.size (.slice ao1 (ws.length + 1) cap1) (ws ++ [⟨#[91]⟩]) ∧ Oz w0 w1 ∧ w1.cell? ⟨w.heap.size + 1, 0, none⟩ = some (.slice la N lc)) := by
  refine ⟨hw1, o1, ?_⟩
  obtain ⟨v9, w9, hr9, hw9, o9⟩ := app_w (s := ⟨#[91]⟩) (h.only O1 (fun _ _ _ g => g)) (Nat.le_trans o.size O1.size) (show ws.length ≤ 1048576 by omega)
  rw [show W.heap.size = w.heap.size + 1 + 1 from by rw [hW]; simp] at hr9
  rw [hW] at hr9
  have e9 := (hr9 0).symm.trans (hr1 0)
  injection e9 with e1 e2
  subst e2
  have hlt : ∀ b, (Value.slice ao n cap).ownBlock = some b → b < w.heap.size := fun b hb => (h.lt b hb).2
  have hx : ¬ (Value.slice ao n cap).ownBlock = some (w.heap.size + 1) := fun e => by have := hlt _ e; omega
  exact (vblk_cells ((o9.block _ (Array.getElem?_eq_some_iff.1 HB1.out).1 hx).trans HB1.out) 0)
 obtain ⟨L1, hL1⟩ : ∃ L, L = ws.length + 1 := ⟨_, rfl⟩
 rw [← hL1] at HR1 HS1
 obtain ⟨BB, hBB⟩ : ∃ b, b = w.heap.size + 1 := ⟨_, rfl⟩
 rw [← hBB] at HS1
 clear hr1 hw1 o1 hel hok hsm hlen hT H hb hN o h O1 hW HB1 hL1
 go_enter Tryz.func92, Tryz.ntmps92
 have c0 := HS1.out.2.2
 rw [hBB] at c0
 go_wp2_with (at_builtin; refine vwpList_append_run rfl _ _ 56 rfl _ _ _ rfl rfl HR1.out ?_)
 clear c0
 go_loopw [0, 50] (fun r0 r27 wr => ∃ (j : Nat) (a' : Option Addr) (n' c' : Nat), r27 = .int .i64 (j : Int) ∧ j ≤ N ∧ r0 = .slice a' n' c' ∧ Hid (WdAt wr w0.heap.size (.slice a' n' c') (ws ++ [⟨#[91]⟩] ++ (l.take j).flatMap (wdL d true)) ∧ Oz w0 wr)) (fun _ r27 _ => N - vuOf r27)
 case atStart => exact ⟨0, ao1, L1, cap1, rfl, Nat.zero_le _, rfl, by simpa using HS1.out.1, HS1.out.2.1⟩
 case round =>
  obtain ⟨j, a', n', c', rfl, hj, rfl, HI⟩ := hrel
  obtain ⟨w2, hw2⟩ : ∃ w2, w2 = wr := ⟨_, rfl⟩
  rw [← hw2] at HI ⊢
  clear hw2
  have hNl := HN.out.1
  have hN2 := HN.out.2.1
  have hN3 := HN.out.2.2
  by_cases hjN : j < N
  ·obtain ⟨x, hx⟩ : ∃ x, l[j]? = some x := ⟨l[j]'(by omega), List.getElem?_eq_getElem (by omega)⟩
   obtain ⟨g, k, u, rfl, h0, hcall⟩ := HE.out j x hx
   have c0 := HI.out.2.cell h0 (fun g => g)
   have htk : (l.take (j + 1)).flatMap (wdL d true) = (l.take j).flatMap (wdL d true) ++ wdL d true x := by
    rw [List.take_add_one, hx]
    simp
   have hle : ((l.take (j + 1)).flatMap (wdL d true)).length ≤ (l.flatMap (wdL d true)).length := by
    conv => rhs; rw [← List.take_append_drop (j + 1) l]
    rw [List.flatMap_append, List.length_append]
    omega
   have HC : Hid _ := hcall w2 a' n' c' _ HI.out.2 HI.out.1 (by
    rw [htk, List.length_append] at hle
    simp only [List.length_append, List.length_singleton]
    omega)
   have HX : Hid (j < N ∧ (l.take (j + 1)).flatMap (wdL d true) = (l.take j).flatMap (wdL d true) ++ wdL d true x) := ⟨hjN, htk⟩
   have i1 : (j : Int) < (N : Int) := by omega
   have i0 : (0 : Int) ≤ (j : Int) := by omega
   have i4 : j ≤ 1048576 := by omega
   clear h0 hcall hNl hN2 hN3 hjN hj hx htk hle HI HE
   go_wp2_with fail
   refine (show Cz 118 _ _ _ from HC.out).mono ?_
   rintro e w3 ⟨a3, n3, c3, rfl, G3⟩
   have HF : Hid (WdAt w3 w0.heap.size (.slice a3 n3 c3) (ws ++ [⟨#[91]⟩] ++ (l.take (j + 1)).flatMap (wdL d true)) ∧ Oz w0 w3) := by
    rw [HX.out.2, ← List.append_assoc]
    exact G3.out
   clear HC G3 c0
   go_wp2
   go_roundw
   case rel => exact ⟨j + 1, a3, n3, c3, by go_num, by have := HX.out.1; omega, rfl, HF⟩
   case measure => simp only [vuOf]; have := HX.out.1; omega
  ·obtain rfl : j = N := by omega
   have i1 : ¬ (j : Int) < (j : Int) := by omega
   have hI := HI.out
   rw [show l.take j = l from by rw [hNl]; exact List.take_length] at hI
   obtain ⟨a4, c4, w4, hr4, hw4, o4⟩ := wd_app ⟨#[93]⟩ hI.2 hI.1 (by simp only [List.length_append, List.length_singleton]; omega) _ rfl
   have HR4 : Hid _ := hr4
   obtain ⟨L4, hL4⟩ : ∃ L, L = (ws ++ [(⟨#[91]⟩ : ByteArray)] ++ l.flatMap (wdL d true)).length + 1 := ⟨_, rfl⟩
   rw [← hL4] at HR4 hw4
   have HF : Hid (WdAt w4 w0.heap.size (.slice a4 L4 c4) (ws ++ (⟨#[91]⟩ :: (l.flatMap (wdL d true) ++ [⟨#[93]⟩]))) ∧ Oz w0 w4) := by
    refine ⟨?_, o4⟩
    have := hw4
    simpa using this
   clear HI hI hNl hN2 hN3 hjN hj hr4 hw4 o4 hL4 HE
   go_wp2_with (at_builtin; refine vwpList_append_run rfl _ _ 56 rfl _ _ _ rfl rfl HR4.out ?_)
   go_ret
   exact ⟨a4, L4, c4, rfl, HF⟩
theorem quoR_ok {s : ByteArray} (h1 : s.size ≤ 4096) (h2 : vlB s = true) : (quoR s).1 = tx ([34] ++ quo (rns s) ++ [34]) := by
 unfold quoR
 rw [if_neg ((vl_st s).1 h2), if_neg (by omega)]
theorem enL_quo_len : ∀ (l : List Nat), (enL (quo l)).length ≤ 8 * l.length
 | [] => by simp [quo, enL]
 | c :: l => by
   have h1 := enL_quo_len l
   have h2 := quC_len c
   rw [show quo (c :: l) = quC c ++ quo l from rfl, enL_app, List.length_append, List.length_cons]
   omega
theorem rns_len (s : ByteArray) : (rns s).length ≤ s.size := by
 have := crs_len s s.size 0 (Nat.zero_le _)
 have e : (rns s).length = (crs s s.size 0).length := by unfold rns; simp [chs]
 omega
theorem quo_sizes {s : ByteArray} (h1 : s.size ≤ 4096) (h2 : vlB s = true) : 0 < (quoR s).1.size ∧ (quoR s).1.size ≤ 65536 := by
 rw [quoR_ok h1 h2, tx_size]
 unfold wl
 rw [enL_app, enL_app, List.length_append, List.length_append]
 have e : (enL [34]).length = 1 := rfl
 have := enL_quo_len (rns s)
 have := rns_len s
 rw [e]
 omega
theorem itoa_sizes {n : Int} (h0 : -9223372036854775808 ≤ n) (h1 : n ≤ 9223372036854775807) : 0 < (⟨(Lib.itoa n).toArray⟩ : ByteArray).size ∧ (⟨(Lib.itoa n).toArray⟩ : ByteArray).size ≤ 65536 := by
 have h2 := Lib.itoa_length_le n h0 h1
 have e : (⟨(Lib.itoa n).toArray⟩ : ByteArray).size = (Lib.itoa n).length := by
  show (Lib.itoa n).toArray.size = _
  simp
 rw [e]
 refine ⟨?_, by omega⟩
 unfold Lib.itoa
 split
 ·simp
 ·have := Lib.decDigits_length n.toNat
  have := Lib.nDigits_pos n.toNat
  omega
theorem aw_leaf {d : Nat} {t : Vt} {v : Value} {w0 : World} {S : Nat → Prop} (h : TiAt w0 S (d + 1) false t v) (hk : ¬ (t.k = 4 ∨ t.k = 5)) (hok : alB t = true) (hT : Tx w0) (w : World) (ao : Option Addr) (n cap : Nat) (ws : List ByteArray) (o : Oz w0 w) (hw : WdAt w w0.heap.size (.slice ao n cap) ws) (hl : ws.length ≤ 1000000) :
  Cz 92 #[.slice ao n cap, v] w fun e w' => ∃ ao' n' cap', e = .returned (.slice ao' n' cap') ∧ Hid (WdAt w' w0.heap.size (.slice ao' n' cap') (ws ++ wdL (d + 1) false t) ∧ Oz w0 w') := by
 have hn : ∀ j : Int, t.k = j → j ≠ 4 ∧ j ≠ 5 := fun j e => ⟨fun g => hk (.inl (by omega)), fun g => hk (.inr (by omega))⟩
 have ew : t.k ≠ 6 → wdL (d + 1) false t = [lfT t] := fun h6 => by
  unfold wdL
  rw [if_neg (fun g => hk (.inl g)), if_neg (fun g => hk (.inr g)), if_neg h6]
 rcases h with ⟨h1, _, rfl⟩ | ⟨h1, _, rfl⟩ | ⟨h1, _, rfl⟩ | ⟨h1, _, rfl⟩ | ⟨h1, _, rfl⟩ | ⟨h1, _⟩
 ·have hb : -1152921504606846976 ≤ t.n ∧ t.n ≤ 1152921504606846975 := by
   rw [show alB t = (decide (-1152921504606846976 ≤ t.n) && decide (t.n ≤ 1152921504606846975)) from if_pos h1] at hok
   simpa using hok
  have hz := itoa_sizes (n := t.n) (by omega) (by omega)
  rw [ew (by omega), show lfT t = ⟨(Lib.itoa t.n).toArray⟩ from if_pos h1]
  exact aw_int t.n _ w0 w ao n cap ws (fun w1 o1 => wordV (ps_int _ hb.1 hb.2) (wv_int _ (by omega) (by omega)) hz.1 hz.2 w1 (hT.frame o1)) o hw hl
 ·have hb : t.s.size ≤ 4096 ∧ vlB t.s = true := by
   rw [show alB t = (decide (t.s.size ≤ 4096) && vlB t.s) from (if_neg (by omega)).trans (if_pos h1)] at hok
   simpa using hok
  have hz := quo_sizes hb.1 hb.2
  rw [ew (by omega), show lfT t = (quoR t.s).1 from (if_neg (by omega)).trans (if_pos h1)]
  exact aw_str t.s _ w0 w ao n cap ws (fun w1 o1 => wordV (ps_str _ hb.1 hb.2) (wv_str _ hb.1 hb.2 (by omega)) hz.1 hz.2 w1 (hT.frame o1)) o hw hl
 ·rw [ew (by omega), show lfT t = flT (t.n != 0) from (if_neg (by omega)).trans (if_neg (by omega))]
  exact aw_bool _ _ w0 w ao n cap ws (fun w1 o1 => wordV (ps_bool _) (wv_bool _) (by cases t.n != 0 <;> decide) (by cases t.n != 0 <;> decide) w1 (hT.frame o1)) o hw hl
 ·rw [show wdL (d + 1) false t = [⟨#[98, 111, 120]⟩] from by unfold wdL; rw [if_neg (by omega), if_neg (by omega), if_pos h1]]
  exact aw_box t.n w0 w ao n cap ws o hw hl
 ·rw [al8 h1] at hok
  exact absurd hok (by decide)
 ·exact absurd h1 hk
theorem aw_of (d : Nat) (H1 : AwC d 92 false) (H2 : AwC d 118 true) : AwC (d + 1) 92 false := by
 intro t v w0 S h hok hsm hT w ao n cap ws o hw hb
 by_cases hk : t.k = 4 ∨ t.k = 5
 ·have hs : t.l.length ≤ 1048576 ∧ ∀ x ∈ t.l, ∃ e, SmT e x := by
   obtain ⟨e, g⟩ := hsm
   cases e with
   | zero => exact g.elim
   | succ e => exact ⟨g.2.1, fun x hx => ⟨e, g.2.2.2.2 x hx⟩⟩
  have hall : ∀ x ∈ t.l, okV d (decide (t.k = 5)) x = true := by
   unfold okV at hok
   rw [if_pos hk, List.all_eq_true] at hok
   exact hok
  rcases h with ⟨h1, _⟩ | ⟨h1, _⟩ | ⟨h1, _⟩ | ⟨h1, _⟩ | ⟨h1, _⟩ | ⟨h1, la, lc, rfl, hc, hel⟩
  ·omega
  ·omega
  ·omega
  ·omega
  ·omega
  ·rcases h1 with h1 | h1
   ·have e5 : decide (t.k = 5) = false := decide_eq_false (by omega)
    rw [e5] at hel hall
    rw [show wdL (d + 1) false t = ⟨#[123]⟩ :: (t.l.flatMap (wdL d false) ++ [⟨#[125]⟩]) from if_pos h1] at hb ⊢
    rw [if_pos h1]
    simp only [List.length_cons, List.length_append, List.length_nil] at hb
    exact aw_list d H1 t.l la lc w0 S hel hall hs.2 hs.1 hT w ao n cap ws o hw (by omega)
   ·have e5 : decide (t.k = 5) = true := decide_eq_true h1
    rw [e5] at hel hall
    rw [show wdL (d + 1) false t = ⟨#[91]⟩ :: (t.l.flatMap (wdL d true) ++ [⟨#[93]⟩]) from (if_neg (by omega)).trans (if_pos h1)] at hb ⊢
    rw [if_neg (by omega)]
    simp only [List.length_cons, List.length_append, List.length_nil] at hb
    exact aw_quot d H2 t.l la lc w0 S hel hall hs.2 hs.1 hT w ao n cap ws o hw (by omega)
 ·refine aw_leaf h hk ?_ hT w ao n cap ws o hw (by omega)
  unfold okV at hok
  rw [if_neg hk] at hok
  exact hok
theorem ai_push (T : TypeId) (y : Value) (Q : List ByteArray) (w0 w : World) (ao : Option Addr) (n cap : Nat) (HC0 : ∀ w1, Oz w w1 → Cz 92 #[.slice ao n cap, .iface T y] w1 fun e w' => ∃ ao' n' cap', e = .returned (.slice ao' n' cap') ∧ Hid (WdAt w' w0.heap.size (.slice ao' n' cap') Q ∧ Oz w0 w')) :
  Cz 118 #[.slice ao n cap, .iface 109 (.agg #[.iface T y])] w fun e w' => ∃ ao' n' cap', e = .returned (.slice ao' n' cap') ∧ Hid (WdAt w' w0.heap.size (.slice ao' n' cap') Q ∧ Oz w0 w') := by
 have HC : Hid (∀ w1, Oz w w1 → Cz 92 #[.slice ao n cap, .iface T y] w1 fun e w' => ∃ ao' n' cap', e = .returned (.slice ao' n' cap') ∧ Hid (WdAt w' w0.heap.size (.slice ao' n' cap') Q ∧ Oz w0 w')) := HC0
 have hPush := va_hit 109 97 _ Tryz.underlying109 (by intro m h; cases h)
 clear HC0
 go_enter Tryz.func118, Tryz.ntmps118
 go_wp2_with fail
 refine (show Cz 92 _ _ _ from HC.out _ (by repeat' first | exact Only.refl _ _ | apply Only.alloc)).mono ?_
 rintro e w1 ⟨a1, n1, c1, rfl, G1⟩
 clear HC
 go_wp2
 go_ret
 exact ⟨a1, n1, c1, rfl, G1⟩
theorem ai_call (s : ByteArray) (w0 w : World) (ao : Option Addr) (n cap : Nat) (ws : List ByteArray) (HW0 : ∀ w1, Oz w0 w1 → Cz 119 #[cV s] w1 fun e w' => e = .returned (.string s) ∧ Oz w1 w') (o : Oz w0 w) (h : WdAt w w0.heap.size (.slice ao n cap) ws) (hl : ws.length ≤ 1000000) :
  Cz 118 #[.slice ao n cap, cV s] w fun e w' => ∃ ao' n' cap', e = .returned (.slice ao' n' cap') ∧ Hid (WdAt w' w0.heap.size (.slice ao' n' cap') (ws ++ [s]) ∧ Oz w0 w') := by
 unfold cV at *
 have HW : Hid (∀ w1, Oz w0 w1 → Cz 119 #[.iface 127 (.agg #[.string s])] w1 fun e w' => e = .returned (.string s) ∧ Oz w1 w') := HW0
 have mPush := va_miss 127 109 97 _ Tryz.underlying109 (by intro m h; cases h) (by decide) _ vzero_Push
 have HH : Hid (Oz w0 w ∧ WdAt w w0.heap.size (.slice ao n cap) ws ∧ ws.length ≤ 1000000) := ⟨o, h, hl⟩
 clear HW0 o h hl
 go_enter Tryz.func118, Tryz.ntmps118
 go_wp2_with fail
 refine (show Cz 119 _ _ _ from HW.out _ (by repeat' first | exact HH.out.1 | apply Only.alloc)).mono ?_
 rintro e w1 ⟨rfl, o1⟩
 have O1 : Oz w w1 := Only.trans (by repeat' first | exact Only.refl _ _ | apply Only.alloc) o1 (fun _ _ g => g)
 obtain ⟨ao', cap', w2, hr, hw2, o2⟩ := wd_app s (HH.out.1.trans O1 (fun _ _ g => g)) (HH.out.2.1.only O1 (fun _ _ _ g => g)) HH.out.2.2 _ rfl
 have HR : Hid _ := hr
 have H2 : Hid (WdAt w2 w0.heap.size (.slice ao' (ws.length + 1) cap') (ws ++ [s]) ∧ Oz w0 w2) := ⟨hw2, o2⟩
 obtain ⟨L, hL⟩ : ∃ L, L = ws.length + 1 := ⟨_, rfl⟩
 rw [← hL] at HR H2
 clear HW o1 O1 hr hw2 o2 hL mPush HH
 go_wp2_with (at_builtin; refine vwpList_append_run rfl _ _ 56 rfl _ _ _ rfl rfl HR.out ?_)
 go_ret
 exact ⟨ao', L, cap', rfl, H2⟩
theorem ai_of (d : Nat) (H : AwC d 92 false) : AwC (d + 1) 118 true := by
 intro t v w0 S h hok hsm hT w ao n cap ws o hw hb
 rcases h with ⟨h1, _, rfl⟩ | ⟨h1, _, _⟩ | ⟨h7, h8, u, rfl, hu⟩
 ·rw [show okV (d + 1) true t = clB t.s from if_pos h1] at hok
  rw [show wdL (d + 1) true t = [t.s] from if_pos h1]
  exact ai_call t.s w0 w ao n cap ws (fun w1 o1 => wordC t.s hok w1 (hT.1.1.1 |> fun _ => ((hT.frame o1).1.1))) o hw (by omega)
 ·rw [show okV (d + 1) true t = false from (if_neg (by omega)).trans (if_pos h1)] at hok
  exact absurd hok (by decide)
 ·rw [show okV (d + 1) true t = okV d false t from (if_neg h7).trans (if_neg h8)] at hok
  rw [show wdL (d + 1) true t = wdL d false t from if_neg h7] at hb ⊢
  obtain ⟨T, y, rfl⟩ := hu.iface h8
  exact ai_push T y _ w0 w ao n cap (fun w1 o1 => H t _ w0 S hu hok hsm hT w1 ao n cap ws (o.trans o1 (fun _ _ g => g)) (hw.only o1 (fun _ _ _ g => g)) hb)
theorem aw_all : ∀ (D d : Nat), d < D → AwC d 92 false ∧ AwC d 118 true
 | 0, d, h => by omega
 | D + 1, d, h => by
   cases d with
   | zero => exact ⟨fun t v w0 S h => h.elim, fun t v w0 S h => h.elim⟩
   | succ d =>
     have ih := aw_all D d (by omega)
     exact ⟨aw_of d ih.1 ih.2, ai_of d ih.1⟩
def txtV (d : Nat) (t : Vt) : ByteArray := ⟨(Lib.join ((wdL d false t).map (·.data.toList)) [32]).toArray⟩
theorem wdL_ne : ∀ (d : Nat) (t : Vt), wdL (d + 1) false t ≠ [] := by
 intro d t
 unfold wdL
 split
 ·simp
 split
 ·simp
 split
 ·simp
 ·simp
theorem flat_le (f : Vt → List ByteArray) (g : Vt → Nat) (h : ∀ x, (f x).length ≤ 2 * g x) : ∀ l : List Vt, (l.flatMap f).length ≤ 2 * (l.map g).sum
 | [] => by simp
 | x :: r => by
   have h1 := h x
   have h2 := flat_le f g h r
   rw [List.flatMap_cons, List.length_append, List.map_cons, List.sum_cons]
   omega
theorem wdL_leaf_len (d : Nat) (t : Vt) (h : t.k ≠ 4) (h' : t.k ≠ 5) : (wdL d false t).length ≤ 1 := by
 cases d with
 | zero => exact Nat.zero_le _
 | succ d =>
   unfold wdL
   rw [if_neg h, if_neg h']
   split <;> simp
theorem wdL_len : ∀ (d : Nat) (i : Bool) (t : Vt), (wdL d i t).length ≤ 2 * sz d i t
 | 0, _, _ => Nat.zero_le _
 | d + 1, true, t => by
   by_cases h7 : t.k = 7
   ·rw [show wdL (d + 1) true t = [t.s] from if_pos h7, show sz (d + 1) true t = 1 from if_pos (.inl h7)]
    simp
   ·rw [show wdL (d + 1) true t = wdL d false t from if_neg h7]
    by_cases h8 : t.k = 8
    ·rw [show sz (d + 1) true t = 1 from if_pos (.inr h8)]
     have := wdL_leaf_len d t (by omega) (by omega)
     omega
    ·rw [show sz (d + 1) true t = sz d false t from if_neg (by omega)]
     exact wdL_len d false t
 | d + 1, false, t => by
   have e : sz (d + 1) false t = 1 + (t.l.map (sz d (decide (t.k = 5)))).sum := rfl
   by_cases h4 : t.k = 4
   ·rw [show wdL (d + 1) false t = ⟨#[123]⟩ :: (t.l.flatMap (wdL d false) ++ [⟨#[125]⟩]) from if_pos h4, e, show decide (t.k = 5) = false by simp [h4]]
    have := flat_le (wdL d false) (sz d false) (fun x => wdL_len d false x) t.l
    simp only [List.length_cons, List.length_append, List.length_nil]
    omega
   ·by_cases h5 : t.k = 5
    ·rw [show wdL (d + 1) false t = ⟨#[91]⟩ :: (t.l.flatMap (wdL d true) ++ [⟨#[93]⟩]) from (if_neg h4).trans (if_pos h5), e, show decide (t.k = 5) = true by simp [h5]]
     have := flat_le (wdL d true) (sz d true) (fun x => wdL_len d true x) t.l
     simp only [List.length_cons, List.length_append, List.length_nil]
     omega
    ·have := wdL_leaf_len (d + 1) t h4 h5
     omega
theorem lfT_size {t : Vt} (h4 : t.k ≠ 4) (h5 : t.k ≠ 5) (h6 : t.k ≠ 6) (hok : alB t = true) : (lfT t).size ≤ 65536 := by
 by_cases h1 : t.k = 1
 ·have hb : -1152921504606846976 ≤ t.n ∧ t.n ≤ 1152921504606846975 := by
   rw [show alB t = (decide (-1152921504606846976 ≤ t.n) && decide (t.n ≤ 1152921504606846975)) from if_pos h1] at hok
   simpa using hok
  rw [show lfT t = ⟨(Lib.itoa t.n).toArray⟩ from if_pos h1]
  exact (itoa_sizes (n := t.n) (by omega) (by omega)).2
 ·by_cases h2 : t.k = 2
  ·have hb : t.s.size ≤ 4096 ∧ vlB t.s = true := by
    rw [show alB t = (decide (t.s.size ≤ 4096) && vlB t.s) from (if_neg h1).trans (if_pos h2)] at hok
    simpa using hok
   rw [show lfT t = (quoR t.s).1 from (if_neg h1).trans (if_pos h2)]
   exact (quo_sizes hb.1 hb.2).2
  ·rw [show lfT t = flT (t.n != 0) from (if_neg h1).trans (if_neg h2)]
   cases t.n != 0 <;> decide
theorem wdL_size : ∀ (d : Nat) (i : Bool) (t : Vt), okV d i t = true → ∀ x ∈ wdL d i t, x.size ≤ 65536
 | 0, _, _, _, x, hx => by cases hx
 | d + 1, true, t, h, x, hx => by
   by_cases h7 : t.k = 7
   ·rw [show wdL (d + 1) true t = [t.s] from if_pos h7] at hx
    rw [show okV (d + 1) true t = clB t.s from if_pos h7] at h
    rw [List.mem_singleton.1 hx]
    have := (name_size (s := t.s) (by unfold clB at h; simp only [Bool.and_eq_true] at h; exact h.1)).1
    omega
   ·rw [show wdL (d + 1) true t = wdL d false t from if_neg h7] at hx
    by_cases h8 : t.k = 8
    ·rw [show okV (d + 1) true t = false from (if_neg h7).trans (if_pos h8)] at h
     cases h
    ·rw [show okV (d + 1) true t = okV d false t from (if_neg h7).trans (if_neg h8)] at h
     exact wdL_size d false t h x hx
 | d + 1, false, t, h, x, hx => by
   by_cases h4 : t.k = 4
   ·rw [show wdL (d + 1) false t = ⟨#[123]⟩ :: (t.l.flatMap (wdL d false) ++ [⟨#[125]⟩]) from if_pos h4] at hx
    rw [show okV (d + 1) false t = t.l.all (okV d (decide (t.k = 5))) from if_pos (.inl h4), show decide (t.k = 5) = false by simp [h4]] at h
    rcases List.mem_cons.1 hx with rfl | hx
    ·show 1 ≤ _; omega
    rcases List.mem_append.1 hx with hx | hx
    ·obtain ⟨y, hy, hx⟩ := List.mem_flatMap.1 hx
     exact wdL_size d false y (List.all_eq_true.1 h y hy) x hx
    ·rw [List.mem_singleton.1 hx]; show 1 ≤ _; omega
   ·by_cases h5 : t.k = 5
    ·rw [show wdL (d + 1) false t = ⟨#[91]⟩ :: (t.l.flatMap (wdL d true) ++ [⟨#[93]⟩]) from (if_neg h4).trans (if_pos h5)] at hx
     rw [show okV (d + 1) false t = t.l.all (okV d (decide (t.k = 5))) from if_pos (.inr h5), show decide (t.k = 5) = true by simp [h5]] at h
     rcases List.mem_cons.1 hx with rfl | hx
     ·show 1 ≤ _; omega
     rcases List.mem_append.1 hx with hx | hx
     ·obtain ⟨y, hy, hx⟩ := List.mem_flatMap.1 hx
      exact wdL_size d true y (List.all_eq_true.1 h y hy) x hx
     ·rw [List.mem_singleton.1 hx]; show 1 ≤ _; omega
    ·rw [show okV (d + 1) false t = alB t from if_neg (by omega)] at h
     by_cases h6 : t.k = 6
     ·rw [show wdL (d + 1) false t = [⟨#[98, 111, 120]⟩] from (if_neg h4).trans ((if_neg h5).trans (if_pos h6))] at hx
      rw [List.mem_singleton.1 hx]; show 3 ≤ _; omega
     ·rw [show wdL (d + 1) false t = [lfT t] from (if_neg h4).trans ((if_neg h5).trans (if_neg h6))] at hx
      rw [List.mem_singleton.1 hx]
      exact lfT_size h4 h5 h6 h
theorem join_le : ∀ (ws : List ByteArray), (∀ x ∈ ws, x.size ≤ 65536) → (Lib.join (ws.map (·.data.toList)) [32]).length ≤ 65537 * ws.length
 | [], _ => by simp [Lib.join_nil]
 | x :: r, h => by
   have key : ∀ (l : List ByteArray), (∀ y ∈ l, y.size ≤ 65536) → Lib.lens (l.map (·.data.toList)) ≤ 65536 * l.length := by
    intro l
    induction l with
    | nil => intro _; simp [Lib.lens]
    | cons y l ih =>
      intro hl
      have h1 := hl y (.head _)
      have h2 := ih (fun z hz => hl z (.tail _ hz))
      have h3 : y.data.toList.length = y.size := Array.length_toList
      simp only [Lib.lens, List.map_cons, List.sum_cons, List.length_cons] at h2 ⊢
      omega
   have h1 := key (x :: r) h
   rw [List.map_cons, Lib.join_length]
   simp only [List.length_map, List.length_cons, List.length_nil, List.map_cons] at h1 ⊢
   omega
def TxP (Z : Bool) (T : ByteArray) (w : World) (e : Ending) (w' : World) : Prop := e = .returned (.tuple #[.string (if Z then T else ⟨#[]⟩), .int .i64 (if Z then 0 else 1)]) ∧ Oz w w'
theorem vtext_any {d : Nat} {t : Vt} {v : Value} {w : World} {S : Nat → Prop} (h : TiAt w S d false t v) (hS : ∀ b, S b → b < w.heap.size) (hsm : ∃ e, SmT e t) (hT : Tx w) : Cz 58 #[v] w (TxP (sdB d t) (txtV d t) w) := by
 have HC : Hid _ := vcheck_any h hS hsm hT.1
 cases hZ : sdB d t with
 | false =>
   rw [hZ] at HC
   have HP : Hid (∀ w', Oz w w' → TxP false (txtV d t) w (.returned (.tuple #[.string ⟨#[]⟩, .int .i64 1])) w') := fun w' o => ⟨rfl, o⟩
   clear h hS hsm hT hZ
   go_enter Tryz.func58, Tryz.ntmps58
   go_wp2_with fail
   refine (show Cz 48 _ _ _ from HC.out).mono ?_
   rintro e w1 ⟨rfl, o1⟩
   have O1 : Hid (Oz w w1) := o1
   clear HC o1
   go_wp2
   go_ret2
   exact HP.out _ O1.out
 | true =>
   rw [hZ] at HC
   have hz := hZ
   unfold sdB msB at hz
   simp only [Bool.and_eq_true, decide_eq_true_eq] at hz
   obtain ⟨⟨hok, hsz⟩, _⟩ := hz
   have hl : (wdL d false t).length ≤ 2048 := by have := wdL_len d false t; omega
   have hne : wdL d false t ≠ [] := by
    cases d with
    | zero => exact h.elim
    | succ d => exact wdL_ne d t
   have HA : Hid (∀ w1, Oz w w1 → Cz 92 #[.slice none 0 0, v] w1 fun e w' => ∃ ao' n' cap', e = .returned (.slice ao' n' cap') ∧ Hid (WdAt w' w.heap.size (.slice ao' n' cap') ([] ++ wdL d false t) ∧ Oz w w')) := fun w1 o1 =>
    (aw_all (d + 1) d (by omega)).1 t v w S h hok hsm hT w1 none 0 0 [] o1 (wd_nil _ _) (by simpa using (by omega : (wdL d false t).length ≤ 1000000))
   have HJ : Hid (∀ w1 ao n cap, WdAt w1 w.heap.size (.slice ao n cap) (wdL d false t) → Cz 91 #[.slice ao n cap, .string ⟨#[32]⟩] w1 fun e w' => e = .returned (.string (txtV d t)) ∧ Oz w1 w') := by
    intro w1 ao n cap hw
    have hlen : n = (wdL d false t).length := by
     obtain ⟨a', c', e⟩ := hw.form
     injection e
    rcases hw.2 with ⟨_, h2⟩ | ⟨g, c2, cur, hv, hB, hg, hn, hcm, hcs, htk⟩
    ·exact absurd (List.length_eq_zero_iff.1 h2) hne
    ·injection hv with e1 e2 e3
     subst e1
     subst e3
     have hj := join_le (wdL d false t) (wdL_size d false t hok)
     have key := Any.strings_Join Tryz.laysJoin Tryz.joinExtra g 0 cap (wdL d false t) ⟨#[32]⟩ w1 (fun j x hx => by
      have hc := hw.cells (g := g) rfl j (.string x) (by rw [List.getElem?_map, hx]; rfl)
      rw [addr_ad] at hc
      simpa using hc) (Array.getElem?_eq_some_iff.1 hg).1 (by omega) hn (by show (Lib.join _ [32]).length ≤ _; omega)
     rw [← hlen] at key
     exact key.mono fun e w' g => ⟨g.1, ⟨g.2.os, g.2.tape, g.2.output, g.2.size, fun k hk _ => g.2.block k hk⟩⟩
   have HP : Hid (∀ w', Oz w w' → TxP true (txtV d t) w (.returned (.tuple #[.string (txtV d t), .int .i64 0])) w') := fun w' o => ⟨rfl, o⟩
   obtain ⟨T, hTT⟩ : ∃ T, T = txtV d t := ⟨_, rfl⟩
   rw [← hTT] at HJ HP ⊢
   clear h hS hsm hT hZ hok hsz hl hne hTT
   go_enter Tryz.func58, Tryz.ntmps58
   go_wp2_with fail
   refine (show Cz 48 _ _ _ from HC.out).mono ?_
   rintro e w1 ⟨rfl, o1⟩
   have O1 : Hid (Oz w w1) := o1
   clear HC o1
   go_wp2_with fail
   refine (show Cz 92 _ _ _ from HA.out _ O1.out).mono ?_
   rintro e w2 ⟨ao, n, c, rfl, G2⟩
   clear HA O1
   go_wp2_with fail
   refine (show Cz 91 _ _ _ from HJ.out _ _ _ _ G2.out.1).mono ?_
   rintro e w3 ⟨rfl, o3⟩
   have O3 : Hid (Oz w w3) := G2.out.2.trans o3 (fun _ _ g => g)
   clear HJ G2 o3
   go_wp2
   go_ret2
   exact HP.out _ O3.out
def stT (s : ByteArray) : Vt := ⟨2, 0, s, []⟩
def inT (n : Int) : Vt := ⟨1, n, ⟨#[]⟩, []⟩
theorem st_sm {s : ByteArray} (h : s.size ≤ 268435456) : ∃ e, SmT e (stT s) := ⟨1, h, Nat.zero_le _, ⟨(by decide : (-9223372036854775808 : Int) ≤ 2), (by decide : (2 : Int) ≤ 9223372036854775807)⟩, ⟨(by decide : (-9223372036854775808 : Int) ≤ 0), (by decide : (0 : Int) ≤ 9223372036854775807)⟩, fun x hx => by cases hx⟩
theorem in_sm {n : Int} (h : -9223372036854775808 ≤ n ∧ n ≤ 9223372036854775807) : ∃ e, SmT e (inT n) := ⟨1, Nat.zero_le _, Nat.zero_le _, ⟨(by decide : (-9223372036854775808 : Int) ≤ 1), (by decide : (1 : Int) ≤ 9223372036854775807)⟩, h, fun x hx => by cases hx⟩
theorem st_ti (w : World) (S : Nat → Prop) (d : Nat) (s : ByteArray) : TiAt w S (d + 1) false (stT s) (.iface 59 (.agg #[.string s])) := .inr (.inl ⟨rfl, rfl, rfl⟩)
theorem in_ti (w : World) (S : Nat → Prop) (d : Nat) (n : Int) : TiAt w S (d + 1) false (inT n) (.iface 35 (.agg #[.int .i64 n])) := .inl ⟨rfl, rfl, rfl⟩
theorem txt_size {d : Nat} {t : Vt} (h : sdB d t = true) : (txtV d t).size ≤ 268435456 := by
 unfold sdB msB at h
 simp only [Bool.and_eq_true, decide_eq_true_eq] at h
 have h1 := wdL_len d false t
 have h2 := join_le (wdL d false t) (wdL_size d false t h.1.1)
 have h3 : (txtV d t).size = (Lib.join ((wdL d false t).map (·.data.toList)) [32]).length := by
  unfold txtV
  show (List.toArray _).size = _
  simp
 have h4 : (wdL d false t).length ≤ 2048 := by omega
 rw [h3]
 have h5 : 65537 * (wdL d false t).length ≤ 65537 * 2048 := Nat.mul_le_mul_left _ h4
 omega
def txR (d : Nat) (l : List Vt) : Except Int Vt := .ok (stT (txtV d (l.getD 0 zT)))
theorem md_str : MdC ⟨#[62, 115, 116, 114]⟩ [63] txR := by
 intro d l G q w S hl hS hlen hsm hsd hf hT
 obtain ⟨x, rfl, hk⟩ := fit1 hlen hf
 obtain ⟨g, k, u, ha, hg, hc, ht⟩ := hl 0 x rfl
 cases ha
 have hsx : sdB d x = true := by simpa using hsd
 have HT : Hid _ := vtext_any ht hS (hsm x (List.mem_cons_self ..)) hT
 rw [hsx] at HT
 have hsh := ht.shape2
 show Cz 33 #[_, .slice (some ⟨G, q, none⟩) 1 1] w fun e w' => MdP (.ok (stT (txtV d x))) (d + 2) w e w'
 have hc0 : w.cell? ⟨G, q, none⟩ = some u := hc
 obtain ⟨s, hs⟩ : ∃ s, s = txtV d x := ⟨_, rfl⟩
 have hsz : s.size ≤ 268435456 := by rw [hs]; exact txt_size hsx
 unfold TxP at HT
 rw [← hs] at HT ⊢
 have HP : Hid (∀ w', Oz w w' → MdP (.ok (stT s)) (d + 2) w (.returned (.tuple #[.iface 59 (.agg #[.string s]), .int .i64 0])) w') := fun w' o => ⟨_, rfl, ⟨fun _ => False, st_ti w' _ (d + 1) s, fun _ g => g.elim⟩, st_sm hsz, o⟩
 clear hl hS hlen hsm hsd hf hT hk hg hc ht hs hsx hsz
 rcases hsh with rfl | ⟨T, y, rfl⟩
 all_goals
  go_enter Tryz.func33, Tryz.ntmps33
  go_wp2_with fail
  refine (show Cz 58 _ _ _ from HT.out).mono ?_
  rintro e w1 ⟨rfl, o1⟩
  have O1 : Hid (Oz w w1) := o1
  clear HT o1
  go_wp2
  go_ret2
  exact HP.out _ O1.out
def nuR (_ : Nat) (l : List Vt) : Except Int Vt := if (numR (l.getD 0 zT).s).2 = 0 then .ok (inT (numR (l.getD 0 zT).s).1) else .error (numR (l.getD 0 zT).s).2
theorem num_cases (s : ByteArray) : (numR s).2 = 0 ∨ (numR s).2 = 9 ∨ (numR s).2 = 11 := by
 unfold numR
 split
 ·exact .inr (.inl rfl)
 split
 ·exact .inl rfl
 split
 ·exact .inl rfl
 ·exact .inr (.inr rfl)
theorem num_small (s : ByteArray) : -9223372036854775808 ≤ (numR s).1 ∧ (numR s).1 ≤ 9223372036854775807 := by
 unfold numR
 split
 ·simp
 split
 ·rename_i h
  simp only
  omega
 split
 ·rename_i h
  simp only
  omega
 ·simp
theorem md_int : MdC ⟨#[62, 105, 110, 116]⟩ [2] nuR := by
 intro d l G q w S hl hS hlen hsm hsd hf hT
 obtain ⟨x, rfl, hk⟩ := fit1 hlen hf
 obtain ⟨g, k, u, ha, hg, hc, ht⟩ := hl 0 x rfl
 cases ha
 have hu := ti_2 ht (fb_2 hk)
 subst hu
 show Cz 33 #[_, .slice (some ⟨G, q, none⟩) 1 1] w fun e w' => MdP (if (numR x.s).2 = 0 then .ok (inT (numR x.s).1) else .error (numR x.s).2) (d + 2) w e w'
 obtain ⟨s, hs⟩ : ∃ s, s = x.s := ⟨_, rfl⟩
 have hc0 : w.cell? ⟨G, q, none⟩ = some (.iface 59 (.agg #[.string s])) := by rw [hs]; exact hc
 rw [← hs]
 have HX : Hid _ := g_text s w
 have HN : Hid _ := number_any s w hT.1.1
 have hb := num_small s
 rcases num_cases s with h0 | h9 | h11
 ·rw [if_pos h0]
  rw [h0] at HN
  obtain ⟨n, hn⟩ : ∃ n, n = (numR s).1 := ⟨_, rfl⟩
  rw [← hn] at HN hb ⊢
  have HP : Hid (∀ w', Oz w w' → MdP (.ok (inT n)) (d + 2) w (.returned (.tuple #[.iface 35 (.agg #[.int .i64 n]), .int .i64 0])) w') := fun w' o => ⟨_, rfl, ⟨fun _ => False, in_ti w' _ (d + 1) n, fun _ g => g.elim⟩, in_sm hb, o⟩
  clear hl hS hlen hsm hsd hf hT hk hg hc ht hs hb h0 hn
  go_enter Tryz.func33, Tryz.ntmps33
  go_wp2_with fail
  refine (show Cz 60 _ _ _ from HX.out).mono ?_
  rintro e w1 ⟨rfl, hw1⟩
  obtain rfl := hw1.symm
  go_wp2_with fail
  refine (show Cz 59 _ _ _ from HN.out).mono ?_
  rintro e w1 ⟨rfl, o1⟩
  have O1 : Hid (Oz w w1) := o1
  clear HN HX o1
  go_wp2
  go_ret2
  exact HP.out _ O1.out
 all_goals
  rw [if_neg (by omega)]
  first | rw [h9] at HN ⊢ | rw [h11] at HN ⊢
  obtain ⟨n, hn⟩ : ∃ n, n = (numR s).1 := ⟨_, rfl⟩
  rw [← hn] at HN
  clear hl hS hlen hsm hsd hf hT hk hg hc ht hs hb hn
  go_enter Tryz.func33, Tryz.ntmps33
  go_wp2_with fail
  refine (show Cz 60 _ _ _ from HX.out).mono ?_
  rintro e w1 ⟨rfl, hw1⟩
  obtain rfl := hw1.symm
  go_wp2_with fail
  refine (show Cz 59 _ _ _ from HN.out).mono ?_
  rintro e w1 ⟨rfl, o1⟩
  have O1 : Hid (Oz w w1) := o1
  clear HN HX o1
  go_wp2
  go_ret2
  exact ⟨_, rfl, .inr ⟨_, _, rfl⟩, rfl, O1.out⟩
end Go.Proofs.YtenjollhlgjjdaaGreatDoor
