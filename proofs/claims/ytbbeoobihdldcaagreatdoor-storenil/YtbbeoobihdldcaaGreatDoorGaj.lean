/-          -/
import Derived.Test.YtbbeoobihdldcaaGreatDoorGai
import Derived.Test.YtbbeoobihdldcaaGreatDoorGaa
import Derived.Maps.Range
namespace Go.Proofs.YtbbeoobihdldcaaGreatDoor
open Go.RowKit
set_option linter.unusedSimpArgs false
set_option linter.unusedVariables false
theorem nums_row {w : World} {B n c : Nat} {a : Option Addr} {l : List (Bool × Nat)} (ho : w.ownsRow B 72 2 (.slice a n c) n (fl l)) (hl : ∀ p ∈ l, p.1 = false) : Nums w a n := by
 intro j hj
 have h1 := ho.1
 rw [fl_len] at h1
 obtain ⟨p, hp⟩ : ∃ p, l[j]? = some p := ⟨l[j]'(by omega), by simp⟩
 obtain ⟨g, c', e, _, c0, c1, _⟩ := row_at (w := w) (n := n) (v := .slice a n c) (l := l) ⟨ho.1, by
  rcases ho.2 with h | ⟨g, cap, cur, e, _, rest⟩
  ·exact .inl h
  ·exact .inr ⟨g, cap, cur, e, Nat.zero_le _, rest⟩⟩ hp
 cases e
 have hb : p.1 = false := hl p (List.mem_of_getElem? hp)
 rw [hb] at c0
 exact ⟨g, 0, _, rfl, by rw [Nat.zero_add]; exact c0, by rw [Nat.zero_add]; exact c1⟩
theorem renamed_nums {n c : Nat} {l : List (Bool × Nat)} {ad : Addr} {w : World} (mv : Value) (hl : l.length = n) (h0 : 0 < n) (hn : n ≤ 100) (hf : ∀ p ∈ l, p.1 = false) (hu : ∀ j u, (fl l)[j]? = some u → w.cell? (ad.add j) = some u) : Calls Tryz.prog 123 #[.slice (some ad) n c, mv] w fun e w' => ∃ a c', e = .returned (.slice a n c') ∧ Hid (w'.ownsRow w.heap.size 72 2 (.slice a n c') n (fl l) ∧ Only (fun _ => False) w w') := by
 have HC : Hid _ := clone_any (c := c) hl h0 (by omega) hu
 have HR : Hid (∀ a c' W, W.ownsRow w.heap.size 72 2 (.slice a n c') n (fl l) → Calls Tryz.prog 49 #[.slice a n c', mv] W fun e w' => e = .returned (.tuple #[]) ∧ Only (fun _ => False) W w') := fun a c' W ho => rename_nums a n c' mv W hn (nums_row ho hf)
 clear hl h0 hn hf hu
 go_enter Tryz.func123, Tryz.ntmps123
 go_wp2_with fail
 refine (show Calls Tryz.prog 76 _ _ _ from HC.out).mono ?_
 rintro e w1 ⟨a, c', rfl, H1⟩
 have HX : Hid _ := HR.out a c' w1 H1.out.1
 clear HC HR
 go_wp2_with fail
 refine (show Calls Tryz.prog 49 _ _ _ from HX.out).mono ?_
 rintro e w2 ⟨rfl, o2⟩
 have O2 : Hid (Only (fun _ => False) w1 w2) := o2
 clear HX o2
 go_wp2
 go_ret
 exact ⟨a, c', rfl, O2.out.owns H1.out.1 (fun _ _ g => g), H1.out.2.trans O2.out (fun _ _ g => g)⟩
set_option maxRecDepth 100000 in
theorem rename_ref (g c m n : Nat) (w : World) (c0 : w.cell? ⟨g, 0, none⟩ = some (.bool true)) (c1 : w.cell? ⟨g, 1, none⟩ = some (.int .u64 0)) (f1 : w.frozen? ⟨g, 1, none⟩ = false) (hm : w.ownsMap Tryz.prog 70 hvq m n dU) : Calls Tryz.prog 49 #[.slice (some ⟨g, 0, none⟩) 1 c, .map (some m)] w fun e w' => e = .returned (.tuple #[]) ∧ Hid (w'.cell? ⟨g, 0, none⟩ = some (.bool true) ∧ w'.cell? ⟨g, 1, none⟩ = some (.int .u64 0) ∧ Only (fun k => k = g) w w') := by
 have hlk : ∀ x, (Instr.lookup 94 (.map (some m)) (.int .u64 0) true).run Tryz.prog (w.alloc x) = .ok (.tuple #[.int .u64 0, .bool true]) (w.alloc x) := fun x => look_u (own_frame hm ((Only.refl (fun _ => False) w).alloc x) (fun g => g))
 have lg := World.block_lt_of_cell? w _ c1
 have c1A : ∀ x, (w.alloc x).cell? ⟨g, 1, none⟩ = some (.int .u64 0) := fun x => ((Only.refl (fun _ => False) w).alloc x).cell c1 (fun g => g)
 have c0A : ∀ x, (w.alloc x).cell? ⟨g, 0, none⟩ = some (.bool true) := fun x => ((Only.refl (fun _ => False) w).alloc x).cell c0 (fun g => g)
 have f1A : ∀ x, (w.alloc x).frozen? ⟨g, 1, none⟩ = false := fun x => by rw [((Only.refl (fun _ => False) w).alloc x).frozen lg (fun g => g)]; exact f1
 have HF : Hid (∀ x, ((w.alloc x).setCell ⟨g, 1, none⟩ (.int .u64 0)).cell? ⟨g, 0, none⟩ = some (.bool true) ∧ ((w.alloc x).setCell ⟨g, 1, none⟩ (.int .u64 0)).cell? ⟨g, 1, none⟩ = some (.int .u64 0) ∧ Only (fun k => k = g) w ((w.alloc x).setCell ⟨g, 1, none⟩ (.int .u64 0))) := fun x => ⟨by rw [World.cell?_setCell_other _ _ _ _ (by intro e; cases e)]; exact c0A x, World.cell?_setCell_same _ _ _ (c1A x), ((Only.refl (fun k => k = g) w).alloc x).setCell _ _ (fun _ => rfl)⟩
 clear hm lg
 go_enter Tryz.func49, Tryz.ntmps49
 go_wp2
 go_loopw [10] (fun r10 wr => ∃ i : Nat, r10 = .int .i64 (i : Int) ∧ ((i = 0 ∧ wr = w) ∨ (i = 1 ∧ Hid (wr.cell? ⟨g, 0, none⟩ = some (.bool true) ∧ wr.cell? ⟨g, 1, none⟩ = some (.int .u64 0) ∧ Only (fun k => k = g) w wr)))) (fun r _ => 1 - uOH r)
 case atStart => exact ⟨0, rfl, .inl ⟨rfl, rfl⟩⟩
 case round =>
  obtain ⟨i, rfl, ⟨rfl, rfl⟩ | ⟨rfl, HP⟩⟩ := hrel
  ·go_wp2
   go_roundw
   case rel => exact ⟨1, by go_num, .inr ⟨rfl, HF.out _⟩⟩
   case measure => simp only [uOH]; omega
  ·go_wp2
   go_end0
   exact ⟨rfl, HP⟩
set_option maxRecDepth 100000 in
theorem renamed_ref {R K m n : Nat} {w : World} (c0 : w.cell? ⟨R, 0, none⟩ = some (.bool true)) (c1 : w.cell? ⟨R, 1, none⟩ = some (.int .u64 0)) (hm : w.ownsMap Tryz.prog 70 hvq m n dU) : Calls Tryz.prog 123 #[.slice (some ⟨R, 0, none⟩) 1 K, .map (some m)] w fun e w' => ∃ g c', e = .returned (.slice (some ⟨g, 0, none⟩) 1 c') ∧ Hid (w'.cell? ⟨g, 0, none⟩ = some (.bool true) ∧ w'.cell? ⟨g, 1, none⟩ = some (.int .u64 0) ∧ Only (fun _ => False) w w') := by
 have HC : Hid _ := clone_any (n := 1) (c := K) (l := R0) (ad := ⟨R, 0, none⟩) (w := w) rfl (by omega) (by omega) (by
  intro j u hu
  rw [addr_ad]
  match j, hu with
  | 0, hu => simp [R0, fl] at hu; rw [← hu]; exact c0
  | 1, hu => simp [R0, fl] at hu; rw [← hu]; exact c1
  | j + 2, hu => simp [R0, fl] at hu)
 have HM : Hid (∀ W, Only (fun _ => False) w W → W.ownsMap Tryz.prog 70 hvq m n dU) := fun W o => own_frame hm o (fun g => g)
 clear hm c0 c1
 go_enter Tryz.func123, Tryz.ntmps123
 go_wp2_with fail
 refine (show Calls Tryz.prog 76 _ _ _ from HC.out).mono ?_
 rintro e w1 ⟨a, c', rfl, H1⟩
 obtain ⟨g, hg, hgs, x0, x1, fx⟩ : ∃ g, a = some ⟨g, 0, none⟩ ∧ w.heap.size ≤ g ∧ w1.cell? ⟨g, 0, none⟩ = some (.bool true) ∧ w1.cell? ⟨g, 1, none⟩ = some (.int .u64 0) ∧ w1.frozen? ⟨g, 1, none⟩ = false := by
  obtain ⟨ho, o1⟩ := H1.out
  rcases ho.2 with ⟨e, _⟩ | ⟨g, cap, cur, e, hb, hgg, rest⟩
  ·cases e
  ·cases e
   have hc := ho.cells (g := g) rfl
   have h0 := hc 0 (.bool true) rfl
   have h1 := hc 1 (.int .u64 0) rfl
   rw [addr_ad] at h0 h1
   exact ⟨g, rfl, hb, h0, h1, hb_froz hgg 1⟩
 subst hg
 have HX : Hid _ := rename_ref g c' m n w1 x0 x1 fx (HM.out w1 H1.out.2)
 have HG : Hid (w.heap.size ≤ g) := hgs
 clear HC HM x0 x1 fx hgs
 go_wp2_with fail
 refine (show Calls Tryz.prog 49 _ _ _ from HX.out).mono ?_
 rintro e w2 ⟨rfl, H2⟩
 clear HX
 go_wp2
 go_ret
 have hs := HG.out
 exact ⟨g, c', rfl, H2.out.1, H2.out.2.1, H1.out.2.trans H2.out.2.2 (fun k hk q => by omega)⟩
end Go.Proofs.YtbbeoobihdldcaaGreatDoor
namespace Go.Proofs.YtbbeoobihdldcaaGreatDoor
open Go.RowKit
set_option linter.unusedSimpArgs false
set_option linter.unusedVariables false
theorem one_list (R K : Nat) (W : World) : (Instr.buildSlice 158 1 #[(0, .slice (some ⟨R, 0, none⟩) 1 K)]).run Tryz.prog W = .ok (.slice (some ⟨W.heap.size, 0, none⟩) 1 1) (W.alloc (.cells #[.slice (some ⟨R, 0, none⟩) 1 K] 63)) := by kernel_rfl
end Go.Proofs.YtbbeoobihdldcaaGreatDoor
namespace Go.Proofs.YtbbeoobihdldcaaGreatDoor
open Go.RowKit
set_option linter.unusedSimpArgs false
set_option linter.unusedVariables false
theorem made_o (W : World) : (Instr.makeSlice 164 (.int .i64 1) (.int .i64 1)).run Tryz.prog W = .ok (.slice (some ⟨W.heap.size, 0, none⟩) 1 1) (W.alloc (.cells #[.int .i64 0, .bool false, .slice none 0 0] 171)) := by kernel_rfl
theorem HqO.at0 {h m : Nat} {a : Option Addr} {c R K : Nat} {w : World} (hO : HqO w h m a c R K) :
  Calls Tryz.prog 48 #[.pointer (some ⟨h, 0, none⟩), .int .u64 0] w fun e w' => ∃ Y k, e = .returned (.slice (some ⟨Y, 0, none⟩) 3 k) ∧ Hid (3 ≤ k ∧ HqO w' h m a c R K ∧ a = some ⟨Y, 0, none⟩ ∧ Only (fun _ => False) w w') := by
 refine (at_any h m 50 _ _ (yI 2) R0 0 1028 3 w hO.es (yI_ob 2) (by decide)).mono ?_
 rintro e w' ⟨Y, k, hq, rfl, o⟩
 have h1 : (Value.slice a 3 c).ownBlock = some Y := hq.1
 obtain ⟨Y', c', e', _⟩ := row_at (i := 0) (p := (false, 1028)) hO.es.ry rfl
 cases e'
 obtain rfl : Y' = Y := by simpa [Value.ownBlock] using h1
 exact ⟨Y', k, by rw [Nat.zero_mul], hq.2, hO.only o, rfl, o⟩
def FdL : List (Bool × Nat) := [(false, 1), (false, 20)]
theorem HqO.fields {w : World} {h m : Nat} {c R K Y : Nat} (g : HqO w h m (some ⟨Y, 0, none⟩) c R K) : (∀ j u, (fl FdL)[j]? = some u → w.cell? ((⟨Y, 2, none⟩ : Addr).add j) = some u) ∧ w.cell? ⟨Y, 1, none⟩ = some (.int .u64 1028) := by
 have hc := g.es.ry.cells (g := Y) rfl
 have key : ∀ j u, (fl (yI 2))[j]? = some u → w.cell? ⟨Y, j, none⟩ = some u := fun j u hu => by
  have := hc j u hu
  rwa [addr_ad] at this
 refine ⟨fun j u hu => ?_, key 1 _ rfl⟩
 have e1 : (⟨Y, 2, none⟩ : Addr).add j = ⟨Y, 2 + j, none⟩ := by unfold Addr.add; split <;> simp_all
 rw [e1]
 match j, hu with
 | 0, hu => exact key 2 u hu
 | 1, hu => exact key 3 u hu
 | 2, hu => exact key 4 u hu
 | 3, hu => exact key 5 u hu
 | j + 4, hu => simp [FdL, fl] at hu
def WkP (w w' : World) (g Ob : Nat) : Prop := w'.cell? ⟨g, 0, none⟩ = some (.bool true) ∧ w'.cell? ⟨g, 1, none⟩ = some (.int .u64 0) ∧ Only (fun _ => False) w w' ∧ w'.cell? ⟨Ob, 0, none⟩ = some (.int .i64 4) ∧ w'.cell? ⟨Ob, 1, none⟩ = some (.bool false) ∧ ∃ fa fc, w'.cell? ⟨Ob, 2, none⟩ = some (.slice fa 2 fc) ∧ w'.ownsRow 0 72 2 (.slice fa 2 fc) 2 (fl FdL)
def WlP (w wr : World) (h m : Nat) (a : Option Addr) (c R K M Ob : Nat) : Prop := HqO wr h m a c R K ∧ wr.ownsMap Tryz.prog 70 hvq M 1 dU ∧ Only (fun _ => False) w wr ∧ wr.cell? ⟨Ob, 0, none⟩ = some (.int .i64 4) ∧ wr.cell? ⟨Ob, 1, none⟩ = some (.bool false) ∧ ∃ fa fc, wr.cell? ⟨Ob, 2, none⟩ = some (.slice fa 2 fc) ∧ wr.ownsRow 0 72 2 (.slice fa 2 fc) 2 (fl FdL)
set_option maxRecDepth 100000 in
set_option maxHeartbeats 16000000 in
theorem walk1 (h m : Nat) (a : Option Addr) (c R K : Nat) (w : World) (hO : HqO w h m a c R K) :
  Calls Tryz.prog 93 #[.pointer (some ⟨h, 0, none⟩)] w fun e w' => ∃ g gc Ob, e = .returned (.tuple #[.slice (some ⟨g, 0, none⟩) 1 gc, .slice (some ⟨Ob, 0, none⟩) 1 1]) ∧ Hid (WkP w w' g Ob) := by
 have c4 := hO.cells.2.2
 have h1 := one_list R K
 have HR : Hid (∀ X, Only (fun _ => False) w X → X.heap[w.heap.size]? = some (.cells #[.slice (some ⟨R, 0, none⟩) 1 K] 63) → Calls Tryz.prog 50 #[.pointer (some ⟨h, 0, none⟩), .int .u64 0, .slice (some ⟨w.heap.size, 0, none⟩) 1 1] X fun e w' => ∃ q k, e = .returned (.slice (some ⟨q, 0, none⟩) 1 k) ∧ Hid (w'.cell? ⟨q, 0, none⟩ = some (.int .u64 0) ∧ Only (fun _ => False) X w')) := fun X o hX => reachq h m a c R K w.heap.size X (hO.only o) hX
 have HO : Hid (HqO w h m a c R K) := hO
 clear hO
 go_enter Tryz.func93, Tryz.ntmps93
 go_wp2_with fail
 go_region_with (go_at_call 50; refine (show Calls Tryz.prog 50 _ _ _ from HR.out _ (by repeat' first | exact Only.refl _ _ | apply Only.drew | apply Only.alloc) (by exact alloc_at w _ _ rfl)).mono ?_; rintro e w1 ⟨q, k, rfl, h1⟩; have O1 : Hid (Only (fun _ => False) w w1) := (Only.trans (show Only (fun _ => False) w _ by repeat' first | exact Only.refl _ _ | apply Only.drew | apply Only.alloc) h1.out.2 (fun _ _ g => g)))
 all_goals
  have HQ : Hid (w1.cell? ⟨q, 0, none⟩ = some (.int .u64 0)) := h1.out.1
  clear HR h1 c4
  have hm2 := mkm2
  obtain ⟨W2, hW2⟩ : ∃ W2, W2 = w1.alloc (.map #[] 0) := ⟨_, rfl⟩
  obtain ⟨M, hM⟩ : ∃ M, M = w1.heap.size := ⟨_, rfl⟩
  have o2 : Only (fun _ => False) w1 W2 := by rw [hW2]; exact (Only.refl _ w1).alloc _
  have bM : W2.heap[M]? = some (.map #[] 0) := by rw [hW2]; exact alloc_at _ _ _ hM
  obtain ⟨W3, hr3, ho3, o3, hsz⟩ := put_u W2 M 0 bM
  clear hsz
  have q2 : W2.cell? ⟨q, 0, none⟩ = some (.int .u64 0) := o2.cell HQ.out (fun g => g)
  have hs := O1.out.size
  have oo3 : Only (fun _ => False) w W3 := (O1.out.trans o2 (fun _ _ g => g)).trans o3 (fun k hk e => by omega)
  have q3 : W3.cell? ⟨q, 0, none⟩ = some (.int .u64 0) := o3.cell q2 (fun e => by
   have := World.block_lt_of_cell? w1 _ HQ.out
   simp only at e this
   omega)
  have H3 : Hid (HqO W3 h m a c R K ∧ W3.ownsMap Tryz.prog 70 hvq M 1 dU ∧ Only (fun _ => False) w W3 ∧ W3.cell? ⟨q, 0, none⟩ = some (.int .u64 0)) := ⟨HO.out.only oo3, ho3, oo3, q3⟩
  have hw0 : IntKind.u64.wrap 0 = 0 := by decide
  clear o2 bM ho3 o3 hs oo3
  go_wp2_with fail
  rw [← hW2, ← hM]
  clear hW2 hM hm2
  go_loopw [26] (fun r wr => ∃ i : Nat, r = .int .i64 (i : Int) ∧ ((i = 0 ∧ wr = W2) ∨ (i = 1 ∧ wr = W3))) (fun r _ => 1 - uOH r)
  case atStart => exact ⟨0, rfl, .inl ⟨rfl, by first | rfl | trivial⟩⟩
  case round =>
   obtain ⟨i, rfl, ⟨rfl, hwr⟩ | ⟨rfl, hwr⟩⟩ := hrel
   ·obtain rfl := hwr.symm
    go_wp2
    go_roundw
    case rel => exact ⟨1, by go_num, .inr ⟨rfl, by first | rfl | trivial⟩⟩
    case measure => simp only [uOH]; omega
   ·obtain rfl := hwr.symm
    clear hr3 q2
    have hmo := made_o
    obtain ⟨W4, hW4⟩ : ∃ W4, W4 = W3.alloc (.cells #[.int .i64 0, .bool false, .slice none 0 0] 171) := ⟨_, rfl⟩
    obtain ⟨Ob, hOb⟩ : ∃ Ob, Ob = W3.heap.size := ⟨_, rfl⟩
    have o4 : Only (fun _ => False) W3 W4 := by rw [hW4]; exact (Only.refl _ W3).alloc _
    have b4 : W4.heap[Ob]? = some (.cells #[.int .i64 0, .bool false, .slice none 0 0] 171) := by rw [hW4]; exact alloc_at _ _ _ hOb
    have q4 : W4.cell? ⟨q, 0, none⟩ = some (.int .u64 0) := o4.cell q3 (fun g => g)
    have oo4 : Only (fun _ => False) w W4 := H3.out.2.2.1.trans o4 (fun _ _ g => g)
    have s3 := H3.out.2.2.1.size
    have HAt : Hid (Calls Tryz.prog 48 #[.pointer (some ⟨h, 0, none⟩), .int .u64 0] W4 fun e w' => ∃ Y k, e = .returned (.slice (some ⟨Y, 0, none⟩) 3 k) ∧ Hid (3 ≤ k ∧ HqO w' h m a c R K ∧ a = some ⟨Y, 0, none⟩ ∧ Only (fun _ => False) W4 w')) := (HO.out.only oo4).at0
    have H4 : Hid (W4.ownsMap Tryz.prog 70 hvq M 1 dU ∧ Only (fun _ => False) w W4 ∧ W4.heap[Ob]? = some (.cells #[.int .i64 0, .bool false, .slice none 0 0] 171) ∧ w.heap.size ≤ Ob) := ⟨own_frame H3.out.2.1 o4 (fun g => g), oo4, b4, by omega⟩
    clear o4 b4 oo4 s3 q3 H3
    go_wp2_with fail
    rw [← hW4, ← hOb]
    clear hW4 hOb hmo
    go_loopw [41] (fun r wr => ∃ i : Nat, r = .int .i64 (i : Int) ∧ ((i = 0 ∧ wr = W4) ∨ (i = 1 ∧ Hid (WlP w wr h m a c R K M Ob)))) (fun r _ => 1 - uOH r)
    case atStart => exact ⟨0, rfl, .inl ⟨rfl, by first | rfl | trivial⟩⟩
    case round =>
     obtain ⟨i, rfl, ⟨rfl, hwr⟩ | ⟨rfl, HL⟩⟩ := hrel
     ·obtain rfl := hwr.symm
      go_wp2_with fail
      refine (show Calls Tryz.prog 48 _ _ _ from HAt.out).mono ?_
      rintro e w5 ⟨Y, k5, rfl, H5⟩
      obtain ⟨hk5, hO5, ha5, o5⟩ := H5.out
      subst ha5
      obtain ⟨hfu, y1⟩ := hO5.fields
      have HK : Hid (Calls Tryz.prog 78 #[.slice (some ⟨Y, 0, none⟩) 3 k5] w5 fun e w' => e = .returned (.int .i64 4) ∧ w' = w5) := kind_of Y 0 3 k5 1028 4 (by decide) w5 (by rw [Nat.zero_add]; exact y1) (by decide) (by decide)
      have HRw : Hid (Calls Tryz.prog 72 #[.slice (some ⟨Y, 0, none⟩) 3 k5] w5 fun e w' => e = .returned (.bool false) ∧ w' = w5) := raw_no Y 0 3 k5 1028 (by decide) w5 (by rw [Nat.zero_add]; exact y1) (by decide)
      have HFd : Hid (Calls Tryz.prog 71 #[.slice (some ⟨Y, 0, none⟩) 3 k5] w5 fun e w' => e = .returned (.slice (some ⟨Y, 2, none⟩) 2 (k5 - 1)) ∧ w' = w5) := fields_any Y 0 3 k5 (by decide) hk5 w5
      have b5 := o5.at H4.out.2.2.1
      have HRn : Hid (Calls Tryz.prog 123 #[.slice (some ⟨Y, 2, none⟩) 2 (k5 - 1), .map (some M)] w5 fun e w' => ∃ fa fc, e = .returned (.slice fa 2 fc) ∧ w'.cell? ⟨Ob, 0, none⟩ = some (.int .i64 0) ∧ w'.cell? ⟨Ob, 1, none⟩ = some (.bool false) ∧ w'.cell? ⟨Ob, 2, none⟩ = some (.slice none 0 0) ∧ (∀ j, w'.frozen? ⟨Ob, j, none⟩ = false) ∧ Hid (WlP w (((w'.setCell ⟨Ob, 0, none⟩ (.int .i64 4)).setCell ⟨Ob, 1, none⟩ (.bool false)).setCell ⟨Ob, 2, none⟩ (.slice fa 2 fc)) h m (some ⟨Y, 0, none⟩) c R K M Ob)) := (renamed_nums (.map (some M)) (n := 2) (c := k5 - 1) (l := FdL) (ad := ⟨Y, 2, none⟩) (w := w5) rfl (by omega) (by omega) (by decide) hfu).mono (by
       rintro e w6 ⟨fa, fc, rfl, hown, o6⟩
       have b6 := o6.at b5
       have o46 : Only (fun _ => False) w w6 := (H4.out.2.1.trans o5 (fun _ _ g => g)).trans o6 (fun _ _ g => g)
       have os : Only (fun k => k = Ob) w6 (((w6.setCell ⟨Ob, 0, none⟩ (.int .i64 4)).setCell ⟨Ob, 1, none⟩ (.bool false)).setCell ⟨Ob, 2, none⟩ (.slice fa 2 fc)) := (((Only.refl (fun k => k = Ob) w6).setCell _ _ (fun _ => rfl)).setCell _ _ (fun _ => rfl)).setCell _ _ (fun _ => rfl)
       have bb := set_blk (set_blk (set_blk b6 0 (.int .i64 4)) 1 (.bool false)) 2 (.slice fa 2 fc)
       have hge := H4.out.2.2.2
       have hOw := Only.trans o46 os (fun k hk e => by omega)
       have hM6 := own_frame H4.out.1 (o5.trans o6 (fun _ _ g => g)) (fun g => g)
       have nM : Ob ≠ M := fun e => by
        obtain ⟨es, ck, hb, _⟩ := hM6
        rw [← e, b6] at hb
        simp at hb
       have o56 := hown
       refine ⟨fa, fc, rfl, hb_cell b6 0, hb_cell b6 1, hb_cell b6 2, fun j => hb_froz b6 j, HO.out.only hOw, own_frame hM6 os (fun e => nM e.symm), hOw, hb_cell bb 0, hb_cell bb 1, fa, fc, hb_cell bb 2, ?_⟩
       refine os.owns (ownsRow_base hown (Nat.zero_le _)) (fun k hk e => ?_)
       have := own_ne hown b6 (by simp)
       exact this (e ▸ hk))
      clear HAt q4 hO5 o5 hfu y1 b5 hk5
      go_wp2_with (first
       | (go_at_call 78; refine (show Calls Tryz.prog 78 _ _ _ from HK.out).mono ?_; rintro e v1 ⟨rfl, hq⟩; rw [hq]; clear hq)
       | (go_at_call 72; refine (show Calls Tryz.prog 72 _ _ _ from HRw.out).mono ?_; rintro e v1 ⟨rfl, hq⟩; rw [hq]; clear hq)
       | (go_at_call 71; refine (show Calls Tryz.prog 71 _ _ _ from HFd.out).mono ?_; rintro e v1 ⟨rfl, hq⟩; rw [hq]; clear hq)
       | (go_at_call 123; refine (show Calls Tryz.prog 123 _ _ _ from HRn.out).mono ?_; rintro e w6 ⟨fa, fc, rfl, z0, z1, z2, zf, HL⟩; have zf0 := zf 0; have zf1 := zf 1; have zf2 := zf 2; clear zf))
      go_roundw
      case rel => exact ⟨1, by go_num, .inr ⟨rfl, HL⟩⟩
      case measure => simp only [uOH]; omega
     ·clear HAt q4
      have c4 := HL.out.1.cells.2.2
      have HRr : Hid _ := renamed_ref (R := R) (K := K) (m := M) (n := 1) (w := wr) HL.out.1.r0 HL.out.1.r1 HL.out.2.1
      go_wp2_with fail
      refine (show Calls Tryz.prog 123 _ _ _ from HRr.out).mono ?_
      rintro e w7 ⟨g, gc, rfl, H7⟩
      clear HRr c4
      go_wp2
      go_ret2
      obtain ⟨g0, g1, o7⟩ := H7.out
      obtain ⟨_, _, oL, x0, x1, fa, fc, x2, x3⟩ := HL.out
      exact ⟨g, gc, Ob, rfl, g0, g1, oL.trans o7 (fun _ _ g => g), o7.cell x0 (fun g => g), o7.cell x1 (fun g => g), fa, fc, o7.cell x2 (fun g => g), o7.owns x3 (fun _ _ g => g)⟩
end Go.Proofs.YtbbeoobihdldcaaGreatDoor
namespace Go.Proofs.YtbbeoobihdldcaaGreatDoor
open Go.RowKit
set_option linter.unusedSimpArgs false
set_option linter.unusedVariables false
theorem infoW : (Tryz.prog.info? 168).map (fun i => (i.zero, i.size, i.bytes)) = some (some (.agg #[.int .i64 0, .int .i64 0]), 2, 16) := by kernel_rfl
theorem app_w {w : World} {B n : Nat} {v : Value} {us : List Value} (ho : w.ownsRow B 168 2 v n us) (hB : B ≤ w.heap.size) (x y : Int) (hl : n ≤ 1000000) :
  ∃ a c w', (∀ ty, (Builtin.append_ #[109, 109] ty #[v, .slice (some ⟨w.heap.size, 0, none⟩) 1 1]).run Tryz.prog (w.alloc (.cells #[.int .i64 x, .int .i64 y] 168)) = .ok (.slice a (n + 1) c) w') ∧ w'.ownsRow B 168 2 (.slice a (n + 1) c) (n + 1) (us ++ [.int .i64 x, .int .i64 y]) ∧ Only (fun k => v.ownBlock = some k) w w' := by
 obtain ⟨i0, hi, hz0, hz1, hz2⟩ := info_parts infoW
 obtain ⟨W, hW⟩ : ∃ W, W = w.alloc (.cells #[.int .i64 x, .int .i64 y] 168) := ⟨_, rfl⟩
 have oo : Only (fun _ => False) w W := by rw [hW]; exact (Only.refl _ w).alloc _
 have ho2 := oo.owns ho (fun _ _ g => g)
 have hblk : W.heap[w.heap.size]? = some (.cells #[.int .i64 x, .int .i64 y] 168) := by rw [hW]; exact alloc_at _ _ _ rfl
 have key := fun ty => run_append_own_at (P := Tryz.prog) W B 109 ty 168 i0 (.agg #[.int .i64 0, .int .i64 0]) 2 16 Tryz.underlying109 hi hz0 hz1 hz2 rfl (by omega) v n us ho2 ⟨w.heap.size, 0, none⟩ 1 1 [.int .i64 x, .int .i64 y] rfl (by
   intro j u hj
   rw [addr_ad, hb_cell hblk]
   simpa using hj) (by
   intro u hu
   simp only [List.mem_cons, List.not_mem_nil, or_false] at hu
   rcases hu with rfl | rfl <;> rfl) (by unfold maxLen; omega) (by omega) (by have := oo.size; omega)
 obtain ⟨v', w', hr, own', hg, _, hat⟩ := key 0
 obtain ⟨a, c, rfl⟩ := ownsRow_slice own'
 refine ⟨a, c, w', fun ty => ?_, own', (oo.mono (bs' := fun k => v.ownBlock = some k) (fun _ _ h => h.elim)).trans ((Only.refl (fun k => v.ownBlock = some k) W).grown hg (fun k e _ => e)) (fun k hk e => e)⟩
 rw [← hW, ← hr]
 rfl
def fnB (h m1 m2 m3 : Nat) (ws : Value) : Obj := .cells #[.pointer (some ⟨h, 0, none⟩), .slice none 0 0, .map (some m1), .map (some m2), ws, .map (some m3)] 111
theorem name_nums (ao : Option Addr) (n c P : Nat) (b : Int) (w : World) (hn : n ≤ 100) (hf : Nums w ao n) : Calls Tryz.prog 94 #[.int .i64 b, .slice ao n c, .pointer (some ⟨P, 0, none⟩)] w fun e w' => e = .returned (.tuple #[]) ∧ Only (fun _ => False) w w' := by
 have HF : Hid _ := hf
 clear hf
 go_enter Tryz.func94, Tryz.ntmps94
 go_wp2
 go_loopw [9] (fun r wr => ∃ i : Nat, r = .int .i64 (i : Int) ∧ i ≤ n ∧ Hid (Only (fun _ => False) w wr)) (fun r _ => n - uOH r)
 case atStart => exact ⟨0, rfl, Nat.zero_le _, Only.refl _ _⟩
 case round =>
  obtain ⟨i, rfl, hi, HI⟩ := hrel
  obtain ⟨w1, rfl⟩ : ∃ w1, w1 = wr := ⟨_, rfl⟩
  by_cases hin : i < n
  ·obtain ⟨g, k, x, rfl, c0, c1⟩ := HF.out i hin
   have c0 := HI.out.cell c0 (fun g => g)
   have c1 := HI.out.cell c1 (fun g => g)
   have HB : Hid (i < n) := hin
   have i1 : (i : Int) < (n : Int) := by omega
   have i0 : (0 : Int) ≤ (i : Int) := by omega
   obtain ⟨W1, hW1⟩ : ∃ W1, W1 = w1.alloc (.cells #[.bool false, .int .u64 x] 72) := ⟨_, rfl⟩
   obtain ⟨N, hN⟩ : ∃ N, N = w1.heap.size := ⟨_, rfl⟩
   have bN : W1.heap[N]? = some (.cells #[.bool false, .int .u64 x] 72) := by rw [hW1]; exact alloc_at _ _ _ hN
   have n0 : W1.cell? ⟨N, 0, none⟩ = some (.bool false) := hb_cell bN 0
   have HO : Hid (Only (fun _ => False) w W1) := by rw [hW1]; exact HI.out.alloc _
   clear HI bN
   go_wp2_with fail
   rw [← hW1, ← hN]
   clear hW1 hN
   go_quiet (fail)
   go_wp2
   go_roundw
   case rel => exact ⟨i + 1, by go_num, by have := HB.out; omega, HO.out.drewN _⟩
   case measure => simp only [uOH]; have := HB.out; omega
  ·obtain rfl : i = n := by omega
   have i1 : ¬ (i : Int) < (i : Int) := by omega
   go_wp2
   go_end0
   exact ⟨rfl, HI.out⟩
end Go.Proofs.YtbbeoobihdldcaaGreatDoor
namespace Go.Proofs.YtbbeoobihdldcaaGreatDoor
open Go.RowKit
set_option linter.unusedSimpArgs false
set_option linter.unusedVariables false
def NrP (w w' : World) (F h m1 m2 m3 : Nat) : Prop := Only (fun k => k = F) w w' ∧ ∃ ua uc, w'.heap[F]? = some (fnB h m1 m2 m3 (.slice ua 1 uc)) ∧ w'.ownsRow w.heap.size 168 2 (.slice ua 1 uc) 1 [.int .i64 (-1), .int .i64 0]
set_option maxRecDepth 100000 in
set_option maxHeartbeats 8000000 in
theorem name_ref (g gc P F h m1 m2 m3 : Nat) (w : World) (c0 : w.cell? ⟨g, 0, none⟩ = some (.bool true)) (c1 : w.cell? ⟨g, 1, none⟩ = some (.int .u64 0)) (hP : w.cell? ⟨P, 0, none⟩ = some (.pointer (some ⟨F, 0, none⟩))) (hF : w.heap[F]? = some (fnB h m1 m2 m3 (.slice none 0 0))) : Calls Tryz.prog 94 #[.int .i64 (-1), .slice (some ⟨g, 0, none⟩) 1 gc, .pointer (some ⟨P, 0, none⟩)] w fun e w' => e = .returned (.tuple #[]) ∧ Hid (NrP w w' F h m1 m2 m3) := by
 obtain ⟨W1, hW1⟩ : ∃ W1, W1 = w.alloc (.cells #[.bool true, .int .u64 0] 72) := ⟨_, rfl⟩
 obtain ⟨N, hN⟩ : ∃ N, N = w.heap.size := ⟨_, rfl⟩
 have o1 : Only (fun _ => False) w W1 := by rw [hW1]; exact (Only.refl _ w).alloc _
 have bN : W1.heap[N]? = some (.cells #[.bool true, .int .u64 0] 72) := by rw [hW1]; exact alloc_at _ _ _ hN
 have n0 : W1.cell? ⟨N, 0, none⟩ = some (.bool true) := hb_cell bN 0
 have n1 : W1.cell? ⟨N, 1, none⟩ = some (.int .u64 0) := hb_cell bN 1
 have p0 : W1.cell? ⟨P, 0, none⟩ = some (.pointer (some ⟨F, 0, none⟩)) := o1.cell hP (fun g => g)
 have bF := o1.at hF
 have f4 : W1.cell? ⟨F, 4, none⟩ = some (.slice none 0 0) := hb_cell bF 4
 have HW : Hid (Only (fun _ => False) w W1 ∧ W1.heap[F]? = some (fnB h m1 m2 m3 (.slice none 0 0)) ∧ W1.cell? ⟨P, 0, none⟩ = some (.pointer (some ⟨F, 0, none⟩))) := ⟨o1, bF, p0⟩
 have HK : Hid (w.heap[F]? = some (fnB h m1 m2 m3 (.slice none 0 0))) := hF
 have hw0 : IntKind.u64.wrap 0 = 0 := by decide
 clear o1 bN hP bF hF
 go_enter Tryz.func94, Tryz.ntmps94
 go_wp2
 go_loopw [9] (fun r wr => ∃ i : Nat, r = .int .i64 (i : Int) ∧ ((i = 0 ∧ wr = w) ∨ (i = 1 ∧ Hid (NrP w wr F h m1 m2 m3)))) (fun r _ => 1 - uOH r)
 case atStart => exact ⟨0, rfl, .inl ⟨rfl, by first | rfl | trivial⟩⟩
 case round =>
  obtain ⟨i, rfl, ⟨rfl, hwr⟩ | ⟨rfl, HP⟩⟩ := hrel
  ·obtain rfl := hwr.symm
   go_wp2_with fail
   rw [← hW1, ← hN]
   clear hW1 hN
   go_quiet (fail)
   refine then_at fun X hX => ?_
   have oX : Only (fun _ => False) W1 X := by rw [hX]; first | exact (Only.refl _ _).drewN _ | exact Only.refl _ _
   have bX := oX.at HW.out.2.1
   have x0 : X.cell? ⟨P, 0, none⟩ = some (.pointer (some ⟨F, 0, none⟩)) := oX.cell HW.out.2.2 (fun g => g)
   have x4 : X.cell? ⟨F, 4, none⟩ = some (.slice none 0 0) := hb_cell bX 4
   obtain ⟨a1, k1, w3, hr1, hown, oo⟩ := app_w (w := X.drew) (B := X.heap.size) (World.ownsRow_nil _ _ _ _) (Nat.le_refl _) (-1) 0 (by omega)
   have o3 : Only (fun _ => False) X w3 := ((Only.refl (fun _ => False) X).drew).trans (oo.mono (bs' := fun _ => False) (fun k _ e => by cases e)) (fun _ _ g => g)
   have b3 := o3.at bX
   have e4 : w3.cell? ⟨F, 4, none⟩ = some (.slice none 0 0) := hb_cell b3 4
   have g4 : w3.frozen? ⟨F, 4, none⟩ = false := hb_froz b3 4
   have HR : Hid (∀ ty, (Builtin.append_ #[109, 109] ty #[.slice none 0 0, .slice (some ⟨X.heap.size, 0, none⟩) 1 1]).run Tryz.prog ((X.alloc (.cells #[.int .i64 (-1), .int .i64 0] 168)).drew) = .ok (.slice a1 1 k1) w3) := hr1
   have HF : Hid (NrP w (w3.setCell ⟨F, 4, none⟩ (.slice a1 1 k1)) F h m1 m2 m3) := by
    have ow : Only (fun _ => False) w w3 := (HW.out.1.trans oX (fun _ _ g => g)).trans o3 (fun _ _ g => g)
    have os : Only (fun k => k = F) w3 (w3.setCell ⟨F, 4, none⟩ (.slice a1 1 k1)) := (Only.refl _ w3).setCell _ _ (fun _ => rfl)
    have lF := (Array.getElem?_eq_some_iff.1 HK.out).1
    have sX := (HW.out.1.trans oX (fun _ _ g => g)).size
    refine ⟨(ow.mono (bs' := fun k => k = F) (fun _ _ g => g.elim)).trans os (fun _ _ g => g), a1, k1, set_blk b3 4 _, ?_⟩
    rw [List.nil_append] at hown
    refine os.owns (ownsRow_base hown sX) (fun k hk e => ?_)
    have := (hown.lt k hk).1
    omega
   have x4A : ∀ x, (X.alloc x).cell? ⟨F, 4, none⟩ = some (.slice none 0 0) := fun x => hb_cell (((Only.refl (fun _ => False) X).alloc x).at bX) 4
   have x0A : ∀ x, (X.alloc x).cell? ⟨P, 0, none⟩ = some (.pointer (some ⟨F, 0, none⟩)) := fun x => ((Only.refl (fun _ => False) X).alloc x).cell x0 (fun g => g)
   have x4B : ∀ x y, ((X.alloc x).alloc y).cell? ⟨F, 4, none⟩ = some (.slice none 0 0) := fun x y => hb_cell ((((Only.refl (fun _ => False) X).alloc x).alloc y).at bX) 4
   have x0B : ∀ x y, ((X.alloc x).alloc y).cell? ⟨P, 0, none⟩ = some (.pointer (some ⟨F, 0, none⟩)) := fun x y => (((Only.refl (fun _ => False) X).alloc x).alloc y).cell x0 (fun g => g)
   have f4B : ∀ x y, ((X.alloc x).alloc y).frozen? ⟨F, 4, none⟩ = false := fun x y => hb_froz ((((Only.refl (fun _ => False) X).alloc x).alloc y).at bX) 4
   have y0 : w3.cell? ⟨P, 0, none⟩ = some (.pointer (some ⟨F, 0, none⟩)) := o3.cell x0 (fun g => g)
   clear oX bX hr1 hown oo o3 b3 hX HW HK n0 n1 p0 f4 c0 c1
   go_wp2_with fail
   go_region_law (refine step_append_run (by rfl) _ _ 109 (by rfl) _ _ (.slice a1 1 k1) (by rfl) (by rfl) HR.out ?_)
   all_goals
    clear x0 x4 x4A x0A x4B x0B f4B e4 g4 HR y0
    go_wp2
    go_roundw
    case rel => exact ⟨1, by go_num, .inr ⟨rfl, HF⟩⟩
    case measure => simp only [uOH]; omega
  ·go_wp2
   go_end0
   exact ⟨rfl, HP⟩
end Go.Proofs.YtbbeoobihdldcaaGreatDoor
namespace Go.Proofs.YtbbeoobihdldcaaGreatDoor
open Go.RowKit Go.Maps Go.Sort Go.Shelf
set_option linter.unusedSimpArgs false
set_option linter.unusedVariables false
theorem sorts1 (m : Nat) : AnyZI.SortsIn Tryz.prog Tryz.sortedA_ren Fence.wide m :=
 ⟨fun blk off cap ss W hH hblk hsz => callsIn_wide.2 (AnyM.slices_Sort_int Tryz.sortA blk off cap ss W hH hblk hsz),
  fun p cap W => callsIn_wide.2 (AnyM.slices_Sort_int_none Tryz.sortA p cap W)⟩
set_option maxRecDepth 100000 in
set_option maxHeartbeats 1000000 in
theorem sorted_one (b : Nat) (x : Int) (w : World) (h : w.ownsMap Tryz.prog 3 hvq b 1 (dI 1 x)) :
  CallsIn Fence.wide 6 Tryz.prog 54 #[.func (.func 97) #[] #[.pointer (some ⟨w.heap.size, 0, none⟩)]] (w.alloc (.cells #[.map (some b)] 108)) fun e w' =>
   ∃ v, e = .returned v ∧ w'.ownsRow w.heap.size 3 1 v 1 [.int .i64 1] ∧ Only (fun _ => False) w w' := by
 have hbl := h.lt
 have hseq : SeqGives Fence.wide 3 Tryz.prog 97 #[.pointer (some ⟨w.heap.size, 0, none⟩)] encZ (fun ss => ss.Perm (intKeys (dI 1 x))) (Maps.size (dI 1 x)) (w.alloc (.cells #[.map (some b)] 108)) :=
  AnyZI.keys_gives (ρ := Tryz.keysA_ren) { Tryz.keysA with } Fence.wide _ trivial rfl (by omega) w.heap.size b 1 (dI 1 x) _ (by simp) (by simp) (h.alloc _)
 have hsz : Maps.size (dI 1 x) = 1 := by rfl
 have hks : intKeys (dI 1 x) = [1] := by rfl
 have cS := AnyZI.sorted_in Tryz.sortedA Fence.wide 6 trivial trivial trivial trivial rfl (by omega) (sorts1 _) (enters_of Tryz.func96 (by kernel_rfl) rfl) 97 #[.pointer (some ⟨w.heap.size, 0, none⟩)] trivial (enters_of Tryz.func97 (by kernel_rfl) rfl) _ _ (by rw [hsz]; unfold maxLen; omega) (by rw [hsz]; omega) _ hseq
 change CallsIn _ _ Tryz.prog 54 _ _ _ at cS
 refine cS.mono ?_
 rintro e w' ⟨v, ss, rfl, hS, hrow, _, hb⟩
 rw [hks] at hS
 obtain rfl : ss = [1] := List.perm_singleton.1 hS
 have hr2 : w'.ownsRow (w.heap.size + 1) 3 1 v 1 [.int .i64 1] := by
  have q := hrow
  simp at q
  exact q
 refine ⟨v, rfl, ownsRow_base hr2 (by omega), ?_⟩
 have hB : Only (fun k => (w.alloc (.cells #[.map (some b)] 108)).heap.size ≤ k) (w.alloc (.cells #[.map (some b)] 108)) w' := ⟨hb.os, hb.tape, hb.output, hb.size, fun k hk _ => hb.block k hk⟩
 exact ((Only.refl (fun _ => False) w).alloc _).trans hB (fun k hk e => by simp at e; omega)
theorem keys_calls (b : Nat) (w : World) : Calls Tryz.prog 55 #[.map (some b)] w fun e w' => e = .returned (.func (.func 97) #[] #[.pointer (some ⟨w.heap.size, 0, none⟩)]) ∧ w' = w.alloc (.cells #[.map (some b)] 108) :=
 (callsIn_wide (n := 5)).1 (AnyZI.keys_in Tryz.keysA Fence.wide 5 trivial rfl (some b) w)
end Go.Proofs.YtbbeoobihdldcaaGreatDoor
namespace Go.Proofs.YtbbeoobihdldcaaGreatDoor
open Go.RowKit
set_option linter.unusedSimpArgs false
set_option linter.unusedVariables false
structure FwAt (w : World) (F h m1 m2 m3 : Nat) (ua : Option Addr) (uc : Nat) : Prop where
 hb : w.heap[F]? = some (fnB h m1 m2 m3 (.slice ua 1 uc))
 b1 : ∃ c, w.heap[m1]? = some (.map #[] c)
 b2 : w.ownsMap Tryz.prog 3 hvq m2 1 (dI 1 0)
 b3 : ∃ c, w.heap[m3]? = some (.map #[] c)
 ws : w.ownsRow 0 168 2 (.slice ua 1 uc) 1 [.int .i64 (-1), .int .i64 0]
 n1 : m1 ≠ m2 ∧ m1 ≠ m3 ∧ m2 ≠ m3
theorem FnAt.blk {w : World} {F h m1 m2 m3 : Nat} (g : FnAt w F h m1 m2 m3) : w.heap[F]? = some (fnB h m1 m2 m3 (.slice none 0 0)) := g.hb
set_option maxRecDepth 100000 in
set_option maxHeartbeats 16000000 in
theorem walk_any (F h m m1 m2 m3 : Nat) (a : Option Addr) (c R K : Nat) (w : World) (hO : HqO w h m a c R K) (hF : FnAt w F h m1 m2 m3) :
  Calls Tryz.prog 53 #[.pointer (some ⟨F, 0, none⟩)] w fun e w' => e = .returned (.tuple #[]) ∧ Hid (Only (fun k => k = F ∨ k = m2) w w' ∧ ∃ ua uc, FwAt w' F h m1 m2 m3 ua uc) := by
 obtain ⟨W, hW⟩ : ∃ W, W = w.alloc (.cells #[.pointer (some ⟨F, 0, none⟩)] 51) := ⟨_, rfl⟩
 obtain ⟨P, hP⟩ : ∃ P, P = w.heap.size := ⟨_, rfl⟩
 have oW : Only (fun _ => False) w W := by rw [hW]; exact (Only.refl _ w).alloc _
 have bW : W.heap[P]? = some (.cells #[.pointer (some ⟨F, 0, none⟩)] 51) := by rw [hW]; exact alloc_at _ _ _ hP
 have p0 : W.cell? ⟨P, 0, none⟩ = some (.pointer (some ⟨F, 0, none⟩)) := hb_cell bW 0
 have fW := hF.only oW
 have f0A : ∀ x, (w.alloc x).cell? ⟨F, 0, none⟩ = some (.pointer (some ⟨h, 0, none⟩)) := fun x => (hF.only ((Only.refl (fun _ => False) w).alloc x)).cells.1
 have HWk : Hid _ := walk1 h m a c R K W (hO.only oW)
 have HW : Hid (Only (fun _ => False) w W ∧ FnAt W F h m1 m2 m3 ∧ W.heap[P]? = some (.cells #[.pointer (some ⟨F, 0, none⟩)] 51) ∧ P = w.heap.size) := ⟨oW, fW, bW, hP⟩
 have HFw : Hid (FnAt w F h m1 m2 m3) := hF
 clear hO hF oW bW fW
 go_enter Tryz.func53, Tryz.ntmps53
 go_wp2_with fail
 rw [← hW, ← hP]
 clear hW hP
 refine (show Calls Tryz.prog 93 _ _ _ from HWk.out).mono ?_
 rintro e w1 ⟨g, gc, Ob, rfl, H1⟩
 obtain ⟨g0, g1, o1, _⟩ := H1.out
 have HN : Hid _ := name_ref g gc P F h m1 m2 m3 w1 g0 g1 (o1.cell p0 (fun g => g)) (o1.at HW.out.2.1.blk)
 clear HWk g0 g1 o1 p0 f0A
 go_wp2_with fail
 refine (show Calls Tryz.prog 94 _ _ _ from HN.out).mono ?_
 rintro e w2 ⟨rfl, H2⟩
 clear HN
 obtain ⟨fa, fc, x0, x1, x2, HXr⟩ : ∃ fa fc, w2.cell? ⟨Ob, 0, none⟩ = some (.int .i64 4) ∧ w2.cell? ⟨Ob, 1, none⟩ = some (.bool false) ∧ w2.cell? ⟨Ob, 2, none⟩ = some (.slice fa 2 fc) ∧ Hid (w2.ownsRow 0 72 2 (.slice fa 2 fc) 2 (fl FdL) ∧ w2.heap[P]? = some (.cells #[.pointer (some ⟨F, 0, none⟩)] 51) ∧ Only (fun k => k = F) w w2) := by
  obtain ⟨_, _, o1, y0, y1, fa, fc, y2, yr⟩ := H1.out
  obtain ⟨o2, _⟩ := H2.out
  obtain ⟨oW, fW, bW, hP⟩ := HW.out
  have f1 := fW.only o1
  have nF : Ob ≠ F := fun e => by
   have := f1.cells.1
   rw [← e, y0] at this
   cases this
  have lF := (Array.getElem?_eq_some_iff.1 HFw.out.hb).1
  refine ⟨fa, fc, o2.cell y0 nF, o2.cell y1 nF, o2.cell y2 nF, o2.owns yr (fun k hk e => ?_), (o2.block P (Array.getElem?_eq_some_iff.1 (o1.at bW)).1 (by omega)).trans (o1.at bW), ((oW.trans o1 (fun _ _ g => g)).mono (bs' := fun k => k = F) (fun _ _ g => g.elim)).trans o2 (fun _ _ e => e)⟩
  exact own_ne yr f1.hb (by simp) (e ▸ hk)
 obtain ⟨W3, hW3⟩ : ∃ W3, W3 = w2.alloc (.cells #[.int .i64 4, .bool false, .slice fa 2 fc] 171) := ⟨_, rfl⟩
 obtain ⟨Q, hQ⟩ : ∃ Q, Q = w2.heap.size := ⟨_, rfl⟩
 have o3 : Only (fun _ => False) w2 W3 := by rw [hW3]; exact (Only.refl _ w2).alloc _
 have b3 : W3.heap[Q]? = some (.cells #[.int .i64 4, .bool false, .slice fa 2 fc] 171) := by rw [hW3]; exact alloc_at _ _ _ hQ
 have r2 : W3.cell? ⟨Q, 2, none⟩ = some (.slice fa 2 fc) := hb_cell b3 2
 have HNm : Hid _ := name_nums fa 2 fc P 0 W3 (by omega) (nums_row (o3.owns HXr.out.1 (fun _ _ g => g)) (by decide))
 have H3 : Hid (Only (fun _ => False) w2 W3 ∧ W3.heap[Q]? = some (.cells #[.int .i64 4, .bool false, .slice fa 2 fc] 171)) := ⟨o3, b3⟩
 clear o3 b3
 go_wp2_with fail
 go_loopw [21] (fun r wr => ∃ i : Nat, r = .int .i64 (i : Int) ∧ ((i = 0 ∧ wr = w2) ∨ (i = 1 ∧ Hid (Only (fun k => k = F ∨ k = m2) w wr ∧ ∃ ua uc, FwAt wr F h m1 m2 m3 ua uc)))) (fun r _ => 1 - uOH r)
 case atStart => exact ⟨0, rfl, .inl ⟨rfl, by first | rfl | trivial⟩⟩
 case round =>
  obtain ⟨i, rfl, ⟨rfl, hwr⟩ | ⟨rfl, HP⟩⟩ := hrel
  ·obtain rfl := hwr.symm
   go_wp2_with fail
   rw [← hW3, ← hQ]
   clear hW3 hQ
   refine (show Calls Tryz.prog 94 _ _ _ from HNm.out).mono ?_
   rintro e w4 ⟨rfl, o4⟩
   obtain ⟨o3, b3⟩ := H3.out
   have o24 : Only (fun _ => False) w2 w4 := o3.trans o4 (fun _ _ g => g)
   have b4 := o4.at b3
   have q0 : w4.cell? ⟨Q, 0, none⟩ = some (.int .i64 4) := hb_cell b4 0
   have q2 : w4.cell? ⟨Q, 2, none⟩ = some (.slice fa 2 fc) := hb_cell b4 2
   have r4 := o24.owns HXr.out.1 (fun _ _ g => g)
   obtain ⟨ga, cq, ea, _, z0, z1, _⟩ := row_at (i := 0) (p := (false, 1)) r4 rfl
   cases ea
   have z1 : w4.cell? ⟨ga, 1, none⟩ = some (.int .u64 1) := z1
   have bP := o24.at HXr.out.2.1
   have s0 : w4.cell? ⟨P, 0, none⟩ = some (.pointer (some ⟨F, 0, none⟩)) := hb_cell bP 0
   obtain ⟨oN, ua, uc, bF2, wr2⟩ := H2.out
   have bF4 := o24.at bF2
   have s3 : w4.cell? ⟨F, 3, none⟩ = some (.map (some m2)) := hb_cell bF4 3
   obtain ⟨k1, e1⟩ := HFw.out.b1
   obtain ⟨k2, e2⟩ := HFw.out.b2
   obtain ⟨k3, e3⟩ := HFw.out.b3
   have o04 : Only (fun k => k = F) w w4 := HXr.out.2.2.trans o24 (fun _ _ g => g.elim)
   have ne : ∀ {mm kk}, w.heap[mm]? = some (.map #[] kk) → mm ≠ F := fun e q => by
    have := HFw.out.hb
    rw [← q, e] at this
    simp at this
   have l1 := (Array.getElem?_eq_some_iff.1 e1).1
   have l2 := (Array.getElem?_eq_some_iff.1 e2).1
   have l3 := (Array.getElem?_eq_some_iff.1 e3).1
   have f1 := (o04.block m1 l1 (ne e1)).trans e1
   have f2 := (o04.block m2 l2 (ne e2)).trans e2
   have f3 := (o04.block m3 l3 (ne e3)).trans e3
   obtain ⟨w5, hr5, hm5, o5, hsz⟩ := put_i w4.drew m2 k2 f2 1 0 (by decide)
   clear hsz
   have o5' : Only (fun k => k = m2) w4 w5 := ((Only.refl (fun k => k = m2) w4).drew).trans o5 (fun _ _ e => e)
   have HF : Hid (Only (fun k => k = F ∨ k = m2) w w5 ∧ ∃ ua uc, FwAt w5 F h m1 m2 m3 ua uc) := by
    obtain ⟨n12, n13, n23⟩ := HFw.out.n1
    refine ⟨(o04.mono (bs' := fun k => k = F ∨ k = m2) (fun _ _ e => .inl e)).trans o5' (fun _ _ e => .inr e), ua, uc, (o5'.block F (Array.getElem?_eq_some_iff.1 bF4).1 (fun e => ne e2 e.symm)).trans bF4, ⟨k1, (o5'.block m1 (Array.getElem?_eq_some_iff.1 f1).1 n12).trans f1⟩, hm5, ⟨k3, (o5'.block m3 (Array.getElem?_eq_some_iff.1 f3).1 (fun e => n23 e.symm)).trans f3⟩, ?_, HFw.out.n1⟩
    refine o5'.owns (ownsRow_base (o24.owns wr2 (fun _ _ g => g)) (Nat.zero_le _)) (fun k hk e => ?_)
    subst e
    have q := o24.owns wr2 (fun _ _ g => g)
    rcases q.2 with ⟨e, _⟩ | ⟨g', cap, cur, e, _, hg, _⟩
    ·cases e
    ·cases e
     simp only [Value.ownBlock, Option.some.injEq] at hk
     rw [hk, f2] at hg
     simp at hg
   have hw1 : IntKind.i64.wrap 1 = 1 := by decide
   clear o3 b3 o24 b4 r4 bP oN bF2 wr2 bF4 o04 ne l1 l2 l3 f1 f2 f3 e1 e2 e3 hm5 o5 o5' o4 H1 H2 H3 HW HFw HXr HNm x0 x1 x2 r2
   go_wp2_with fail
   go_region_with (fail)
   all_goals
    go_wp2
    go_roundw
    case rel => exact ⟨1, by go_num, .inr ⟨rfl, HF⟩⟩
    case measure => simp only [uOH]; omega
  ·go_wp2
   go_end0
   exact ⟨rfl, HP⟩
end Go.Proofs.YtbbeoobihdldcaaGreatDoor
namespace Go.Proofs.YtbbeoobihdldcaaGreatDoor
open Go.RowKit
set_option linter.unusedSimpArgs false
set_option linter.unusedVariables false
structure FoAt (w : World) (F h m1 m2 m3 s sc u uc : Nat) : Prop where
 hb : w.heap[F]? = some (.cells #[.pointer (some ⟨h, 0, none⟩), .slice (some ⟨s, 0, none⟩) 1 sc, .map (some m1), .map (some m2), .slice (some ⟨u, 0, none⟩) 1 uc, .map (some m3)] 111)
 b1 : ∃ c, w.heap[m1]? = some (.map #[] c)
 b2 : w.ownsMap Tryz.prog 3 hvq m2 1 (dI 1 0)
 b3 : ∃ c, w.heap[m3]? = some (.map #[] c)
 s0 : w.cell? ⟨s, 0, none⟩ = some (.int .i64 1)
 u0 : w.cell? ⟨u, 0, none⟩ = some (.int .i64 (-1))
 u1 : w.cell? ⟨u, 1, none⟩ = some (.int .i64 0)
 n1 : m1 ≠ m2 ∧ m1 ≠ m3 ∧ m2 ≠ m3
theorem FoAt.only {w w' : World} {F h m1 m2 m3 s sc u uc : Nat} (g : FoAt w F h m1 m2 m3 s sc u uc) (o : Only (fun _ => False) w w') : FoAt w' F h m1 m2 m3 s sc u uc := by
 obtain ⟨k1, e1⟩ := g.b1
 obtain ⟨k3, e3⟩ := g.b3
 exact ⟨o.at g.hb, ⟨k1, o.at e1⟩, own_frame g.b2 o (fun g => g), ⟨k3, o.at e3⟩, o.cell g.s0 (fun g => g), o.cell g.u0 (fun g => g), o.cell g.u1 (fun g => g), g.n1⟩
theorem FoAt.cells {w : World} {F h m1 m2 m3 s sc u uc : Nat} (g : FoAt w F h m1 m2 m3 s sc u uc) : w.cell? ⟨F, 1, none⟩ = some (.slice (some ⟨s, 0, none⟩) 1 sc) ∧ w.cell? ⟨F, 2, none⟩ = some (.map (some m1)) ∧ w.cell? ⟨F, 3, none⟩ = some (.map (some m2)) ∧ w.cell? ⟨F, 4, none⟩ = some (.slice (some ⟨u, 0, none⟩) 1 uc) ∧ w.cell? ⟨F, 5, none⟩ = some (.map (some m3)) :=
 ⟨hb_cell g.hb 1, hb_cell g.hb 2, hb_cell g.hb 3, hb_cell g.hb 4, hb_cell g.hb 5⟩
set_option maxRecDepth 100000 in
set_option maxHeartbeats 8000000 in
theorem root1 (F h m1 m2 m3 s sc u uc : Nat) (w : World) (g : FoAt w F h m1 m2 m3 s sc u uc) : Calls Tryz.prog 98 #[.pointer (some ⟨F, 0, none⟩), .int .i64 0] w fun e w' => e = .returned (.int .i64 0) ∧ Only (fun k => k = m3) w w' := by
 obtain ⟨_, _, _, f4, f5⟩ := g.cells
 have u0 := g.u0
 have u1 := g.u1
 obtain ⟨k3, e3⟩ := g.b3
 have hlk := look_i0 0 (by decide) e3
 obtain ⟨W, hW⟩ : ∃ W, W = w.alloc (.cells #[.int .i64 (-1), .int .i64 0] 168) := ⟨_, rfl⟩
 obtain ⟨N, hN⟩ : ∃ N, N = w.heap.size := ⟨_, rfl⟩
 have oW : Only (fun _ => False) w W := by rw [hW]; exact (Only.refl _ w).alloc _
 have bN : W.heap[N]? = some (.cells #[.int .i64 (-1), .int .i64 0] 168) := by rw [hW]; exact alloc_at _ _ _ hN
 have n0 : W.cell? ⟨N, 0, none⟩ = some (.int .i64 (-1)) := hb_cell bN 0
 have n1 : W.cell? ⟨N, 1, none⟩ = some (.int .i64 0) := hb_cell bN 1
 have f5W : W.cell? ⟨F, 5, none⟩ = some (.map (some m3)) := oW.cell f5 (fun g => g)
 obtain ⟨w5, hr5, _, o5, hsz⟩ := put_i W m3 k3 (oW.at e3) 0 0 (by decide)
 have HF : Hid (Only (fun k => k = m3) w w5) := (oW.mono (bs' := fun k => k = m3) (fun _ _ g => g.elim)).trans o5 (fun _ _ e => e)
 have f5A : ∀ x, (w.alloc x).cell? ⟨F, 5, none⟩ = some (.map (some m3)) := fun x => ((Only.refl (fun _ => False) w).alloc x).cell f5 (fun g => g)
 rw [hW] at hr5
 clear hsz o5 oW bN g e3 n0 n1 f5W hW hN
 go_enter Tryz.func98, Tryz.ntmps98
 go_wp2
 go_ret
 exact ⟨rfl, HF.out⟩
set_option maxRecDepth 100000 in
set_option maxHeartbeats 8000000 in
theorem open1 (F h m1 m2 m3 s sc u uc : Nat) (w : World) (g : FoAt w F h m1 m2 m3 s sc u uc) : Calls Tryz.prog 56 #[.pointer (some ⟨F, 0, none⟩)] w fun e w' => e = .returned (.map (some m1)) ∧ Hid (Only (fun k => k = m1 ∨ k = m3) w w' ∧ w'.ownsMap Tryz.prog 3 hvq m1 1 (dI 1 0)) := by
 obtain ⟨f1, f2, f3, f4, f5⟩ := g.cells
 have s0 := g.s0
 obtain ⟨k1, e1⟩ := g.b1
 have hlk := look_i0 1 (by decide) e1
 have hl2 := fun W (o : Only (fun _ => False) w W) => look_i1 0 (own_frame g.b2 o (fun g => g))
 have hl2d : (Instr.lookup 108 (.map (some m2)) (.int .i64 1) false).run Tryz.prog w.drew = .ok (.int .i64 0) w.drew := hl2 w.drew ((Only.refl _ w).drew)
 have ne1 : ∀ {mm kk}, w.heap[mm]? = some (.map #[] kk) → mm ≠ F := fun e q => by
  have := g.hb
  rw [← q, e] at this
  simp at this
 have HRo : Hid (∀ W, Only (fun _ => False) w W → Calls Tryz.prog 98 #[.pointer (some ⟨F, 0, none⟩), .int .i64 0] W fun e w' => e = .returned (.int .i64 0) ∧ w'.cell? ⟨F, 2, none⟩ = some (.map (some m1)) ∧ ∃ w5, (Instr.mapUpdate 108 (.map (some m1)) (.int .i64 1) (.int .i64 0)).run Tryz.prog w' = .ok () w5 ∧ w5.cell? ⟨F, 2, none⟩ = some (.map (some m1)) ∧ Hid (Only (fun k => k = m1 ∨ k = m3) w w5 ∧ w5.ownsMap Tryz.prog 3 hvq m1 1 (dI 1 0))) := fun W o => (root1 F h m1 m2 m3 s sc u uc W (g.only o)).mono (by
  rintro e w' ⟨rfl, o3⟩
  obtain ⟨k3, e3⟩ := g.b3
  have nF3 := ne1 e3
  have nF1 := ne1 e1
  have x1 : w'.heap[m1]? = some (.map #[] k1) := (o3.block m1 (Array.getElem?_eq_some_iff.1 (o.at e1)).1 g.n1.2.1).trans (o.at e1)
  obtain ⟨w5, hr, hm, o5, _⟩ := put_i w' m1 k1 x1 1 0 (by decide)
  have y2 : w'.cell? ⟨F, 2, none⟩ = some (.map (some m1)) := o3.cell (o.cell f2 (fun g => g)) (fun e => nF3 e.symm)
  exact ⟨rfl, y2, w5, hr, o5.cell y2 (fun e => nF1 e.symm), ((o.mono (bs' := fun k => k = m1 ∨ k = m3) (fun _ _ g => g.elim)).trans (o3.mono (bs' := fun k => k = m1 ∨ k = m3) (fun _ _ e => .inr e)) (fun _ _ e => e)).trans o5 (fun _ _ e => .inl e), hm⟩)
 clear g e1 ne1
 go_enter Tryz.func56, Tryz.ntmps56
 go_wp2
 go_loopw [12] (fun r wr => ∃ i : Nat, r = .int .i64 (i : Int) ∧ ((i = 0 ∧ wr = w) ∨ (i = 1 ∧ wr.cell? ⟨F, 2, none⟩ = some (.map (some m1)) ∧ Hid (Only (fun k => k = m1 ∨ k = m3) w wr ∧ wr.ownsMap Tryz.prog 3 hvq m1 1 (dI 1 0))))) (fun r _ => 1 - uOH r)
 case atStart => exact ⟨0, rfl, .inl ⟨rfl, by first | rfl | trivial⟩⟩
 case round =>
  obtain ⟨i, rfl, ⟨rfl, hwr⟩ | ⟨rfl, y2, HP⟩⟩ := hrel
  ·obtain rfl := hwr.symm
   go_wp2_with fail
   go_region_with (go_at_call 98; refine (show Calls Tryz.prog 98 _ _ _ from HRo.out _ (by repeat' first | exact Only.refl _ _ | apply Only.drew)).mono ?_; rintro e w3 ⟨rfl, z2, w5, hr5, z5, HP⟩)
   all_goals
    go_wp2
    go_roundw
    case rel => exact ⟨1, by go_num, .inr ⟨rfl, z5, HP⟩⟩
    case measure => simp only [uOH]; omega
  ·go_wp2
   go_ret
   exact ⟨rfl, HP⟩
end Go.Proofs.YtbbeoobihdldcaaGreatDoor
namespace Go.Proofs.YtbbeoobihdldcaaGreatDoor
open Go.RowKit
set_option linter.unusedSimpArgs false
set_option linter.unusedVariables false
theorem made_c (W : World) : (Instr.makeSlice 30 (.int .i64 1) (.int .i64 1)).run Tryz.prog W = .ok (.slice (some ⟨W.heap.size, 0, none⟩) 1 1) (W.alloc (.cells #[.int .i64 0, .nilIface] 115)) := by kernel_rfl
theorem HqO.of {w : World} {h m : Nat} {yv rv : Value} (hE : Hs w h m 50 yv rv (yI 2) R0) : ∃ a c R K, HqO w h m a c R K := by
 obtain ⟨⟨a, c, hy⟩, _⟩ := hE.sl
 obtain ⟨R, K, hr, _⟩ := row_at (i := 0) (p := (true, 0)) hE.rr rfl
 subst hy
 subst hr
 exact ⟨a, c, R, K, ⟨hE⟩⟩
def CsP (w w' : World) (F h m1 m2 m3 s sc u uc : Nat) : Prop := Only (fun _ => False) w w' ∧ FoAt w' F h m1 m2 m3 s sc u uc ∧ w.heap.size ≤ F ∧ w.heap.size ≤ m1 ∧ w.heap.size ≤ m3
set_option maxRecDepth 100000 in
set_option maxHeartbeats 16000000 in
theorem contents5 (M h m : Nat) (yv rv : Value) (w : World) (g : MmAt w M h 2) (hE : Hs w h m 50 yv rv (yI 2) R0) : Calls Tryz.prog 25 #[.pointer (some ⟨M, 0, none⟩)] w fun e w' => ∃ C, e = .returned (.slice (some ⟨C, 0, none⟩) 1 1) ∧ PuP w w' h m 50 yv rv (yI 2) R0 := by
 have HD : Hid (Calls Tryz.prog 15 #[.pointer (some ⟨M, 0, none⟩)] w fun e w' => e = .returned (.int .i64 1) ∧ w' = w) := depth_any M h m 2 50 yv rv (yI 2) R0 w g hE
 have HN : Hid _ := newfinder_any h w
 have c0 := g.cells.1
 have HE : Hid (MmAt w M h 2 ∧ Hs w h m 50 yv rv (yI 2) R0) := ⟨g, hE⟩
 clear g hE
 go_enter Tryz.func25, Tryz.ntmps25
 go_wp2_with (go_at_call 15; refine (show Calls Tryz.prog 15 _ _ _ from HD.out).mono ?_; rintro e v1 ⟨rfl, hq⟩; rw [hq]; clear hq)
 refine (show Calls Tryz.prog 52 _ _ _ from HN.out).mono ?_
 rintro e w1 ⟨F, m1, m2, m3, rfl, H1⟩
 obtain ⟨a, c, R, K, hq⟩ := HqO.of (HE.out.2.only H1.out.2.2.2.2.2)
 have HW : Hid _ := walk_any F h m m1 m2 m3 a c R K w1 hq H1.out.1
 clear HD HN hq c0
 go_wp2_with fail
 refine (show Calls Tryz.prog 53 _ _ _ from HW.out).mono ?_
 rintro e w2 ⟨rfl, H2⟩
 obtain ⟨o2, ua, uc, hw2⟩ := H2.out
 have x3 : w2.cell? ⟨F, 3, none⟩ = some (.map (some m2)) := hb_cell hw2.hb 3
 have HK := keys_calls
 have HSo : Hid (Calls Tryz.prog 54 #[.func (.func 97) #[] #[.pointer (some ⟨w2.heap.size, 0, none⟩)]] (w2.alloc (.cells #[.map (some m2)] 108)) fun e w' => ∃ s sc, e = .returned (.slice (some ⟨s, 0, none⟩) 1 sc) ∧ w'.cell? ⟨F, 1, none⟩ = some (.slice none 0 0) ∧ w'.frozen? ⟨F, 1, none⟩ = false ∧ ∃ u uc', Hid (CsP w (w'.setCell ⟨F, 1, none⟩ (.slice (some ⟨s, 0, none⟩) 1 sc)) F h m1 m2 m3 s sc u uc')) := ((callsIn_wide (n := 6)).1 (sorted_one m2 0 w2 hw2.b2)).mono (by
  rintro e w3 ⟨v, rfl, hrow, o3⟩
  obtain ⟨s, sc, cur, hv, hge, hsb, rest⟩ : ∃ s sc cur, v = .slice (some ⟨s, 0, none⟩) 1 sc ∧ w2.heap.size ≤ s ∧ w3.heap[s]? = some (.cells cur 3) ∧ True := by
   rcases hrow.2 with ⟨_, e⟩ | ⟨s, sc, cur, e, hb, hg, _⟩
   ·omega
   ·exact ⟨s, sc, cur, e, hb, hg, trivial⟩
  subst hv
  have s0 := hrow.cells (g := s) rfl 0 _ rfl
  rw [addr_ad] at s0
  have bF := o3.at hw2.hb
  obtain ⟨u, hu⟩ : ∃ u, ua = some ⟨u, 0, none⟩ := by
   rcases hw2.ws.2 with ⟨e, _⟩ | ⟨u, cap, cur, e, _⟩
   ·cases e
   ·cases e
    exact ⟨u, rfl⟩
  subst hu
  have wr := o3.owns hw2.ws (fun _ _ g => g)
  have u0 := wr.cells (g := u) rfl 0 _ rfl
  have u1 := wr.cells (g := u) rfl 1 _ rfl
  rw [addr_ad] at u0 u1
  obtain ⟨k1, e1⟩ := hw2.b1
  obtain ⟨k3, e3⟩ := hw2.b3
  obtain ⟨_, gF, gm1, gm2, gm3, o1⟩ := H1.out
  have os : Only (fun k => k = F) w3 (w3.setCell ⟨F, 1, none⟩ (.slice (some ⟨s, 0, none⟩) 1 sc)) := (Only.refl _ w3).setCell _ _ (fun _ => rfl)
  have ne : ∀ {mm kk}, w3.heap[mm]? = some (.map #[] kk) → mm ≠ F := fun e q => by
   rw [q, bF] at e
   simp [fnB] at e
  have nm2 : m2 ≠ F := fun q => by
   obtain ⟨es, ck, hb, _⟩ := own_frame hw2.b2 o3 (fun g => g)
   rw [q, bF] at hb
   simp [fnB] at hb
  have ns : s ≠ F := fun q => by
   have := (Array.getElem?_eq_some_iff.1 hw2.hb).1
   omega
  have nu : u ≠ F := fun q => by
   rw [q] at u0
   rw [hb_cell bF 0] at u0
   simp at u0
  have s1 := o1.size
  have oA : Only (fun _ => False) w w3 := (o1.trans o2 (fun k hk e => by rcases e with e | e <;> omega)).trans o3 (fun _ _ g => g)
  refine ⟨s, sc, rfl, hb_cell bF 1, hb_froz bF 1, u, uc, oA.trans os (fun k hk e => by omega), ⟨set_blk bF 1 _, ⟨k1, (os.block m1 (Array.getElem?_eq_some_iff.1 (o3.at e1)).1 (ne (o3.at e1))).trans (o3.at e1)⟩, own_frame (own_frame hw2.b2 o3 (fun g => g)) os nm2, ⟨k3, (os.block m3 (Array.getElem?_eq_some_iff.1 (o3.at e3)).1 (ne (o3.at e3))).trans (o3.at e3)⟩, os.cell s0 ns, os.cell u0 nu, os.cell u1 nu, hw2.n1⟩, gF, gm1, gm3⟩)
 clear HW o2 hw2 H2 H1
 go_wp2_with fail
 refine (show Calls Tryz.prog 55 _ _ _ from HK m2 w2).mono ?_
 rintro e v1 ⟨rfl, hq⟩
 rw [hq]
 clear hq HK v1 x3
 go_wp2_with fail
 refine (show Calls Tryz.prog 54 _ _ _ from HSo.out).mono ?_
 rintro e w3 ⟨s, sc, rfl, y1, yf, u, uc', H3⟩
 clear HSo
 obtain ⟨W4, hW4⟩ : ∃ W4, W4 = w3.setCell ⟨F, 1, none⟩ (.slice (some ⟨s, 0, none⟩) 1 sc) := ⟨_, rfl⟩
 rw [← hW4] at H3
 have HOp : Hid (Calls Tryz.prog 56 #[.pointer (some ⟨F, 0, none⟩)] W4 fun e w' => e = .returned (.map (some m1)) ∧ w'.cell? ⟨F, 1, none⟩ = some (.slice (some ⟨s, 0, none⟩) 1 sc) ∧ Hid (Only (fun _ => False) w w' ∧ w'.cell? ⟨s, 0, none⟩ = some (.int .i64 1) ∧ w'.ownsMap Tryz.prog 3 hvq m1 1 (dI 1 0))) := (open1 F h m1 m2 m3 s sc u uc' W4 H3.out.2.1).mono (by
  rintro e w5 ⟨rfl, h5⟩
  obtain ⟨o5, hm5⟩ := h5
  obtain ⟨oA, fo, gF, gm1, gm3⟩ := H3.out
  obtain ⟨k1, e1⟩ := fo.b1
  obtain ⟨k3, e3⟩ := fo.b3
  have ne : ∀ {mm kk}, W4.heap[mm]? = some (.map #[] kk) → F ≠ mm := fun e q => by
   have := fo.hb
   rw [q, e] at this
   simp at this
  have ns : ∀ {mm kk}, W4.heap[mm]? = some (.map #[] kk) → s ≠ mm := fun e q => by
   have := fo.s0
   rw [q] at this
   simp [World.cell?, e] at this
  have sA := oA.size
  exact ⟨rfl, o5.cell fo.cells.1 (fun e => e.elim (ne e1) (ne e3)), oA.trans o5 (fun k hk e => by rcases e with e | e <;> omega), o5.cell fo.s0 (fun e => e.elim (ns e1) (ns e3)), hm5⟩)
 go_wp2_with fail
 rw [← hW4]
 clear hW4
 refine (show Calls Tryz.prog 56 _ _ _ from HOp.out).mono ?_
 rintro e w5 ⟨rfl, z1, H5⟩
 clear HOp y1 yf H3
 obtain ⟨W6, hW6⟩ : ∃ W6, W6 = w5.alloc (.cells #[.int .i64 0, .nilIface] 115) := ⟨_, rfl⟩
 obtain ⟨C, hC⟩ : ∃ C, C = w5.heap.size := ⟨_, rfl⟩
 obtain ⟨W7, hW7⟩ : ∃ W7, W7 = W6.alloc (.cells #[.pointer (some ⟨h, 0, none⟩)] 47) := ⟨_, rfl⟩
 obtain ⟨Q, hQ⟩ : ∃ Q, Q = C + 1 := ⟨_, rfl⟩
 have o6 : Only (fun _ => False) w5 W6 := by rw [hW6]; exact (Only.refl _ w5).alloc _
 have b6 : W6.heap[C]? = some (.cells #[.int .i64 0, .nilIface] 115) := by rw [hW6]; exact alloc_at _ _ _ hC
 have o7 : Only (fun _ => False) W6 W7 := by rw [hW7]; exact (Only.refl _ W6).alloc _
 have b7 : W7.heap[Q]? = some (.cells #[.pointer (some ⟨h, 0, none⟩)] 47) := by rw [hW7]; exact alloc_at _ _ _ (by rw [hQ, hC, hW6]; simp)
 have oA7 : Only (fun _ => False) w W7 := (H5.out.1.trans o6 (fun _ _ g => g)).trans o7 (fun _ _ g => g)
 have r0 : W7.cell? ⟨Q, 0, none⟩ = some (.pointer (some ⟨h, 0, none⟩)) := hb_cell b7 0
 have zA : ∀ x, (w5.alloc x).cell? ⟨F, 1, none⟩ = some (.slice (some ⟨s, 0, none⟩) 1 sc) := fun x => ((Only.refl (fun _ => False) w5).alloc x).cell z1 (fun g => g)
 have zB : ∀ x y, ((w5.alloc x).alloc y).cell? ⟨F, 1, none⟩ = some (.slice (some ⟨s, 0, none⟩) 1 sc) := fun x y => (((Only.refl (fun _ => False) w5).alloc x).alloc y).cell z1 (fun g => g)
 have mA : ∀ x, (w5.alloc x).cell? ⟨M, 0, none⟩ = some (.pointer (some ⟨h, 0, none⟩)) := fun x => (HE.out.1.keep (H5.out.1.alloc x) (fun g => g)).cells.1
 have s7 : W7.cell? ⟨s, 0, none⟩ = some (.int .i64 1) := (o6.trans o7 (fun _ _ g => g)).cell H5.out.2.1 (fun g => g)
 have hl7 := look_i1 0 (own_frame H5.out.2.2 (o6.trans o7 (fun _ _ g => g)) (fun g => g))
 have HFv : Hid (Calls Tryz.prog 57 #[rdr h, .int .i64 0, .int .i64 1, .func (.func 20) #[rdr h] #[]] W7 fun e w' => e = .returned v5 ∧ w'.cell? ⟨C, 0, none⟩ = some (.int .i64 0) ∧ w'.cell? ⟨C, 1, none⟩ = some .nilIface ∧ w'.frozen? ⟨C, 0, none⟩ = false ∧ w'.frozen? ⟨C, 1, none⟩ = false ∧ Hid (PuP w ((w'.setCell ⟨C, 0, none⟩ (.int .i64 1)).setCell ⟨C, 1, none⟩ v5) h m 50 yv rv (yI 2) R0)) := (field_v h m yv rv W7 (HE.out.2.only oA7)).mono (by
  rintro e w8 ⟨rfl, p⟩
  have bC : w8.heap[C]? = some (.cells #[.int .i64 0, .nilIface] 115) := by
   obtain ⟨rv', h3, v3, o3⟩ := p
   exact (HE.out.2.only oA7).other (o3.mono (bs' := fun k => k = h ∨ yv.ownBlock = some k ∨ rv.ownBlock = some k) (fun k _ q => q.elim .inl (fun q => .inr (.inr q)))) (o7.at b6) (by decide) (by decide)
  have s5 := H5.out.1.size
  exact ⟨rfl, hb_cell bC 0, hb_cell bC 1, hb_froz bC 0, hb_froz bC 1, ((p.after oA7).set (by omega) bC (by decide) (by decide) 0 _).set (by omega) (set_blk bC 0 _) (by decide) (by decide) 1 _⟩)
 have hmc := made_c
 clear o6 b6 o7 b7 oA7 H5
 unfold rdr at HFv
 unfold v5 at HFv
 go_wp2_with fail
 rw [← hW6, ← hW7, ← hC, ← hQ]
 clear hW6 hW7 hC hQ hmc zA zB mA z1
 have w00 : IntKind.i64.wrap (1 - 1) = 0 := by decide
 go_loopw [46] (fun r wr => ∃ i : Nat, r = .int .i64 (i : Int) ∧ ((i = 0 ∧ wr = W7) ∨ (i = 1 ∧ Hid (PuP w wr h m 50 yv rv (yI 2) R0)))) (fun r _ => 1 - uOH r)
 case atStart => exact ⟨0, rfl, .inl ⟨rfl, by first | rfl | trivial⟩⟩
 case round =>
  obtain ⟨i, rfl, ⟨rfl, hwr⟩ | ⟨rfl, HP⟩⟩ := hrel
  ·obtain rfl := hwr.symm
   go_wp2_with (go_at_call 57; refine (show Calls Tryz.prog 57 _ _ _ from HFv.out).mono ?_; rintro e w8 ⟨rfl, t0, t1, t2, t3, HP⟩)
   go_roundw
   case rel => exact ⟨1, by go_num, .inr ⟨rfl, HP⟩⟩
   case measure => simp only [uOH]; omega
  ·clear r0 s7 hl7 HFv
   obtain ⟨rv', h9, v9, o9⟩ := HP.out
   have g9 : MmAt wr M h 2 := HE.out.2.other (o9.mono (bs' := fun k => k = h ∨ yv.ownBlock = some k ∨ rv.ownBlock = some k) (fun k _ q => q.elim .inl (fun q => .inr (.inr q)))) HE.out.1 (by decide) (by decide)
   have c9 := g9.cells.1
   obtain ⟨_, a9, q9, hrv9⟩ := h9.sl
   have HR : Hid (∀ W', Only (fun _ => False) wr W' → Calls Tryz.prog 35 #[.pointer (some ⟨h, 0, none⟩)] W' fun e w' => e = .returned (.int .i64 1) ∧ w' = W') := fun W' o => roots_any h a9 1 q9 W' (by have := (h9.only o).cells.2.2.2.2; rw [hrv9] at this; exact this)
   have HSl : Hid (∀ W', Only (fun _ => False) wr W' → Calls Tryz.prog 18 #[.pointer (some ⟨h, 0, none⟩), .int .i64 0, .int .i64 0] W' fun e w' => e = .returned (.int .i64 0) ∧ PuP w w' h m 50 yv rv (yI 2) R0) := fun W' o => (slide_any h m 50 yv rv' (yI 2) R0 [] [] W' (h9.only o) (by decide)).mono (by
    rintro e w' ⟨rfl, p⟩
    exact ⟨rfl, PuP.trans v9 o9 (p.after o)⟩)
   clear h9 v9 o9 g9 hrv9 HP
   go_wp2_with fail
   go_region_with (first
    | (go_at_call 35; refine (show Calls Tryz.prog 35 _ _ _ from HR.out _ (by repeat' first | exact Only.refl _ _ | apply Only.drew)).mono ?_; rintro e v2 ⟨rfl, hq⟩; rw [hq]; clear hq)
    | (go_at_call 18; refine (show Calls Tryz.prog 18 _ _ _ from HSl.out _ (by repeat' first | exact Only.refl _ _ | apply Only.drew)).mono ?_; rintro e w9 ⟨rfl, p9⟩; have HQ9 : Hid (PuP w w9 h m 50 yv rv (yI 2) R0) := p9; clear p9))
   all_goals
    go_wp2
    go_ret
    exact ⟨C, rfl, HQ9.out⟩
end Go.Proofs.YtbbeoobihdldcaaGreatDoor
