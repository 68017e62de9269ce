/- The calls on a nil store; that the law's first look at the program comes out true. What SameBytes answers of the same bytes; the calls on a store, for the laws' walks; the walk of ShadowPuts. What told and same answer. What same answers of two that tell the same. The walk of ShadowRoom. What grown keeps: the disk holds what was committed. -/
import Derived.Test.YtpoakkdkibameaaGreatGae
import Derived.Test.YtpoakkdkibameaaGreatGak
import Derived.Test.YtpoakkdkibameaaGreatGao
import Derived.Test.YtpoakkdkibameaaGreatGas
import Derived.Test.YtpoakkdkibameaaGreatGap
import Derived.Test.YtpoakkdkibameaaGreatGat
namespace Go.Proofs.YtpoakkdkibameaaGreat
open Go.RowKit Go.Maps
set_option linter.unusedSimpArgs false
set_option linter.unusedVariables false

set_option maxRecDepth 100000 in
set_option maxHeartbeats 400000 in
theorem get_nil (i : Int) (w : World) : Calls Tryz.prog 26 #[.pointer none, .int .i64 i] w fun e w' => e = .returned (.tuple #[.slice none 0 0, .int .i64 2]) ∧ w' = w := by
  go_enter Tryz.func26, Tryz.ntmps26
  go_wp2_with (go_at_call 55; refine (holds_nil _ _).mono ?_; rintro e w' ⟨rfl, rfl⟩)
  go_ret2
  exact ⟨rfl, rfl⟩
set_option maxRecDepth 100000 in
set_option maxHeartbeats 400000 in
theorem put_nil (i : Int) (v : Value) (w : World) : Calls Tryz.prog 25 #[.pointer none, .int .i64 i, v] w fun e w' => e = .returned (.int .i64 2) ∧ w' = w := by
  go_enter Tryz.func25, Tryz.ntmps25
  go_wp2_with (go_at_call 53; refine (sreach_nil _ _).mono ?_; rintro e w' ⟨rfl, rfl⟩)
  go_ret
  exact ⟨rfl, rfl⟩
set_option maxRecDepth 100000 in
set_option maxHeartbeats 400000 in
theorem drop_nil (i : Int) (w : World) : Calls Tryz.prog 30 #[.pointer none, .int .i64 i] w fun e w' => e = .returned (.int .i64 2) ∧ w' = w := by
  go_enter Tryz.func30, Tryz.ntmps30
  go_wp2_with (go_at_call 55; refine (holds_nil _ _).mono ?_; rintro e w' ⟨rfl, rfl⟩)
  go_ret
  exact ⟨rfl, rfl⟩
set_option maxRecDepth 100000 in
set_option maxHeartbeats 400000 in
theorem commit_nil (w : World) : Calls Tryz.prog 18 #[.pointer none] w fun e w' => e = .returned (.int .i64 2) ∧ w' = w := by
  go_enter Tryz.func18, Tryz.ntmps18
  go_wp2_with (go_at_call 39; refine (usable_nil _).mono ?_; rintro e w' ⟨rfl, rfl⟩)
  go_ret
  exact ⟨rfl, rfl⟩
set_option maxRecDepth 100000 in
set_option maxHeartbeats 400000 in
theorem rollback_nil (w : World) : Calls Tryz.prog 23 #[.pointer none] w fun e w' => e = .returned (.int .i64 2) ∧ w' = w := by
  go_enter Tryz.func23, Tryz.ntmps23
  go_wp2_with (go_at_call 39; refine (usable_nil _).mono ?_; rintro e w' ⟨rfl, rfl⟩)
  go_ret
  exact ⟨rfl, rfl⟩
set_option maxRecDepth 100000 in
set_option maxHeartbeats 400000 in
theorem epoch_nil (w : World) : Calls Tryz.prog 22 #[.pointer none] w fun e w' => e = .returned (.int .u64 0) ∧ w' = w := by
  go_enter Tryz.func22, Tryz.ntmps22
  go_wp2_with (go_at_call 39; refine (usable_nil _).mono ?_; rintro e w' ⟨rfl, rfl⟩)
  go_ret
  exact ⟨rfl, rfl⟩
set_option maxRecDepth 100000 in
set_option maxHeartbeats 400000 in
theorem room_nil (w : World) : Calls Tryz.prog 16 #[.pointer none] w fun e w' => e = .returned (.tuple #[.int .i64 0, .int .i64 0]) ∧ w' = w := by
  go_enter Tryz.func16, Tryz.ntmps16
  go_wp2_with (go_at_call 39; refine (usable_nil _).mono ?_; rintro e w' ⟨rfl, rfl⟩)
  go_ret2
  exact ⟨rfl, rfl⟩
set_option maxRecDepth 100000 in
set_option maxHeartbeats 400000 in
theorem format_nil (w : World) : Calls Tryz.prog 24 #[.pointer none] w fun e w' => e = .returned (.tuple #[.pointer none, .int .i64 2]) ∧ w' = w := by
  go_enter Tryz.func24, Tryz.ntmps24
  go_wp2
  go_ret2
  exact ⟨rfl, rfl⟩
set_option maxRecDepth 100000 in
set_option maxHeartbeats 400000 in
theorem open_nil (w : World) : Calls Tryz.prog 20 #[.pointer none] w fun e w' => e = .returned (.tuple #[.pointer none, .int .i64 2]) ∧ w' = w := by
  go_enter Tryz.func20, Tryz.ntmps20
  go_wp2
  go_ret2
  exact ⟨rfl, rfl⟩
set_option maxRecDepth 100000 in
set_option maxHeartbeats 400000 in
theorem pages_nil (w : World) : Calls Tryz.prog 73 #[.pointer none] w (PagesIs [] w) := by
  have HV : ∀ w, Calls Tryz.prog 103 #[.slice none 0 0] w _ := fun w => (callsIn_wide (n := 5)).1 (values_in 5 none 0 0 w)
  go_enter Tryz.func73, Tryz.ntmps73
  go_wp2_with (first | (go_at_call 39; refine (usable_nil _).mono ?_; rintro e w' ⟨rfl, rfl⟩) | (go_at_call 103; refine (HV _).mono ?_; rintro e w1 ⟨rfl, rfl⟩))
  go_ret
  exact ⟨_, w'.heap.size, _, rfl, (Boxed.new _ _ _).cell, .inl ⟨rfl, rfl⟩, by simp, (Only.refl _ _).alloc _⟩
theorem listed_nil (w : World) : Calls Tryz.prog 38 #[.pointer none] w fun e w' => ∃ a c, e = .returned (.tuple #[.slice a 0 c, .bool true]) ∧ Only (fun _ => False) w w' := by
  refine (callsIn_wide (n := 6)).1 ((listed_core [] (by simp) none w (fun w1 _ => (callsIn_wide (n := 5)).2 (pages_nil w1))).mono ?_)
  rintro e w' ⟨v, rfl, h, ho⟩
  obtain ⟨a, c, rfl⟩ := ownsRow_slice h
  exact ⟨a, c, rfl, ho⟩

/-- keep on a disk without an end to its life. -/
theorem keep_live (d : DS) (k : Nat) (f : Nat → Int) (hl : d.life = -1) (hk : k < d.n) : d.keep k f = (0, { d with sec := upd d.sec k f, pend := [], life := -1 }) := by
  have hw : d.write (k : Int) f 32 = (0, { d with sec := upd d.sec k f, pend := d.pend ++ [⟨k, d.sec k, f⟩], life := -1 }) := by
    have h1 : ¬ ((k : Int) < 0 ∨ (d.n : Int) ≤ k) := by omega
    simp [DS.write, hl, hk, aged]
  simp [DS.keep, hw, DS.barrier, aged]
theorem format_live (p S B : Nat) (pv : Value) (d : DS) (w : World) (h : DiskAt w B p S pv d) (hB : B ≤ w.heap.size) (hby : (d.pend.length + 2) * 72 ≤ 140737488355328) (hn : 12 ≤ d.n) (hl : d.life = -1) :
    Calls Tryz.prog 24 #[.pointer (some ⟨p, 0, none⟩)] w fun e w' => ∃ s mc mn pv', e = .returned (.tuple #[.pointer (some ⟨s, 0, none⟩), .int .i64 0]) ∧ Hid (DiskAt w' B p S pv' ⟨d.n, upd (upd d.sec 4 (byF zeros32)) 0 (byF (rootB 1 0 0)), [], -1⟩ ∧
      StAt w' (diskB p S pv') s p mc mn (.slice none 0 0) (SS.new (d.n / 4)) ∧ Only (diskB p S pv) w w' ∧ (∀ b, pv'.ownBlock = some b → pv.ownBlock = some b ∨ w.heap.size ≤ b) ∧ w.heap.size ≤ s ∧ w.heap.size ≤ mc ∧ w.heap.size ≤ mn) := by
  have e1 := keep_live d 4 (byF zeros32) hl (by omega)
  have e2 := keep_live { d with sec := upd d.sec 4 (byF zeros32), pend := [], life := -1 } 0 (byF (rootB 1 0 0)) rfl (by simp; omega)
  have e1' : d.keep 4 (byF zeros32) = (0, { d with sec := upd d.sec 4 (byF zeros32), pend := [], life := -1 }) := e1
  have e2' : (d.keep 4 (byF zeros32)).2.keep 0 (byF (rootB 1 0 0)) = (0, ⟨d.n, upd (upd d.sec 4 (byF zeros32)) 0 (byF (rootB 1 0 0)), [], -1⟩) := by rw [e1']; exact e2
  have := format_ok p S B pv d w h hB hby (by omega) (by rw [e1']) (by rw [e2'])
  rw [e2'] at this
  exact this

theorem one_nine (w : World) : BytesAt (w.alloc (.cells #[.int .u8 9] 5)) (.slice (some ⟨w.heap.size, 0, none⟩) 1 1) [9] := by
  refine ⟨.inr ⟨_, _, rfl, by simp, fun j hj => ?_⟩, by simp, by simp⟩
  have : j = 0 := by simp at hj; omega
  subst this
  rw [Addr.add_mid, cell_of_row _ _ _ _ _ _ (heap_alloc_new w _)]
  rfl
set_option maxRecDepth 100000 in
set_option maxHeartbeats 2000000 in
/-- A program that does something. -/
theorem awake_any (w : World) : Calls Tryz.prog 6 #[] w fun e w' => e = .returned (.bool true) ∧ Only (fun _ => False) w w' := by
  have HN : Hid (Calls Tryz.prog 7 _ _ _) := new_any 16 w (by omega) (by omega)
  go_enter Tryz.func6, Tryz.ntmps6
  go_wp2_with fail
  refine (show Calls Tryz.prog 7 _ _ _ from HN.out).mono ?_
  rintro e w1 ⟨p, S, rfl, hd1, ho1⟩
  have HF : Hid (Calls Tryz.prog 24 _ _ _) := format_live p S w.heap.size _ _ w1 hd1 ho1.size (by simp) (by simp) rfl
  have H1 : Hid (DiskAt w1 w.heap.size p S (.slice none 0 0) ⟨16, fun _ _ => 0, [], -1⟩ ∧ Only (fun _ => False) w w1) := ⟨hd1, ho1⟩
  clear HN hd1 ho1
  go_wp2_with fail
  refine (show Calls Tryz.prog 24 _ _ _ from HF.out).mono ?_
  rintro e w2 ⟨s, mc, mn, pv, rfl, H2⟩
  obtain ⟨hd2, hs2, ho2, hp2, hsl, hml, hnl⟩ := H2.out
  have oA : Only (fun _ => False) w2 (w2.alloc (.cells #[.int .u8 9] 5)) := (Only.refl _ w2).alloc _
  have lt2 : ∀ k, diskB p S pv k → k < w2.heap.size := fun k hk => (hd2.lt k hk).2
  have HP : Hid (Calls Tryz.prog 25 _ _ _) := put_ok (hs2.still oA) (fun k hk => Nat.lt_of_lt_of_le (lt2 k hk) oA.size) 3 (by omega) _ [9] (one_nine w2) (by simp)
  have H2' : Hid (Only (diskB p S (.slice none 0 0)) w1 w2 ∧ w1.heap.size ≤ mn ∧ mn < w2.heap.size) := ⟨ho2, hnl, hs2.now.lt⟩
  clear HF H2 hd2 hs2 ho2 hp2 hsl hml hnl oA lt2
  go_wp2_with fail
  refine (show Calls Tryz.prog 25 _ _ _ from HP.out).mono ?_
  rintro e w3 ⟨rfl, hs3, ho3⟩
  have HG : Hid (Calls Tryz.prog 26 _ _ _) := get_some hs3 3 (by omega) (a := 0) (zs := [9]) rfl
  have HS3 : Hid _ := hs3
  have H3 : Hid (Only (fun k => k = mn) (w2.alloc (.cells #[.int .u8 9] 5)) w3) := ho3
  clear HP hs3 ho3
  go_wp2_with fail
  refine (show Calls Tryz.prog 26 _ _ _ from HG.out).mono ?_
  rintro e w4 ⟨u, rfl, hf4, ho4⟩
  obtain ⟨a, c, hu, _, hc⟩ := hf4.bytes.form
  obtain ⟨g, o, rfl, hc0⟩ := hc 0 (by simp)
  obtain rfl : u = .slice (some ⟨g, o, none⟩) 1 c := hu
  have hc0' : w4.cell? ⟨g, o, none⟩ = some (.int .u8 9) := hc0
  clear hc0
  have HE : Hid (Calls Tryz.prog 22 _ _ _) := epoch_ok (HS3.out.still ho4)
  have H4 : Hid (Only (fun _ => False) w w4) := by
    have o1 := H1.out.2
    have l1 := H1.out.1.lt
    have s1 := o1.size
    have o2 : Only (fun _ => False) w w2 := o1.trans H2'.out.1 (fun k hk e => by have := (l1 k e).1; omega)
    have o3 : Only (fun _ => False) w w3 := (o2.alloc _).trans H3.out (fun k hk e => by have := H2'.out.2.1; omega)
    exact o3.trans ho4 (fun _ _ e => e)
  clear HG HS3 H3 H2' H1 hf4 ho4 hc
  go_wp2_with (go_at_call 22; refine (show Calls Tryz.prog 22 _ _ _ from HE.out).mono ?_; rintro e w5 ⟨rfl, rfl⟩)
  go_ret
  exact ⟨rfl, H4.out⟩
end Go.Proofs.YtpoakkdkibameaaGreat
namespace Go.Proofs.YtpoakkdkibameaaGreat
open Go.RowKit Go.Maps Go.Shelf
set_option linter.unusedSimpArgs false
set_option linter.unusedVariables false

set_option maxRecDepth 100000 in
set_option maxHeartbeats 1000000 in
theorem same_any (v1 v2 : Value) (zs : List Nat) (w : World) (h1 : BytesAt w v1 zs) (h2 : BytesAt w v2 zs) :
    Calls Tryz.prog 12 #[v1, v2] w fun e w' => e = .returned (.bool true) ∧ Only (fun _ => False) w w' := by
  obtain ⟨a1, c1, rfl, _, f1⟩ := h1.form
  obtain ⟨a2, c2, rfl, _, f2⟩ := h2.form
  obtain ⟨m, hm⟩ : ∃ m, m = zs.length := ⟨_, rfl⟩
  have hm2 : m ≤ 140737488355328 := hm ▸ h1.2.1
  rw [← hm]
  rw [← hm] at f1 f2
  clear h1 h2 hm
  go_enter Tryz.func12, Tryz.ntmps12
  go_wp2
  go_loopw [5] (fun t wr => ∃ k : Nat, k ≤ m ∧ t = .int .i64 k ∧ Only (fun _ => False) w wr) (fun t _ => m - (intOf t).toNat)
  case atStart => exact ⟨0, Nat.zero_le _, rfl, Only.refl _ _⟩
  case round =>
    obtain ⟨k, hk, rfl, ho⟩ := hrel
    by_cases hlt : k < m
    · obtain ⟨g1, o1, rfl, x1⟩ := f1 k hlt
      obtain ⟨g2, o2, rfl, x2⟩ := f2 k hlt
      have y1 := ho.cell x1 (fun e => e)
      have y2 := ho.cell x2 (fun e => e)
      have k0 : (0 : Int) ≤ (k : Int) := Int.natCast_nonneg _
      have k1 : (k : Int) < (m : Int) := by omega
      obtain ⟨z, hz⟩ : ∃ z, z = zs.getD k 0 := ⟨_, rfl⟩
      rw [← hz] at y1 y2
      have HO : Hid (Only (fun _ => False) w wr) := ho
      clear f1 f2 x1 x2 ho hz
      go_wp2_with fail
      go_region_held3 (fun w' => w'.cell? ⟨g1, o1 + k, none⟩ = some (.int .u8 (z : Nat)) ∧ w'.cell? ⟨g2, o2 + k, none⟩ = some (.int .u8 (z : Nat))) (go_keep) (fail)
      go_wp2
      go_roundw
      case rel => exact ⟨k + 1, by omega, by go_num, HO.out.drew⟩
      case measure => simp [intOf]; omega
    · obtain rfl : k = m := by omega
      clear f1 f2
      go_wp2
      go_ret
      exact ⟨rfl, ho⟩

/-- What Get answers. -/
def gErr (x : SS) (i : Int) : Int := if 0 ≤ i ∧ i < 728 then (if (pgAt x.now i).isSome then 0 else 6) else 4
def gDat (x : SS) (i : Int) : List Nat := if 0 ≤ i ∧ i < 728 then ((pgAt x.now i).getD (0, [])).2 else []
section
variable {w : World} {dk : Nat → Prop} {s p mc mn : Nat} {tv : Value} {x : SS}
theorem get_all (h : StAt w dk s p mc mn tv x) (i : Int) :
    Calls Tryz.prog 26 #[.pointer (some ⟨s, 0, none⟩), .int .i64 i] w fun e w' => ∃ u, e = .returned (.tuple #[u, .int .i64 (gErr x i)]) ∧ Hid (Fresh w' w.heap.size u (gDat x i) ∧ Only (fun _ => False) w w') := by
  unfold gErr gDat
  by_cases hi : 0 ≤ i ∧ i < 728
  · rw [if_pos hi, if_pos hi]
    cases hg : pgAt x.now i with
    | some y =>
      obtain ⟨a, zs⟩ := y
      refine (get_some h i hi hg).mono ?_
      rintro e w' ⟨u, rfl, q1, q2⟩
      exact ⟨u, rfl, q1, q2⟩
    | none =>
      refine (get_none h i hi hg).mono ?_
      rintro e w' ⟨rfl, q2⟩
      exact ⟨_, rfl, Fresh.nil _ _, q2⟩
  · rw [if_neg hi, if_neg hi]
    refine (get_out h i (by omega)).mono ?_
    rintro e w' ⟨rfl, rfl⟩
    exact ⟨_, rfl, Fresh.nil _ _, Only.refl _ _⟩
end
theorem stable_true : Stable (fun _ _ => True) := ⟨fun _ _ _ _ _ _ => trivial, fun _ _ _ => trivial, fun _ _ => trivial, fun _ _ _ => trivial⟩
theorem pgAt_put_same {x : Pgs} (h : Rise x) (i : Int) (zs : List Nat) : pgAt (putL x i (0, zs)) i = some (0, zs) := getL_put_same h i _
theorem pgAt_put_other {x : Pgs} (h : Rise x) {i k : Int} (hk : k ≠ i) (zs : List Nat) : pgAt (putL x i (0, zs)) k = pgAt x k := getL_put_other h hk _
theorem pgAt_del_same (x : Pgs) (i : Int) : pgAt (delL x i) i = none := getL_del_same _ _

end Go.Proofs.YtpoakkdkibameaaGreat
namespace Go.Proofs.YtpoakkdkibameaaGreat
open Go.RowKit Go.Maps Go.Shelf
set_option linter.unusedSimpArgs false
set_option linter.unusedVariables false

/-- Pages as they are told: numbers, slices of data. -/
def tdL (rs : List (Int × Value)) : List Value := rs.flatMap fun q => [.int .i64 q.1, q.2]
theorem tdL_length (rs : List (Int × Value)) : (tdL rs).length = rs.length * 2 := by
  induction rs with
  | nil => rfl
  | cons q r ih => simp only [tdL, List.flatMap_cons, List.length_append, List.length_cons, List.length_nil] at *; omega
theorem tdL_snoc (rs : List (Int × Value)) (q : Int × Value) : tdL (rs ++ [q]) = tdL rs ++ [.int .i64 q.1, q.2] := by simp [tdL]
theorem tdL_get : ∀ (rs : List (Int × Value)) (k : Nat) (h : k < rs.length), (tdL rs)[k * 2]? = some (.int .i64 rs[k].1) ∧ (tdL rs)[k * 2 + 1]? = some rs[k].2
  | q :: r, 0, _ => ⟨rfl, rfl⟩
  | q :: r, k + 1, h => by
    have ih := tdL_get r k (by simpa using h)
    have e : tdL (q :: r) = .int .i64 q.1 :: q.2 :: tdL r := rfl
    rw [e, show (k + 1) * 2 = k * 2 + 1 + 1 by omega]
    simpa using ih
/-- The slice v holds the pages l, told as rs; all of it was made since B. -/
structure TdAt (W : World) (B : Nat) (v : Value) (rs : List (Int × Value)) (l : List (Int × List Nat)) : Prop where
  own : W.ownsRow B 86 2 v rs.length (tdL rs)
  len : rs.length = l.length
  key : ∀ j (h1 : j < rs.length) (h2 : j < l.length), rs[j].1 = l[j].1 ∧ BytesAt W rs[j].2 l[j].2 ∧ ∀ b, rs[j].2.ownBlock = some b → (B ≤ b ∧ b < W.heap.size) ∧ ¬ v.ownBlock = some b
theorem TdAt.frame {W W' : World} {B : Nat} {v : Value} {rs : List (Int × Value)} {l : List (Int × List Nat)} {bs : Nat → Prop} (h : TdAt W B v rs l) (ho : Only bs W W') (hb : ∀ k, B ≤ k → k < W.heap.size → ¬ bs k) : TdAt W' B v rs l where
  own := ho.owns h.own (fun b e e' => hb b (h.own.lt b e).1 (h.own.lt b e).2 e')
  len := h.len
  key := fun j h1 h2 => by
    obtain ⟨q1, q2, q3⟩ := h.key j h1 h2
    exact ⟨q1, q2.keep ho (fun b e => hb b (q3 b e).1.1 (q3 b e).1.2), fun b e => ⟨⟨(q3 b e).1.1, Nat.lt_of_lt_of_le (q3 b e).1.2 ho.size⟩, (q3 b e).2⟩⟩
theorem infoP : (Tryz.prog.info? 86).map (fun i => (i.zero, i.size, i.bytes)) = some (some (.agg #[.int .i64 0, .slice none 0 0]), 2, 32) := by kernel_rfl
/-- append(v, page{i, u}) -/
theorem app_td {w : World} {B : Nat} {v : Value} {rs : List (Int × Value)} (h : w.ownsRow B 86 2 v rs.length (tdL rs)) (hB : B ≤ w.heap.size) (i : Int) (a : Option Addr) (n c : Nat) (hl : rs.length + 1 ≤ 1048576) :
    ∃ a' cap w', (∀ ty, (Builtin.append_ #[48, 48] ty #[v, .slice (some ⟨w.heap.size, 0, none⟩) 1 1]).run Tryz.prog (w.alloc (.cells #[.int .i64 i, .slice a n c] 86)) = .ok (.slice a' (rs.length + 1) cap) w') ∧ w'.ownsRow B 86 2 (.slice a' (rs.length + 1) cap) (rs.length + 1) (tdL (rs ++ [(i, .slice a n c)])) ∧ Only (fun k => v.ownBlock = some k) w w' ∧ ((Value.slice a' (rs.length + 1) cap).ownBlock = v.ownBlock ∨ (Value.slice a' (rs.length + 1) cap).ownBlock = some (w.heap.size + 1)) := by
  obtain ⟨i0, hi0, hz0, hz1, hz2⟩ := info_parts infoP
  have o1 : Only (fun _ => False) w (w.alloc (.cells #[.int .i64 i, .slice a n c] 86)) := (Only.refl _ w).alloc _
  have h2 := o1.owns h (fun _ _ e => e)
  have key := fun ty => run_append_own_at (P := Tryz.prog) (w.alloc (.cells #[.int .i64 i, .slice a n c] 86)) B 48 ty 86 i0 _ 2 32 Tryz.underlying48 hi0 hz0 hz1 hz2 rfl (by omega) v rs.length (tdL rs) h2 ⟨w.heap.size, 0, none⟩ 1 1 [.int .i64 i, .slice a n c] rfl (World.news_of_block (heap_alloc_new w _)) (by simp [Value.oneCell']) (by unfold maxLen; omega) (by omega) (by have := o1.size; omega)
  obtain ⟨v', w', hr, own', hg, _, hbk⟩ := key 0
  obtain ⟨a', cap, rfl⟩ := ownsRow_slice own'
  refine ⟨a', cap, w', fun ty => by rw [← hr]; rfl, ?_, (o1.mono (fun _ _ e => e.elim)).trans ((Only.refl _ _).grown hg (fun k e hk => e)) (fun _ _ e => e), by simpa using hbk⟩
  rw [tdL_snoc]
  exact own'
theorem own_cells {w : World} {B n : Nat} {v : Value} {zs : List Int} (h : w.ownsRow B 3 1 v n (zs.map (Value.int .i64))) (hn : zs.length = n) : ∃ a c, v = .slice a n c ∧ ∀ j, j < n → ∃ g, a = some ⟨g, 0, none⟩ ∧ w.cell? ⟨g, j, none⟩ = some (.int .i64 (zs.getD j 0)) := by
  rcases h.2 with ⟨rfl, h0⟩ | ⟨g, cap, cur, rfl, _⟩
  · exact ⟨none, 0, by rw [h0], fun j hj => by omega⟩
  · refine ⟨some ⟨g, 0, none⟩, cap, rfl, fun j hj => ⟨g, rfl, ?_⟩⟩
    rw [h.cellAt j (by omega)]
    simp [List.getD, hn, hj]
theorem build_td (i : Int) (a : Option Addr) (n c : Nat) (w : World) : (Instr.build 86 #[(0, .int .i64 i), (1, .slice a n c)]).run Tryz.prog w = .ok (.agg #[.int .i64 i, .slice a n c]) w := by kernel_rfl
/-- What a store tells. -/
def tells (x : SS) : List (Int × List Nat) := x.now.map fun p => (p.1, p.2.2)
set_option maxRecDepth 100000 in
set_option maxHeartbeats 2000000 in
theorem told_any {w : World} {dk : Nat → Prop} {s p mc mn : Nat} {tv : Value} {x : SS} (h : StAt w dk s p mc mn tv x) :
    Calls Tryz.prog 14 #[.pointer (some ⟨s, 0, none⟩)] w fun e w' => ∃ v rs, e = .returned (.tuple #[v, .bool true]) ∧ Hid (TdAt w' w.heap.size v rs (tells x) ∧ Only (fun _ => False) w w') := by
  obtain ⟨zs, hzs⟩ : ∃ q, q = x.now.map (·.1) := ⟨_, rfl⟩
  have hlen := st_len h
  have hzl : zs.length = x.now.length := by rw [hzs, List.length_map]
  have HL : Hid (Calls Tryz.prog 38 _ _ _) := (callsIn_wide (n := 6)).1 (listed_core zs (by omega) (some ⟨s, 0, none⟩) w (fun w1 ho => by rw [hzs]; exact (callsIn_wide (n := 5)).2 (pages_ok (h.still ho))))
  have HS : Hid (StAt w dk s p mc mn tv x) := h
  have HZ : Hid (zs = x.now.map (·.1)) := hzs
  obtain ⟨n, hn⟩ : ∃ n, n = zs.length := ⟨_, rfl⟩
  have HN : Hid (n = zs.length ∧ n = x.now.length) := ⟨hn, by omega⟩
  have hn7 : n ≤ 728 := by omega
  rw [← hn] at HL
  clear h hzs hzl hn hlen
  go_enter Tryz.func14, Tryz.ntmps14
  go_wp2_with fail
  refine (show Calls Tryz.prog 38 _ _ _ from HL.out).mono ?_
  rintro e w1 ⟨v, rfl, hrow, ho1⟩
  obtain ⟨al, cl, rfl, hcl⟩ := own_cells hrow HN.out.1.symm
  have HC : Hid _ := hcl
  have HO1 : Hid (Only (fun _ => False) w w1) := ho1
  clear HL hrow ho1 hcl
  go_wp2_with fail
  go_loopw [5, 6, 7] (fun ok out t W => ∃ (k : Nat) (rs : List (Int × Value)), k ≤ n ∧ ok = .bool true ∧ t = .int .i64 k ∧ TdAt W w1.heap.size out rs ((tells x).take k) ∧ Only (fun _ => False) w1 W) (fun _ _ t _ => n - (intOf t).toNat)
  case atStart => exact ⟨0, [], Nat.zero_le _, rfl, rfl, { own := World.ownsRow_nil _ _ _ _, len := rfl, key := fun j h1 _ => by simp at h1 }, Only.refl _ _⟩
  case round =>
    obtain ⟨k, rs, hk, rfl, rfl, ht, ho⟩ := hrel
    obtain ⟨W, rfl⟩ : ∃ W, W = wr := ⟨_, rfl⟩
    obtain ⟨out, rfl⟩ : ∃ q, q = u6 := ⟨_, rfl⟩
    obtain ⟨ao, co, rfl⟩ := ownsRow_slice ht.own
    have hrl : rs.length = k := by rw [ht.len, List.length_take]; unfold tells; rw [List.length_map, ← HN.out.2]; omega
    by_cases hlt : k < n
    · have hkx : k < x.now.length := by have := HN.out.2; omega
      obtain ⟨g, rfl, hcell⟩ := HC.out k hlt
      have y1 := ho.cell hcell (fun e => e)
      obtain ⟨q, hq⟩ : ∃ q, q = x.now[k] := ⟨_, rfl⟩
      have hqm : q ∈ x.now := by rw [hq]; exact List.getElem_mem hkx
      have hzq : zs.getD k 0 = q.1 := by rw [HZ.out, hq]; simp [List.getD, hkx]
      rw [hzq] at y1
      have hsW : StAt W dk s p mc mn tv x := (HS.out.still HO1.out).still ho
      have hi := (hsW.wf.now q hqm).1
      have hpg : pgAt x.now q.1 = some q.2 := (getL_mem hsW.now.rise q.1 q.2).2 hqm
      have HG : Hid (Calls Tryz.prog 26 _ _ _) := get_all hsW q.1
      have ge : gErr x q.1 = 0 := by unfold gErr; rw [if_pos hi, hpg]; rfl
      have gd : gDat x q.1 = q.2.2 := by unfold gDat; rw [if_pos hi, hpg]; rfl
      rw [ge, gd] at HG
      have HT : Hid (TdAt W w1.heap.size (.slice ao rs.length co) rs ((tells x).take k) ∧ Only (fun _ => False) w1 W) := ⟨ht, ho⟩
      have HQ : Hid (q = x.now[k]) := hq
      obtain ⟨i, hie⟩ : ∃ i, i = q.1 := ⟨_, rfl⟩
      have HIE : Hid (i = q.1) := hie
      rw [← hie] at y1 HG
      have k0 : (0 : Int) ≤ (k : Int) := by omega
      have k1 : (k : Int) < (n : Int) := by omega
      rw [hrl] at HT ⊢
      have HRL : Hid (rs.length = k) := hrl
      have hcW : W.cell? ⟨g, k, none⟩ = some (.int .i64 i) := y1
      clear ht ho hcell hsW hpg ge gd hq hie hzq hqm y1 hi hrl
      go_wp2_with fail
      refine (show Calls Tryz.prog 26 _ _ _ from HG.out).mono ?_
      rintro e W2 ⟨u, rfl, HU⟩
      clear HG
      obtain ⟨au, cu, rfl⟩ := HU.out.1.form
      have hc2 : W2.cell? ⟨g, k, none⟩ = some (.int .i64 i) := HU.out.2.cell hcW (fun e => e)
      obtain ⟨nu, hnu⟩ : ∃ nu, nu = q.2.2.length := ⟨_, rfl⟩
      rw [← hnu] at HU ⊢
      have hB2 : w1.heap.size ≤ W2.heap.size := Nat.le_trans HT.out.2.size HU.out.2.size
      have hT2 := HT.out.1.frame HU.out.2 (fun _ _ _ e => e)
      have hrl := HRL.out
      obtain ⟨a5, c5, W5, hr5, hown5, ho5, hbk5⟩ := app_td (rs := rs) (by have := hT2.own; rw [hrl] at this ⊢; exact this) hB2 i au nu cu (by omega)
      rw [hrl] at hr5 hown5 hbk5
      have HR5 : Hid _ := hr5
      have hbt := build_td i au nu cu
      have HE5 : Hid (TdAt W5 w1.heap.size (.slice a5 (k + 1) c5) (rs ++ [(i, .slice au nu cu)]) ((tells x).take (k + 1)) ∧ Only (fun _ => False) w1 W5) := by
        have ow5 : Only (fun _ => False) w1 W5 := ((HT.out.2.trans HU.out.2 (fun _ _ e => e))).trans ho5 (fun b hb e => by have := (HT.out.1.own.lt b e).1; omega)
        have htk : (tells x).take (k + 1) = (tells x).take k ++ [(i, q.2.2)] := by
          have hkt : k < (tells x).length := by unfold tells; rw [List.length_map]; exact hkx
          rw [List.take_succ_eq_append_getElem hkt]
          congr 1
          simp [tells, ← HQ.out, HIE.out]
        refine ⟨{ own := by rw [List.length_append, hrl]; exact hown5, len := by rw [htk]; simp only [List.length_append, List.length_cons, List.length_nil]; have := hT2.len; omega, key := fun j h1 h2 => ?_ }, ow5⟩
        have hl0 : ((tells x).take k).length = k := by have := hT2.len; omega
        by_cases hj : j < k
        · have e1 : (rs ++ [(i, .slice au nu cu)])[j] = rs[j]'(by omega) := List.getElem_append_left _
          have e2 : ((tells x).take (k + 1))[j] = ((tells x).take k)[j]'(by omega) := by simp only [htk]; exact List.getElem_append_left _
          rw [e1, e2]
          obtain ⟨q1, q2, q3⟩ := hT2.key j (by omega) (by omega)
          have q3' : ∀ b, (rs[j]'(by omega)).2.ownBlock = some b → (w1.heap.size ≤ b ∧ b < W2.heap.size) ∧ ¬ (Value.slice ao k co).ownBlock = some b := fun b e => q3 b e
          refine ⟨q1, q2.keep ho5 (fun b e => (q3' b e).2), fun b e => ⟨⟨(q3' b e).1.1, Nat.lt_of_lt_of_le (q3' b e).1.2 ho5.size⟩, fun e' => ?_⟩⟩
          rcases hbk5 with h5 | h5
          · rw [h5] at e'; exact (q3' b e).2 e'
          · rw [h5] at e'
            injection e' with e'
            have := (q3' b e).1.2
            omega
        · have hjk : j = k := by simp only [List.length_append, List.length_cons, List.length_nil] at h1; omega
          subst hjk
          have e1 : (rs ++ [(i, .slice au nu cu)])[j] = (i, .slice au nu cu) := by simp [← hrl]
          have e2 : ((tells x).take (j + 1))[j] = (i, q.2.2) := by simp only [htk]; rw [List.getElem_append_right (by omega)]; simp [hl0]
          rw [e1, e2]
          have hub := HU.out.1
          have hno : ∀ b, (Value.slice au nu cu).ownBlock = some b → ¬ (Value.slice ao j co).ownBlock = some b := fun b e e' => by
            have h9 := (hub.1.lt b e).1
            have h8 := (HT.out.1.own.lt b e').2
            omega
          refine ⟨rfl, hub.bytes.keep ho5 hno, fun b e => ⟨⟨by have := (hub.1.lt b e).1; have := HT.out.2.size; omega, Nat.lt_of_lt_of_le (hub.1.lt b e).2 ho5.size⟩, fun e' => ?_⟩⟩
          rcases hbk5 with h5 | h5
          · rw [h5] at e'; exact hno b e e'
          · rw [h5] at e'
            injection e' with e'
            have := (hub.1.lt b e).2
            omega
      clear hT2 hown5 ho5 hr5 hrl hbk5 hnu
      go_wp2_with (at_builtin; go_must (refine wpList_append_run rfl _ _ 48 rfl _ _ (.slice a5 (k + 1) c5) rfl rfl HR5.out ?_))
      go_roundw
      case rel => exact ⟨k + 1, rs ++ [(i, .slice au nu cu)], by omega, rfl, by go_num, HE5.out.1, HE5.out.2⟩
      case measure => simp [intOf]; omega
    · have e : n = k := by omega
      subst e
      have HE : Hid (TdAt W w1.heap.size (.slice ao rs.length co) rs ((tells x).take n) ∧ Only (fun _ => False) w1 W) := ⟨ht, ho⟩
      have hfull : (tells x).take n = tells x := List.take_of_length_le (by unfold tells; rw [List.length_map, ← HN.out.2]; omega)
      rw [hfull] at HE
      clear ht ho hfull
      go_wp2
      go_ret2
      refine ⟨_, rs, rfl, ?_, HO1.out.trans HE.out.2 (fun _ _ e => e)⟩
      have s1 := HO1.out.size
      refine ⟨ownsRow_base HE.out.1.own s1, HE.out.1.len, fun j h1 h2 => ?_⟩
      obtain ⟨q1, q2, q3⟩ := HE.out.1.key j h1 h2
      exact ⟨q1, q2, fun b e => ⟨⟨by have := (q3 b e).1.1; omega, (q3 b e).1.2⟩, (q3 b e).2⟩⟩
end Go.Proofs.YtpoakkdkibameaaGreat
namespace Go.Proofs.YtpoakkdkibameaaGreat
open Go.RowKit Go.Maps Go.Shelf
set_option linter.unusedSimpArgs false
set_option linter.unusedVariables false

theorem TdAt.cells {W : World} {B : Nat} {v : Value} {rs : List (Int × Value)} {l : List (Int × List Nat)} (h : TdAt W B v rs l) : ∃ a c, v = .slice a l.length c ∧ ∀ k (hk : k < l.length), ∃ g u, a = some ⟨g, 0, none⟩ ∧ W.cell? ⟨g, k * 2, none⟩ = some (.int .i64 l[k].1) ∧ W.cell? ⟨g, k * 2 + 1, none⟩ = some u ∧ BytesAt W u l[k].2 := by
  have hl := h.len
  rcases h.own.2 with ⟨rfl, h0⟩ | ⟨g, cap, cur, rfl, _⟩
  · exact ⟨none, 0, by rw [← hl, h0], fun k hk => by omega⟩
  · refine ⟨some ⟨g, 0, none⟩, cap, by rw [hl], fun k hk => ?_⟩
    have hk' : k < rs.length := by omega
    obtain ⟨q1, q2⟩ := tdL_get rs k hk'
    obtain ⟨k1, k2, _⟩ := h.key k hk' hk
    refine ⟨g, rs[k].2, rfl, ?_, ?_, k2⟩
    · rw [h.own.cellAt (k * 2) (by omega), q1, k1]
    · rw [h.own.cellAt (k * 2 + 1) (by omega), q2]
set_option maxRecDepth 100000 in
set_option maxHeartbeats 2000000 in
theorem same_td {w : World} {B1 B2 : Nat} {v1 v2 : Value} {rs1 rs2 : List (Int × Value)} {l : List (Int × List Nat)} (h1 : TdAt w B1 v1 rs1 l) (h2 : TdAt w B2 v2 rs2 l) (hl : l.length ≤ 1000) :
    Calls Tryz.prog 21 #[v1, v2] w fun e w' => e = .returned (.bool true) ∧ Only (fun _ => False) w w' := by
  obtain ⟨a1, c1, rfl, f1⟩ := h1.cells
  obtain ⟨a2, c2, rfl, f2⟩ := h2.cells
  obtain ⟨n, hn⟩ : ∃ n, n = l.length := ⟨_, rfl⟩
  have HN : Hid (n = l.length) := hn
  have HF1 : Hid (∀ k (hk : k < l.length), ∃ g u, a1 = some ⟨g, 0, none⟩ ∧ w.cell? ⟨g, k * 2, none⟩ = some (.int .i64 l[k].1) ∧ w.cell? ⟨g, k * 2 + 1, none⟩ = some u ∧ BytesAt w u l[k].2) := f1
  have HF2 : Hid (∀ k (hk : k < l.length), ∃ g u, a2 = some ⟨g, 0, none⟩ ∧ w.cell? ⟨g, k * 2, none⟩ = some (.int .i64 l[k].1) ∧ w.cell? ⟨g, k * 2 + 1, none⟩ = some u ∧ BytesAt w u l[k].2) := f2
  rw [← hn] at hl ⊢
  clear h1 h2 f1 f2 hn
  go_enter Tryz.func21, Tryz.ntmps21
  go_wp2
  go_loopw [5] (fun t W => ∃ k : Nat, k ≤ n ∧ t = .int .i64 k ∧ Only (fun _ => False) w W) (fun t _ => n - (intOf t).toNat)
  case atStart => exact ⟨0, Nat.zero_le _, rfl, Only.refl _ _⟩
  case round =>
    obtain ⟨k, hk, rfl, ho⟩ := hrel
    obtain ⟨W, rfl⟩ : ∃ W, W = wr := ⟨_, rfl⟩
    by_cases hlt : k < n
    · have hkl : k < l.length := by have := HN.out; omega
      obtain ⟨g1, u1, rfl, x1, x2, x3⟩ := HF1.out k hkl
      obtain ⟨g2, u2, rfl, y1, y2, y3⟩ := HF2.out k hkl
      obtain ⟨i, hi⟩ : ∃ i, i = l[k].1 := ⟨_, rfl⟩
      rw [← hi] at x1 y1
      have k0 : (0 : Int) ≤ (k : Int) := by omega
      have k1 : (k : Int) < (n : Int) := by omega
      have HO : Hid (Only (fun _ => False) w W) := ho
      have HSS : Hid (∀ (W' : World), Only (fun _ => False) w W' → W'.cell? ⟨g1, k * 2, none⟩ = some (.int .i64 i) ∧ W'.cell? ⟨g1, k * 2 + 1, none⟩ = some u1 ∧ W'.cell? ⟨g2, k * 2, none⟩ = some (.int .i64 i) ∧ W'.cell? ⟨g2, k * 2 + 1, none⟩ = some u2) := fun W' ho' => ⟨ho'.cell x1 (fun e => e), ho'.cell x2 (fun e => e), ho'.cell y1 (fun e => e), ho'.cell y2 (fun e => e)⟩
      have od : Only (fun _ => False) w W.drew := ho.drew
      have HSa : Hid (Calls Tryz.prog 12 #[u1, u2] W.drew fun e W2 => e = .returned (.bool true) ∧ Hid (Only (fun _ => False) w W2)) := by
        refine (same_any u1 u2 l[k].2 W.drew (x3.frame od) (y3.frame od)).mono ?_
        rintro e W2 ⟨rfl, q⟩
        exact ⟨rfl, od.trans q (fun _ _ e => e)⟩
      have HOD : Hid (Only (fun _ => False) w W.drew) := od
      obtain ⟨a1', n1', c1', hu1⟩ := bytes_slice x3
      obtain ⟨a2', n2', c2', hu2⟩ := bytes_slice y3
      clear x1 x2 x3 y1 y2 y3 hi ho od
      subst hu1 hu2
      go_wp2_with fail
      refine wp_region_held_drew (S := fun W' => W'.cell? ⟨g1, k * 2, none⟩ = some (.int .i64 i) ∧ W'.cell? ⟨g1, k * 2 + 1, none⟩ = some (.slice a1' n1' c1') ∧ W'.cell? ⟨g2, k * 2, none⟩ = some (.int .i64 i) ∧ W'.cell? ⟨g2, k * 2 + 1, none⟩ = some (.slice a2' n2' c2')) (by kernel_rfl) (HSS.out _ HOD.out) (fun hHeld => ?_)
      refine wpAnyH_take (i := 0) (v := .slice (some ⟨g1, 0, none⟩) n c1) rfl (by kernel_rfl) (by kernel_rfl) (by kernel_rfl) (fun _ _ _ h => h) (Or.inl ⟨by rfl, fun wx hSw => by go_simp⟩) hHeld ?_
      simp only [Act.put, List.setIfInBounds_toArray, List.set_cons_zero, List.set_cons_succ, List.getElem_toArray, List.getElem_cons_zero, List.getElem_cons_succ]
      refine wpAnyH_take (i := 1) (v := .int .i64 (k : Nat)) rfl (by kernel_rfl) (by kernel_rfl) (by kernel_rfl) (fun _ _ _ h => h) (Or.inl ⟨by rfl, fun wx hSw => by go_simp⟩) hHeld ?_
      simp only [Act.put, List.setIfInBounds_toArray, List.set_cons_zero, List.set_cons_succ, List.getElem_toArray, List.getElem_cons_zero, List.getElem_cons_succ]
      refine wpAnyH_take (i := 2) (v := .pointer (some ⟨g1, k * 2, none⟩)) rfl (by kernel_rfl) (by kernel_rfl) (by kernel_rfl) (fun _ _ _ h => h) (Or.inl ⟨by rfl, fun wx hSw => by go_simp⟩) hHeld ?_
      simp only [Act.put, List.setIfInBounds_toArray, List.set_cons_zero, List.set_cons_succ, List.getElem_toArray, List.getElem_cons_zero, List.getElem_cons_succ]
      refine wpAnyH_take (i := 3) (v := .pointer (some ⟨g1, k * 2, none⟩)) rfl (by kernel_rfl) (by kernel_rfl) (by kernel_rfl) (fun _ _ _ h => h) (Or.inl ⟨by rfl, fun wx hSw => by go_simp⟩) hHeld ?_
      simp only [Act.put, List.setIfInBounds_toArray, List.set_cons_zero, List.set_cons_succ, List.getElem_toArray, List.getElem_cons_zero, List.getElem_cons_succ]
      refine wpAnyH_take (i := 4) (v := .int .i64 i) rfl (by kernel_rfl) (by kernel_rfl) (by kernel_rfl) (fun _ _ _ h => h) (Or.inl ⟨by rfl, fun wx hSw => by go_simp⟩) hHeld ?_
      simp only [Act.put, List.setIfInBounds_toArray, List.set_cons_zero, List.set_cons_succ, List.getElem_toArray, List.getElem_cons_zero, List.getElem_cons_succ]
      refine wpAnyH_take (i := 5) (v := .slice (some ⟨g2, 0, none⟩) n c2) rfl (by kernel_rfl) (by kernel_rfl) (by kernel_rfl) (fun _ _ _ h => h) (Or.inl ⟨by rfl, fun wx hSw => by go_simp⟩) hHeld ?_
      simp only [Act.put, List.setIfInBounds_toArray, List.set_cons_zero, List.set_cons_succ, List.getElem_toArray, List.getElem_cons_zero, List.getElem_cons_succ]
      refine wpAnyH_take (i := 6) (v := .int .i64 (k : Nat)) rfl (by kernel_rfl) (by kernel_rfl) (by kernel_rfl) (fun _ _ _ h => h) (Or.inl ⟨by rfl, fun wx hSw => by go_simp⟩) hHeld ?_
      simp only [Act.put, List.setIfInBounds_toArray, List.set_cons_zero, List.set_cons_succ, List.getElem_toArray, List.getElem_cons_zero, List.getElem_cons_succ]
      refine wpAnyH_take (i := 7) (v := .pointer (some ⟨g2, k * 2, none⟩)) rfl (by kernel_rfl) (by kernel_rfl) (by kernel_rfl) (fun _ _ _ h => h) (Or.inl ⟨by rfl, fun wx hSw => by go_simp⟩) hHeld ?_
      simp only [Act.put, List.setIfInBounds_toArray, List.set_cons_zero, List.set_cons_succ, List.getElem_toArray, List.getElem_cons_zero, List.getElem_cons_succ]
      refine wpAnyH_take (i := 8) (v := .pointer (some ⟨g2, k * 2, none⟩)) rfl (by kernel_rfl) (by kernel_rfl) (by kernel_rfl) (fun _ _ _ h => h) (Or.inl ⟨by rfl, fun wx hSw => by go_simp⟩) hHeld ?_
      simp only [Act.put, List.setIfInBounds_toArray, List.set_cons_zero, List.set_cons_succ, List.getElem_toArray, List.getElem_cons_zero, List.getElem_cons_succ]
      refine wpAnyH_take (i := 9) (v := .int .i64 i) rfl (by kernel_rfl) (by kernel_rfl) (by kernel_rfl) (fun _ _ _ h => h) (Or.inl ⟨by rfl, fun wx hSw => by go_simp⟩) hHeld ?_
      simp only [Act.put, List.setIfInBounds_toArray, List.set_cons_zero, List.set_cons_succ, List.getElem_toArray, List.getElem_cons_zero, List.getElem_cons_succ]
      refine wpAnyH_take (i := 10) (v := .bool false) rfl (by kernel_rfl) (by kernel_rfl) (by kernel_rfl) (fun _ _ _ h => h) (Or.inl ⟨by rfl, fun wx hSw => by go_simp⟩) hHeld ?_
      simp only [Act.put, List.setIfInBounds_toArray, List.set_cons_zero, List.set_cons_succ, List.getElem_toArray, List.getElem_cons_zero, List.getElem_cons_succ]
      refine wpAnyH_take (i := 11) (v := .bool false) rfl (by kernel_rfl) (by kernel_rfl) (by kernel_rfl) (fun _ _ _ h => h) (Or.inl ⟨by rfl, fun wx hSw => by go_simp⟩) hHeld ?_
      simp only [Act.put, List.setIfInBounds_toArray, List.set_cons_zero, List.set_cons_succ, List.getElem_toArray, List.getElem_cons_zero, List.getElem_cons_succ]
      refine wpAnyH_take (i := 12) (v := .slice (some ⟨g1, 0, none⟩) n c1) rfl (by kernel_rfl) (by kernel_rfl) (by kernel_rfl) (fun _ _ _ h => h) (Or.inl ⟨by rfl, fun wx hSw => by go_simp⟩) hHeld ?_
      simp only [Act.put, List.setIfInBounds_toArray, List.set_cons_zero, List.set_cons_succ, List.getElem_toArray, List.getElem_cons_zero, List.getElem_cons_succ]
      refine wpAnyH_take (i := 13) (v := .int .i64 (k : Nat)) rfl (by kernel_rfl) (by kernel_rfl) (by kernel_rfl) (fun _ _ _ h => h) (Or.inl ⟨by rfl, fun wx hSw => by go_simp⟩) hHeld ?_
      simp only [Act.put, List.setIfInBounds_toArray, List.set_cons_zero, List.set_cons_succ, List.getElem_toArray, List.getElem_cons_zero, List.getElem_cons_succ]
      refine wpAnyH_take (i := 14) (v := .pointer (some ⟨g1, k * 2, none⟩)) rfl (by kernel_rfl) (by kernel_rfl) (by kernel_rfl) (fun _ _ _ h => h) (Or.inl ⟨by rfl, fun wx hSw => by go_simp⟩) hHeld ?_
      simp only [Act.put, List.setIfInBounds_toArray, List.set_cons_zero, List.set_cons_succ, List.getElem_toArray, List.getElem_cons_zero, List.getElem_cons_succ]
      refine wpAnyH_take (i := 15) (v := .pointer (some ⟨g1, k * 2 + 1, none⟩)) rfl (by kernel_rfl) (by kernel_rfl) (by kernel_rfl) (fun _ _ _ h => h) (Or.inl ⟨by rfl, fun wx hSw => by go_simp⟩) hHeld ?_
      simp only [Act.put, List.setIfInBounds_toArray, List.set_cons_zero, List.set_cons_succ, List.getElem_toArray, List.getElem_cons_zero, List.getElem_cons_succ]
      refine wpAnyH_take (i := 16) (v := .slice a1' n1' c1') rfl (by kernel_rfl) (by kernel_rfl) (by kernel_rfl) (fun _ _ _ h => h) (Or.inl ⟨by rfl, fun wx hSw => by go_simp⟩) hHeld ?_
      simp only [Act.put, List.setIfInBounds_toArray, List.set_cons_zero, List.set_cons_succ, List.getElem_toArray, List.getElem_cons_zero, List.getElem_cons_succ]
      refine wpAnyH_take (i := 17) (v := .slice (some ⟨g2, 0, none⟩) n c2) rfl (by kernel_rfl) (by kernel_rfl) (by kernel_rfl) (fun _ _ _ h => h) (Or.inl ⟨by rfl, fun wx hSw => by go_simp⟩) hHeld ?_
      simp only [Act.put, List.setIfInBounds_toArray, List.set_cons_zero, List.set_cons_succ, List.getElem_toArray, List.getElem_cons_zero, List.getElem_cons_succ]
      refine wpAnyH_take (i := 18) (v := .int .i64 (k : Nat)) rfl (by kernel_rfl) (by kernel_rfl) (by kernel_rfl) (fun _ _ _ h => h) (Or.inl ⟨by rfl, fun wx hSw => by go_simp⟩) hHeld ?_
      simp only [Act.put, List.setIfInBounds_toArray, List.set_cons_zero, List.set_cons_succ, List.getElem_toArray, List.getElem_cons_zero, List.getElem_cons_succ]
      refine wpAnyH_take (i := 19) (v := .pointer (some ⟨g2, k * 2, none⟩)) rfl (by kernel_rfl) (by kernel_rfl) (by kernel_rfl) (fun _ _ _ h => h) (Or.inl ⟨by rfl, fun wx hSw => by go_simp⟩) hHeld ?_
      simp only [Act.put, List.setIfInBounds_toArray, List.set_cons_zero, List.set_cons_succ, List.getElem_toArray, List.getElem_cons_zero, List.getElem_cons_succ]
      refine wpAnyH_take (i := 20) (v := .pointer (some ⟨g2, k * 2 + 1, none⟩)) rfl (by kernel_rfl) (by kernel_rfl) (by kernel_rfl) (fun _ _ _ h => h) (Or.inl ⟨by rfl, fun wx hSw => by go_simp⟩) hHeld ?_
      simp only [Act.put, List.setIfInBounds_toArray, List.set_cons_zero, List.set_cons_succ, List.getElem_toArray, List.getElem_cons_zero, List.getElem_cons_succ]
      refine wpAnyH_take (i := 21) (v := .slice a2' n2' c2') rfl (by kernel_rfl) (by kernel_rfl) (by kernel_rfl) (fun _ _ _ h => h) (Or.inl ⟨by rfl, fun wx hSw => by go_simp⟩) hHeld ?_
      simp only [Act.put, List.setIfInBounds_toArray, List.set_cons_zero, List.set_cons_succ, List.getElem_toArray, List.getElem_cons_zero, List.getElem_cons_succ]
      refine wpAnyH_ready (rs := [22]) (by kernel_rfl) (by simp) ?_
      refine AllReadyH.cons rfl (fun K hK => ?_) AllReadyH.nil
      rw [if_pos (by rfl)]
      refine wp_call_func #[.tmp 33, .tmp 38] #[37, 37] rfl #[.slice a1' n1' c1', .slice a2' n2' c2'] (by simp [Act.eval]) (enters_of Tryz.func12 (by kernel_rfl) rfl) (show Calls Tryz.prog 12 _ _ _ from HSa.out) (fun e W2 he => ?_)
      obtain ⟨rfl, HO2⟩ := he
      refine ⟨_, rfl, hK _ _ (HSS.out W2 HO2.out) (fun hHeld => ?_)⟩
      clear hK K HSa
      simp only [Act.put, List.setIfInBounds_toArray, List.set_cons_zero, List.set_cons_succ, List.getElem_toArray, List.getElem_cons_zero, List.getElem_cons_succ]
      refine wpAnyH_take (i := 23) (v := .bool false) rfl (by kernel_rfl) (by kernel_rfl) (by kernel_rfl) (fun _ _ _ h => h) (Or.inl ⟨by rfl, fun wx hSw => by go_simp⟩) hHeld ?_
      simp only [Act.put, List.setIfInBounds_toArray, List.set_cons_zero, List.set_cons_succ, List.getElem_toArray, List.getElem_cons_zero, List.getElem_cons_succ]
      refine wpAnyH_take (i := 24) (v := .bool false) rfl (by kernel_rfl) (by kernel_rfl) (by kernel_rfl) (fun _ _ _ h => h) (Or.inl ⟨by rfl, fun wx hSw => by go_simp⟩) hHeld ?_
      simp only [Act.put, List.setIfInBounds_toArray, List.set_cons_zero, List.set_cons_succ, List.getElem_toArray, List.getElem_cons_zero, List.getElem_cons_succ]
      refine wpAnyH_done (by kernel_rfl) ?_ _
      clear hHeld HSS HOD
      go_wp2
      go_roundw
      case rel => exact ⟨k + 1, by omega, by go_num, HO2.out⟩
      case measure => simp [intOf]; omega
    · have HO : Hid (Only (fun _ => False) w W) := ho
      clear ho
      go_wp2
      go_ret
      exact ⟨rfl, HO.out⟩
end Go.Proofs.YtpoakkdkibameaaGreat
namespace Go.Proofs.YtpoakkdkibameaaGreat
open Go.RowKit Go.Maps Go.Shelf
set_option linter.unusedSimpArgs false
set_option linter.unusedVariables false

/-- more[k:k+1] -/
theorem slice_one (g o m c k : Nat) (hk : k < m) (hc : m ≤ c) (hm : m ≤ 140737488351232) (w : World) : (Instr.slice 22 (.slice (some ⟨g, o, none⟩) m c) (some (.int .i64 (k : Nat))) (some (.int .i64 ((k : Int) + 1))) none).run Tryz.prog w = .ok (.slice (some ⟨g, o + k * 6, none⟩) 1 (c - k)) w := by
  have k0 : (0 : Int) ≤ (k : Int) := by omega
  have k1 : (0 : Int) ≤ (k : Int) + 1 := by omega
  have k2 : (k : Int) + 1 ≤ (c : Int) := by omega
  have k3 : (k : Int) ≤ (k : Int) + 1 := by omega
  have k4 : ((k : Int) + 1 - (k : Int)).toNat = 1 := by omega
  have k5 : ((c : Int) - (k : Int)).toNat = c - k := by omega
  have k6 : ¬ c - k = 0 := by omega
  have k7 : (k : Int) ≤ (c : Int) := by omega
  have k8 : ¬ c = k := by omega
  go_simp
theorem ScriptAt.one {W : World} {g o c : Nat} {os : List OpS} (h : ScriptAt W (.slice (some ⟨g, o, none⟩) os.length c) os) (k : Nat) (hk : k < os.length) : ScriptAt W (.slice (some ⟨g, o + k * 6, none⟩) 1 (c - k)) [os[k]] := by
  obtain ⟨g', o', c', hv, hr, hcap⟩ := h.get k hk
  injection hv with hv _ hc
  injection hv with hv
  injection hv with hg ho _
  subst hg ho hc
  refine ⟨.inr ⟨⟨g, o + k * 6, none⟩, c - k, rfl, by simp; omega, fun i hi j v hv => ?_⟩, by simp, fun x hx => ?_⟩
  · have hi0 : i = 0 := by simp at hi; omega
    subst hi0
    have := hr j v (by simpa using hv)
    rw [Addr.add_mid]
    simpa using this
  · simp at hx
    rw [hx]
    exact h.2.2 _ (List.getElem_mem hk)
theorem tells_next (x : SS) : tells x.next = tells x := layK_data _ _ _
theorem inv_new (N : Nat) : Inv (SS.new N) := ⟨by simp [SS.new], fun p hp => by cases hp⟩
/-- Commit, and what it turns. -/
theorem pair_commit2 {w0 w : World} {B0 s p S : Nat} {x : SS} {d : DS} (h : PairAt w0 B0 s p S x d) (ho : Only (fun _ => False) w0 w) (hB0 : B0 ≤ w.heap.size) :
    Calls Tryz.prog 18 #[.pointer (some ⟨s, 0, none⟩)] w fun e w' =>
      (freeN x x.size < needN x ∧ e = .returned (.int .i64 7) ∧ Hid (PairAt w' B0 s p S x d ∧ Only (fun _ => False) w w')) ∨
      (needN x ≤ freeN x x.size ∧ e = .returned (.int .i64 0) ∧ Hid (PairAt w' B0 s p S x.next (cmX x d).2 ∧ Only (fun k => B0 ≤ k ∧ k < w0.heap.size) w w')) := by
  obtain ⟨pv, mc, mn, tv, B, h1, h2, h3, h4⟩ := h.all
  have h' := h.still ho
  have h1' : DiskAt w B p S pv d := h1.frame ho (fun _ _ e => e)
  have h3' := h3.still ho
  refine (commit_any h3' h1' (Nat.le_trans h2 ho.size) h.byte h.good (by rw [h.pend]; simp)).mono ?_
  rintro e w' hh
  rcases hh.out with ⟨q1, rfl, q2⟩ | ⟨q1, q2, _⟩ | ⟨q1, q2, rfl, pv', mc', mn', tv', q3, q4, q5, q6, q7, q8⟩
  · exact .inl ⟨q1, rfl, h'.still q2, q2⟩
  · exact absurd (cm_live h3.wf q1 h.life h.size h.byte h.good h3.now.rise h.bytes).1 q2
  · obtain ⟨_, r2, r3, r4, r5⟩ := cm_live h3.wf q1 h.life h.size h.byte h.good h3.now.rise h.bytes
    refine .inr ⟨q1, rfl, { all := ⟨pv', mc', mn', tv', B, q3, Nat.le_trans h2 (Nat.le_trans ho.size q5.size), q4, ?_⟩, byte := r5, good := ?_, pend := r4, life := r2, size := by rw [r3]; exact h.size }, q5.mono (fun k _ e => ?_)⟩
    · rintro k (e | e | e | e)
      · exact h4 k (.inl e)
      · omega
      · omega
      · rcases e with e | e | e
        · exact h4 k (.inr (.inr (.inr (.inl e))))
        · exact h4 k (.inr (.inr (.inr (.inr (.inl e)))))
        · rcases q6 k e with e | e
          · exact h4 k (.inr (.inr (.inr (.inr (.inr e)))))
          · omega
    · unfold Good
      rw [r4]
      rfl
    · rcases e with e | e
      · exact ⟨h4 k (.inr (.inr (.inr e))), (h1.lt k e).2⟩
      · exact ⟨h4 k (.inl e), by rw [e]; exact h3.lt⟩
theorem PairAt.st {w : World} {B0 s p S : Nat} {x : SS} {d : DS} (h : PairAt w B0 s p S x d) : ∃ dk mc mn tv, StAt w dk s p mc mn tv x ∧ ∀ k, dk k → k < w.heap.size := by
  obtain ⟨pv, mc, mn, tv, B, h1, h2, h3, h4⟩ := h.all
  exact ⟨_, mc, mn, tv, h3, fun k hk => (h1.lt k hk).2⟩
theorem pair_room {w : World} {B0 s p S : Nat} {x : SS} {d : DS} (h : PairAt w B0 s p S x d) : Calls Tryz.prog 16 #[.pointer (some ⟨s, 0, none⟩)] w fun e w' => e = .returned (.tuple #[.int .i64 (freeN x x.size : Nat), .int .i64 (needN x : Nat)]) ∧ Hid (Only (fun _ => False) w w') := by
  obtain ⟨dk, mc, mn, tv, h3, hd⟩ := h.st
  exact (room_any h3 hd).mono (fun e w' ⟨a, b⟩ => ⟨a, b⟩)
theorem pair_told {w : World} {B0 s p S : Nat} {x : SS} {d : DS} (h : PairAt w B0 s p S x d) : Calls Tryz.prog 14 #[.pointer (some ⟨s, 0, none⟩)] w fun e w' => ∃ a n c rs, e = .returned (.tuple #[.slice a n c, .bool true]) ∧ n = x.now.length ∧ Hid (TdAt w' w.heap.size (.slice a n c) rs (tells x) ∧ Only (fun _ => False) w w') := by
  obtain ⟨dk, mc, mn, tv, h3, hd⟩ := h.st
  refine (told_any h3).mono ?_
  rintro e w' ⟨v, rs, rfl, hh⟩
  obtain ⟨a, c, rfl⟩ := ownsRow_slice hh.out.1.own
  exact ⟨a, rs.length, c, rs, rfl, by rw [hh.out.1.len]; simp [tells], hh.out⟩
theorem pair_epoch {w : World} {B0 s p S : Nat} {x : SS} {d : DS} (h : PairAt w B0 s p S x d) : Calls Tryz.prog 22 #[.pointer (some ⟨s, 0, none⟩)] w fun e w' => e = .returned (.int .u64 (x.epoch : Nat)) ∧ w' = w := by
  obtain ⟨dk, mc, mn, tv, h3, hd⟩ := h.st
  exact epoch_ok h3
theorem pair_len {w : World} {B0 s p S : Nat} {x : SS} {d : DS} (h : PairAt w B0 s p S x d) : Calls Tryz.prog 85 #[.pointer (some ⟨p, 0, none⟩)] w fun e w' => e = .returned (.int .i64 (d.n : Nat)) ∧ w' = w := by
  obtain ⟨pv, mc, mn, tv, B, h1, h2, h3, h4⟩ := h.all
  obtain ⟨c, hc⟩ := h1.c0
  exact len_any p S d.n c w hc
end Go.Proofs.YtpoakkdkibameaaGreat
namespace Go.Proofs.YtpoakkdkibameaaGreat
open Go.RowKit Go.Maps Go.Shelf
set_option linter.unusedSimpArgs false
set_option linter.unusedVariables false

theorem Inv.put {x : SS} (h : Inv x) (i : Int) (zs : List Nat) : Inv { x with now := putL x.now i (0, zs) } := ⟨h.1, fun q hq hz => by
  rcases (putL_mem _ _ _ _).1 hq with rfl | hq
  · exact absurd rfl hz
  · exact h.2 q hq.1 hz⟩
theorem Inv.drop {x : SS} (h : Inv x) (i : Int) : Inv { x with now := delL x.now i } := ⟨h.1, fun q hq hz => h.2 q ((delL_mem _ _ _).1 hq).1 hz⟩
theorem Inv.roll {x : SS} (h : Inv x) : Inv { x with now := x.com } := ⟨h.1, fun q hq hz => hq⟩
theorem Hold.now {x : SS} {d : DS} (h : Hold x d) (l : Pgs) : Hold { x with now := l } d := ⟨h.root, h.tabs, h.tab, h.page, h.pos⟩
/-- What a commit leaves on a disk that never dies. -/
theorem next_oth {x : SS} {d : DS} (hw : x.Wf) (hfit : needN x ≤ freeN x x.size) (hlf : d.life = -1) (hn : d.n / 4 = x.size) (hr : Rise x.now) (hi : Inv x) (hb : ∀ p ∈ x.now, ∀ z ∈ p.2.2, z < 256) (hep : x.epoch + 1 < 18446744073709551616) (h : Hold x d) : Hold x.next (cmX x d).2 ∧ Oth x.next (cmX x d).2 := by
  have hok := allW_ok (d := d) hw hfit hn hr
  have hnd := allW_nodup (d := d) hw hfit hn hr hi
  obtain ⟨w1, w2, w3, w4⟩ := wrs_eff (allW x) d hlf (fun q hq => ⟨(hok q hq).1, (hok q hq).2.1⟩) hnd
  have hcd := cm_disk hw hfit hlf hn hr
  rw [Nat.mod_eq_of_lt hep] at hcd
  refine hold_of hw hfit hn hr hi hb hep h w3 w4 (fun i hi => ?_) ?_
  · rw [hcd]
    show upd (wrs (allW x) d).sec (4 - x.sector) _ i = _
    rw [upd_at, if_neg hi]
  · rw [hcd]
    show secN (upd (wrs (allW x) d).sec (4 - x.sector) _ (4 - x.sector)) = _
    rw [upd_at, if_pos rfl, secN_byF _ (rootB_length _ _ _)]
/-- What grown keeps. -/
structure KJ (k : Nat) (x : SS) (d : DS) : Prop where
  inv : Inv x
  hold : Hold x d
  oth : Oth x d
  few : x.epoch ≤ k + 1
theorem stable_kj : StableN True KJ where
  put := fun h i zs _ _ hx => ⟨hx.inv.put i zs, hx.hold.now _, hx.oth, Nat.le_succ_of_le hx.few⟩
  drop := fun h i hx => ⟨hx.inv.drop i, hx.hold.now _, hx.oth, Nat.le_succ_of_le hx.few⟩
  roll := fun h hx => ⟨hx.inv.roll, hx.hold.now _, hx.oth, Nat.le_succ_of_le hx.few⟩
  next := fun {k w K s p S x d} _ hk h hf hx => by
    obtain ⟨pv, mc, mn, tv, B, h1, h2, h3, h4⟩ := h.all
    obtain ⟨a, b⟩ := next_oth h3.wf hf h.life h.size h3.now.rise hx.inv h.bytes (by have := hx.few; omega) hx.hold
    refine ⟨⟨next_nodup h3.wf h3.now.rise hf hx.inv, fun q hq hz => hq⟩, a, b, ?_⟩
    show (x.epoch + 1) % 18446744073709551616 ≤ k + 1 + 1
    have := hx.few
    omega
  idle := fun hx => ⟨hx.inv, hx.hold, hx.oth, Nat.le_succ_of_le hx.few⟩
theorem kj_new (N : Nat) (hN : 12 ≤ N) : KJ 0 (SS.new (N / 4)) (fmtD N) := by
  obtain ⟨_, _, e⟩ := fmtD_eq N hN
  rw [e]
  refine ⟨inv_new _, ⟨?_, by simp [SS.new, tabB, tabN], fun j hj => absurd hj (by simp [SS.new]), fun p hp => (by cases hp), by simp [SS.new]⟩, ?_, by simp [SS.new]⟩
  · show secN (upd (upd (fun _ _ => 0) 4 (byF zeros32)) 0 (byF (rootB 1 0 0)) 0) = rootB 1 0 0
    rw [upd_at, if_pos rfl, secN_byF _ (rootB_length _ _ _)]
  · have e4 : secN (upd (upd (fun _ _ => 0) 4 (byF zeros32)) 0 (byF (rootB 1 0 0)) 4) = zeros32 := by
      rw [upd_at, if_neg (by omega), upd_at, if_pos rfl, secN_byF zeros32 (by simp [zeros32])]
    show Twin (secN (upd (upd (fun _ _ => 0) 4 (byF zeros32)) 0 (byF (rootB 1 0 0)) 4)) ∧ rtE (secN (upd (upd (fun _ _ => 0) 4 (byF zeros32)) 0 (byF (rootB 1 0 0)) 4)) < 1
    rw [e4]
    exact ⟨by unfold Twin; decide, by decide⟩
/-- What puts, drops and rollbacks leave as it was. -/
def MJ (x0 : SS) (d0 : DS) (_ : Nat) (x : SS) (d : DS) : Prop := d = d0 ∧ (∃ l, x = { x0 with now := l }) ∧ Inv x
theorem stable_mj (x0 : SS) (d0 : DS) : StableN False (MJ x0 d0) where
  put := fun h i zs _ _ hx => by
    obtain ⟨rfl, ⟨l, rfl⟩, h3⟩ := hx
    exact ⟨rfl, ⟨_, rfl⟩, h3.put i zs⟩
  drop := fun h i hx => by
    obtain ⟨rfl, ⟨l, rfl⟩, h3⟩ := hx
    exact ⟨rfl, ⟨_, rfl⟩, h3.drop i⟩
  roll := fun h hx => by
    obtain ⟨rfl, ⟨l, rfl⟩, h3⟩ := hx
    exact ⟨rfl, ⟨_, rfl⟩, h3.roll⟩
  next := fun h => h.elim
  idle := fun hx => hx
theorem pairk_told {w : World} {K : Nat → Prop} {s p S : Nat} {x : SS} {d : DS} (h : PairK w K s p S x d) : Calls Tryz.prog 14 #[.pointer (some ⟨s, 0, none⟩)] w fun e w' => ∃ a n c rs, e = .returned (.tuple #[.slice a n c, .bool true]) ∧ n = x.now.length ∧ Hid (TdAt w' w.heap.size (.slice a n c) rs (tells x) ∧ Only (fun _ => False) w w') := by
  obtain ⟨dk, mc, mn, tv, h3, hd⟩ := h.st
  refine (told_any h3).mono ?_
  rintro e w' ⟨v, rs, rfl, hh⟩
  obtain ⟨a, c, rfl⟩ := ownsRow_slice hh.out.1.own
  exact ⟨a, rs.length, c, rs, rfl, by rw [hh.out.1.len]; simp [tells], hh.out⟩
theorem st_told {w : World} {dk : Nat → Prop} {s p mc mn : Nat} {tv : Value} {x : SS} (h : StAt w dk s p mc mn tv x) : Calls Tryz.prog 14 #[.pointer (some ⟨s, 0, none⟩)] w fun e w' => ∃ a n c rs, e = .returned (.tuple #[.slice a n c, .bool true]) ∧ n = x.now.length ∧ Hid (TdAt w' w.heap.size (.slice a n c) rs (tells x) ∧ Only (fun _ => False) w w') := by
  refine (told_any h).mono ?_
  rintro e w' ⟨v, rs, rfl, hh⟩
  obtain ⟨a, c, rfl⟩ := ownsRow_slice hh.out.1.own
  exact ⟨a, rs.length, c, rs, rfl, by rw [hh.out.1.len]; simp [tells], hh.out⟩
/-- What lies behind a told store: a store that goes on in other blocks. -/
theorem WkE.split {J : Nat → SS → DS → Prop} {k : Nat} {w w2 w3 : World} {s p S n : Nat} {x : SS} {d : DS} (h : PairK w2 (fun k => w.heap.size ≤ k) s p S x d) (ho : Only (fun _ => False) w2 w3) : PairK w3 (fun k => w.heap.size ≤ k ∧ ¬ (w2.heap.size ≤ k ∧ k < w3.heap.size)) s p S x d :=
  (h.mono (fun k hk e => ⟨e, fun h => by omega⟩)).still ho
/-- Open on the disk of a store. -/
theorem open_pair {w : World} {K : Nat → Prop} {s p S : Nat} {x y : SS} {d : DS} (h : PairK w K s p S x d) (hy : y.Wf) (hr : Rise y.com) (hn : y.size = x.size) (hk : Inv y ∧ Hold y d ∧ Low y d) (hc : y.now = y.com) :
    Calls Tryz.prog 20 #[.pointer (some ⟨p, 0, none⟩)] w fun e w' => ∃ s', e = .returned (.tuple #[.pointer (some ⟨s', 0, none⟩), .int .i64 0]) ∧ Hid (Only (fun _ => False) w w' ∧ ∃ mc mn tv, StAt w' (fun k => k < w.heap.size) s' p mc mn tv y) := by
  obtain ⟨pv, mc, mn, tv, B, h1, h2, h3, h4⟩ := h.all
  have hw := h3.wf
  refine (open_any p S B pv d w h1 (by rw [h.life]; simp) h.byte (by rw [h.size]; exact hw.size.1) (fun k => k < w.heap.size) (fun _ e => e)).mono ?_
  intro e w' hh
  have hob := open_back hy hr (h.size.trans hn.symm) hk.1.1 hk.2.1 hk.2.2
  rw [hob] at hh
  obtain ⟨q1, s', mc', mn', tv', rfl, q2, q3, q4, q5⟩ := hh.out
  refine ⟨s', rfl, q1, mc', mn', tv', ?_⟩
  have e : y = { y with now := y.com } := by
    obtain ⟨a, b, c, d, e, f⟩ := y
    simp only at hc ⊢
    rw [hc]
  rw [e]
  exact q2
end Go.Proofs.YtpoakkdkibameaaGreat
