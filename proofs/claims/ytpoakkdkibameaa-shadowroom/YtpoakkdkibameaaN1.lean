/- The calls on a nil store; that the law's first look at the program comes out true. -/
import Derived.Test.YtpoakkdkibameaaM8
import Derived.Test.YtpoakkdkibameaaV2
namespace Go.Proofs.Ytpoakkdkibameaa
open Go.RowKit Go.Maps
set_option linter.unusedSimpArgs false
set_option linter.unusedVariables false

set_option maxRecDepth 100000 in
set_option maxHeartbeats 400000 in
theorem get_nil (i : Int) (w : World) : Calls Try.prog 15 #[.pointer none, .int .i64 i] w fun e w' => e = .returned (.tuple #[.slice none 0 0, .int .i64 2]) ∧ w' = w := by
  go_enter Try.func15, Try.ntmps15
  go_wp2_with (go_at_call 34; refine (holds_nil _ _).mono ?_; rintro e w' ⟨rfl, rfl⟩)
  go_ret2
  exact ⟨rfl, rfl⟩
set_option maxRecDepth 100000 in
set_option maxHeartbeats 400000 in
theorem put_nil (i : Int) (v : Value) (w : World) : Calls Try.prog 16 #[.pointer none, .int .i64 i, v] w fun e w' => e = .returned (.int .i64 2) ∧ w' = w := by
  go_enter Try.func16, Try.ntmps16
  go_wp2_with (go_at_call 36; refine (sreach_nil _ _).mono ?_; rintro e w' ⟨rfl, rfl⟩)
  go_ret
  exact ⟨rfl, rfl⟩
set_option maxRecDepth 100000 in
set_option maxHeartbeats 400000 in
theorem drop_nil (i : Int) (w : World) : Calls Try.prog 19 #[.pointer none, .int .i64 i] w fun e w' => e = .returned (.int .i64 2) ∧ w' = w := by
  go_enter Try.func19, Try.ntmps19
  go_wp2_with (go_at_call 34; refine (holds_nil _ _).mono ?_; rintro e w' ⟨rfl, rfl⟩)
  go_ret
  exact ⟨rfl, rfl⟩
set_option maxRecDepth 100000 in
set_option maxHeartbeats 400000 in
theorem commit_nil (w : World) : Calls Try.prog 12 #[.pointer none] w fun e w' => e = .returned (.int .i64 2) ∧ w' = w := by
  go_enter Try.func12, Try.ntmps12
  go_wp2_with (go_at_call 25; refine (usable_nil _).mono ?_; rintro e w' ⟨rfl, rfl⟩)
  go_ret
  exact ⟨rfl, rfl⟩
set_option maxRecDepth 100000 in
set_option maxHeartbeats 400000 in
theorem rollback_nil (w : World) : Calls Try.prog 23 #[.pointer none] w fun e w' => e = .returned (.int .i64 2) ∧ w' = w := by
  go_enter Try.func23, Try.ntmps23
  go_wp2_with (go_at_call 25; refine (usable_nil _).mono ?_; rintro e w' ⟨rfl, rfl⟩)
  go_ret
  exact ⟨rfl, rfl⟩
set_option maxRecDepth 100000 in
set_option maxHeartbeats 400000 in
theorem epoch_nil (w : World) : Calls Try.prog 11 #[.pointer none] w fun e w' => e = .returned (.int .u64 0) ∧ w' = w := by
  go_enter Try.func11, Try.ntmps11
  go_wp2_with (go_at_call 25; refine (usable_nil _).mono ?_; rintro e w' ⟨rfl, rfl⟩)
  go_ret
  exact ⟨rfl, rfl⟩
set_option maxRecDepth 100000 in
set_option maxHeartbeats 400000 in
theorem room_nil (w : World) : Calls Try.prog 9 #[.pointer none] w fun e w' => e = .returned (.tuple #[.int .i64 0, .int .i64 0]) ∧ w' = w := by
  go_enter Try.func9, Try.ntmps9
  go_wp2_with (go_at_call 25; refine (usable_nil _).mono ?_; rintro e w' ⟨rfl, rfl⟩)
  go_ret2
  exact ⟨rfl, rfl⟩
set_option maxRecDepth 100000 in
set_option maxHeartbeats 400000 in
theorem format_nil (w : World) : Calls Try.prog 20 #[.pointer none] w fun e w' => e = .returned (.tuple #[.pointer none, .int .i64 2]) ∧ w' = w := by
  go_enter Try.func20, Try.ntmps20
  go_wp2
  go_ret2
  exact ⟨rfl, rfl⟩
set_option maxRecDepth 100000 in
set_option maxHeartbeats 400000 in
theorem open_nil (w : World) : Calls Try.prog 21 #[.pointer none] w fun e w' => e = .returned (.tuple #[.pointer none, .int .i64 2]) ∧ w' = w := by
  go_enter Try.func21, Try.ntmps21
  go_wp2
  go_ret2
  exact ⟨rfl, rfl⟩
set_option maxRecDepth 100000 in
set_option maxHeartbeats 400000 in
theorem pages_nil (w : World) : Calls Try.prog 42 #[.pointer none] w (PagesIs [] w) := by
  have HV : ∀ w, Calls Try.prog 59 #[.slice none 0 0] w _ := fun w => (callsIn_wide (n := 5)).1 (values_in 5 none 0 0 w)
  go_enter Try.func42, Try.ntmps42
  go_wp2_with (first | (go_at_call 25; refine (usable_nil _).mono ?_; rintro e w' ⟨rfl, rfl⟩) | (go_at_call 59; refine (HV _).mono ?_; rintro e w1 ⟨rfl, rfl⟩))
  go_ret
  exact ⟨_, w'.heap.size, _, rfl, (Boxed.new _ _ _).cell, .inl ⟨rfl, rfl⟩, by simp, (Only.refl _ _).alloc _⟩
theorem listed_nil (w : World) : Calls Try.prog 22 #[.pointer none] w fun e w' => ∃ a c, e = .returned (.tuple #[.slice a 0 c, .bool true]) ∧ Only (fun _ => False) w w' := by
  refine (callsIn_wide (n := 6)).1 ((listed_core [] (by simp) none w (fun w1 _ => (callsIn_wide (n := 5)).2 (pages_nil w1))).mono ?_)
  rintro e w' ⟨v, rfl, h, ho⟩
  obtain ⟨a, c, rfl⟩ := ownsRow_slice h
  exact ⟨a, c, rfl, ho⟩

/-- keep on a disk without an end to its life. -/
theorem keep_live (d : DS) (k : Nat) (f : Nat → Int) (hl : d.life = -1) (hk : k < d.n) : d.keep k f = (0, { d with sec := upd d.sec k f, pend := [], life := -1 }) := by
  have hw : d.write (k : Int) f 32 = (0, { d with sec := upd d.sec k f, pend := d.pend ++ [⟨k, d.sec k, f⟩], life := -1 }) := by
    have h1 : ¬ ((k : Int) < 0 ∨ (d.n : Int) ≤ k) := by omega
    simp [DS.write, hl, hk, aged]
  simp [DS.keep, hw, DS.barrier, aged]
theorem format_live (p S B : Nat) (pv : Value) (d : DS) (w : World) (h : DiskAt w B p S pv d) (hB : B ≤ w.heap.size) (hby : (d.pend.length + 2) * 72 ≤ 140737488355328) (hn : 12 ≤ d.n) (hl : d.life = -1) :
    Calls Try.prog 20 #[.pointer (some ⟨p, 0, none⟩)] w fun e w' => ∃ s mc mn pv', e = .returned (.tuple #[.pointer (some ⟨s, 0, none⟩), .int .i64 0]) ∧ Hid (DiskAt w' B p S pv' ⟨d.n, upd (upd d.sec 4 (byF zeros32)) 0 (byF (rootB 1 0 0)), [], -1⟩ ∧
      StAt w' (diskB p S pv') s p mc mn (.slice none 0 0) (SS.new (d.n / 4)) ∧ Only (diskB p S pv) w w' ∧ (∀ b, pv'.ownBlock = some b → pv.ownBlock = some b ∨ w.heap.size ≤ b) ∧ w.heap.size ≤ s ∧ w.heap.size ≤ mc ∧ w.heap.size ≤ mn) := by
  have e1 := keep_live d 4 (byF zeros32) hl (by omega)
  have e2 := keep_live { d with sec := upd d.sec 4 (byF zeros32), pend := [], life := -1 } 0 (byF (rootB 1 0 0)) rfl (by simp; omega)
  have e1' : d.keep 4 (byF zeros32) = (0, { d with sec := upd d.sec 4 (byF zeros32), pend := [], life := -1 }) := e1
  have e2' : (d.keep 4 (byF zeros32)).2.keep 0 (byF (rootB 1 0 0)) = (0, ⟨d.n, upd (upd d.sec 4 (byF zeros32)) 0 (byF (rootB 1 0 0)), [], -1⟩) := by rw [e1']; exact e2
  have := format_ok p S B pv d w h hB hby (by omega) (by rw [e1']) (by rw [e2'])
  rw [e2'] at this
  exact this

theorem one_nine (w : World) : BytesAt (w.alloc (.cells #[.int .u8 9] 5)) (.slice (some ⟨w.heap.size, 0, none⟩) 1 1) [9] := by
  refine ⟨.inr ⟨_, _, rfl, by simp, fun j hj => ?_⟩, by simp, by simp⟩
  have : j = 0 := by simp at hj; omega
  subst this
  rw [Addr.add_mid, cell_of_row _ _ _ _ _ _ (heap_alloc_new w _)]
  rfl
set_option maxRecDepth 100000 in
set_option maxHeartbeats 2000000 in
/-- A program that does something. -/
theorem awake_any (w : World) : Calls Try.prog 7 #[] w fun e w' => e = .returned (.bool true) ∧ Only (fun _ => False) w w' := by
  have HN : Hid (Calls Try.prog 24 _ _ _) := new_any 16 w (by omega) (by omega)
  go_enter Try.func7, Try.ntmps7
  go_wp2_with fail
  refine (show Calls Try.prog 24 _ _ _ from HN.out).mono ?_
  rintro e w1 ⟨p, S, rfl, hd1, ho1⟩
  have HF : Hid (Calls Try.prog 20 _ _ _) := format_live p S w.heap.size _ _ w1 hd1 ho1.size (by simp) (by simp) rfl
  have H1 : Hid (DiskAt w1 w.heap.size p S (.slice none 0 0) ⟨16, fun _ _ => 0, [], -1⟩ ∧ Only (fun _ => False) w w1) := ⟨hd1, ho1⟩
  clear HN hd1 ho1
  go_wp2_with fail
  refine (show Calls Try.prog 20 _ _ _ from HF.out).mono ?_
  rintro e w2 ⟨s, mc, mn, pv, rfl, H2⟩
  obtain ⟨hd2, hs2, ho2, hp2, hsl, hml, hnl⟩ := H2.out
  have oA : Only (fun _ => False) w2 (w2.alloc (.cells #[.int .u8 9] 5)) := (Only.refl _ w2).alloc _
  have lt2 : ∀ k, diskB p S pv k → k < w2.heap.size := fun k hk => (hd2.lt k hk).2
  have HP : Hid (Calls Try.prog 16 _ _ _) := put_ok (hs2.still oA) (fun k hk => Nat.lt_of_lt_of_le (lt2 k hk) oA.size) 3 (by omega) _ [9] (one_nine w2) (by simp)
  have H2' : Hid (Only (diskB p S (.slice none 0 0)) w1 w2 ∧ w1.heap.size ≤ mn ∧ mn < w2.heap.size) := ⟨ho2, hnl, hs2.now.lt⟩
  clear HF H2 hd2 hs2 ho2 hp2 hsl hml hnl oA lt2
  go_wp2_with fail
  refine (show Calls Try.prog 16 _ _ _ from HP.out).mono ?_
  rintro e w3 ⟨rfl, hs3, ho3⟩
  have HG : Hid (Calls Try.prog 15 _ _ _) := get_some hs3 3 (by omega) (a := 0) (zs := [9]) rfl
  have HS3 : Hid _ := hs3
  have H3 : Hid (Only (fun k => k = mn) (w2.alloc (.cells #[.int .u8 9] 5)) w3) := ho3
  clear HP hs3 ho3
  go_wp2_with fail
  refine (show Calls Try.prog 15 _ _ _ from HG.out).mono ?_
  rintro e w4 ⟨u, rfl, hf4, ho4⟩
  obtain ⟨a, c, hu, _, hc⟩ := hf4.bytes.form
  obtain ⟨g, o, rfl, hc0⟩ := hc 0 (by simp)
  obtain rfl : u = .slice (some ⟨g, o, none⟩) 1 c := hu
  have hc0' : w4.cell? ⟨g, o, none⟩ = some (.int .u8 9) := hc0
  clear hc0
  have HE : Hid (Calls Try.prog 11 _ _ _) := epoch_ok (HS3.out.still ho4)
  have H4 : Hid (Only (fun _ => False) w w4) := by
    have o1 := H1.out.2
    have l1 := H1.out.1.lt
    have s1 := o1.size
    have o2 : Only (fun _ => False) w w2 := o1.trans H2'.out.1 (fun k hk e => by have := (l1 k e).1; omega)
    have o3 : Only (fun _ => False) w w3 := (o2.alloc _).trans H3.out (fun k hk e => by have := H2'.out.2.1; omega)
    exact o3.trans ho4 (fun _ _ e => e)
  clear HG HS3 H3 H2' H1 hf4 ho4 hc
  go_wp2_with (go_at_call 11; refine (show Calls Try.prog 11 _ _ _ from HE.out).mono ?_; rintro e w5 ⟨rfl, rfl⟩)
  go_ret
  exact ⟨rfl, H4.out⟩
end Go.Proofs.Ytpoakkdkibameaa
