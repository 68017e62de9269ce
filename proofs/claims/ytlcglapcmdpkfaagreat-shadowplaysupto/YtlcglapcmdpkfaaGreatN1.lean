import Derived.Test.YtlcglapcmdpkfaaGreatM8
import Derived.Test.YtlcglapcmdpkfaaGreatV2
namespace Go.Proofs.YtlcglapcmdpkfaaGreat
open Go.RowKit Go.Maps
set_option linter.unusedSimpArgs false
set_option linter.unusedVariables false
theorem keep_live (d : DS) (k : Nat) (f : Nat → Int) (hl : d.life = -1) (hk : k < d.n) : d.keep k f = (0, { d with sec := upd d.sec k f, pend := [], life := -1 }) := by
 have hw : d.write (k : Int) f 32 = (0, { d with sec := upd d.sec k f, pend := d.pend ++ [⟨k, d.sec k, f⟩], life := -1 }) := by
  have h1 : ¬ ((k : Int) < 0 ∨ (d.n : Int) ≤ k) := by omega
  simp [DS.write, hl, hk, aged]
 simp [DS.keep, hw, DS.barrier, aged]
theorem format_live (p S B : Nat) (pv : Value) (d : DS) (w : World) (h : DiskAt w B p S pv d) (hB : B ≤ w.heap.size) (hby : (d.pend.length + 2) * 72 ≤ 140737488355328) (hn : 12 ≤ d.n) (hl : d.life = -1) :
  Calls Tryz.prog 11 #[.pointer (some ⟨p, 0, none⟩)] w fun e w' => ∃ s mc mn pv', e = .returned (.tuple #[.pointer (some ⟨s, 0, none⟩), .int .i64 0]) ∧ Hid (DiskAt w' B p S pv' ⟨d.n, upd (upd d.sec 4 (byF zeros32)) 0 (byF (rootB 1 0 0)), [], -1⟩ ∧
   StAt w' (diskB p S pv') s p mc mn (.slice none 0 0) (SS.new (d.n / 4)) ∧ Only (diskB p S pv) w w' ∧ (∀ b, pv'.ownBlock = some b → pv.ownBlock = some b ∨ w.heap.size ≤ b) ∧ w.heap.size ≤ s ∧ w.heap.size ≤ mc ∧ w.heap.size ≤ mn) := by
 have e1 := keep_live d 4 (byF zeros32) hl (by omega)
 have e2 := keep_live { d with sec := upd d.sec 4 (byF zeros32), pend := [], life := -1 } 0 (byF (rootB 1 0 0)) rfl (by simp; omega)
 have e1' : d.keep 4 (byF zeros32) = (0, { d with sec := upd d.sec 4 (byF zeros32), pend := [], life := -1 }) := e1
 have e2' : (d.keep 4 (byF zeros32)).2.keep 0 (byF (rootB 1 0 0)) = (0, ⟨d.n, upd (upd d.sec 4 (byF zeros32)) 0 (byF (rootB 1 0 0)), [], -1⟩) := by rw [e1']; exact e2
 have := format_ok p S B pv d w h hB hby (by omega) (by rw [e1']) (by rw [e2'])
 rw [e2'] at this
 exact this
theorem one_nine (w : World) : BytesAt (w.alloc (.cells #[.int .u8 9] 5)) (.slice (some ⟨w.heap.size, 0, none⟩) 1 1) [9] := by
 refine ⟨.inr ⟨_, _, rfl, by simp, fun j hj => ?_⟩, by simp, by simp⟩
 have : j = 0 := by simp at hj; omega
 subst this
 rw [Addr.add_mid, cell_of_row _ _ _ _ _ _ (heap_alloc_new w _)]
 rfl
set_option maxRecDepth 100000 in
set_option maxHeartbeats 2000000 in
theorem awake_any (w : World) : Calls Tryz.prog 4 #[] w fun e w' => e = .returned (.bool true) ∧ Only (fun _ => False) w w' := by
 have HN : Hid (Calls Tryz.prog 5 _ _ _) := new_any 16 w (by omega) (by omega)
 go_enter Tryz.func4, Tryz.ntmps4
 go_wp2_with fail
 refine (show Calls Tryz.prog 5 _ _ _ from HN.out).mono ?_
 rintro e w1 ⟨p, S, rfl, hd1, ho1⟩
 have HF : Hid (Calls Tryz.prog 11 _ _ _) := format_live p S w.heap.size _ _ w1 hd1 ho1.size (by simp) (by simp) rfl
 have H1 : Hid (DiskAt w1 w.heap.size p S (.slice none 0 0) ⟨16, fun _ _ => 0, [], -1⟩ ∧ Only (fun _ => False) w w1) := ⟨hd1, ho1⟩
 clear HN hd1 ho1
 go_wp2_with fail
 refine (show Calls Tryz.prog 11 _ _ _ from HF.out).mono ?_
 rintro e w2 ⟨s, mc, mn, pv, rfl, H2⟩
 obtain ⟨hd2, hs2, ho2, hp2, hsl, hml, hnl⟩ := H2.out
 have oA : Only (fun _ => False) w2 (w2.alloc (.cells #[.int .u8 9] 5)) := (Only.refl _ w2).alloc _
 have lt2 : ∀ k, diskB p S pv k → k < w2.heap.size := fun k hk => (hd2.lt k hk).2
 have HP : Hid (Calls Tryz.prog 12 _ _ _) := put_ok (hs2.still oA) (fun k hk => Nat.lt_of_lt_of_le (lt2 k hk) oA.size) 3 (by omega) _ [9] (one_nine w2) (by simp)
 have H2' : Hid (Only (diskB p S (.slice none 0 0)) w1 w2 ∧ w1.heap.size ≤ mn ∧ mn < w2.heap.size) := ⟨ho2, hnl, hs2.now.lt⟩
 clear HF H2 hd2 hs2 ho2 hp2 hsl hml hnl oA lt2
 go_wp2_with fail
 refine (show Calls Tryz.prog 12 _ _ _ from HP.out).mono ?_
 rintro e w3 ⟨rfl, hs3, ho3⟩
 have HG : Hid (Calls Tryz.prog 13 _ _ _) := get_some hs3 3 (by omega) (a := 0) (zs := [9]) rfl
 have HS3 : Hid _ := hs3
 have H3 : Hid (Only (fun k => k = mn) (w2.alloc (.cells #[.int .u8 9] 5)) w3) := ho3
 clear HP hs3 ho3
 go_wp2_with fail
 refine (show Calls Tryz.prog 13 _ _ _ from HG.out).mono ?_
 rintro e w4 ⟨u, rfl, hf4, ho4⟩
 obtain ⟨a, c, hu, _, hc⟩ := hf4.bytes.form
 obtain ⟨g, o, rfl, hc0⟩ := hc 0 (by simp)
 obtain rfl : u = .slice (some ⟨g, o, none⟩) 1 c := hu
 have hc0' : w4.cell? ⟨g, o, none⟩ = some (.int .u8 9) := hc0
 clear hc0
 have HE : Hid (Calls Tryz.prog 14 _ _ _) := epoch_ok (HS3.out.still ho4)
 have H4 : Hid (Only (fun _ => False) w w4) := by
  have o1 := H1.out.2
  have l1 := H1.out.1.lt
  have s1 := o1.size
  have o2 : Only (fun _ => False) w w2 := o1.trans H2'.out.1 (fun k hk e => by have := (l1 k e).1; omega)
  have o3 : Only (fun _ => False) w w3 := (o2.alloc _).trans H3.out (fun k hk e => by have := H2'.out.2.1; omega)
  exact o3.trans ho4 (fun _ _ e => e)
 clear HG HS3 H3 H2' H1 hf4 ho4 hc
 go_wp2_with (go_at_call 14; refine (show Calls Tryz.prog 14 _ _ _ from HE.out).mono ?_; rintro e w5 ⟨rfl, rfl⟩)
 go_ret
 exact ⟨rfl, H4.out⟩
end Go.Proofs.YtlcglapcmdpkfaaGreat
