import Derived.Test.YtlcglapcmdpkfaaGreatShelf
import Derived.Test.YtlcglapcmdpkfaaGreatV2
import Derived.Test.YtlcglapcmdpkfaaGreatM4
namespace Go.Proofs.YtlcglapcmdpkfaaGreat
open Go.RowKit Go.Maps Go.Sort Go.Shelf
set_option linter.unusedSimpArgs false
set_option linter.unusedVariables false
theorem sorts (m : Nat) : AnyZI.SortsIn Tryz.prog Tryz.sortedA_ren Fence.wide m :=
 ⟨fun blk off cap ss W hH hblk hsz => callsIn_wide.2 (AnyM.slices_Sort_int Tryz.sortA blk off cap ss W hH hblk hsz),
  fun p cap W => callsIn_wide.2 (AnyM.slices_Sort_int_none Tryz.sortA p cap W)⟩
theorem entL_keys (l : List (Int × Value)) : intKeys (.map (entL l) : DataW Value) = l.map (·.1) := by
 simp only [intKeys, entL, List.map_map]
 apply List.map_congr_left
 intro p _
 rfl
theorem sort_rising {ks ss : List Int} (h : ks.Pairwise (· < ·)) (hp : ss.Perm ks) : ss.mergeSort (fun x y => decide (x ≤ y)) = ks := by
 have e := mergeSort_of_perm_i hp
 rw [show ss.mergeSort (fun x y => decide (x ≤ y)) = ss.mergeSort leI from rfl, e]
 exact List.mergeSort_of_pairwise (h.imp (fun {a b} hab => by simp; omega))
set_option maxRecDepth 100000 in
set_option maxHeartbeats 1000000 in
theorem sorted_keys (b : Nat) (l : List (Int × Value)) (w : World) (h : MapAt w b l) (hl : l.length ≤ 1000) :
  CallsIn Fence.wide 6 Tryz.prog 103 #[.func (.func 121) #[] #[.pointer (some ⟨w.heap.size, 0, none⟩)]] (w.alloc (.cells #[.map (some b)] 77)) fun e w' =>
   ∃ v, e = .returned v ∧ w'.ownsRow w.heap.size 3 1 v l.length ((l.map (·.1)).map (Value.int .i64)) ∧ Only (fun _ => False) w w' := by
 have hown := h.own
 have hbl := hown.lt
 have hseq : SeqGives Fence.wide 3 Tryz.prog 121 #[.pointer (some ⟨w.heap.size, 0, none⟩)] encZ (fun ss => ss.Perm (intKeys (.map (entL l) : DataW Value))) (Maps.size (.map (entL l) : DataW Value)) (w.alloc (.cells #[.map (some b)] 77)) :=
  AnyZI.keys_gives (ρ := Tryz.keysA_ren) { Tryz.keysA with } Fence.wide _ trivial rfl (by omega) w.heap.size b l.length (.map (entL l)) _ (by simp) (by simp) (hown.alloc _)
 have hsz : Maps.size (.map (entL l) : DataW Value) = l.length := by simp [Maps.size, entL_length]
 have cS := AnyZI.sorted_in Tryz.sortedA Fence.wide 6 trivial trivial trivial trivial rfl (by omega) (sorts _) (enters_of Tryz.func120 (by kernel_rfl) rfl) 121 #[.pointer (some ⟨w.heap.size, 0, none⟩)] trivial (enters_of Tryz.func121 (by kernel_rfl) rfl) _ _ (by rw [hsz]; unfold maxLen; omega) (by rw [hsz]; omega) _ hseq
 change CallsIn _ _ Tryz.prog 103 _ _ _ at cS
 refine cS.mono ?_
 rintro e w' ⟨v, ss, rfl, hS, hrow, _, hb⟩
 rw [entL_keys] at hS
 have hr : (l.map (·.1)).Pairwise (· < ·) := List.pairwise_map.2 h.rise
 rw [sort_rising hr hS] at hrow
 have hlen : ss.length = l.length := by rw [hS.length_eq, List.length_map]
 rw [hlen] at hrow
 refine ⟨v, rfl, ownsRow_base hrow (by simp), ?_⟩
 have hB := Below.only hb
 exact ((Only.refl (fun _ => False) w).alloc _).trans hB (fun k hk e => by simp at e; omega)
theorem keys_calls (b : Nat) (w : World) : Calls Tryz.prog 104 #[.map (some b)] w fun e w' => e = .returned (.func (.func 121) #[] #[.pointer (some ⟨w.heap.size, 0, none⟩)]) ∧ w' = w.alloc (.cells #[.map (some b)] 77) :=
 (callsIn_wide (n := 5)).1 (AnyZI.keys_in Tryz.keysA Fence.wide 5 trivial rfl (some b) w)
theorem ints_of_own {w : World} {B n : Nat} {a : Option Addr} {c : Nat} {zs : List Int} (h : w.ownsRow B 3 1 (.slice a n c) n (zs.map (Value.int .i64))) (hn : zs.length = n) : ∃ Pb, Pb < w.heap.size ∧ IntsIn w Pb (.slice a n c) zs ∨ (zs = [] ∧ a = none ∧ c = 0) := by
 rcases h.2 with ⟨h1, h2⟩ | ⟨g, cap, cur, h1, hB, hg, hcap, _, _, _⟩
 ·injection h1 with h1 h3 h4
  subst h1 h3 h4
  exact ⟨0, .inr ⟨List.eq_nil_of_length_eq_zero hn, rfl, rfl⟩⟩
 ·injection h1 with h1 h3 h4
  subst h1 h4
  refine ⟨g, .inl ⟨(Array.getElem?_eq_some_iff.1 hg).1, .inr ⟨0, _, by rw [hn], fun j hj => ?_⟩⟩⟩
  rw [Nat.zero_add, h.cellAt j (by omega)]
  simp [List.getD, hj]
set_option maxRecDepth 100000 in
set_option maxHeartbeats 1000000 in
theorem pages_ok {w : World} {dk : Nat → Prop} {s p mc mn : Nat} {tv : Value} {x : SS} (h : StAt w dk s p mc mn tv x) : Calls Tryz.prog 77 #[.pointer (some ⟨s, 0, none⟩)] w (PagesIs (x.now.map (·.1)) w) := by
 have HU := usable_ok s p w h.c0
 have h6 := h.c6
 obtain ⟨sl, hm, _⟩ := h.now
 have hlen : (x.now.map fun p => (p.1, pgV sl p)).length ≤ 1000 := by
  rw [List.length_map]
  have := Rise.len (a := 0) (b := 728) h.now.rise (fun p hp => (h.wf.now p hp).1)
  simp at this
  omega
 have HK := keys_calls mn w
 have HS : Hid (Calls Tryz.prog 103 _ _ _) := (callsIn_wide (n := 6)).1 (sorted_keys mn _ w hm hlen)
 have HV : ∀ a n c w, Calls Tryz.prog 102 #[.slice a n c] w _ := fun a n c w => (callsIn_wide (n := 5)).1 (values_in 5 a n c w)
 have HKK : Hid ((x.now.map fun p => (p.1, pgV sl p)).map (·.1) = x.now.map (·.1)) := (by rw [List.map_map]; rfl : _ = _)
 clear h hm hlen
 go_enter Tryz.func77, Tryz.ntmps77
 go_wp2_with (first | (go_at_call 35; refine HU.mono ?_; rintro e w' ⟨rfl, rfl⟩) | (go_at_call 104; refine HK.mono ?_; rintro e w' ⟨rfl, rfl⟩))
 refine (show Calls Tryz.prog 103 _ _ _ from HS.out).mono ?_
 rintro e w2 ⟨v, rfl, hrow, ho⟩
 rw [List.length_map, HKK.out] at hrow
 obtain ⟨a, c, rfl⟩ := ownsRow_slice hrow
 have H2 : Hid (∃ B0, w2.ownsRow B0 3 1 (.slice a x.now.length c) x.now.length ((x.now.map (fun q : Int × Nat × List Nat => q.1)).map (Value.int .i64))) := ⟨_, hrow⟩
 have HO : Hid (Only (fun _ => False) _ w2) := ho
 clear hrow ho HS HK HU
 go_wp2_with (go_at_call 102; refine (HV _ _ _ _).mono ?_; rintro e w3 ⟨rfl, rfl⟩)
 go_ret
 obtain ⟨B0, hrow⟩ := H2.out
 have oA : Only (fun _ => False) w2 (w2.alloc (.cells #[.slice a x.now.length c] 76)) := (Only.refl _ w2).alloc _
 have hrow3 := oA.owns hrow (fun _ _ e => e)
 obtain ⟨Pb, hP | ⟨h0, rfl, rfl⟩⟩ := ints_of_own hrow3 (by simp)
 ·exact ⟨_, Pb, _, rfl, (Boxed.new _ _ _).cell, hP.2, hP.1, HO.out.trans oA (fun _ _ e => e)⟩
 ·refine ⟨_, w2.heap.size, _, rfl, (Boxed.new _ _ _).cell, .inl ⟨?_, h0⟩, by simp, HO.out.trans oA (fun _ _ e => e)⟩
  have : x.now = [] := List.eq_nil_of_map_eq_nil h0
  simp [this]
end Go.Proofs.YtlcglapcmdpkfaaGreat
