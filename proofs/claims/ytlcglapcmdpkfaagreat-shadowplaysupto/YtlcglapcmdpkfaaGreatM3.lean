import Derived.Test.YtlcglapcmdpkfaaGreatM2
namespace Go.Proofs.YtlcglapcmdpkfaaGreat
open Go.RowKit Go.Maps
set_option linter.unusedSimpArgs false
set_option linter.unusedVariables false
theorem RowAt.keep {W W' : World} {v : Value} {k size : Nat} {f : Nat → Value} {bs : Nat → Prop} (h : RowAt W v k size f) (ho : Only bs W W') (hn : ∀ b, v.ownBlock = some b → ¬ bs b) : RowAt W' v k size f := by
 rcases h with h | ⟨ad, c, hv, hkc, hc⟩
 ·exact .inl h
 ·exact .inr ⟨ad, c, hv, hkc, fun j hj => ho.cell (hc j hj) (hn _ (by rw [hv]; simp only [Value.ownBlock, Addr.add]; repeat' split <;> rfl))⟩
theorem BytesAt.keep {W W' : World} {v : Value} {zs : List Nat} {bs : Nat → Prop} (h : BytesAt W v zs) (ho : Only bs W W') (hn : ∀ b, v.ownBlock = some b → ¬ bs b) : BytesAt W' v zs := ⟨h.1.keep ho hn, h.2⟩
abbrev Pgs := List (Int × Nat × List Nat)
structure SS where
 size : Nat
 epoch : Nat
 sector : Nat
 tabs : List Nat
 com : Pgs
 now : Pgs
def pgV (sl : Int → Value) (p : Int × Nat × List Nat) : Value := .agg #[.int .i64 (p.2.1 : Nat), sl p.1]
def PMap (w : World) (av : Nat → Prop) (m : Nat) (l : Pgs) : Prop :=
 ∃ sl : Int → Value, MapAt w m (l.map fun p => (p.1, pgV sl p)) ∧ ∀ p ∈ l, BytesAt w (sl p.1) p.2.2 ∧ ∀ b, (sl p.1).ownBlock = some b → b < w.heap.size ∧ ¬ av b
theorem PMap.rise {w : World} {av : Nat → Prop} {m : Nat} {l : Pgs} (h : PMap w av m l) : Rise l := by
 obtain ⟨sl, h, _⟩ := h
 exact (Rise.map _).1 h.rise
theorem PMap.lt {w : World} {av : Nat → Prop} {m : Nat} {l : Pgs} (h : PMap w av m l) : m < w.heap.size := by
 obtain ⟨sl, h, _⟩ := h
 exact h.lt
theorem PMap.frame {w w' : World} {av av' bs : Nat → Prop} {m : Nat} {l : Pgs} (h : PMap w av m l) (ho : Only bs w w') (hm : ¬ bs m) (hb : ∀ k, k < w.heap.size → bs k → av k) (ha : ∀ k, k < w.heap.size → av' k → av k) : PMap w' av' m l := by
 obtain ⟨sl, h1, h2⟩ := h
 refine ⟨sl, h1.frame ho hm, fun p hp => ?_⟩
 obtain ⟨h3, h4⟩ := h2 p hp
 refine ⟨h3.keep ho (fun b hb' e => (h4 b hb').2 (hb b (h4 b hb').1 e)), fun b hb' => ⟨Nat.lt_of_lt_of_le (h4 b hb').1 ho.size, fun e => (h4 b hb').2 (ha b (h4 b hb').1 e)⟩⟩
def mutB (dk : Nat → Prop) (s mc mn : Nat) : Nat → Prop := fun k => k = s ∨ k = mc ∨ k = mn ∨ dk k
structure SS.Wf (x : SS) : Prop where
 size : 3 ≤ x.size ∧ x.size ≤ 2048
 epoch : x.epoch < 18446744073709551616
 sector : x.sector = 0 ∨ x.sector = 4
 tabs : x.tabs.length ≤ 2048 ∧ ∀ t ∈ x.tabs, 2 ≤ t ∧ t < x.size
 com : ∀ p ∈ x.com, (0 ≤ p.1 ∧ p.1 < 728) ∧ (2 ≤ p.2.1 ∧ p.2.1 < x.size) ∧ p.2.2.length ≤ 116
 now : ∀ p ∈ x.now, (0 ≤ p.1 ∧ p.1 < 728) ∧ (p.2.1 = 0 ∨ 2 ≤ p.2.1 ∧ p.2.1 < x.size) ∧ p.2.2.length ≤ 116
def stL (p : Nat) (x : SS) (tv : Value) (mc mn : Nat) : List Value :=
 [.pointer (some ⟨p, 0, none⟩), .int .i64 (x.size : Nat), .int .u64 (x.epoch : Nat), .int .i64 (x.sector : Nat), tv, .map (some mc), .map (some mn)]
structure StAt (w : World) (dk : Nat → Prop) (s p mc mn : Nat) (tv : Value) (x : SS) : Prop where
 cells : w.rangeAt s 0 (stL p x tv mc mn)
 there : w.there s 0 7
 d1 : s ≠ mc
 d2 : s ≠ mn
 d3 : mc ≠ mn
 k1 : ¬ dk s
 k2 : ¬ dk mc
 k3 : ¬ dk mn
 tabs : RowAt w tv x.tabs.length 1 (fun j => .int .i64 (x.tabs.getD j 0 : Nat))
 tabsB : ∀ b, tv.ownBlock = some b → b < w.heap.size ∧ ¬ mutB dk s mc mn b
 com : PMap w (mutB dk s mc mn) mc x.com
 now : PMap w (mutB dk s mc mn) mn x.now
 wf : x.Wf
theorem StAt.lt {w : World} {dk : Nat → Prop} {s p mc mn : Nat} {tv : Value} {x : SS} (h : StAt w dk s p mc mn tv x) : s < w.heap.size :=
 World.block_lt_of_cell? w _ (h.cells 0 _ rfl)
theorem StAt.frame {w w' : World} {dk dk' bs : Nat → Prop} {s p mc mn : Nat} {tv : Value} {x : SS} (h : StAt w dk s p mc mn tv x) (ho : Only bs w w') (hb : ∀ k, k < w.heap.size → bs k → dk k) (hd : ∀ k, k < w.heap.size → dk' k → dk k) : StAt w' dk' s p mc mn tv x := by
 have hs := h.lt
 have hmc := h.com.lt
 have hmn := h.now.lt
 have ns : ¬ bs s := fun e => h.k1 (hb _ hs e)
 have nc : ¬ bs mc := fun e => h.k2 (hb _ hmc e)
 have nn : ¬ bs mn := fun e => h.k3 (hb _ hmn e)
 have ha : ∀ k, k < w.heap.size → mutB dk' s mc mn k → mutB dk s mc mn k := by
  rintro k hk (e | e | e | e)
  ·exact .inl e
  ·exact .inr (.inl e)
  ·exact .inr (.inr (.inl e))
  ·exact .inr (.inr (.inr (hd k hk e)))
 have hb' : ∀ k, k < w.heap.size → bs k → mutB dk s mc mn k := fun k hk e => .inr (.inr (.inr (hb k hk e)))
 exact { cells := ho.range h.cells ns, there := ho.there h.there ns, d1 := h.d1, d2 := h.d2, d3 := h.d3
         k1 := fun e => h.k1 (hd _ hs e), k2 := fun e => h.k2 (hd _ hmc e), k3 := fun e => h.k3 (hd _ hmn e)
         tabs := h.tabs.keep ho (fun b e e' => (h.tabsB b e).2 (hb' b (h.tabsB b e).1 e'))
         tabsB := fun b e => ⟨Nat.lt_of_lt_of_le (h.tabsB b e).1 ho.size, fun e' => (h.tabsB b e).2 (ha b (h.tabsB b e).1 e')⟩
         com := h.com.frame ho nc hb' ha, now := h.now.frame ho nn hb' ha, wf := h.wf }
set_option maxRecDepth 100000 in
set_option maxHeartbeats 400000 in
theorem usable_dead (s : Nat) (w : World) (h : w.cell? ⟨s, 0, none⟩ = some (.pointer none)) : Calls Tryz.prog 35 #[.pointer (some ⟨s, 0, none⟩)] w fun e w' => e = .returned (.int .i64 3) ∧ w' = w := by
 go_enter Tryz.func35, Tryz.ntmps35
 go_wp2
 go_ret
 exact ⟨rfl, rfl⟩
set_option maxRecDepth 100000 in
set_option maxHeartbeats 400000 in
theorem usable_ok (s p : Nat) (w : World) (h : w.cell? ⟨s, 0, none⟩ = some (.pointer (some ⟨p, 0, none⟩))) : Calls Tryz.prog 35 #[.pointer (some ⟨s, 0, none⟩)] w fun e w' => e = .returned (.int .i64 0) ∧ w' = w := by
 go_enter Tryz.func35, Tryz.ntmps35
 go_wp2
 go_ret
 exact ⟨rfl, rfl⟩
set_option maxRecDepth 100000 in
set_option maxHeartbeats 400000 in
theorem sreach_out (s p : Nat) (i : Int) (w : World) (h : w.cell? ⟨s, 0, none⟩ = some (.pointer (some ⟨p, 0, none⟩))) (hi : i < 0 ∨ 728 ≤ i) : Calls Tryz.prog 32 #[.pointer (some ⟨s, 0, none⟩), .int .i64 i] w fun e w' => e = .returned (.int .i64 4) ∧ w' = w := by
 have HU := usable_ok s p w h
 clear h
 by_cases h1 : i < 0
 ·go_enter Tryz.func32, Tryz.ntmps32
  go_wp2_with (go_at_call 35; refine HU.mono ?_; rintro e w' ⟨rfl, rfl⟩)
  go_ret
  exact ⟨rfl, rfl⟩
 ·have h2 : 728 ≤ i := by omega
  have h3 : decide (i < 0) = false := by simpa using h1
  go_enter Tryz.func32, Tryz.ntmps32
  go_wp2_with (go_at_call 35; refine HU.mono ?_; rintro e w' ⟨rfl, rfl⟩)
  go_ret
  exact ⟨rfl, rfl⟩
set_option maxRecDepth 100000 in
set_option maxHeartbeats 400000 in
theorem sreach_ok (s p : Nat) (i : Int) (w : World) (h : w.cell? ⟨s, 0, none⟩ = some (.pointer (some ⟨p, 0, none⟩))) (hi : 0 ≤ i ∧ i < 728) : Calls Tryz.prog 32 #[.pointer (some ⟨s, 0, none⟩), .int .i64 i] w fun e w' => e = .returned (.int .i64 0) ∧ w' = w := by
 have HU := usable_ok s p w h
 clear h
 have h1 : ¬ i < 0 := by omega
 have h3 : decide (i < 0) = false := by simpa using h1
 have h2 : ¬ 728 ≤ i := by omega
 go_enter Tryz.func32, Tryz.ntmps32
 go_wp2_with (go_at_call 35; refine HU.mono ?_; rintro e w' ⟨rfl, rfl⟩)
 go_ret
 exact ⟨rfl, rfl⟩
end Go.Proofs.YtlcglapcmdpkfaaGreat
