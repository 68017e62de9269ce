import Derived.Test.YtlcglapcmdpkfaaGreatM8
namespace Go.Proofs.YtlcglapcmdpkfaaGreat
open Go.RowKit Go.Maps
set_option linter.unusedSimpArgs false
set_option linter.unusedVariables false
section
variable {w : World} {dk : Nat → Prop} {s p mc mn : Nat} {tv : Value} {x : SS}
theorem SS.Wf.roll {x : SS} (h : x.Wf) : SS.Wf { x with now := x.com } :=
 { size := h.size, epoch := h.epoch, sector := h.sector, tabs := h.tabs, com := h.com
   now := fun p hp => by
    obtain ⟨h1, h2, h3⟩ := h.com p hp
    exact ⟨h1, .inr h2, h3⟩ }
set_option maxRecDepth 100000 in
set_option maxHeartbeats 2000000 in
theorem rollback_ok (h : StAt w dk s p mc mn tv x) (hd : ∀ k, dk k → k < w.heap.size) :
  Calls Tryz.prog 23 #[.pointer (some ⟨s, 0, none⟩)] w fun e w' => ∃ mn', e = .returned (.int .i64 0) ∧ Hid (StAt w' dk s p mc mn' tv { x with now := x.com } ∧ Only (fun k => k = s) w w' ∧ w.heap.size ≤ mn') := by
 have HU := usable_ok s p w h.c0
 have h5 := h.c5
 obtain ⟨sl, hm, hb⟩ := h.com
 have HT : Hid (Calls Tryz.prog 31 _ _ _) := take_any s mc _ _ _ _ _ _ _ _ w h.cells h.there hm
 have HE : Hid (∀ w', w'.rangeAt s 0 (stL p x tv mc w.heap.size) ∧ w'.there s 0 7 ∧ MapAt w' w.heap.size (x.com.map fun p => (p.1, pgV sl p)) ∧ MapAt w' mc (x.com.map fun p => (p.1, pgV sl p)) ∧ Only (fun k => k = s) w w' → StAt w' dk s p mc w.heap.size tv { x with now := x.com } ∧ Only (fun k => k = s) w w' ∧ w.heap.size ≤ w.heap.size) := by
  rintro w' ⟨h1, h2, h3, h4, h5⟩
  have hs := h.lt
  have hmc := h.com.lt
  have sz := h5.size
  have l3 := h3.lt
  have av : ∀ k, k < w.heap.size → mutB dk s mc w.heap.size k → mutB dk s mc mn k := by
   rintro k hk (e | e | e | e)
   ·exact .inl e
   ·exact .inr (.inl e)
   ·omega
   ·exact .inr (.inr (.inr e))
  have hbs : ∀ k, k < w.heap.size → k = s → mutB dk s mc mn k := fun k _ e => .inl e
  have pg : ∀ q ∈ x.com, BytesAt w' (sl q.1) q.2.2 ∧ ∀ b, (sl q.1).ownBlock = some b → b < w'.heap.size ∧ ¬ mutB dk s mc w.heap.size b := fun q hq => by
   obtain ⟨g1, g2⟩ := hb q hq
   exact ⟨g1.keep h5 (fun b e e' => (g2 b e).2 (.inl e')), fun b e => ⟨Nat.lt_of_lt_of_le (g2 b e).1 sz, fun e' => (g2 b e).2 (av b (g2 b e).1 e')⟩⟩
  refine ⟨?_, h5, Nat.le_refl _⟩
  exact { cells := h1, there := h2, d1 := h.d1, d2 := by omega, d3 := by omega, k1 := h.k1, k2 := h.k2, k3 := fun e => by have := hd _ e; omega
          tabs := h.tabs.keep h5 (fun b e e' => (h.tabsB b e).2 (.inl e')), tabsB := fun b e => ⟨Nat.lt_of_lt_of_le (h.tabsB b e).1 sz, fun e' => (h.tabsB b e).2 (av b (h.tabsB b e).1 e')⟩
          com := ⟨sl, h4, pg⟩, now := ⟨sl, h3, pg⟩, wf := h.wf.roll }
 clear h hm hb hd
 go_enter Tryz.func23, Tryz.ntmps23
 go_wp2_with (first | (go_at_call 35; refine HU.mono ?_; rintro e w' ⟨rfl, rfl⟩) | (go_at_call 31; refine (show Calls Tryz.prog 31 _ _ _ from HT.out).mono ?_; rintro e w2 ⟨rfl, h2⟩; have H2 : Hid _ := h2; clear h2))
 go_ret
 exact ⟨_, rfl, HE.out _ H2.out⟩
end
def tabN (n : Nat) : Nat := (n + 111) / 112
set_option maxRecDepth 100000 in
set_option maxHeartbeats 2000000 in
theorem need_any (a1 a2 : Option Addr) (n1 c1 n2 c2 : Nat) (m : Option Nat) (w : World) (h1 : n1 ≤ 100000) (h2 : n2 ≤ 100000) :
  Calls Tryz.prog 57 #[.agg #[.slice a1 n1 c1, .map m, .slice a2 n2 c2]] w fun e w' => e = .returned (.int .i64 ((n1 + tabN n2 : Nat) : Int)) ∧ Only (fun _ => False) w w' := by
 have e1 : IntKind.i64.wrap ((n2 : Int) + 112) = (n2 : Int) + 112 := by rw [IntKind.wrap_i64]; omega
 have e2 : IntKind.i64.wrap ((n2 : Int) + 112 - 1) = (n2 : Int) + 111 := by rw [IntKind.wrap_i64]; omega
 have e3 : Int.tdiv ((n2 : Int) + 111) 112 = ((tabN n2 : Nat) : Int) := by
  rw [Int.tdiv_eq_ediv_of_nonneg (by omega)]
  unfold tabN
  omega
 have hT : tabN n2 ≤ 1000 := by unfold tabN; omega
 obtain ⟨T, hT'⟩ : ∃ T, T = tabN n2 := ⟨_, rfl⟩
 rw [← hT'] at e3 hT ⊢
 have e4 : IntKind.i64.wrap ((T : Int)) = (T : Int) := by rw [IntKind.wrap_i64]; omega
 have e5 : IntKind.i64.wrap ((n1 : Int) + (T : Int)) = ((n1 + T : Nat) : Int) := by rw [IntKind.wrap_i64]; omega
 clear hT'
 go_enter Tryz.func57, Tryz.ntmps57
 go_wp2
 go_ret
 exact ⟨rfl, (Only.refl _ _).alloc _⟩
end Go.Proofs.YtlcglapcmdpkfaaGreat
