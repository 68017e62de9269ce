/- parse's writer: what is written. -/
import Derived.Test.YtpphabkjnfgcmaaDoorWr1
namespace Go.Proofs.YtpphabkjnfgcmaaDoor
open Go.RowKit Go.Lib
set_option linter.unusedSimpArgs false
set_option linter.unusedVariables false
theorem ownsF_keep {w w' : World} {B : Nat} {e : TypeId} {sz : Nat} {v : Value} {n : Nat} {xs : List Value} {bs : Nat → Prop} (h : w.ownsRowF B e sz v n xs) (o : Only bs w w') (hb : ∀ k, v.ownBlock = some k → ¬ bs k) : w'.ownsRowF B e sz v n xs := by
  refine ⟨h.1, ?_⟩
  rcases h.2 with h0 | ⟨g, cap, cur, fz, e1, hB, hg, r⟩
  · exact .inl h0
  · refine .inr ⟨g, cap, cur, fz, e1, hB, ?_, r⟩
    exact (o.block g (Array.getElem?_eq_some_iff.1 hg).1 (hb g (by rw [e1]; rfl))).trans hg
theorem WrU.only {B b : Nat} {bs : List Value} {bg : Bool} {w w' : World} (h : WrU B b bs bg w) (o : Only (fun _ => False) w w') : WrU B b bs bg w' := by
  obtain ⟨h1, p, v, h2, h3, h4, h5⟩ := h
  exact ⟨h1, p, v, (o.block b (Array.getElem?_eq_some_iff.1 h2).1 (fun g => g)).trans h2, h3, ownsF_keep h4 o (fun _ _ g => g), h5⟩
/-- copyCheck of a writer's builder -/
theorem wcheck_any (B b : Nat) (p v : Value) (bg : Bool) (w : World) (hb : w.heap[b]? = some (.cells #[p, v, .bool bg] 107)) (hp : p = .pointer none ∨ p = .pointer (some ⟨b, 0, none⟩)) :
    Calls Tryd.prog 25 #[.pointer (some ⟨b, 0, none⟩)] w fun e w' => e = .returned (.tuple #[]) ∧ w'.heap[b]? = some (.cells #[.pointer (some ⟨b, 0, none⟩), v, .bool bg] 107) ∧ Only (fun k => k = b) w w' := by
  have c0 := wr_cell hb 0
  simp only [List.getElem?_toArray, List.getElem?_cons_zero] at c0
  rcases hp with rfl | rfl
  · refine (wcheck_fresh b w c0 (by simp [World.shape?, hb]) (wr_froz hb 0)).mono fun e w' g => ?_
    obtain ⟨g1, rfl⟩ := g
    exact ⟨g1, (heap_setCell_same _ _ _ _ _ _ hb).trans rfl, (Only.refl (fun k => k = b) w).setCell _ _ (fun _ => rfl)⟩
  · refine (wcheck_used b w c0).mono fun e w' g => ?_
    obtain ⟨g1, rfl⟩ := g
    exact ⟨g1, hb, Only.refl _ _⟩
set_option maxHeartbeats 4000000 in
set_option maxRecDepth 100000 in
theorem wwrite_any (B b : Nat) (bs : List Value) (bg : Bool) (s : ByteArray) (w : World) (h : WrU B b bs bg w) (hlen : bs.length + s.size ≤ 140737488355328) (hBw : B ≤ w.heap.size) :
    Calls Tryd.prog 19 #[.pointer (some ⟨b, 0, none⟩), .string s] w fun e w' => ∃ q, e = .returned (.tuple #[q, .nilIface]) ∧ WrU B b (bs ++ strCells s) bg w' ∧ Only (fun k => B ≤ k) w w' := by
  obtain ⟨i0, hi, hz0, hz1, hz2⟩ := byte_info
  obtain ⟨hB, p, v, hbk, hp, hown, hne⟩ := h
  go_enter Tryd.func19, Tryd.ntmps19
  go_wp2_with fail
  refine (show Calls Tryd.prog 25 _ _ _ from wcheck_any B b p v bg _ hbk hp).mono ?_
  rintro e w1 ⟨rfl, h1, o1⟩
  have hown1 := ownsF_keep hown o1 (fun k hk e => hne (by rw [hk, e]))
  have c1 := wr_cell h1 1
  simp only [List.getElem?_toArray, List.getElem?_cons_zero, List.getElem?_cons_succ] at c1
  have hs1 := o1.size
  go_wp2_with (at_builtin; refine wpList_append_own_stringF _ rfl _ _ 75 9 rfl B 5 i0 Tryd.underlying75 Tryd.underlying9 hi hz0 hz1 hz2 _ _ _ rfl hown1 s rfl ?c3 ?c4 ?c5 ?_)
  case c3 => unfold maxLen; omega
  case c4 => omega
  case c5 => omega
  intro v' w2 hown' hgrow hat
  have hlt : b < w1.heap.size := (Array.getElem?_eq_some_iff.1 h1).1
  have hb2 : w2.heap[b]? = some (.cells #[.pointer (some ⟨b, 0, none⟩), v, .bool bg] 107) := by
    rw [hgrow.block b hlt (fun e => hne e.symm)]
    exact h1
  have d1 := wr_cell hb2 1
  simp only [List.getElem?_toArray, List.getElem?_cons_zero, List.getElem?_cons_succ] at d1
  have f1 := wr_froz hb2 1
  obtain ⟨ao, n', cap, rfl⟩ : ∃ ao n' cap, v' = .slice ao n' cap := by
    rcases hown'.2 with ⟨hv, _⟩ | ⟨g, cap, cur, fz, hv, _⟩
    · exact ⟨_, _, _, hv⟩
    · exact ⟨_, _, _, hv⟩
  have o2 : Only (fun k => v.ownBlock = some k) w1 w2 := (Only.refl _ w1).grown hgrow (fun k e _ => e)
  have hne' : (Value.slice ao n' cap).ownBlock ≠ some b := fun e => by
    rcases hown'.2 with ⟨hv, _⟩ | ⟨g, cap', cur, fz, hv, _, hg, _⟩
    · rw [hv] at e; simp [Value.ownBlock] at e
    · rw [hv] at e
      simp only [Value.ownBlock, Option.some.injEq] at e
      rw [e] at hg
      rw [hb2] at hg
      simp at hg
  go_wp2
  go_ret2
  have o3 : Only (fun k => k = b) w2 (w2.setCell ⟨b, 1, none⟩ (.slice ao n' cap)) := (Only.refl (fun k => k = b) w2).setCell _ _ (fun _ => rfl)
  refine ⟨_, rfl, ⟨hB, .pointer (some ⟨b, 0, none⟩), .slice ao n' cap, (heap_setCell_same _ _ _ _ _ _ hb2).trans rfl, .inr rfl, ?_, hne'⟩, ?_⟩
  · have h4 := ownsF_keep hown' o3 (fun k hk e => hne' (by rw [hk, e]))
    rw [show (bs ++ strCells s).length = bs.length + s.size by rw [List.length_append, strCells_length]]
    exact h4
  · exact ((o1.mono (bs' := fun k => B ≤ k) (fun k _ e => by omega)).trans o2 (fun k hk e => (hown1.lt k e).1)).trans o3 (fun k hk e => by omega)
/-- how many bytes there are -/
theorem wlen_any (B b : Nat) (bs : List Value) (bg : Bool) (w : World) (h : WrU B b bs bg w) :
    Calls Tryd.prog 40 #[.pointer (some ⟨b, 0, none⟩)] w fun e w' => e = .returned (.int .i64 (bs.length : Int)) ∧ w' = w := by
  obtain ⟨hB, p, v, hbk, hp, hown, hne⟩ := h
  obtain ⟨ao, cap, rfl⟩ : ∃ ao cap, v = .slice ao bs.length cap := by
    rcases hown.2 with ⟨hv, h0⟩ | ⟨g, cap, cur, fz, hv, _⟩
    · exact ⟨none, 0, by rw [hv, h0]⟩
    · exact ⟨_, _, hv⟩
  have c1 := wr_cell hbk 1
  simp only [List.getElem?_toArray, List.getElem?_cons_zero, List.getElem?_cons_succ] at c1
  clear hbk hown hne hp
  obtain ⟨L, hL⟩ : ∃ L, L = bs.length := ⟨_, rfl⟩
  rw [← hL] at c1 ⊢
  clear hL
  go_enter Tryd.func40, Tryd.ntmps40
  go_wp2
  go_ret
  exact ⟨rfl, rfl⟩
theorem wfull_any (B b : Nat) (bs : List Value) (bg : Bool) (w : World) (h : WrU B b bs bg w) :
    Calls Tryd.prog 36 #[.pointer (some ⟨b, 0, none⟩)] w fun e w' => e = .returned (.bool (decide (65536 < (bs.length : Int)))) ∧ w' = w := by
  have HL : Hid (Calls Tryd.prog 40 #[.pointer (some ⟨b, 0, none⟩)] w fun e w' => e = .returned (.int .i64 (bs.length : Int)) ∧ w' = w) := wlen_any B b bs bg w h
  clear h
  obtain ⟨L, hL⟩ : ∃ L : Int, L = (bs.length : Int) := ⟨_, rfl⟩
  rw [← hL] at HL ⊢
  clear hL
  go_enter Tryd.func36, Tryd.ntmps36
  go_wp2_with fail
  refine (show Calls Tryd.prog 40 _ _ _ from HL.out).mono ?_
  rintro e w1 ⟨rfl, rfl⟩
  clear HL
  go_wp2
  go_ret
  exact ⟨rfl, rfl⟩
/-- a text is put behind, as long as there is room -/
theorem wadd_any (B b : Nat) (bs : List Value) (bg : Bool) (s : ByteArray) (w : World) (h : WrU B b bs bg w) (hf : bs.length ≤ 65536) (hs : s.size ≤ 1000000) (hBw : B ≤ w.heap.size) :
    Calls Tryd.prog 47 #[.pointer (some ⟨b, 0, none⟩), .string s] w fun e w' => e = .returned (.tuple #[]) ∧ Hid (WrU B b (bs ++ strCells s) bg w' ∧ Only (fun k => B ≤ k) w w') := by
  have HF : Hid (Calls Tryd.prog 36 #[.pointer (some ⟨b, 0, none⟩)] w fun e w' => e = .returned (.bool false) ∧ w' = w) := by
    have := wfull_any B b bs bg w h
    rwa [show decide (65536 < (bs.length : Int)) = false by simp; omega] at this
  have HW : Hid (Calls Tryd.prog 19 #[.pointer (some ⟨b, 0, none⟩), .string s] w fun e w' => ∃ q, e = .returned (.tuple #[q, .nilIface]) ∧ WrU B b (bs ++ strCells s) bg w' ∧ Only (fun k => B ≤ k) w w') := wwrite_any B b bs bg s w h (by omega) hBw
  clear h hf hs hBw
  go_enter Tryd.func47, Tryd.ntmps47
  go_wp2_with fail
  refine (show Calls Tryd.prog 36 _ _ _ from HF.out).mono ?_
  rintro e w1 ⟨rfl, rfl⟩
  clear HF
  go_wp2_with fail
  refine (show Calls Tryd.prog 19 _ _ _ from HW.out).mono ?_
  rintro e w2 ⟨q, rfl, g1, g2⟩
  have G : Hid (WrU B b (bs ++ strCells s) bg w2 ∧ Only (fun k => B ≤ k) w1 w2) := ⟨g1, g2⟩
  clear HW g1 g2
  go_wp2
  go_end0
  exact ⟨rfl, G⟩
end Go.Proofs.YtpphabkjnfgcmaaDoor
