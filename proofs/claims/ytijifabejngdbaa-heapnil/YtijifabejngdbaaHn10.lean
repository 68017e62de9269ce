/- A new heap of 9 words: an object of two fields is laid. -/
import Derived.Test.YtijifabejngdbaaHn9
import Derived.Test.YtijifabejngdbaaHz
namespace Go.Proofs.Ytijifabejngdbaa
open Go.RowKit
set_option linter.unusedSimpArgs false
set_option linter.unusedVariables false
theorem results_fd {fn : Func} {u : Tmp} (h : fn.results = #[.cell u 62]) (tmps : Array Value) (w : World) (B : Nat) {x y : Value} (h0 : w.cell? ⟨B, 0, none⟩ = some x) (h1 : w.cell? ⟨B, 1, none⟩ = some y) (ha : tmps.getD u undef = .pointer (some ⟨B, 0, none⟩)) :
    (results fn tmps).run Try.prog w = .ok (.agg #[x, y]) w := by
  have ha' : tmps[u]?.getD undef = .pointer (some ⟨B, 0, none⟩) := by simpa using ha
  simp [results, h, ha', asAddr, go_sem, loadVar, isAgg, Try.underlying62, h0, h1]
set_option maxRecDepth 100000 in
theorem head12 (w : World) : Calls Try.prog 78 #[.int .i64 1, .int .i64 2, .bool false] w fun e w' => e = .returned (.agg #[.bool false, .int .u64 1025]) ∧ Only (fun _ => False) w w' := by
  go_enter Try.func78, Try.ntmps78
  go_wp2
  refine bodyPost_ret (results_fd rfl _ _ w.heap.size (x := .bool false) (y := .int .u64 1025) ?_ ?_ rfl) rfl ⟨rfl, ?_⟩
  · simp [go_sem]
  · have e : bits .or .u64 1024 1 = 1025 := by decide
    rw [e]
    exact hb_cell (alloc_at _ _ _ rfl) 1
  · exact (Only.refl _ w).alloc _
theorem laid1 {w1 w2 : World} {h m : Nat} (hE : HpE w1 h m (.slice none 0 0) (.slice none 0 0) (.slice none 0 0)) (o : Only (fun _ => False) w1 w2) (K : Nat) (hK : K = (Question.appendCap 1 0 62).cut (w2.tape w2.drawn (.appendCap 1 0 62))) (X : World)
    (hX : X = (((w2.alloc (.cells #[.bool false, .int .u64 1025] 62)).alloc (.cells (#[.bool false, .int .u64 1025] ++ Builtin.zeroCells #[.bool false, .int .u64 0] (K - 1)) 62)).setCell ⟨h, 1, none⟩ (.slice (some ⟨w2.heap.size + 1, 0, none⟩) 1 K)).drew) :
    HpE X h m (.slice none 0 0) (.slice (some ⟨w2.heap.size + 1, 0, none⟩) 1 K) (.slice none 0 0) ∧ X.ownsRow w2.heap.size 62 2 (.slice (some ⟨w2.heap.size + 1, 0, none⟩) 1 K) 1 [.bool false, .int .u64 1025] ∧ Only (fun b => b = h) w1 X := by
  have hl := (Array.getElem?_eq_some_iff.1 (o.at hE.hb)).1
  have g1 : 1 ≤ K := by rw [hK]; exact grownCap_ge w2 1 0 62
  have g2 : K ≤ maxLen := by rw [hK]; exact grownCap_le_maxLen w2 1 0 62 (by unfold maxLen; omega)
  clear hK
  have oA := (o.alloc (.cells #[.bool false, .int .u64 1025] 62)).alloc (.cells (#[.bool false, .int .u64 1025] ++ Builtin.zeroCells #[.bool false, .int .u64 0] (K - 1)) 62)
  have hnew := alloc_at (w2.alloc (.cells #[.bool false, .int .u64 1025] 62)) (.cells (#[.bool false, .int .u64 1025] ++ Builtin.zeroCells #[.bool false, .int .u64 0] (K - 1)) 62) (w2.heap.size + 1) (by simp)
  subst hX
  refine ⟨⟨set_blk (oA.at hE.hb) 1 _, ?_, hE.ne⟩, ⟨rfl, .inr ⟨w2.heap.size + 1, K, _, rfl, by omega, (Below.heap_setCell _ _ _ _ (by simp only; omega)).trans hnew, g1, g2, ?_, ?_⟩⟩, ?_⟩
  · obtain ⟨c, hc⟩ := hE.mb
    exact ⟨c, (Below.heap_setCell _ _ _ _ (fun e => hE.ne e.symm)).trans (oA.at hc)⟩
  · simp only [Array.size_append, size_zeroCells]
    simp
    omega
  · simp
  · exact ((oA.mono (bs' := fun b => b = h) (fun _ _ g => g.elim)).setCell _ _ (fun _ => rfl)).drew
set_option maxRecDepth 100000 in
set_option maxHeartbeats 8000000 in
theorem lay0 (h m : Nat) (w : World) (hE : HpE w h m (.slice none 0 0) (.slice none 0 0) (.slice none 0 0)) :
    Calls Try.prog 61 #[.pointer (some ⟨h, 0, none⟩), .int .i64 1, .int .i64 2, .bool false] w fun e w' => e = .returned (.int .u64 0) ∧ ∃ a c, Hid (HpE w' h m (.slice none 0 0) (.slice a 3 c) (.slice none 0 0) ∧ w'.ownsRow w.heap.size 62 2 (.slice a 3 c) 3 ([.bool false, .int .u64 1025] ++ zF 2) ∧ Only (fun b => b = h) w w') := by
  have HH := head12
  obtain ⟨c0, c1, c2, c3, c4⟩ := hE.cells
  have HE : Hid (HpE w h m (.slice none 0 0) (.slice none 0 0) (.slice none 0 0)) := hE
  have HU : Hid _ := used_any h none none 0 0 0 0 (by omega) (by omega) w c0 c1
  clear hE c0 c1 c2 c3 c4
  have hw0 : IntKind.u64.wrap 0 = 0 := by decide
  go_enter Try.func61, Try.ntmps61
  go_wp2_with fail
  refine (show Calls Try.prog 50 _ _ _ from HU.out).mono ?_
  rintro e w1 ⟨rfl, o1⟩
  have E1 := HE.out.only o1
  have HE1 : Hid (HpE w1 h m (.slice none 0 0) (.slice none 0 0) (.slice none 0 0)) := E1
  have O1 : Hid (Only (fun _ => False) w w1) := o1
  obtain ⟨c0, c1, c2, c3, c4⟩ := E1.cells
  clear o1 E1 HU HE c0 c2 c3 c4
  have c1A : ∀ x, (w1.alloc x).cell? ⟨h, 1, none⟩ = some (.slice none 0 0) := fun x => ((Only.refl (fun _ => False) w1).alloc x).cell c1 (fun g => g)
  go_wp2_with fail
  go_region_with (go_at_call 78; refine (show Calls Try.prog 78 _ _ _ from HH _).mono ?_; rintro e w2 ⟨rfl, o2⟩; have O2 : Hid (Only (fun _ => False) w1 w2) := (Only.trans (show Only (fun _ => False) w1 _ by repeat' first | exact Only.refl _ _ | apply Only.alloc | apply Only.drew) o2 (fun _ _ g => g)); have d1 := O2.out.cell c1 (fun g => g); have d1A : ∀ x, (w2.alloc x).cell? ⟨h, 1, none⟩ = some (.slice none 0 0) := (fun x => ((Only.refl (fun _ => False) w2).alloc x).cell d1 (fun g => g)); have d1B : ∀ x y, ((w2.alloc x).alloc y).cell? ⟨h, 1, none⟩ = some (.slice none 0 0) := (fun x y => (((Only.refl (fun _ => False) w2).alloc x).alloc y).cell d1 (fun g => g)); have f1B : ∀ x y, ((w2.alloc x).alloc y).frozen? ⟨h, 1, none⟩ = false := (fun x y => hb_froz ((((O2.out).alloc x).alloc y).at HE1.out.hb) 1); clear o2)
  all_goals
    refine then_at fun X hX => ?_
    obtain ⟨K, hK⟩ : ∃ K, K = (Question.appendCap 1 0 62).cut (w2.tape w2.drawn (.appendCap 1 0 62)) := ⟨_, rfl⟩
    rw [← hK] at hX
    rw [← hK]
    obtain ⟨EX, hown, oX⟩ := laid1 HE1.out O2.out K hK X hX
    have HX : Hid (HpE X h m (.slice none 0 0) (.slice (some ⟨w2.heap.size + 1, 0, none⟩) 1 K) (.slice none 0 0)) := EX
    have hg0 : X.heap[w2.heap.size + 1]? ≠ none := by
      rcases hown.2 with ⟨e, _⟩ | ⟨g, cap, cur, e, _, e2, _⟩
      · cases e
      · cases e
        rw [e2]
        simp
    have sX := oX.size
    have s2 := O2.out.size
    have s1 := O1.out.size
    have hBX : w2.heap.size ≤ X.heap.size := by
      rcases Nat.lt_or_ge (w2.heap.size + 1) X.heap.size with hlt | hge
      · omega
      · exact absurd (Array.getElem?_eq_none hge) hg0
    obtain ⟨g, hg⟩ : ∃ g, g = w2.heap.size + 1 := ⟨_, rfl⟩
    rw [← hg] at hown HX ⊢
    obtain ⟨a3, c3', w3, hr, hown3, oo⟩ := app_z hown hBX 2 (by omega) (by omega) (by omega)
    have gh : g ≠ h := by
      have := (Array.getElem?_eq_some_iff.1 HE1.out.hb).1
      omega
    have HR : Hid _ := hr
    have x1 := HX.out.cells.2.1
    have b3 := (oo.block h (Array.getElem?_eq_some_iff.1 HX.out.hb).1 (fun e => gh e.symm)).trans HX.out.hb
    have y1 : w3.cell? ⟨h, 1, none⟩ = some (.slice (some ⟨g, 0, none⟩) 1 K) := hb_cell b3 1
    have z1 : w3.frozen? ⟨h, 1, none⟩ = false := hb_froz b3 1
    have HF : Hid (HpE (w3.setCell ⟨h, 1, none⟩ (.slice a3 3 c3')) h m (.slice none 0 0) (.slice a3 3 c3') (.slice none 0 0) ∧ (w3.setCell ⟨h, 1, none⟩ (.slice a3 3 c3')).ownsRow w.heap.size 62 2 (.slice a3 3 c3') 3 ([.bool false, .int .u64 1025] ++ zF 2) ∧ Only (fun b => b = h) w (w3.setCell ⟨h, 1, none⟩ (.slice a3 3 c3'))) := by
      have hl := (Array.getElem?_eq_some_iff.1 HE1.out.hb).1
      refine ⟨⟨set_blk b3 1 _, ?_, HE1.out.ne⟩, ?_, ?_⟩
      · obtain ⟨c, hc⟩ := HX.out.mb
        obtain ⟨c2, hc2⟩ := HE1.out.mb
        have lm := (Array.getElem?_eq_some_iff.1 hc2).1
        refine ⟨c, (Below.heap_setCell _ _ _ _ (fun e => HE1.out.ne e.symm)).trans ((oo.block m (Array.getElem?_eq_some_iff.1 hc).1 (by omega)).trans hc)⟩
      · refine ownsRow_base (((Only.refl (fun b => b = h) w3).setCell ⟨h, 1, none⟩ _ (fun _ => rfl)).owns hown3 (fun k hk e => ?_)) (by omega)
        subst e
        have hk1 := (hown3.lt k hk).1
        omega
      · refine Only.setCell ?_ _ _ (fun _ => rfl)
        refine ((O1.out.mono (bs' := fun b => b = h) (fun _ _ g => g.elim)).trans oX (fun _ _ g => g)).trans oo (fun i hi e => ?_)
        omega
    clear hX hK EX oX sX s2 s1 hown hown3 oo gh b3 HX O2 O1 HE1 hr d1 d1A d1B f1B c1 c1A hg0 hBX hg
    go_wp2_with (at_builtin; refine Lib.wpList_append_run _ rfl _ _ 50 3 rfl _ _ rfl rfl _ _ (HR.out _) ?_)
    go_ret
    exact ⟨rfl, a3, c3', HF⟩
end Go.Proofs.Ytijifabejngdbaa
