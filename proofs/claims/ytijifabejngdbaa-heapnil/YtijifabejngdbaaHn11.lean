/- A new heap of 9 words: a root is put on top; Alloc. -/
import Derived.Test.YtijifabejngdbaaHn10
namespace Go.Proofs.Ytijifabejngdbaa
open Go.RowKit
set_option linter.unusedSimpArgs false
set_option linter.unusedVariables false
set_option maxRecDepth 100000 in
set_option maxHeartbeats 8000000 in
theorem push1 (h m : Nat) (yv : Value) (w : World) (hE : HpE w h m (.slice none 0 0) yv (.slice none 0 0)) :
    Calls Try.prog 60 #[.pointer (some ⟨h, 0, none⟩), .agg #[.bool true, .int .u64 0]] w fun e w' => e = .returned (.int .i64 0) ∧ ∃ R K, Hid (HpE w' h m (.slice none 0 0) yv (.slice (some ⟨R, 0, none⟩) 1 K) ∧ w'.cell? ⟨R, 0, none⟩ = some (.bool true) ∧ w'.cell? ⟨R, 1, none⟩ = some (.int .u64 0) ∧ w.heap.size ≤ R ∧ Only (fun b => b = h) w w') := by
  obtain ⟨c0, c1, c2, c3, c4⟩ := hE.cells
  have HE : Hid (HpE w h m (.slice none 0 0) yv (.slice none 0 0)) := hE
  obtain ⟨W, hW⟩ : ∃ W, W = w.alloc (.cells #[.bool true, .int .u64 0] 62) := ⟨_, rfl⟩
  obtain ⟨N, hN⟩ : ∃ N, N = w.heap.size := ⟨_, rfl⟩
  have oW : Only (fun _ => False) w W := by rw [hW]; exact (Only.refl _ w).alloc _
  have sW : W.heap.size = N + 1 := by rw [hW, hN]; simp
  have bW : W.heap[N]? = some (.cells #[.bool true, .int .u64 0] 62) := by rw [hW]; exact alloc_at _ _ _ hN
  have d4 := oW.cell c4 (fun g => g)
  have HM : Hid _ := atmax_any h none 0 0 (by omega) W d4
  have b0 : W.cell? ⟨N, 0, none⟩ = some (.bool true) := hb_cell bW 0
  have b1 : W.cell? ⟨N, 1, none⟩ = some (.int .u64 0) := hb_cell bW 1
  have OW : Hid (Only (fun _ => False) w W ∧ W.heap.size = N + 1 ∧ N = w.heap.size) := ⟨oW, sW, hN⟩
  obtain ⟨a1, k1, w3, hr, hown, oo⟩ := app_f (w := W.drew) (B := W.heap.size) (n := 0) (v := .slice none 0 0) (us := []) (World.ownsRow_nil _ _ _ _) (Nat.le_refl _) true 0 (by omega)
  have o3 : Only (fun _ => False) W w3 := ((Only.refl (fun _ => False) W).drew).trans (oo.mono (bs' := fun _ => False) (fun k _ e => by cases e)) (fun _ _ g => g)
  have b3 := (oW.trans o3 (fun _ _ g => g)).at HE.out.hb
  have e4 : w3.cell? ⟨h, 4, none⟩ = some (.slice none 0 0) := hb_cell b3 4
  have g4 : w3.frozen? ⟨h, 4, none⟩ = false := hb_froz b3 4
  have HR : Hid (∀ ty, (Builtin.append_ #[50, 50] ty #[.slice none 0 0, .slice (some ⟨W.heap.size, 0, none⟩) 1 1]).run Try.prog ((W.alloc (.cells #[.bool true, .int .u64 0] 62)).drew) = .ok (.slice a1 1 k1) w3) := hr
  have HF : Hid (∃ R K, Value.slice a1 1 k1 = .slice (some ⟨R, 0, none⟩) 1 K ∧ (HpE (w3.setCell ⟨h, 4, none⟩ (.slice a1 1 k1)) h m (.slice none 0 0) yv (.slice (some ⟨R, 0, none⟩) 1 K) ∧ (w3.setCell ⟨h, 4, none⟩ (.slice a1 1 k1)).cell? ⟨R, 0, none⟩ = some (.bool true) ∧ (w3.setCell ⟨h, 4, none⟩ (.slice a1 1 k1)).cell? ⟨R, 1, none⟩ = some (.int .u64 0) ∧ w.heap.size ≤ R ∧ Only (fun b => b = h) w (w3.setCell ⟨h, 4, none⟩ (.slice a1 1 k1)))) := by
    have hl := (Array.getElem?_eq_some_iff.1 HE.out.hb).1
    rcases hown.2 with ⟨e, _⟩ | ⟨g, cap, cur, e, hg1, hg2, _⟩
    · cases e
    · cases e
      have hc := hown.cells (g := g) rfl
      have q : ∀ j u, ([.bool true, .int .u64 0] : List Value)[j]? = some u → (w3.setCell ⟨h, 4, none⟩ (.slice (some ⟨g, 0, none⟩) 1 k1)).cell? ⟨g, j, none⟩ = some u := fun j u hu => by
        have := hc j u hu
        rw [addr_ad] at this
        exact ((Only.refl (fun b => b = h) w3).setCell ⟨h, 4, none⟩ _ (fun _ => rfl)).cell this (by simp only; omega)
      refine ⟨g, k1, rfl, ⟨set_blk b3 4 _, ?_, HE.out.ne⟩, q 0 _ rfl, q 1 _ rfl, by omega, ?_⟩
      · obtain ⟨c, hc⟩ := HE.out.mb
        exact ⟨c, (Below.heap_setCell _ _ _ _ (fun e => HE.out.ne e.symm)).trans ((oW.trans o3 (fun _ _ g => g)).at hc)⟩
      · exact (((oW.trans o3 (fun _ _ g => g)).mono (bs' := fun b => b = h) (fun _ _ g => g.elim))).setCell _ _ (fun _ => rfl)
  have d4A : ∀ x, (W.alloc x).cell? ⟨h, 4, none⟩ = some (.slice none 0 0) := fun x => ((Only.refl (fun _ => False) W).alloc x).cell d4 (fun g => g)
  have d4B : ∀ x y, ((W.alloc x).alloc y).cell? ⟨h, 4, none⟩ = some (.slice none 0 0) := fun x y => (((Only.refl (fun _ => False) W).alloc x).alloc y).cell d4 (fun g => g)
  have f4B : ∀ x y, ((W.alloc x).alloc y).frozen? ⟨h, 4, none⟩ = false := fun x y => hb_froz (((oW.alloc x).alloc y).at HE.out.hb) 4
  clear hE c0 c1 c2 c3 c4 oW sW bW hr hown oo o3 b3
  go_enter Try.func60, Try.ntmps60
  go_wp2_with fail
  rw [← hW, ← hN]
  clear hW hN
  refine (show Calls Try.prog 58 _ _ _ from HM.out).mono ?_
  rintro e w1 ⟨rfl, hq⟩
  rw [hq]
  clear hq HM w1
  go_wp2_with fail
  go_region_law (refine step_append_run (by rfl) _ _ 50 (by rfl) _ _ (.slice a1 1 k1) (by rfl) (by rfl) HR.out ?_)
  all_goals
    clear d4 b0 b1 d4A d4B f4B e4 g4 HR
    go_wp2
    go_ret
    obtain ⟨R, K, _, hf⟩ := HF.out
    exact ⟨rfl, R, K, hf⟩
/-- a heap of 9 words with one object of two fields, which its one root names -/
structure HpO (w : World) (h m B : Nat) (a : Option Addr) (c R K : Nat) : Prop where
  hp : HpE w h m (.slice none 0 0) (.slice a 3 c) (.slice (some ⟨R, 0, none⟩) 1 K)
  row : w.ownsRow B 62 2 (.slice a 3 c) 3 ([.bool false, .int .u64 1025] ++ zF 2)
  r0 : w.cell? ⟨R, 0, none⟩ = some (.bool true)
  r1 : w.cell? ⟨R, 1, none⟩ = some (.int .u64 0)
theorem HpO.only {w w' : World} {h m B : Nat} {a : Option Addr} {c R K : Nat} (g : HpO w h m B a c R K) (o : Only (fun _ => False) w w') : HpO w' h m B a c R K :=
  ⟨g.hp.only o, o.owns g.row (fun _ _ g => g), o.cell g.r0 (fun g => g), o.cell g.r1 (fun g => g)⟩
set_option maxRecDepth 100000 in
set_option maxHeartbeats 8000000 in
theorem alloc1 (h m : Nat) (w : World) (hE : HpE w h m (.slice none 0 0) (.slice none 0 0) (.slice none 0 0)) :
    Calls Try.prog 24 #[.pointer (some ⟨h, 0, none⟩), .int .i64 1, .int .i64 2, .bool false] w fun e w' => e = .returned (.int .i64 0) ∧ ∃ a c R K, Hid (HpO w' h m w.heap.size a c R K ∧ Only (fun b => b = h ∨ b = m) w w') := by
  have HM : Hid _ := atmax_any h none 0 0 (by omega) w hE.cells.2.2.2.2
  have HK : Hid _ := room0 h m w hE
  have HL : Hid (h < w.heap.size) := (Array.getElem?_eq_some_iff.1 hE.hb).1
  clear hE
  go_enter Try.func24, Try.ntmps24
  go_wp2_with fail
  refine (show Calls Try.prog 58 _ _ _ from HM.out).mono ?_
  rintro e w1 ⟨rfl, hq⟩
  rw [hq]
  clear hq HM w1
  go_wp2_with fail
  refine (show Calls Try.prog 59 _ _ _ from HK.out).mono ?_
  rintro e w2 ⟨rfl, H2⟩
  have HY : Hid _ := lay0 h m w2 H2.out.1
  clear HK
  go_wp2_with fail
  refine (show Calls Try.prog 61 _ _ _ from HY.out).mono ?_
  rintro e w3 ⟨rfl, a, c, H3⟩
  have HP : Hid _ := push1 h m (.slice a 3 c) w3 H3.out.1
  clear HY
  go_wp2_with fail
  refine (show Calls Try.prog 60 _ _ _ from HP.out).mono ?_
  rintro e w4 ⟨rfl, R, K, H4⟩
  clear HP
  go_wp2
  go_ret
  obtain ⟨e2, o2⟩ := H2.out
  obtain ⟨e3, row3, o3⟩ := H3.out
  obtain ⟨e4, r0, r1, _, o4⟩ := H4.out
  have s2 := o2.size
  have hl := HL.out
  refine ⟨rfl, a, c, R, K, ⟨e4, ?_, r0, r1⟩, ?_⟩
  · refine ownsRow_base (o4.owns row3 (fun k hk e => ?_)) s2
    have := (row3.lt k hk).1
    omega
  · exact (o2.trans (o3.mono (bs' := fun b => b = h ∨ b = m) (fun _ _ g => .inl g)) (fun _ _ g => g)).trans (o4.mono (bs' := fun b => b = h ∨ b = m) (fun _ _ g => .inl g)) (fun _ _ g => g)
end Go.Proofs.Ytijifabejngdbaa
