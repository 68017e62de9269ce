/- What the one root of a heap reaches: the one object. -/
import Derived.Test.YtijifabejngdbaaHn12
namespace Go.Proofs.Ytijifabejngdbaa
open Go.RowKit
set_option linter.unusedSimpArgs false
set_option linter.unusedVariables false
theorem made3 (W : World) : (Instr.makeSlice 38 (.int .u64 3) (.int .u64 3)).run Try.prog W = .ok (.slice (some ⟨W.heap.size, 0, none⟩) 3 3) (W.alloc (.cells #[.bool false, .bool false, .bool false] 4)) := by kernel_rfl
/-- what lies ready where the lists are gone through -/
structure RcA (w X : World) (N M G : Nat) : Prop where
  o : Only (fun _ => False) w X
  l : X.heap[N]? = some (.cells #[.int .u64 0] 31)
  r : X.heap[N + 1]? = some (.cells #[.slice none 0 0] 85)
  m : X.heap[M]? = some (.cells #[.slice (some ⟨G, 0, none⟩) 3 3] 38)
  g : X.heap[G]? = some (.cells #[.bool false, .bool false, .bool false] 4)
  n : w.heap.size ≤ N
  gn : N + 2 ≤ G
  mn : N + 2 ≤ M
  gm : G ≠ M
theorem rca1 {w W1 w2 : World} {N : Nat} (O1 : Only (fun _ => False) w W1) (O2 : Only (fun _ => False) W1 w2) (b0 : W1.heap[N]? = some (.cells #[.int .u64 0] 31)) (b1 : W1.heap[N + 1]? = some (.cells #[.slice none 0 0] 85)) (hz : N = w.heap.size ∧ W1.heap.size = N + 2) (X : World) (hX : X = (w2.alloc (.cells #[.bool false, .bool false, .bool false] 4)).alloc (.cells #[.slice (some ⟨w2.heap.size, 0, none⟩) 3 3] 38)) : RcA w X N (w2.heap.size + 1) w2.heap.size := by
  have s2 := O2.size
  have oX : Only (fun _ => False) W1 X := by rw [hX]; exact (O2.alloc _).alloc _
  refine ⟨O1.trans oX (fun _ _ g => g), oX.at b0, oX.at b1, ?_, ?_, by omega, by omega, by omega, by omega⟩
  · rw [hX]; exact alloc_at _ _ _ (by simp)
  · rw [hX]; exact ((Only.refl (fun _ => False) _).alloc _).at (alloc_at _ _ _ rfl)
theorem rca2 {w W1 w2 : World} {N : Nat} (O1 : Only (fun _ => False) w W1) (O2 : Only (fun _ => False) W1 w2) (b0 : W1.heap[N]? = some (.cells #[.int .u64 0] 31)) (b1 : W1.heap[N + 1]? = some (.cells #[.slice none 0 0] 85)) (hz : N = w.heap.size ∧ W1.heap.size = N + 2) (X : World) (hX : X = (w2.alloc (.cells #[.slice (some ⟨w2.heap.size + 1, 0, none⟩) 3 3] 38)).alloc (.cells #[.bool false, .bool false, .bool false] 4)) : RcA w X N w2.heap.size (w2.heap.size + 1) := by
  have s2 := O2.size
  have oX : Only (fun _ => False) W1 X := by rw [hX]; exact (O2.alloc _).alloc _
  refine ⟨O1.trans oX (fun _ _ g => g), oX.at b0, oX.at b1, ?_, ?_, by omega, by omega, by omega, by omega⟩
  · rw [hX]; exact ((Only.refl (fun _ => False) _).alloc _).at (alloc_at _ _ _ rfl)
  · rw [hX]; exact alloc_at _ _ _ (by simp)
theorem rca3 {w W1 w2 : World} {N : Nat} (O1 : Only (fun _ => False) w W1) (O2 : Only (fun _ => False) W1 w2) (b0 : W1.heap[N]? = some (.cells #[.int .u64 0] 31)) (b1 : W1.heap[N + 1]? = some (.cells #[.slice none 0 0] 85)) (hz : N = w.heap.size ∧ W1.heap.size = N + 2) (mb : w2.heap[W1.heap.size]? = some (.cells #[.slice none 0 0] 38)) (X : World) (hX : X = (w2.alloc (.cells #[.bool false, .bool false, .bool false] 4)).setCell ⟨W1.heap.size, 0, none⟩ (.slice (some ⟨w2.heap.size, 0, none⟩) 3 3)) : RcA w X N W1.heap.size w2.heap.size := by
  have s2 := (Array.getElem?_eq_some_iff.1 mb).1
  have oX : Only (fun _ => False) W1 X := by rw [hX]; exact (O2.alloc _).setCell _ _ (fun g => by simp at g)
  refine ⟨O1.trans oX (fun _ _ g => g), oX.at b0, oX.at b1, ?_, ?_, by omega, by omega, by omega, by omega⟩
  · rw [hX]; exact set_blk (((Only.refl (fun _ => False) _).alloc _).at mb) 0 _
  · rw [hX]; exact (Below.heap_setCell _ _ _ _ (by simp only; omega)).trans (alloc_at _ _ _ rfl)
theorem HpO.keep {w w' : World} {h m B : Nat} {a : Option Addr} {c R K : Nat} {bs : Nat → Prop} (g : HpO w h m B a c R K) (o : Only bs w w') (hb : ∀ b, b < w.heap.size → ¬ bs b) : HpO w' h m B a c R K := by
  refine ⟨⟨?_, ?_, g.hp.ne⟩, o.owns g.row (fun k hk => hb k (g.row.lt k hk).2), o.cell g.r0 (hb _ (World.block_lt_of_cell? w _ g.r0)), o.cell g.r1 (hb _ (World.block_lt_of_cell? w _ g.r1))⟩
  · have l := (Array.getElem?_eq_some_iff.1 g.hp.hb).1
    exact (o.block h l (hb h l)).trans g.hp.hb
  · obtain ⟨c, hc⟩ := g.hp.mb
    have l := (Array.getElem?_eq_some_iff.1 hc).1
    exact ⟨c, (o.block m l (hb m l)).trans hc⟩
theorem nm_out {w X w4 : World} {h m B : Nat} {a : Option Addr} {c R K N M G : Nat} (hO : HpO w h m B a c R K) (hX : RcA w X N M G) (hn : Nm1 X G (N + 1) w4) :
    ∃ q k, w4.cell? ⟨N + 1, 0, none⟩ = some (.slice (some ⟨q, 0, none⟩) 1 k) ∧ w4.cell? ⟨q, 0, none⟩ = some (.int .u64 0) ∧ Only (fun _ => False) w w4 ∧ HpO w4 h m B a c R K := by
  obtain ⟨o, ao, k, h1, h2⟩ := hn
  have n1 := hX.n
  have n2 := hX.gn
  have o4 : Only (fun _ => False) w w4 := hX.o.trans o (fun i hi e => by rcases e with e | e <;> omega)
  rcases h2.2 with ⟨e, _⟩ | ⟨q, cap, cur, e, hg1, hg2, hg3, _⟩
  · cases e
  · cases e
    have hc := h2.cells (g := q) rfl 0 _ rfl
    rw [addr_ad] at hc
    exact ⟨q, k, h1, hc, o4, hO.only o4⟩
set_option maxRecDepth 100000 in
set_option maxHeartbeats 16000000 in
theorem reach1 (h m B : Nat) (a : Option Addr) (c R K g : Nat) (w : World) (hO : HpO w h m B a c R K) (hg : w.heap[g]? = some (.cells #[.slice (some ⟨R, 0, none⟩) 1 K] 50)) :
    Calls Try.prog 46 #[.pointer (some ⟨h, 0, none⟩), .int .u64 0, .slice (some ⟨g, 0, none⟩) 1 1] w fun e w' => ∃ q k, e = .returned (.slice (some ⟨q, 0, none⟩) 1 k) ∧ Hid (w'.cell? ⟨q, 0, none⟩ = some (.int .u64 0) ∧ Only (fun _ => False) w w') := by
  have h0 := hO.hp.cells.1
  have h1 := hO.hp.cells.2.1
  have HU : Hid (∀ w1, Only (fun _ => False) w w1 → Calls Try.prog 50 #[.pointer (some ⟨h, 0, none⟩)] w1 fun e w' => e = .returned (.int .i64 3) ∧ Only (fun _ => False) w1 w') := fun w1 o => (used_any h none a 0 3 0 c (by omega) (by omega) w1 (o.cell h0 (fun g => g)) (o.cell h1 (fun g => g))).mono fun e w' h => h
  have HO : Hid (HpO w h m B a c R K ∧ w.heap[g]? = some (.cells #[.slice (some ⟨R, 0, none⟩) 1 K] 50)) := ⟨hO, hg⟩
  have hm := made3
  have hw0 : IntKind.u64.wrap 0 = 0 := by decide
  have hw3 : IntKind.u64.wrap 3 = 3 := by decide
  clear h0 h1 hO hg
  go_enter Try.func46, Try.ntmps46
  go_wp2_with fail
  obtain ⟨W1, hW1⟩ : ∃ W1, W1 = (w.alloc (.cells #[.int .u64 0] 31)).alloc (.cells #[.slice none 0 0] 85) := ⟨_, rfl⟩
  obtain ⟨N, hN⟩ : ∃ N, N = w.heap.size := ⟨_, rfl⟩
  have O1 : Hid (Only (fun _ => False) w W1) := by rw [hW1]; exact ((Only.refl _ w).alloc _).alloc _
  have b0 : W1.heap[N]? = some (.cells #[.int .u64 0] 31) := by rw [hW1]; exact ((Only.refl (fun _ => False) _).alloc _).at (alloc_at _ _ _ hN)
  have b1 : W1.heap[N + 1]? = some (.cells #[.slice none 0 0] 85) := by rw [hW1]; exact alloc_at _ _ _ (by simp [hN])
  have HB : Hid (W1.heap[N]? = some (.cells #[.int .u64 0] 31) ∧ W1.heap[N + 1]? = some (.cells #[.slice none 0 0] 85)) := ⟨b0, b1⟩
  have c0 : W1.cell? ⟨N, 0, none⟩ = some (.int .u64 0) := hb_cell b0 0
  rw [← hW1, ← hN]
  have HW : Hid (∀ W, Only (fun _ => False) W1 W → W.cell? ⟨N, 0, none⟩ = some (.int .u64 0)) := fun W o => o.cell c0 (fun g => g)
  have c0A : ∀ x, (W1.alloc x).cell? ⟨N, 0, none⟩ = some (.int .u64 0) := fun x => HW.out _ ((Only.refl _ _).alloc _)
  have HZ : Hid (N = w.heap.size ∧ W1.heap.size = N + 2) := ⟨hN, by rw [hW1, hN]; simp⟩
  clear b0 b1 hW1 hN
  go_region_with (go_at_call 50; refine (show Calls Try.prog 50 _ _ _ from HU.out _ (O1.out.trans (show Only (fun _ => False) W1 _ by repeat' first | exact Only.refl _ _ | apply Only.alloc | apply Only.drew) (fun _ _ g => g))).mono ?_; rintro e w2 ⟨rfl, o2⟩; have O2 : Hid (Only (fun _ => False) W1 w2) := (Only.trans (show Only (fun _ => False) W1 _ by repeat' first | exact Only.refl _ _ | apply Only.alloc | apply Only.drew) o2 (fun _ _ g => g)); have l2 := HW.out w2 O2.out; have l2A : ∀ x, (w2.alloc x).cell? ⟨N, 0, none⟩ = some (.int .u64 0) := fun x => ((Only.refl (fun _ => False) w2).alloc x).cell l2 (fun g => g); try (have mb := o2.at (alloc_at _ _ _ rfl); have mc : ∀ x, (w2.alloc x).cell? ⟨W1.heap.size, 0, none⟩ = some (.slice none 0 0) := fun x => hb_cell (((Only.refl (fun _ => False) w2).alloc x).at mb) 0; have mf : ∀ x, (w2.alloc x).frozen? ⟨W1.heap.size, 0, none⟩ = false := fun x => hb_froz (((Only.refl (fun _ => False) w2).alloc x).at mb) 0; have MB : Hid _ := mb))
  all_goals
    refine then_at fun X hX => ?_
    first
      | (have RX := rca1 O1.out O2.out HB.out.1 HB.out.2 HZ.out X hX; generalize w2.heap.size + 1 = M at RX ⊢; generalize w2.heap.size = G at RX ⊢)
      | (have RX := rca2 O1.out O2.out HB.out.1 HB.out.2 HZ.out X hX; generalize w2.heap.size + 1 = G at RX ⊢; generalize w2.heap.size = M at RX ⊢)
      | (have RX := rca3 O1.out O2.out HB.out.1 HB.out.2 HZ.out MB.out X hX; generalize w2.heap.size = G at RX ⊢; generalize W1.heap.size = M at RX ⊢)
    clear hX O2 l2 l2A c0 c0A hm hw0 hw3 o2
    try clear mb mc mf MB
    clear HB HZ HW HU O1
    have HX : Hid (RcA w X N M G) := RX
    have x1 := hb_cell (RX.o.at HO.out.2) 0
    have OX := HO.out.1.only RX.o
    have HN : Hid _ := name1 R 0 K N M G (N + 1) X OX.r0 OX.r1 (hb_cell RX.l 0) (hb_cell RX.m 0) (hb_cell RX.g 0) (hb_froz RX.g 0) (hb_cell RX.r 0) (hb_froz RX.r 0) (by have := RX.gn; omega) (by omega) (by have := RX.gn; omega) (by have := RX.mn; omega) (by have := RX.gm; omega)
    clear RX OX
    simp only [List.getElem?_toArray, List.getElem?_cons_zero] at x1
    go_wp2
    go_loopw [22] (fun r wr => ∃ i : Int, r = .int .i64 i ∧ ((i = 0 ∧ wr = X) ∨ (i = 1 ∧ Hid (Nm1 X G (N + 1) wr)))) (fun r _ => 1 - uOf r)
    case atStart => exact ⟨0, rfl, .inl ⟨rfl, rfl⟩⟩
    case round =>
      obtain ⟨i, rfl, ⟨rfl, hwr⟩ | ⟨rfl, H1⟩⟩ := hrel
      · obtain rfl := hwr.symm
        go_wp2_with fail
        refine (show Calls Try.prog 71 _ _ _ from HN.out).mono ?_
        rintro e w3 ⟨rfl, h3⟩
        have H3 : Hid (Nm1 X G (N + 1) w3) := h3
        clear HN h3 x1
        go_wp2
        go_roundw
        case rel => exact ⟨1, rfl, .inr ⟨rfl, H3⟩⟩
        case measure => decide
      · clear HN x1
        obtain ⟨w4, hw4⟩ : ∃ w4, w4 = wr := ⟨_, rfl⟩
        rw [← hw4]
        obtain ⟨q, k', q0, q1, O4, P4⟩ := nm_out HO.out.1 HX.out (hw4 ▸ H1.out)
        have H4 : Hid (Only (fun _ => False) w w4 ∧ HpO w4 h m B a c R K ∧ w4.cell? ⟨N + 1, 0, none⟩ = some (.slice (some ⟨q, 0, none⟩) 1 k') ∧ w4.cell? ⟨q, 0, none⟩ = some (.int .u64 0)) := ⟨O4, P4, q0, q1⟩
        clear H1 O4 P4 hw4 HX HO
        go_wp2
        go_loopw [12] (fun r wr => ∃ i : Int, r = .int .i64 i ∧ (i = 0 ∨ i = 1) ∧ Hid (Only (fun _ => False) w4 wr)) (fun r _ => 1 - uOf r)
        case atStart => exact ⟨0, rfl, .inl rfl, Only.refl _ _⟩
        case round =>
          obtain ⟨i, rfl, rfl | rfl, HI⟩ := hrel
          · obtain ⟨w5, hw5⟩ : ∃ w5, w5 = wr := ⟨_, rfl⟩
            rw [← hw5]
            rw [← hw5] at HI
            clear hw5 q0 q1
            have q0 := HI.out.cell H4.out.2.2.1 (fun g => g)
            have q1 := HI.out.cell H4.out.2.2.2 (fun g => g)
            have HA : Hid _ := at1 h m B a c R K w5 (H4.out.2.1.only HI.out)
            go_wp2_with fail
            refine (show Calls Try.prog 48 _ _ _ from HA.out).mono ?_
            rintro e w6 ⟨rfl, o6⟩
            have O6 : Hid (Only (fun _ => False) w4 w6) := HI.out.trans o6 (fun _ _ g => g)
            have HNm : Hid _ := name0 a 3 c N M (N + 1) w6 (by omega) (by obtain ⟨_, _, _, _, _, hh⟩ := (H4.out.2.1.only O6.out).words; exact hh)
            clear HA o6 HI q0 q1
            go_wp2_with fail
            refine (show Calls Try.prog 71 _ _ _ from HNm.out).mono ?_
            rintro e w7 ⟨rfl, o7⟩
            have O7 : Hid (Only (fun _ => False) w4 w7) := O6.out.trans o7 (fun _ _ g => g)
            clear HNm o7 O6
            go_wp2
            go_roundw
            case rel => exact ⟨1, rfl, .inr rfl, O7⟩
            case measure => decide
          · clear q0 q1
            have q0 := HI.out.cell H4.out.2.2.1 (fun g => g)
            have HK : Hid (wr.cell? ⟨q, 0, none⟩ = some (.int .u64 0) ∧ Only (fun _ => False) w wr) := ⟨HI.out.cell H4.out.2.2.2 (fun g => g), H4.out.1.trans HI.out (fun _ _ g => g)⟩
            clear HI H4
            go_wp2
            go_ret
            exact ⟨q, k', rfl, HK⟩
end Go.Proofs.Ytijifabejngdbaa
