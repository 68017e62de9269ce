/-         -/
import Derived.Test.YtbbeoobihdldcaaGreatDoorGab
import Derived.Test.YtbbeoobihdldcaaGreatDoorGaa
import Derived.Test.YtbbeoobihdldcaaGreatDoorRows
import Derived.Maps.AppendAt
import Derived.WalkKit
import Derived.WalkSpells
import Derived.WalkLawsBesides
import Derived.OpenShut
import Derived.Laws.RangeAny
import Derived.LoopTactic
namespace Go.Proofs.YtbbeoobihdldcaaGreatDoor
open Go.RowKit
set_option linter.unusedSimpArgs false
set_option linter.unusedVariables false
set_option maxRecDepth 100000 in
set_option maxHeartbeats 8000000 in
theorem room_yes (h m C s : Nat) (yv rv : Value) (y r : List (Bool × Nat)) (w : World) (hE : Hs w h m (C : Int) yv rv y r) (hC : C ≤ 100000) (hs : s ≤ C) (hr : y.length + s ≤ C / 4) :
  Calls Tryz.prog 134 #[.pointer (some ⟨h, 0, none⟩), .int .i64 (s : Int)] w fun e w' => e = .returned (.bool true) ∧ Only (fun _ => False) w w' := by
 obtain ⟨⟨a0, k0, hyv⟩, _⟩ := hE.sl
 obtain ⟨c0, c1, c2, c3, c4⟩ := hE.cells
 obtain ⟨L, hL⟩ : ∃ L, L = y.length := ⟨_, rfl⟩
 rw [← hL] at hyv hr
 rw [hyv] at c1
 have HU : Hid (∀ w1, Only (fun _ => False) w w1 → Calls Tryz.prog 89 #[.pointer (some ⟨h, 0, none⟩)] w1 fun e w' => e = .returned (.int .i64 (L : Int)) ∧ Only (fun _ => False) w1 w') := fun w1 o => (used_any h none a0 0 L 0 k0 (by omega) (by omega) w1 (o.cell c0 (fun g => g)) (o.cell c1 (fun g => g))).mono (by rintro e w' ⟨rfl, g⟩; exact ⟨by simp, g⟩)
 have HC : Hid (∀ W, Only (fun _ => False) w W → W.cell? ⟨h, 0, none⟩ = some (.slice none 0 0) ∧ W.cell? ⟨h, 1, none⟩ = some (.slice a0 L k0) ∧ W.cell? ⟨h, 3, none⟩ = some (.int .i64 (C : Int))) := fun W o => ⟨o.cell c0 (fun g => g), o.cell c1 (fun g => g), o.cell c3 (fun g => g)⟩
 obtain ⟨q, hq⟩ : ∃ q, q = C / 4 := ⟨_, rfl⟩
 obtain ⟨d, hd⟩ : ∃ d, d = C - s := ⟨_, rfl⟩
 have w1 : IntKind.i64.wrap ((C : Int) - (s : Int)) = (d : Int) := by rw [IntKind.wrap_i64]; omega
 have w2 : IntKind.i64.wrap ((L : Int) + (s : Int)) = ((L + s : Nat) : Int) := by rw [IntKind.wrap_i64]; omega
 have w3 : IntKind.i64.wrap (Int.tdiv (C : Int) 4) = (q : Int) := by
  have e : Int.tdiv (C : Int) 4 = ((C / 4 : Nat) : Int) := by
   rw [show (4 : Int) = ((4 : Nat) : Int) from rfl, Int.ofNat_tdiv]
  rw [e, IntKind.wrap_i64]
  omega
 have w4 : IntKind.i64.wrap ((C : Int) / 4) = (q : Int) := by rw [IntKind.wrap_i64]; omega
 have g1 : (L : Int) ≤ (d : Int) := by omega
 have g2 : ((L + s : Nat) : Int) ≤ (q : Int) := by omega
 obtain ⟨N, hN⟩ : ∃ N, N = L + s := ⟨_, rfl⟩
 rw [← hN] at w2 g2
 have b1 : decide ((L : Int) ≤ (d : Int)) = true := by simpa using g1
 have b2 : decide ((N : Int) ≤ (q : Int)) = true := by simpa using g2
 clear hE hC hs hr hyv c2 c4 hL hq hd hN
 go_enter Tryz.func134, Tryz.ntmps134
 go_wp2_with fail
 go_region_held3 (fun W => W.cell? ⟨h, 0, none⟩ = some (.slice none 0 0) ∧ W.cell? ⟨h, 1, none⟩ = some (.slice a0 L k0) ∧ W.cell? ⟨h, 3, none⟩ = some (.int .i64 (C : Int)))
  (first | exact ⟨c0, c1, c3⟩ | exact HC.out _ O1.out | go_keep)
  (first | (go_at_call 89; refine (show Calls Tryz.prog 89 _ _ _ from HU.out _ (Only.refl _ w).drew).mono ?_; rintro e w1 ⟨rfl, o1⟩; have O1 : Hid (Only (fun _ => False) w w1) := ((Only.refl _ w).drew).trans o1 (fun _ _ g => g); obtain ⟨d0, d1, d3⟩ := HC.out _ O1.out; clear o1))
 go_wp2
 go_ret
 exact ⟨rfl, O1.out⟩
def AlP (w w' : World) (h m : Nat) (cap : Int) (yv rv : Value) (y r : List (Bool × Nat)) : Prop := ∃ yv' rv', Hs w' h m cap yv' rv' y r ∧ (∀ k, yv'.ownBlock = some k → yv.ownBlock = some k ∨ w.heap.size ≤ k) ∧ (∀ k, rv'.ownBlock = some k → rv.ownBlock = some k ∨ w.heap.size ≤ k) ∧ Only (fun k => k = h ∨ yv.ownBlock = some k ∨ rv.ownBlock = some k) w w'
set_option maxRecDepth 100000 in
set_option maxHeartbeats 8000000 in
theorem alloc_any (h m C : Nat) (yv rv : Value) (y r : List (Bool × Nat)) (kd n hd : Nat) (hH : HdC kd n hd) (w : World) (hE : Hs w h m (C : Int) yv rv y r) (hC : C ≤ 100000) (h0 : 0 < n) (hn : n ≤ 2048) (hk : kd ≤ 255) (hs : 1 + n ≤ C) (hr : y.length + (1 + n) ≤ C / 4) (hl : r.length < 65536) :
  Calls Tryz.prog 104 #[.pointer (some ⟨h, 0, none⟩), .int .i64 (kd : Int), .int .i64 (n : Int), .bool false] w fun e w' => e = .returned (.int .i64 0) ∧ AlP w w' h m (C : Int) yv rv (y ++ (false, hd) :: List.replicate n (false, 0)) (r ++ [(true, y.length)]) := by
 obtain ⟨_, a1, k1, hrv⟩ := hE.sl
 have HM : Hid _ := atmax_any h a1 r.length k1 hl w (hrv ▸ hE.cells.2.2.2.2)
 have HK : Hid _ := room_yes h m C (1 + n) yv rv y r w hE hC hs hr
 have HE : Hid (Hs w h m (C : Int) yv rv y r) := hE
 have HS : Hid (y.length ≤ 100000 ∧ 0 < n ∧ n ≤ 100000 ∧ HdC kd n hd ∧ r.length < 65536) := ⟨by omega, h0, by omega, hH, hl⟩
 obtain ⟨s, hs2⟩ : ∃ s, s = 1 + n := ⟨_, rfl⟩
 rw [← hs2] at HK
 have ws : IntKind.i64.wrap (1 + (n : Int)) = (s : Int) := by rw [IntKind.wrap_i64]; omega
 have f1 : ¬ (kd : Int) < 0 := by omega
 have f2 : ¬ (255 : Int) < (kd : Int) := by omega
 have f3 : ¬ (n : Int) < 0 := by omega
 have f4 : ¬ (2048 : Int) < (n : Int) := by omega
 have p1 : decide ((kd : Int) < 0) = false := by simp
 have p2 : decide ((255 : Int) < (kd : Int)) = false := by simp; omega
 have p3 : decide ((n : Int) < 0) = false := by simp
 have p4 : decide ((2048 : Int) < (n : Int)) = false := by simp; omega
 clear hE hH hC h0 hn hk hs hr hl hrv hs2
 go_enter Tryz.func104, Tryz.ntmps104
 go_wp2_with fail
 refine (show Calls Tryz.prog 105 _ _ _ from HM.out).mono ?_
 rintro e w1 ⟨rfl, hq⟩
 rw [hq]
 clear hq HM w1
 go_wp2_with fail
 refine (show Calls Tryz.prog 134 _ _ _ from HK.out).mono ?_
 rintro e w2 ⟨rfl, o2⟩
 have HY : Hid _ := lay_any h m C yv rv y r kd n hd HS.out.2.2.2.1 w2 (HE.out.only o2) HS.out.1 HS.out.2.1 HS.out.2.2.1
 have O2 : Hid (Only (fun _ => False) w w2) := o2
 clear HK o2
 go_wp2_with fail
 refine (show Calls Tryz.prog 135 _ _ _ from HY.out).mono ?_
 rintro e w3 ⟨rfl, yv', h3, hat3, o3⟩
 have HP : Hid _ := push_any h m C yv' rv _ r true y.length w3 h3 HS.out.2.2.2.2
 have H3 : Hid ((∀ k, yv'.ownBlock = some k → yv.ownBlock = some k ∨ w2.heap.size ≤ k) ∧ Only (fun k => k = h ∨ yv.ownBlock = some k) w2 w3) := ⟨hat3, o3⟩
 clear HY h3 hat3 o3
 go_wp2_with fail
 refine (show Calls Tryz.prog 68 _ _ _ from HP.out).mono ?_
 rintro e w4 ⟨rfl, h4⟩
 have H4 : Hid _ := h4
 clear HP h4
 go_wp2
 go_ret
 obtain ⟨rv', h5, hat5, o5⟩ := H4.out
 obtain ⟨hat3, o3⟩ := H3.out
 have o2 := O2.out
 have s2 := o2.size
 have s3 := o3.size
 refine ⟨rfl, yv', rv', h5, fun k hk => ?_, fun k hk => ?_, ?_⟩
 ·rcases hat3 k hk with e | e
  ·exact .inl e
  ·exact .inr (by omega)
 ·rcases hat5 k hk with e | e
  ·exact .inl e
  ·exact .inr (by omega)
 ·exact ((o2.mono (bs' := fun k => k = h ∨ yv.ownBlock = some k ∨ rv.ownBlock = some k) (fun _ _ g => g.elim)).trans (o3.mono (bs' := fun k => k = h ∨ yv.ownBlock = some k ∨ rv.ownBlock = some k) (fun _ _ g => g.elim .inl (fun g => .inr (.inl g)))) (fun _ _ g => g)).trans (o5.mono (bs' := fun k => k = h ∨ yv.ownBlock = some k ∨ rv.ownBlock = some k) (fun _ _ g => g.elim .inl (fun g => .inr (.inr g)))) (fun _ _ g => g)
end Go.Proofs.YtbbeoobihdldcaaGreatDoor
namespace Go.Proofs.YtbbeoobihdldcaaGreatDoor
open Go.RowKit
set_option linter.unusedSimpArgs false
set_option linter.unusedVariables false
set_option maxHeartbeats 1000000 in
theorem new_any (C : Nat) (h1 : 1 ≤ C) (h2 : C ≤ 65536) (w : World) : Calls Tryz.prog 74 #[.int .i64 (C : Int)] w fun e w' => ∃ h m, e = .returned (.tuple #[.pointer (some ⟨h, 0, none⟩), .int .i64 0]) ∧ Hid (Hs w' h m (C : Int) (.slice none 0 0) (.slice none 0 0) [] [] ∧ w.heap.size ≤ h ∧ w.heap.size ≤ m ∧ Only (fun _ => False) w w') := by
 have H := newspaces
 have g1 : ¬ (C : Int) < 1 := by omega
 have g2 : ¬ (65536 : Int) < (C : Int) := by omega
 have p1 : decide ((C : Int) < 1) = false := by simp; omega
 have p2 : decide ((65536 : Int) < (C : Int)) = false := by simp; omega
 go_enter Tryz.func74, Tryz.ntmps74
 go_wp2_with fail
 refine (show Calls Tryz.prog 106 _ _ _ from H _).mono ?_
 rintro e w1 ⟨m, c, rfl, hm, hs, o⟩
 have HM : Hid (w1.heap[m]? = some (.map #[] c) ∧ w.heap.size ≤ m ∧ Only (fun _ => False) w w1) := ⟨hm, hs, o⟩
 clear H hm hs o
 go_wp2
 go_ret2
 obtain ⟨h1, h2, h3⟩ := HM.out
 have oA := (Only.refl (fun _ => False) w1).alloc (.cells #[.slice none 0 0, .slice none 0 0, .map (some m), .int .i64 (C : Int), .slice none 0 0] 68)
 exact ⟨w1.heap.size, m, rfl, ⟨alloc_at _ _ _ rfl, ⟨c, oA.at h1⟩, World.ownsRow_nil _ _ _ _, World.ownsRow_nil _ _ _ _, fun k hk => by simp [Value.ownBlock] at hk⟩, h3.size, h2, h3.trans oA (fun _ _ g => g)⟩
def MmAt (w : World) (M h : Nat) (n : Int) : Prop := w.heap[M]? = some (.cells #[.pointer (some ⟨h, 0, none⟩), .int .i64 n] 44)
theorem MmAt.cells {w : World} {M h : Nat} {n : Int} (g : MmAt w M h n) : w.cell? ⟨M, 0, none⟩ = some (.pointer (some ⟨h, 0, none⟩)) ∧ w.cell? ⟨M, 1, none⟩ = some (.int .i64 n) ∧ w.frozen? ⟨M, 1, none⟩ = false := ⟨hb_cell g 0, hb_cell g 1, hb_froz g 1⟩
theorem MmAt.keep {w w' : World} {bs : Nat → Prop} {M h : Nat} {n : Int} (g : MmAt w M h n) (o : Only bs w w') (hb : ¬ bs M) : MmAt w' M h n := (o.block M (Array.getElem?_eq_some_iff.1 g).1 hb).trans g
theorem MmAt.lt {w : World} {M h : Nat} {n : Int} (g : MmAt w M h n) : M < w.heap.size := (Array.getElem?_eq_some_iff.1 g).1
theorem MmAt.ne {w : World} {M h : Nat} {n : Int} (g : MmAt w M h n) {h' m : Nat} {cap : Int} {yv rv : Value} {y r : List (Bool × Nat)} (hE : Hs w h' m cap yv rv y r) : M ≠ h' ∧ yv.ownBlock ≠ some M ∧ rv.ownBlock ≠ some M := by
 refine ⟨fun e => ?_, own_ne hE.ry g (by simp), own_ne hE.rr g (by simp)⟩
 have := hE.hb
 rw [← e, g] at this
 simp at this
set_option maxHeartbeats 1000000 in
theorem snew_any (C : Nat) (h1 : 1 ≤ C) (h2 : C ≤ 65536) (w : World) : Calls Tryz.prog 34 #[.int .i64 (C : Int)] w fun e w' => ∃ M h m, e = .returned (.tuple #[.pointer (some ⟨M, 0, none⟩), .int .i64 0]) ∧ Hid (MmAt w' M h 1 ∧ Hs w' h m (C : Int) (.slice none 0 0) (.slice none 0 0) [] [] ∧ w.heap.size ≤ M ∧ w.heap.size ≤ h ∧ w.heap.size ≤ m ∧ Only (fun _ => False) w w') := by
 have H : Hid _ := new_any C h1 h2 w
 clear h1 h2
 go_enter Tryz.func34, Tryz.ntmps34
 go_wp2_with fail
 refine (show Calls Tryz.prog 74 _ _ _ from H.out).mono ?_
 rintro e w1 ⟨h, m, rfl, H1⟩
 clear H
 go_wp2
 go_ret2
 obtain ⟨h1, h2, h3, o⟩ := H1.out
 have oA := (Only.refl (fun _ => False) w1).alloc (.cells #[.pointer (some ⟨h, 0, none⟩), .int .i64 1] 44)
 exact ⟨w1.heap.size, h, m, rfl, alloc_at _ _ _ rfl, h1.only oA, o.size, h2, h3, o.trans oA (fun _ _ g => g)⟩
structure FnAt (w : World) (F h m1 m2 m3 : Nat) : Prop where
 hb : w.heap[F]? = some (.cells #[.pointer (some ⟨h, 0, none⟩), .slice none 0 0, .map (some m1), .map (some m2), .slice none 0 0, .map (some m3)] 111)
 b1 : ∃ c, w.heap[m1]? = some (.map #[] c)
 b2 : ∃ c, w.heap[m2]? = some (.map #[] c)
 b3 : ∃ c, w.heap[m3]? = some (.map #[] c)
 n1 : m1 ≠ m2 ∧ m1 ≠ m3 ∧ m2 ≠ m3
theorem mkm3 (W : World) : (Instr.makeMap 108 none).run Tryz.prog W = .ok (.map (some W.heap.size)) (W.alloc (.map #[] 0)) := by kernel_rfl
theorem FnAt.keep {w w' : World} {bs : Nat → Prop} {F h m1 m2 m3 : Nat} (g : FnAt w F h m1 m2 m3) (o : Only bs w w') (hF : ¬ bs F) (h1 : ¬ bs m1) (h2 : ¬ bs m2) (h3 : ¬ bs m3) : FnAt w' F h m1 m2 m3 := by
 obtain ⟨c1, e1⟩ := g.b1
 obtain ⟨c2, e2⟩ := g.b2
 obtain ⟨c3, e3⟩ := g.b3
 exact ⟨(o.block F (Array.getElem?_eq_some_iff.1 g.hb).1 hF).trans g.hb, ⟨c1, (o.block m1 (Array.getElem?_eq_some_iff.1 e1).1 h1).trans e1⟩, ⟨c2, (o.block m2 (Array.getElem?_eq_some_iff.1 e2).1 h2).trans e2⟩, ⟨c3, (o.block m3 (Array.getElem?_eq_some_iff.1 e3).1 h3).trans e3⟩, g.n1⟩
set_option maxHeartbeats 1000000 in
theorem newfinder_any (h : Nat) (w : World) : Calls Tryz.prog 52 #[.pointer (some ⟨h, 0, none⟩)] w fun e w' => ∃ F m1 m2 m3, e = .returned (.pointer (some ⟨F, 0, none⟩)) ∧ Hid (FnAt w' F h m1 m2 m3 ∧ w.heap.size ≤ F ∧ w.heap.size ≤ m1 ∧ w.heap.size ≤ m2 ∧ w.heap.size ≤ m3 ∧ Only (fun _ => False) w w') := by
 have hm := mkm3
 obtain ⟨W, hW⟩ : ∃ W, W = (((w.alloc (.map #[] 0)).alloc (.map #[] 0)).alloc (.map #[] 0)).alloc (.cells #[.pointer (some ⟨h, 0, none⟩), .slice none 0 0, .map (some w.heap.size), .map (some (w.heap.size + 1)), .slice none 0 0, .map (some (w.heap.size + 1 + 1))] 111) := ⟨_, rfl⟩
 have HF : Hid (FnAt W (w.heap.size + 1 + 1 + 1) h w.heap.size (w.heap.size + 1) (w.heap.size + 1 + 1) ∧ Only (fun _ => False) w W) := by
  have o1 := (Only.refl (fun _ => False) w).alloc (.map #[] 0)
  have o2 := o1.alloc (.map #[] 0)
  have o3 := o2.alloc (.map #[] 0)
  rw [hW]
  refine ⟨⟨alloc_at _ _ _ (by simp), ⟨0, ?_⟩, ⟨0, ?_⟩, ⟨0, ?_⟩, by omega, by omega, by omega⟩, o3.alloc _⟩
  ·exact ((((Only.refl (fun _ => False) (w.alloc (.map #[] 0))).alloc _).alloc _).alloc _).at (alloc_at _ _ _ rfl)
  ·exact (((Only.refl (fun _ => False) ((w.alloc (.map #[] 0)).alloc (.map #[] 0))).alloc _).alloc _).at (alloc_at _ _ _ (by simp))
  ·exact ((Only.refl (fun _ => False) (((w.alloc (.map #[] 0)).alloc (.map #[] 0)).alloc (.map #[] 0))).alloc _).at (alloc_at _ _ _ (by simp))
 go_enter Tryz.func52, Tryz.ntmps52
 go_wp2
 go_ret
 simp only [World.size_alloc] at *
 rw [← hW]
 exact ⟨_, _, _, _, rfl, HF.out.1, by omega, by omega, by omega, by omega, HF.out.2⟩
theorem fix5 (w : World) : Calls Tryz.prog 128 #[.int .i64 5] w fun e w' => e = .returned (.tuple #[.int .u64 20, .int .i64 0]) ∧ w' = w := by
 have HF : ∀ w, Calls Tryz.prog 136 #[.int .i64 5] w fun e w' => e = .returned (.bool true) ∧ w' = w := by
  intro w
  go_enter Tryz.func136, Tryz.ntmps136
  go_wp2
  go_ret
  exact ⟨rfl, rfl⟩
 have e1 : bits .or .u64 20 0 = 20 := by decide
 go_enter Tryz.func128, Tryz.ntmps128
 go_wp2_with (go_at_call 136; refine (HF _).mono ?_; rintro e w1 ⟨rfl, hq⟩; rw [hq]; clear hq)
 go_ret2
 exact ⟨rfl, rfl⟩
end Go.Proofs.YtbbeoobihdldcaaGreatDoor
namespace Go.Proofs.YtbbeoobihdldcaaGreatDoor
open Go.RowKit
set_option linter.unusedSimpArgs false
set_option linter.unusedVariables false
structure Vt where
 k : Int
 n : Int
 s : ByteArray
 l : List Vt
def TiAt (w : World) (S : Nat → Prop) : Nat → Bool → Vt → Value → Prop
 | 0, _, _, _ => False
 | d + 1, true, t, v => (t.k = 7 ∧ t.l = [] ∧ v = .iface 146 (.agg #[.string t.s])) ∨ (t.k = 8 ∧ t.l = [] ∧ v = .nilIface) ∨ (t.k ≠ 7 ∧ t.k ≠ 8 ∧ ∃ u, v = .iface 148 (.agg #[u]) ∧ TiAt w S d false t u)
 | d + 1, false, t, v => (t.k = 1 ∧ t.l = [] ∧ v = .iface 36 (.agg #[.int .i64 t.n])) ∨ (t.k = 2 ∧ t.l = [] ∧ v = .iface 79 (.agg #[.string t.s])) ∨ (t.k = 3 ∧ t.l = [] ∧ v = .iface 137 (.agg #[.bool (t.n != 0)])) ∨ (t.k = 6 ∧ t.l = [] ∧ v = .iface 93 (.agg #[.int .i64 t.n])) ∨ (t.k = 8 ∧ t.l = [] ∧ v = .nilIface) ∨
   ((t.k = 4 ∨ t.k = 5) ∧ ∃ ao cap, v = .iface (if t.k = 4 then 82 else 89) (.agg #[.slice ao t.l.length cap]) ∧ t.l.length ≤ cap ∧ ∀ i x, t.l[i]? = some x → ∃ g k u, ao = some ⟨g, k, none⟩ ∧ S g ∧ w.cell? ⟨g, k + i, none⟩ = some u ∧ TiAt w S d (decide (t.k = 5)) x u)
theorem TiAt.step {w w' : World} {S S' : Nat → Prop} (hS : ∀ b, S b → S' b) (hk : ∀ (a : Addr) u, S a.block → w.cell? a = some u → w'.cell? a = some u) : ∀ {d d' : Nat} {i : Bool} {t : Vt} {v : Value}, d ≤ d' → TiAt w S d i t v → TiAt w' S' d' i t v := by
 intro d
 induction d with
 | zero => intro d' i t v _ h; exact h.elim
 | succ d ih =>
   intro d' i t v hd h
   obtain ⟨e, rfl⟩ : ∃ e, d' = e + 1 := ⟨d' - 1, by omega⟩
   cases i with
   | true =>
     rcases h with h | h | ⟨h, h', u, hv, hu⟩
     ·exact .inl h
     ·exact .inr (.inl h)
     ·exact .inr (.inr ⟨h, h', u, hv, ih (by omega) hu⟩)
   | false =>
     rcases h with h | h | h | h | h | ⟨h, ao, cap, hv, hc, hl⟩
     ·exact .inl h
     ·exact .inr (.inl h)
     ·exact .inr (.inr (.inl h))
     ·exact .inr (.inr (.inr (.inl h)))
     ·exact .inr (.inr (.inr (.inr (.inl h))))
     ·refine .inr (.inr (.inr (.inr (.inr ⟨h, ao, cap, hv, hc, fun i x hx => ?_⟩))))
      obtain ⟨g, k, u, ha, hg, hu, ht⟩ := hl i x hx
      exact ⟨g, k, u, ha, hS g hg, hk _ _ hg hu, ih (by omega) ht⟩
theorem TiAt.only {w w' : World} {S bs : Nat → Prop} {d : Nat} {i : Bool} {t : Vt} {v : Value} (h : TiAt w S d i t v) (o : Only bs w w') (hb : ∀ b, S b → ¬ bs b) : TiAt w' S d i t v :=
 TiAt.step (fun _ g => g) (fun a u hs hc => o.cell hc (hb _ hs)) (Nat.le_refl _) h
def Liv (w : World) (b : Nat) : Prop := b < w.heap.size ∧ ∃ c t, w.heap[b]? = some (.cells c t)
theorem Liv.only {w w' : World} {bs : Nat → Prop} {b : Nat} (h : Liv w b) (o : Only bs w w') (hb : ¬ bs b) : Liv w' b := by
 obtain ⟨h1, c, t, hc⟩ := h
 exact ⟨Nat.lt_of_lt_of_le h1 o.size, c, t, (o.block b h1 hb).trans hc⟩
theorem Liv.of {w : World} {b : Nat} {c : Array Value} {t : TypeId} (h : w.heap[b]? = some (.cells c t)) : Liv w b :=
 ⟨(Array.getElem?_eq_some_iff.1 h).1, c, t, h⟩
def RiAt (w : World) (B : Nat) (T : TypeId) (d : Nat) (i : Bool) (v : Value) (l : List Vt) : Prop :=
 ∃ us S, w.ownsRow B T 1 v l.length us ∧ (∀ (j : Nat) (x : Vt), l[j]? = some x → ∃ u, us[j]? = some u ∧ TiAt w S d i x u) ∧ ∀ b, S b → B ≤ b ∧ Liv w b ∧ v.ownBlock ≠ some b
theorem RiAt.form {w : World} {B : Nat} {T : TypeId} {d : Nat} {i : Bool} {v : Value} {l : List Vt} (h : RiAt w B T d i v l) : ∃ ao cap, v = .slice ao l.length cap := by
 obtain ⟨us, S, ho, _⟩ := h
 rcases ho.2 with ⟨h1, h2⟩ | ⟨g, cap, cur, h1, _⟩
 ·exact ⟨_, _, by rw [h1, h2]⟩
 ·exact ⟨_, _, h1⟩
theorem RiAt.only {w w' : World} {B : Nat} {T : TypeId} {d : Nat} {i : Bool} {v : Value} {l : List Vt} {bs : Nat → Prop} (h : RiAt w B T d i v l) (o : Only bs w w') (hb : ∀ b, B ≤ b → ¬ bs b) : RiAt w' B T d i v l := by
 obtain ⟨us, S, ho, ht, hS⟩ := h
 refine ⟨us, S, o.owns ho (fun k hk => hb k (ho.lt k hk).1), fun j x hx => ?_, fun b hbS => ?_⟩
 ·obtain ⟨u, hu, h2⟩ := ht j x hx
  exact ⟨u, hu, h2.only o (fun b hbS => hb b (hS b hbS).1)⟩
 ·obtain ⟨h1, h2, h3⟩ := hS b hbS
  exact ⟨h1, h2.only o (hb b h1), h3⟩
theorem RiAt.deep {w : World} {B : Nat} {T : TypeId} {d d' : Nat} {i : Bool} {v : Value} {l : List Vt} (h : RiAt w B T d i v l) (hd : d ≤ d') : RiAt w B T d' i v l := by
 obtain ⟨us, S, ho, ht, hS⟩ := h
 refine ⟨us, S, ho, fun j x hx => ?_, hS⟩
 obtain ⟨u, hu, h2⟩ := ht j x hx
 exact ⟨u, hu, h2.step (fun _ g => g) (fun _ _ _ g => g) hd⟩
def NiAt (w : World) (B : Nat) (d : Nat) (i : Bool) (t : Vt) (v : Value) : Prop := ∃ S, TiAt w S d i t v ∧ ∀ b, S b → B ≤ b ∧ Liv w b
theorem NiAt.only {w w' : World} {B : Nat} {d : Nat} {i : Bool} {v : Value} {t : Vt} {bs : Nat → Prop} (h : NiAt w B d i t v) (o : Only bs w w') (hb : ∀ b, B ≤ b → ¬ bs b) : NiAt w' B d i t v := by
 obtain ⟨S, ht, hS⟩ := h
 exact ⟨S, ht.only o (fun b hbS => hb b (hS b hbS).1), fun b hbS => ⟨(hS b hbS).1, (hS b hbS).2.only o (hb b (hS b hbS).1)⟩⟩
theorem NiAt.deep {w : World} {B : Nat} {d d' : Nat} {i : Bool} {v : Value} {t : Vt} (h : NiAt w B d i t v) (hd : d ≤ d') : NiAt w B d' i t v := by
 obtain ⟨S, ht, hS⟩ := h
 exact ⟨S, ht.step (fun _ g => g) (fun _ _ _ g => g) hd, hS⟩
theorem RiAt.tree {w : World} {B : Nat} {T : TypeId} {d : Nat} {v : Value} {l : List Vt} {t : Vt} (hk : t.k = 4 ∨ t.k = 5) (hl0 : t.l = l) (h : RiAt w B T d (decide (t.k = 5)) v l) : NiAt w B (d + 1) false t (.iface (if t.k = 4 then 82 else 89) (.agg #[v])) := by
 obtain ⟨us, S, ho, ht, hS⟩ := h
 subst hl0
 refine ⟨fun b => S b ∨ v.ownBlock = some b, .inr (.inr (.inr (.inr (.inr ⟨hk, ?_⟩)))), fun b hb => ?_⟩
 ·rcases ho.2 with ⟨rfl, h2⟩ | ⟨g, cap, cur, hv, hB, hg, hn, hcm, hcs, htk⟩
  ·exact ⟨none, 0, by rw [h2], by omega, fun i x hx => by have := (List.getElem?_eq_some_iff.1 hx).1; omega⟩
  ·refine ⟨some ⟨g, 0, none⟩, cap, by rw [hv], hn, fun i x hx => ?_⟩
   obtain ⟨u, h1, h2⟩ := ht i x hx
   have hc := ho.cells (g := g) (by rw [hv]; rfl) i u h1
   rw [addr_ad] at hc
   exact ⟨g, 0, u, rfl, .inr (by rw [hv]; rfl), by simpa using hc, h2.step (fun _ g => .inl g) (fun _ _ _ g => g) (Nat.le_refl _)⟩
 ·rcases hb with h | h
  ·exact ⟨(hS b h).1, (hS b h).2.1⟩
  ·refine ⟨(ho.lt b h).1, ?_⟩
   rcases ho.2 with ⟨rfl, h2⟩ | ⟨g, cap, cur, hv, hB, hg, hn, hcm, hcs, htk⟩
   ·cases h
   ·rw [hv] at h
    injection h with h
    rw [← h]
    exact Liv.of hg
def VsAt (w : World) (S : Nat → Prop) : Nat → List Vt → Value → Prop
 | 0, _, _ => False
 | d + 1, l, lv => ∃ ao cap, lv = .slice ao l.length cap ∧ l.length ≤ cap ∧ ∀ (i : Nat) (x : Vt), l[i]? = some x → ∃ g k lx, ao = some ⟨g, k, none⟩ ∧ S g ∧ (w.cell? ⟨g, k + i * 4, none⟩ = some (.int .i64 x.k) ∧ w.cell? ⟨g, k + i * 4 + 1, none⟩ = some (.int .i64 x.n) ∧ w.cell? ⟨g, k + i * 4 + 2, none⟩ = some (.string x.s) ∧ w.cell? ⟨g, k + i * 4 + 3, none⟩ = some lx) ∧ VsAt w S d x.l lx
theorem VsAt.step {w w' : World} {S S' : Nat → Prop} (hS : ∀ b, S b → S' b) (hk : ∀ (a : Addr) u, S a.block → w.cell? a = some u → w'.cell? a = some u) : ∀ {d d' : Nat} {l : List Vt} {v : Value}, d ≤ d' → VsAt w S d l v → VsAt w' S' d' l v := by
 intro d
 induction d with
 | zero => intro d' t v _ h; exact h.elim
 | succ d ih =>
   intro d' t v hd h
   obtain ⟨e, rfl⟩ : ∃ e, d' = e + 1 := ⟨d' - 1, by omega⟩
   obtain ⟨ao, cap, hv, hc, hl⟩ := h
   refine ⟨ao, cap, hv, hc, fun i x hx => ?_⟩
   obtain ⟨g, k, lx, ha, hg, ⟨c0, c1, c2, c3⟩, ht⟩ := hl i x hx
   exact ⟨g, k, lx, ha, hS g hg, ⟨hk _ _ hg c0, hk _ _ hg c1, hk _ _ hg c2, hk _ _ hg c3⟩, ih (by omega) ht⟩
theorem VsAt.only {w w' : World} {S : Nat → Prop} {d : Nat} {l : List Vt} {v : Value} (h : VsAt w S d l v) (o : Only (fun _ => False) w w') : VsAt w' S d l v :=
 h.step (fun _ g => g) (fun a u _ hc => o.cell hc (fun g => g)) (Nat.le_refl _)
theorem VsAt.form {w : World} {S : Nat → Prop} {d : Nat} {l : List Vt} {lv : Value} (h : VsAt w S d l lv) : ∃ ao cap, lv = .slice ao l.length cap := by
 cases d with
 | zero => exact h.elim
 | succ d => obtain ⟨ao, cap, hv, _⟩ := h; exact ⟨ao, cap, hv⟩
def SmT : Nat → Vt → Prop
 | 0, _ => False
 | d + 1, t => t.s.size ≤ 140737488355328 ∧ t.l.length ≤ 2513169434900 ∧ (-9223372036854775808 ≤ t.k ∧ t.k ≤ 9223372036854775807) ∧ (-9223372036854775808 ≤ t.n ∧ t.n ≤ 9223372036854775807) ∧ ∀ x ∈ t.l, SmT d x
theorem SmT.mono : ∀ {d d' : Nat} {t : Vt}, d ≤ d' → SmT d t → SmT d' t
 | 0, _, _, _, h => h.elim
 | d + 1, 0, t, hd, h => by omega
 | d + 1, e + 1, t, hd, h => ⟨h.1, h.2.1, h.2.2.1, h.2.2.2.1, fun x hx => (h.2.2.2.2 x hx).mono (by omega)⟩
end Go.Proofs.YtbbeoobihdldcaaGreatDoor
namespace Go.Proofs.YtbbeoobihdldcaaGreatDoor
open Go.RowKit
set_option linter.unusedSimpArgs false
set_option linter.unusedVariables false
def nm : Nat → Bool → Vt → Vt
 | 0, _, _ => ⟨8, 0, ⟨#[]⟩, []⟩
 | d + 1, i, t =>
   if t.k = 1 then ⟨1, t.n, ⟨#[]⟩, []⟩ else if t.k = 2 then ⟨2, 0, t.s, []⟩ else if t.k = 3 then ⟨3, if t.n != 0 then 1 else 0, ⟨#[]⟩, []⟩
   else if t.k = 4 then ⟨4, 0, ⟨#[]⟩, t.l.map (nm d false)⟩ else if t.k = 5 then ⟨5, 0, ⟨#[]⟩, t.l.map (nm d true)⟩
   else if t.k = 6 then ⟨6, t.n, ⟨#[]⟩, []⟩ else if i = true ∧ t.k = 7 then ⟨7, 0, t.s, []⟩ else ⟨8, 0, ⟨#[]⟩, []⟩
theorem vblk_cells {w : World} {B : Nat} {c : Array Value} {t : TypeId} (h : w.heap[B]? = some (.cells c t)) (j : Nat) : w.cell? ⟨B, j, none⟩ = c[j]? := by
 simp [World.cell?, h]
theorem valloc_at (W : World) (o : Obj) (n : Nat) (h : n = W.heap.size) : (W.alloc o).heap[n]? = some o := by
 subst h
 exact Array.getElem?_push_size ..
theorem TiAt.form {w : World} {S : Nat → Prop} {d : Nat} {i : Bool} {t : Vt} {v : Value} (h : TiAt w S d i t v) : v.oneCell' = true := by
 cases d with
 | zero => exact h.elim
 | succ d =>
   cases i with
   | true => rcases h with ⟨_, _, rfl⟩ | ⟨_, _, rfl⟩ | ⟨_, _, u, rfl, _⟩ <;> rfl
   | false => rcases h with ⟨_, _, rfl⟩ | ⟨_, _, rfl⟩ | ⟨_, _, rfl⟩ | ⟨_, _, rfl⟩ | ⟨_, _, rfl⟩ | ⟨_, ao, cap, rfl, _⟩ <;> rfl
theorem TiAt.iface {w : World} {S : Nat → Prop} {d : Nat} {t : Vt} {v : Value} (h : TiAt w S d false t v) (h8 : t.k ≠ 8) : ∃ T y, v = .iface T y := by
 cases d with
 | zero => exact h.elim
 | succ d =>
   rcases h with ⟨_, _, rfl⟩ | ⟨_, _, rfl⟩ | ⟨_, _, rfl⟩ | ⟨_, _, rfl⟩ | ⟨h, _, rfl⟩ | ⟨_, ao, cap, rfl, _⟩
   ·exact ⟨_, _, rfl⟩
   ·exact ⟨_, _, rfl⟩
   ·exact ⟨_, _, rfl⟩
   ·exact ⟨_, _, rfl⟩
   ·exact absurd h h8
   ·exact ⟨_, _, rfl⟩
theorem vinfo_parts {t : TypeId} {z : Value} {s b : Nat} (h : (Tryz.prog.info? t).map (fun i => (i.zero, i.size, i.bytes)) = some (some z, s, b)) : ∃ i, Tryz.prog.info? t = some i ∧ i.zero = some z ∧ i.size = s ∧ i.bytes = b := by
 cases hi : Tryz.prog.info? t with
 | none => rw [hi] at h; simp at h
 | some i => rw [hi] at h; simp at h; exact ⟨i, rfl, h.1, h.2.1, h.2.2⟩
end Go.Proofs.YtbbeoobihdldcaaGreatDoor
namespace Go.Proofs.YtbbeoobihdldcaaGreatDoor
open Go.RowKit
set_option linter.unusedSimpArgs false
set_option linter.unusedVariables false
def vuOf : Value → Nat
 | .int _ m => m.toNat
 | _ => 0
theorem TiAt.shape {w : World} {S : Nat → Prop} {d : Nat} {i : Bool} {t : Vt} {v : Value} (h : TiAt w S d i t v) : v = .nilIface ∨ ∃ T y, v = .iface T y := by
 cases d with
 | zero => exact h.elim
 | succ d =>
   cases i with
   | true => rcases h with ⟨_, _, rfl⟩ | ⟨_, _, rfl⟩ | ⟨_, _, u, rfl, _⟩ <;> first | exact .inl rfl | exact .inr ⟨_, _, rfl⟩
   | false => rcases h with ⟨_, _, rfl⟩ | ⟨_, _, rfl⟩ | ⟨_, _, rfl⟩ | ⟨_, _, rfl⟩ | ⟨_, _, rfl⟩ | ⟨_, ao, cap, rfl, _⟩ <;> first | exact .inl rfl | exact .inr ⟨_, _, rfl⟩
section
variable {P : Program} {op : Oper} {a : Act} {w w' : World} {K : Act → World → Prop} {Q : Exit → Act → World → Prop}
theorem vwp_append_run (s x : Operand) (t : TypeId) (ho : op.op = .call { callee := .builtin .append, args := #[s, x], argTypes := #[t, t] }) (v1 v2 v' : Value) (hs : a.eval s = v1) (hx : a.eval x = v2)
  (hr : (Builtin.append_ #[t, t] op.type #[v1, v2]).run P w = .ok v' w') (h : K (a.put op.dst v') w') : op.wp P a w K Q := by
 unfold Oper.wp
 simp [execOp, ho, resolve, invoke, builtin, hs, hx, hr, Result.andThen]
 exact h
theorem vwpList_append_run {ops : Array Oper} {rest : List Oper} (hgd : op.guard = none) (s x : Operand) (t : TypeId) (ho : op.op = .call { callee := .builtin .append, args := #[s, x], argTypes := #[t, t] }) (v1 v2 v' : Value) (hs : a.eval s = v1) (hx : a.eval x = v2)
  (hr : ∀ ty, (Builtin.append_ #[t, t] ty #[v1, v2]).run P w = .ok v' w') (h : wpList P ops Q rest (a.put op.dst v') w') : wpList P ops Q (op :: rest) a w :=
 wpList_plain hgd fun _ hK => vwp_append_run s x t ho v1 v2 v' hs hx (hr _) (hK _ _ h)
end
end Go.Proofs.YtbbeoobihdldcaaGreatDoor
namespace Go.Proofs.YtbbeoobihdldcaaGreatDoor
open Go.RowKit
set_option linter.unusedSimpArgs false
set_option linter.unusedVariables false
def inS (c nt : Int) : Bool := decide (nt ≤ c ∧ c ≤ nt + 9)
set_option maxRecDepth 100000 in
theorem inscript_any (c nt : Int) (w : World) (h1 : -2147483648 ≤ nt) (h2 : nt ≤ 2147483638) :
  Calls Tryz.prog 221 #[.int .i32 c, .int .i32 nt] w fun e w' => e = .returned (.bool (inS c nt)) ∧ w' = w := by
 have e : IntKind.i32.wrap (nt + 9) = nt + 9 := by rw [IntKind.wrap_i32]; omega
 by_cases a : nt ≤ c
 ·by_cases b : c ≤ nt + 9
  ·have hv : inS c nt = true := by simp [inS, a, b]
   rw [hv]
   go_enter Tryz.func221, Tryz.ntmps221
   go_wp2
   go_ret
   exact ⟨rfl, rfl⟩
  ·have hv : inS c nt = false := by simp [inS, b]
   rw [hv]
   go_enter Tryz.func221, Tryz.ntmps221
   go_wp2
   go_ret
   exact ⟨rfl, rfl⟩
 ·have hv : inS c nt = false := by simp [inS, a]
  rw [hv]
  go_enter Tryz.func221, Tryz.ntmps221
  go_wp2
  go_ret
  exact ⟨rfl, rfl⟩
def scr (c : Int) : Option Int := if inS c 48 then some 48 else if inS c 1632 then some 1632 else if inS c 65296 then some 65296 else none
theorem ix0 (w : World) : (Instr.index 299 (.agg #[.int .i32 48, .int .i32 1632, .int .i32 65296]) (.int .i64 0)).run Tryz.prog w = .ok (.int .i32 48) w := by kernel_rfl
theorem ix1 (w : World) : (Instr.index 299 (.agg #[.int .i32 48, .int .i32 1632, .int .i32 65296]) (.int .i64 1)).run Tryz.prog w = .ok (.int .i32 1632) w := by kernel_rfl
theorem ix2 (w : World) : (Instr.index 299 (.agg #[.int .i32 48, .int .i32 1632, .int .i32 65296]) (.int .i64 2)).run Tryz.prog w = .ok (.int .i32 65296) w := by kernel_rfl
def Nog (w : World) : Prop := w.cell? ⟨3, 0, none⟩ = some (.int .i32 48) ∧ w.cell? ⟨3, 1, none⟩ = some (.int .i32 1632) ∧ w.cell? ⟨3, 2, none⟩ = some (.int .i32 65296)
theorem Nog.frame {w w' : World} (h : Nog w) (ho : Only (fun _ => False) w w') : Nog w' := ⟨ho.cell h.1 (fun g => g), ho.cell h.2.1 (fun g => g), ho.cell h.2.2 (fun g => g)⟩
def scrV (o : Option Int) : Value := match o with
 | some nt => .tuple #[.int .i32 nt, .bool true]
 | none => .tuple #[.int .i32 0, .bool false]
set_option maxRecDepth 100000 in
set_option maxHeartbeats 1000000 in
theorem script_any (c : Int) (w : World) (h : Nog w) :
  Calls Tryz.prog 220 #[.int .i32 c] w fun e w' => e = .returned (scrV (scr c)) ∧ w' = w := by
 obtain ⟨g0, g1, g2⟩ := h
 have H48 : Hid (Calls Tryz.prog 221 #[.int .i32 c, .int .i32 48] w fun e w' => e = .returned (.bool (inS c 48)) ∧ w' = w) := inscript_any c 48 w (by omega) (by omega)
 have H16 : Hid (Calls Tryz.prog 221 #[.int .i32 c, .int .i32 1632] w fun e w' => e = .returned (.bool (inS c 1632)) ∧ w' = w) := inscript_any c 1632 w (by omega) (by omega)
 have H65 : Hid (Calls Tryz.prog 221 #[.int .i32 c, .int .i32 65296] w fun e w' => e = .returned (.bool (inS c 65296)) ∧ w' = w) := inscript_any c 65296 w (by omega) (by omega)
 have HS : Hid (scr c = if inS c 48 then some 48 else if inS c 1632 then some 1632 else if inS c 65296 then some 65296 else none) := rfl
 obtain ⟨Y, hY⟩ : ∃ Y, Y = scr c := ⟨_, rfl⟩
 rw [← hY] at HS ⊢
 obtain ⟨b1, hb1⟩ : ∃ b, b = inS c 48 := ⟨_, rfl⟩
 obtain ⟨b2, hb2⟩ : ∃ b, b = inS c 1632 := ⟨_, rfl⟩
 obtain ⟨b3, hb3⟩ : ∃ b, b = inS c 65296 := ⟨_, rfl⟩
 rw [← hb1] at H48 HS
 rw [← hb2] at H16 HS
 rw [← hb3] at H65 HS
 clear hY hb1 hb2 hb3
 have i0 := ix0 w
 have i1 := ix1 w
 have i2 := ix2 w
 go_enter Tryz.func220, Tryz.ntmps220
 go_wp2
 go_loopw [7] (fun t wr => ∃ r : Int, t = .int .i64 r ∧ (r = 0 ∨ (r = 1 ∧ b1 = false) ∨ (r = 2 ∧ b1 = false ∧ b2 = false) ∨ (r = 3 ∧ b1 = false ∧ b2 = false ∧ b3 = false)) ∧ w = wr) (fun t _ => 3 - (intOf t).toNat)
 case atStart => exact ⟨0, rfl, .inl rfl, rfl⟩
 case round =>
  obtain ⟨r, rfl, hr, rfl⟩ := hrel
  rcases hr with rfl | ⟨rfl, rfl⟩ | ⟨rfl, rfl, rfl⟩ | ⟨rfl, rfl, rfl, rfl⟩
  ·cases b1 with
   | true =>
     go_wp2_with (go_at_call 221; refine (show Calls Tryz.prog 221 _ _ _ from H48.out).mono ?_; rintro e wz ⟨rfl, rfl⟩)
     go_ret2
     exact ⟨by rw [HS.out]; rfl, rfl⟩
   | false =>
     go_wp2_with (go_at_call 221; refine (show Calls Tryz.prog 221 _ _ _ from H48.out).mono ?_; rintro e wz ⟨rfl, rfl⟩)
     go_roundw
     case rel => exact ⟨1, rfl, by simp, by first | trivial | rfl⟩
     case measure => simp [intOf]
  ·cases b2 with
   | true =>
     go_wp2_with (go_at_call 221; refine (show Calls Tryz.prog 221 _ _ _ from H16.out).mono ?_; rintro e wz ⟨rfl, rfl⟩)
     go_ret2
     exact ⟨by rw [HS.out]; rfl, rfl⟩
   | false =>
     go_wp2_with (go_at_call 221; refine (show Calls Tryz.prog 221 _ _ _ from H16.out).mono ?_; rintro e wz ⟨rfl, rfl⟩)
     go_roundw
     case rel => exact ⟨2, rfl, by simp, by first | trivial | rfl⟩
     case measure => simp [intOf]
  ·cases b3 with
   | true =>
     go_wp2_with (go_at_call 221; refine (show Calls Tryz.prog 221 _ _ _ from H65.out).mono ?_; rintro e wz ⟨rfl, rfl⟩)
     go_ret2
     exact ⟨by rw [HS.out]; rfl, rfl⟩
   | false =>
     go_wp2_with (go_at_call 221; refine (show Calls Tryz.prog 221 _ _ _ from H65.out).mono ?_; rintro e wz ⟨rfl, rfl⟩)
     go_roundw
     case rel => exact ⟨3, rfl, by simp, by first | trivial | rfl⟩
     case measure => simp [intOf]
  ·go_wp2
   go_ret2
   exact ⟨by rw [HS.out]; rfl, rfl⟩
end Go.Proofs.YtbbeoobihdldcaaGreatDoor
namespace Go.Proofs.YtbbeoobihdldcaaGreatDoor
open Go.RowKit
set_option linter.unusedSimpArgs false
set_option linter.unusedVariables false
def crs (s : ByteArray) : Nat → Nat → List (Nat × Nat)
 | 0, _ => []
 | b + 1, pos => if pos < s.size then (pos, (Utf8.decode s pos).1) :: crs s b (pos + (Utf8.decode s pos).2) else []
def chs (s : ByteArray) : List (Nat × Nat) := crs s s.size 0
def rns (s : ByteArray) : List Nat := (chs s).map (·.2)
theorem wid_pos (s : ByteArray) (pos : Nat) (h : pos < s.size) : 1 ≤ (Utf8.decode s pos).2 := by
 by_cases ha : (s[pos]'h).toNat < 128
 ·rw [decode_ascii s pos h ha]
  exact Nat.le_refl _
 ·exact (decode_high s pos h (by omega)).2
theorem crs_end {s : ByteArray} {b pos : Nat} (h : ¬ pos < s.size) : crs s b pos = [] := by
 cases b with
 | zero => rfl
 | succ b => simp [crs, h]
theorem crs_go {s : ByteArray} {b pos : Nat} (h : pos < s.size) (hb : s.size ≤ pos + b) : ∃ b', b = b' + 1 ∧ crs s b pos = (pos, (Utf8.decode s pos).1) :: crs s b' (pos + (Utf8.decode s pos).2) := by
 cases b with
 | zero => omega
 | succ b => exact ⟨b, rfl, by simp [crs, h]⟩
theorem Only.iter {bs : Nat → Prop} {a w : World} (h : Only bs a w) (s : ByteArray) (pos : Nat) : Only bs a (w.iter s pos) := h.alloc _
def dig (n : Nat) (c : Nat) (nt : Int) : Nat := if n ≤ 1152921504606846976 then n * 10 + ((c : Int) - nt).toNat else n
def natL : List Nat → Int → Bool → Nat → Nat × Bool
 | [], _, ok, n => (n, ok)
 | c :: l, nt, true, n => if inS c nt then natL l nt true (dig n c nt) else (0, false)
 | c :: l, nt, false, n => match scr c with
   | none => (0, false)
   | some nt' => natL l nt' true (dig n c nt')
theorem scr_some {c nt : Int} (h : scr c = some nt) : inS c nt = true ∧ 48 ≤ nt ∧ nt ≤ 65296 := by
 unfold scr at h
 split at h
 ·cases h; exact ⟨‹_›, by omega, by omega⟩
 ·split at h
  ·cases h; exact ⟨‹_›, by omega, by omega⟩
  ·split at h
   ·cases h; exact ⟨‹_›, by omega, by omega⟩
   ·cases h
theorem dig_le {n c : Nat} {nt : Int} (hn : n ≤ 11529215046068469769) (h : inS c nt = true) : dig n c nt ≤ 11529215046068469769 := by
 simp only [inS, decide_eq_true_eq] at h
 unfold dig
 split <;> omega
set_option maxRecDepth 100000 in
set_option maxHeartbeats 2000000 in
theorem natural_any (s : ByteArray) (w : World) (h : Nog w) :
  Calls Tryz.prog 210 #[.string s] w fun e w' => e = .returned (.tuple #[.int .u64 ((natL (rns s) 0 false 0).1 : Nat), .bool (natL (rns s) 0 false 0).2]) ∧ Only (fun _ => False) w w' := by
 have HSc : Hid (∀ w1 c, Only (fun _ => False) w w1 → Calls Tryz.prog 220 #[.int .i32 c] w1 fun e w' => e = .returned (scrV (scr c)) ∧ w' = w1) := fun w1 c ho => script_any c w1 (h.frame ho)
 have HIn : Hid (∀ w1 c nt, -2147483648 ≤ nt → nt ≤ 2147483638 → Calls Tryz.prog 221 #[.int .i32 c, .int .i32 nt] w1 fun e w' => e = .returned (.bool (inS c nt)) ∧ w' = w1) := fun w1 c nt h1 h2 => inscript_any c nt w1 h1 h2
 obtain ⟨Z, hZ⟩ : ∃ Z, Z = natL (rns s) 0 false 0 := ⟨_, rfl⟩
 have HZ : Hid (Z = natL ((crs s s.size 0).map (·.2)) 0 false 0) := hZ
 rw [← hZ]
 clear hZ h
 go_enter Tryz.func210, Tryz.ntmps210
 go_wp2
 go_loopw [2, 3, 4] (fun n ok nt w' => ∃ (m pos b : Nat) (k : Bool) (t : Int), w' = w.iter s pos ∧ n = .int .u64 (m : Nat) ∧ ok = .bool k ∧ nt = .int .i32 t ∧ Hid (Z = natL ((crs s b pos).map (·.2)) t k m ∧ s.size ≤ pos + b ∧ m ≤ 11529215046068469769 ∧ 0 ≤ t ∧ t ≤ 65296)) (fun _ _ _ w' => s.size - w'.iterPos w.heap.size)
 case atStart => exact ⟨0, 0, s.size, false, 0, rfl, rfl, rfl, rfl, HZ.out, by omega, by omega, by omega, by omega⟩
 case round =>
  obtain ⟨m, pos, b, k, t, rfl, rfl, rfl, rfl, HI⟩ := hrel
  clear HZ
  by_cases hp : pos < s.size
  ·have hnx : ∀ ty, (Instr.next (.pointer (some ⟨w.heap.size, 0, none⟩)) true ty).run Tryz.prog (w.iter s pos) = _ := fun ty => run_next_any w s pos ty hp
   have hwd := wid_pos s pos hp
   obtain ⟨b', hb', hcr⟩ := crs_go hp HI.out.2.1
   have hdl := decode_le s pos
   obtain ⟨c, hc⟩ : ∃ c, c = (Utf8.decode s pos).1 := ⟨_, rfl⟩
   obtain ⟨wd, hw⟩ : ∃ c, c = (Utf8.decode s pos).2 := ⟨_, rfl⟩
   rw [← hc, ← hw] at hnx hcr
   rw [← hc] at hdl
   rw [← hw] at hwd
   have hm := HI.out.2.2.1
   have ht0 := HI.out.2.2.2.1
   have ht1 := HI.out.2.2.2.2
   have HZ2 : Hid (Z = natL (c :: (crs s b' (pos + wd)).map (·.2)) t k m ∧ s.size ≤ pos + wd + b') := ⟨by rw [HI.out.1, hcr]; rfl, by have := HI.out.2.1; omega⟩
   clear HI hc hw hcr hb'
   have OI : Hid (Only (fun _ => False) w (w.iter s (pos + wd))) := (Only.refl _ w).iter s _
   cases k with
   | true =>
     have HI1 : Hid (Calls Tryz.prog 221 #[.int .i32 (c : Nat), .int .i32 t] (w.iter s (pos + wd)) fun e w' => e = .returned (.bool (inS c t)) ∧ w' = w.iter s (pos + wd)) := HIn.out _ _ _ (by omega) (by omega)
     cases hin : inS c t with
     | true =>
       rw [hin] at HI1
       have hin2 := hin
       simp only [inS, decide_eq_true_eq] at hin2
       obtain ⟨j1, j2⟩ := hin2
       have HN : Hid (Z = natL ((crs s b' (pos + wd)).map (·.2)) t true (dig m c t) ∧ s.size ≤ pos + wd + b' ∧ dig m c t ≤ 11529215046068469769 ∧ 0 ≤ t ∧ t ≤ 65296) := ⟨by rw [HZ2.out.1, natL, if_pos hin], HZ2.out.2, dig_le hm hin, ht0, ht1⟩
       clear hin HZ2
       by_cases hbig : m ≤ 1152921504606846976
       ·have i1 : (m : Int) ≤ 1152921504606846976 := by omega
        have e1 : IntKind.u64.wrap ((m : Int) * 10) = ((m * 10 : Nat) : Int) := by rw [IntKind.wrap_u64]; omega
        have e2 : IntKind.i32.wrap ((c : Int) - t) = (c : Int) - t := by rw [IntKind.wrap_i32]; omega
        have e3 : IntKind.u64.wrap ((c : Int) - t) = (c : Int) - t := by rw [IntKind.wrap_u64]; omega
        have e4 : IntKind.u64.wrap (((m * 10 : Nat) : Int) + ((c : Int) - t)) = ((dig m c t : Nat) : Int) := by
         unfold dig
         rw [if_pos hbig, IntKind.wrap_u64]
         omega
        go_wp2_with (go_at_call 221; refine (show Calls Tryz.prog 221 _ _ _ from HI1.out).mono ?_; rintro e wz ⟨rfl, rfl⟩)
        go_roundw
        case rel => exact ⟨dig m c t, pos + wd, b', true, t, rfl, congrArg (Value.int .u64) (by unfold dig; rw [if_pos hbig]; omega), rfl, rfl, HN.out⟩
        case measure => simp; omega
       ·have i1 : ¬ (m : Int) ≤ 1152921504606846976 := by omega
        have e4 : dig m c t = m := if_neg hbig
        rw [e4] at HN
        go_wp2_with (go_at_call 221; refine (show Calls Tryz.prog 221 _ _ _ from HI1.out).mono ?_; rintro e wz ⟨rfl, rfl⟩)
        go_roundw
        case rel => exact ⟨m, pos + wd, b', true, t, rfl, rfl, rfl, rfl, HN.out⟩
        case measure => simp; omega
     | false =>
       rw [hin] at HI1
       have HE : Hid (Z = (0, false)) := by rw [HZ2.out.1, natL, if_neg (by simp [hin])]; rfl
       clear hin HZ2
       go_wp2_with (go_at_call 221; refine (show Calls Tryz.prog 221 _ _ _ from HI1.out).mono ?_; rintro e wz ⟨rfl, rfl⟩)
       go_ret2
       have hz : Z = (0, false) := HE.out
       subst hz
       exact ⟨rfl, OI.out⟩
   | false =>
     have HS1 : Hid (Calls Tryz.prog 220 #[.int .i32 (c : Nat)] (w.iter s (pos + wd)) fun e w' => e = .returned (scrV (scr c)) ∧ w' = w.iter s (pos + wd)) := HSc.out _ _ OI.out
     cases hsc : scr c with
     | none =>
       rw [hsc] at HS1
       simp only [scrV] at HS1
       have HE : Hid (Z = (0, false)) := by rw [HZ2.out.1, natL, hsc]; rfl
       clear hsc HZ2
       go_wp2_with (go_at_call 220; refine (show Calls Tryz.prog 220 _ _ _ from HS1.out).mono ?_; rintro e wz ⟨rfl, rfl⟩)
       go_ret2
       have hz : Z = (0, false) := HE.out
       subst hz
       exact ⟨rfl, OI.out⟩
     | some nt =>
       rw [hsc] at HS1
       simp only [scrV] at HS1
       obtain ⟨hin, q1, q2⟩ := scr_some hsc
       have HI1 : Hid (Calls Tryz.prog 221 #[.int .i32 (c : Nat), .int .i32 nt] (w.iter s (pos + wd)) fun e w' => e = .returned (.bool (inS c nt)) ∧ w' = w.iter s (pos + wd)) := HIn.out _ _ _ (by omega) (by omega)
       rw [hin] at HI1
       have hin2 := hin
       simp only [inS, decide_eq_true_eq] at hin2
       obtain ⟨j1, j2⟩ := hin2
       have HN : Hid (Z = natL ((crs s b' (pos + wd)).map (·.2)) nt true (dig m c nt) ∧ s.size ≤ pos + wd + b' ∧ dig m c nt ≤ 11529215046068469769 ∧ 0 ≤ nt ∧ nt ≤ 65296) := ⟨by rw [HZ2.out.1, natL, hsc], HZ2.out.2, dig_le hm hin, by omega, q2⟩
       clear hin hsc HZ2
       by_cases hbig : m ≤ 1152921504606846976
       ·have i1 : (m : Int) ≤ 1152921504606846976 := by omega
        have e1 : IntKind.u64.wrap ((m : Int) * 10) = ((m * 10 : Nat) : Int) := by rw [IntKind.wrap_u64]; omega
        have e2 : IntKind.i32.wrap ((c : Int) - nt) = (c : Int) - nt := by rw [IntKind.wrap_i32]; omega
        have e3 : IntKind.u64.wrap ((c : Int) - nt) = (c : Int) - nt := by rw [IntKind.wrap_u64]; omega
        have e4 : IntKind.u64.wrap (((m * 10 : Nat) : Int) + ((c : Int) - nt)) = ((dig m c nt : Nat) : Int) := by
         unfold dig
         rw [if_pos hbig, IntKind.wrap_u64]
         omega
        go_wp2_with (first | (go_at_call 220; refine (show Calls Tryz.prog 220 _ _ _ from HS1.out).mono ?_; rintro e wz ⟨rfl, rfl⟩) | (go_at_call 221; refine (show Calls Tryz.prog 221 _ _ _ from HI1.out).mono ?_; rintro e wz ⟨rfl, rfl⟩))
        go_roundw
        case rel => exact ⟨dig m c nt, pos + wd, b', true, nt, rfl, congrArg (Value.int .u64) (by unfold dig; rw [if_pos hbig]; omega), rfl, rfl, HN.out⟩
        case measure => simp; omega
       ·have i1 : ¬ (m : Int) ≤ 1152921504606846976 := by omega
        have e4 : dig m c nt = m := if_neg hbig
        rw [e4] at HN
        go_wp2_with (first | (go_at_call 220; refine (show Calls Tryz.prog 220 _ _ _ from HS1.out).mono ?_; rintro e wz ⟨rfl, rfl⟩) | (go_at_call 221; refine (show Calls Tryz.prog 221 _ _ _ from HI1.out).mono ?_; rintro e wz ⟨rfl, rfl⟩))
        go_roundw
        case rel => exact ⟨m, pos + wd, b', true, nt, rfl, rfl, rfl, rfl, HN.out⟩
        case measure => simp; omega
  ·have hnx : ∀ ty, (Instr.next (.pointer (some ⟨w.heap.size, 0, none⟩)) true ty).run Tryz.prog (w.iter s pos) = _ := fun ty => run_next_end w s pos ty hp
   have HE : Hid (Z = (m, k)) := by rw [HI.out.1, crs_end hp]; rfl
   clear HI
   go_wp2
   go_ret2
   have hz : Z = (m, k) := HE.out
   subst hz
   exact ⟨rfl, (Only.refl _ w).iter s pos⟩
end Go.Proofs.YtbbeoobihdldcaaGreatDoor
namespace Go.Proofs.YtbbeoobihdldcaaGreatDoor
open Go.RowKit
set_option linter.unusedSimpArgs false
set_option linter.unusedVariables false
def preB (s p : ByteArray) : Bool := decide (p.size ≤ s.size) && ((s.extract 0 p.size).toList == p.toList)
theorem preB_le {s p : ByteArray} (h : preB s p = true) : p.size ≤ s.size := by
 simp only [preB, Bool.and_eq_true, decide_eq_true_eq] at h
 exact h.1
set_option maxRecDepth 100000 in
set_option maxHeartbeats 1000000 in
theorem hasprefix_lite (s p : ByteArray) (w : World) : Calls Tryz.prog 216 #[.string s, .string p] w fun e w' => e = .returned (.bool (preB s p)) ∧ w' = w := by
 by_cases h : p.size ≤ s.size
 ·have h' : (p.size : Int) ≤ (s.size : Int) := by omega
  have hv : preB s p = ((s.extract 0 p.size).toList == p.toList) := by simp [preB, h]
  rw [hv]
  clear hv
  go_enter Tryz.func216, Tryz.ntmps216
  go_wp2
  go_ret
  exact ⟨rfl, rfl⟩
 ·have h' : ¬ (p.size : Int) ≤ (s.size : Int) := by omega
  have hv : preB s p = false := by simp [preB, h]
  rw [hv]
  clear hv
  go_enter Tryz.func216, Tryz.ntmps216
  go_wp2
  go_ret
  exact ⟨rfl, rfl⟩
set_option maxRecDepth 100000 in
theorem hasprefix_any (s p : ByteArray) (w : World) : Calls Tryz.prog 206 #[.string s, .string p] w fun e w' => e = .returned (.bool (preB s p)) ∧ w' = w := by
 have H := hasprefix_lite s p w
 go_enter Tryz.func206, Tryz.ntmps206
 go_wp2_with (go_at_call 216; refine H.mono ?_; rintro e wz ⟨rfl, rfl⟩)
 go_ret
 exact ⟨rfl, rfl⟩
def cutV (s p : ByteArray) : Value := if preB s p then .tuple #[.string (s.extract p.size s.size), .bool true] else .tuple #[.string s, .bool false]
set_option maxRecDepth 100000 in
set_option maxHeartbeats 1000000 in
theorem cutprefix_lite (s p : ByteArray) (w : World) : Calls Tryz.prog 225 #[.string s, .string p] w fun e w' => e = .returned (cutV s p) ∧ w' = w := by
 have H : Hid (Calls Tryz.prog 216 #[.string s, .string p] w fun e w' => e = .returned (.bool (preB s p)) ∧ w' = w) := hasprefix_lite s p w
 unfold cutV
 cases hb : preB s p with
 | true =>
   rw [hb] at H
   have hle := preB_le hb
   have h' : (p.size : Int) ≤ (s.size : Int) := by omega
   clear hb
   go_enter Tryz.func225, Tryz.ntmps225
   go_wp2_with (go_at_call 216; refine (show Calls Tryz.prog 216 _ _ _ from H.out).mono ?_; rintro e wz ⟨rfl, rfl⟩)
   go_ret2
   exact ⟨rfl, rfl⟩
 | false =>
   rw [hb] at H
   clear hb
   go_enter Tryz.func225, Tryz.ntmps225
   go_wp2_with (go_at_call 216; refine (show Calls Tryz.prog 216 _ _ _ from H.out).mono ?_; rintro e wz ⟨rfl, rfl⟩)
   go_ret2
   exact ⟨rfl, rfl⟩
set_option maxRecDepth 100000 in
theorem cutprefix_any (s p : ByteArray) (w : World) : Calls Tryz.prog 219 #[.string s, .string p] w fun e w' => e = .returned (cutV s p) ∧ w' = w := by
 have H : Hid (Calls Tryz.prog 225 #[.string s, .string p] w fun e w' => e = .returned (cutV s p) ∧ w' = w) := cutprefix_lite s p w
 unfold cutV at H ⊢
 cases hb : preB s p with
 | true =>
   rw [hb, if_pos rfl] at H
   clear hb
   go_enter Tryz.func219, Tryz.ntmps219
   go_wp2_with (go_at_call 225; refine (show Calls Tryz.prog 225 _ _ _ from H.out).mono ?_; rintro e wz ⟨rfl, rfl⟩)
   go_ret2
   exact ⟨rfl, rfl⟩
 | false =>
   rw [hb, if_neg (by simp)] at H
   clear hb
   go_enter Tryz.func219, Tryz.ntmps219
   go_wp2_with (go_at_call 225; refine (show Calls Tryz.prog 225 _ _ _ from H.out).mono ?_; rintro e wz ⟨rfl, rfl⟩)
   go_ret2
   exact ⟨rfl, rfl⟩
def hyB : ByteArray := ⟨#[45]⟩
def miB : ByteArray := ⟨#[226, 136, 146]⟩
def sgn (s : ByteArray) : ByteArray × Bool := if preB s hyB then (s.extract 1 s.size, true) else if preB s miB then (s.extract 3 s.size, true) else (s, false)
set_option maxRecDepth 100000 in
set_option maxHeartbeats 1000000 in
theorem unsigned_any (s : ByteArray) (w : World) : Calls Tryz.prog 209 #[.string s] w fun e w' => e = .returned (.tuple #[.string (sgn s).1, .bool (sgn s).2]) ∧ w' = w := by
 have H1 : Hid (Calls Tryz.prog 219 #[.string s, .string ⟨#[45]⟩] w fun e w' => e = .returned (cutV s hyB) ∧ w' = w) := cutprefix_any s hyB w
 have H2 : Hid (Calls Tryz.prog 219 #[.string s, .string ⟨#[226, 136, 146]⟩] w fun e w' => e = .returned (cutV s miB) ∧ w' = w) := cutprefix_any s miB w
 unfold cutV at H1 H2
 cases hb : preB s hyB with
 | true =>
   rw [hb, if_pos rfl] at H1
   have hs : sgn s = (s.extract 1 s.size, true) := by unfold sgn; rw [hb]; rfl
   have h1 : hyB.size = 1 := rfl
   rw [h1] at H1
   rw [hs]
   clear hs hb H2 h1
   go_enter Tryz.func209, Tryz.ntmps209
   go_wp2_with (go_at_call 219; refine (show Calls Tryz.prog 219 _ _ _ from H1.out).mono ?_; rintro e wz ⟨rfl, rfl⟩)
   go_ret2
   exact ⟨rfl, rfl⟩
 | false =>
   rw [hb, if_neg (by simp)] at H1
   cases hb2 : preB s miB with
   | true =>
     rw [hb2, if_pos rfl] at H2
     have hs : sgn s = (s.extract 3 s.size, true) := by unfold sgn; rw [hb, hb2]; rfl
     have h1 : miB.size = 3 := rfl
     rw [h1] at H2
     rw [hs]
     clear hs hb hb2 h1
     go_enter Tryz.func209, Tryz.ntmps209
     go_wp2_with fail
     refine (show Calls Tryz.prog 219 _ _ _ from H1.out).mono ?_
     rintro e wz ⟨rfl, rfl⟩
     clear H1
     go_wp2_with fail
     refine (show Calls Tryz.prog 219 _ _ _ from H2.out).mono ?_
     rintro e wz ⟨rfl, rfl⟩
     clear H2
     go_wp2
     go_ret2
     exact ⟨rfl, rfl⟩
   | false =>
     rw [hb2, if_neg (by simp)] at H2
     have hs : sgn s = (s, false) := by unfold sgn; rw [hb, hb2]; rfl
     rw [hs]
     clear hs hb hb2
     go_enter Tryz.func209, Tryz.ntmps209
     go_wp2_with fail
     refine (show Calls Tryz.prog 219 _ _ _ from H1.out).mono ?_
     rintro e wz ⟨rfl, rfl⟩
     clear H1
     go_wp2_with fail
     refine (show Calls Tryz.prog 219 _ _ _ from H2.out).mono ?_
     rintro e wz ⟨rfl, rfl⟩
     clear H2
     go_wp2
     go_ret2
     exact ⟨rfl, rfl⟩
def numR (s : ByteArray) : Int × Int :=
 if (natL (rns (sgn s).1) 0 false 0).2 = false then (0, 9)
 else if (sgn s).2 = true ∧ (natL (rns (sgn s).1) 0 false 0).1 ≤ 1152921504606846976 then (-((natL (rns (sgn s).1) 0 false 0).1 : Int), 0)
 else if (sgn s).2 = false ∧ (natL (rns (sgn s).1) 0 false 0).1 ≤ 1152921504606846975 then ((natL (rns (sgn s).1) 0 false 0).1, 0)
 else (0, 11)
set_option maxRecDepth 100000 in
set_option maxHeartbeats 1000000 in
theorem number_any (s : ByteArray) (w : World) (h : Nog w) : Calls Tryz.prog 200 #[.string s] w fun e w' => e = .returned (.tuple #[.int .i64 (numR s).1, .int .i64 (numR s).2]) ∧ Only (fun _ => False) w w' := by
 have H1 : Hid (Calls Tryz.prog 209 #[.string s] w fun e w' => e = .returned (.tuple #[.string (sgn s).1, .bool (sgn s).2]) ∧ w' = w) := unsigned_any s w
 have H2 : Hid (Calls Tryz.prog 210 #[.string (sgn s).1] w fun e w' => e = .returned (.tuple #[.int .u64 ((natL (rns (sgn s).1) 0 false 0).1 : Nat), .bool (natL (rns (sgn s).1) 0 false 0).2]) ∧ Only (fun _ => False) w w') := natural_any _ w h
 unfold numR
 obtain ⟨d, hd⟩ : ∃ d, d = (sgn s).1 := ⟨_, rfl⟩
 obtain ⟨b, hb⟩ : ∃ d, d = (sgn s).2 := ⟨_, rfl⟩
 rw [← hd] at H1 H2 ⊢
 rw [← hb] at H1 ⊢
 obtain ⟨n, hn⟩ : ∃ x, x = (natL (rns d) 0 false 0).1 := ⟨_, rfl⟩
 obtain ⟨k, hk⟩ : ∃ x, x = (natL (rns d) 0 false 0).2 := ⟨_, rfl⟩
 rw [← hn, ← hk] at H2 ⊢
 clear hd hb hn hk h
 cases k with
 | false =>
   simp only [if_true]
   go_enter Tryz.func200, Tryz.ntmps200
   go_wp2_with fail
   refine (show Calls Tryz.prog 209 _ _ _ from H1.out).mono ?_
   rintro e w1 ⟨rfl, rfl⟩
   clear H1
   go_wp2_with fail
   refine (show Calls Tryz.prog 210 _ _ _ from H2.out).mono ?_
   rintro e w2 ⟨rfl, ho⟩
   have HO : Hid (Only (fun _ => False) w1 w2) := ho
   clear H2 ho
   go_wp2
   go_ret2
   exact ⟨rfl, HO.out⟩
 | true =>
   cases b with
   | true =>
     by_cases hl : n ≤ 1152921504606846976
     ·have i1 : (n : Int) ≤ 1152921504606846976 := by omega
      have e1 : IntKind.i64.wrap (n : Int) = (n : Int) := by rw [IntKind.wrap_i64]; omega
      have e2 : IntKind.i64.wrap (-(n : Int)) = -(n : Int) := by rw [IntKind.wrap_i64]; omega
      simp only [hl, and_self, if_true, Bool.true_eq_false, if_false]
      go_enter Tryz.func200, Tryz.ntmps200
      go_wp2_with fail
      refine (show Calls Tryz.prog 209 _ _ _ from H1.out).mono ?_
      rintro e w1 ⟨rfl, rfl⟩
      clear H1
      go_wp2_with fail
      refine (show Calls Tryz.prog 210 _ _ _ from H2.out).mono ?_
      rintro e w2 ⟨rfl, ho⟩
      have HO : Hid (Only (fun _ => False) w1 w2) := ho
      clear H2 ho
      go_wp2
      go_ret2
      exact ⟨rfl, HO.out⟩
     ·have i1 : ¬ (n : Int) ≤ 1152921504606846976 := by omega
      simp only [hl, and_false, Bool.true_eq_false, if_false, false_and]
      go_enter Tryz.func200, Tryz.ntmps200
      go_wp2_with fail
      refine (show Calls Tryz.prog 209 _ _ _ from H1.out).mono ?_
      rintro e w1 ⟨rfl, rfl⟩
      clear H1
      go_wp2_with fail
      refine (show Calls Tryz.prog 210 _ _ _ from H2.out).mono ?_
      rintro e w2 ⟨rfl, ho⟩
      have HO : Hid (Only (fun _ => False) w1 w2) := ho
      clear H2 ho
      go_wp2
      go_ret2
      exact ⟨rfl, HO.out⟩
   | false =>
     by_cases hl : n ≤ 1152921504606846975
     ·have i1 : (n : Int) ≤ 1152921504606846975 := by omega
      have e1 : IntKind.i64.wrap (n : Int) = (n : Int) := by rw [IntKind.wrap_i64]; omega
      simp only [hl, and_self, if_true, Bool.false_eq_true, Bool.true_eq_false, false_and, if_false]
      go_enter Tryz.func200, Tryz.ntmps200
      go_wp2_with fail
      refine (show Calls Tryz.prog 209 _ _ _ from H1.out).mono ?_
      rintro e w1 ⟨rfl, rfl⟩
      clear H1
      go_wp2_with fail
      refine (show Calls Tryz.prog 210 _ _ _ from H2.out).mono ?_
      rintro e w2 ⟨rfl, ho⟩
      have HO : Hid (Only (fun _ => False) w1 w2) := ho
      clear H2 ho
      go_wp2
      go_ret2
      exact ⟨rfl, HO.out⟩
     ·have i1 : ¬ (n : Int) ≤ 1152921504606846975 := by omega
      simp only [hl, and_false, Bool.true_eq_false, Bool.false_eq_true, if_false, false_and]
      go_enter Tryz.func200, Tryz.ntmps200
      go_wp2_with fail
      refine (show Calls Tryz.prog 209 _ _ _ from H1.out).mono ?_
      rintro e w1 ⟨rfl, rfl⟩
      clear H1
      go_wp2_with fail
      refine (show Calls Tryz.prog 210 _ _ _ from H2.out).mono ?_
      rintro e w2 ⟨rfl, ho⟩
      have HO : Hid (Only (fun _ => False) w1 w2) := ho
      clear H2 ho
      go_wp2
      go_ret2
      exact ⟨rfl, HO.out⟩
end Go.Proofs.YtbbeoobihdldcaaGreatDoor
