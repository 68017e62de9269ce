import Derived.Test.YtenjollhlgjjdaaGreatDoorGaa
import Derived.Test.YtenjollhlgjjdaaGreatDoorGak
import Derived.Test.YtenjollhlgjjdaaGreatDoorGal
import Derived.Deep.RegionHeld3
import Derived.Test.YtenjollhlgjjdaaGreatDoorRows
import Derived.Laws.BitsLemmas
import Derived.WalkKit
import Derived.WalkSpells
import Derived.WalkLawsBesides
/-        -/
set_option linter.unusedSimpArgs false
set_option linter.unusedVariables false
set_option maxRecDepth 100000
set_option maxHeartbeats 40000000
namespace Go.Proofs.YtenjollhlgjjdaaGreatDoor
open Go.RowKit Go.Lib
def t7 : Vt := ⟨1, 7, ⟨#[]⟩, []⟩
theorem do7 : doR 1 [63] (fun _ l => .ok (lsR [0, 0] l)) [t7] = .ok [t7, t7] := by kernel_rfl
theorem sm7 : ∀ x ∈ [t7], ∃ e, SmT e x := fun x hx => by
 simp only [List.mem_cons, List.not_mem_nil, or_false] at hx
 subst hx
 exact ⟨1, Nat.zero_le _, Nat.zero_le _, ⟨(by decide : (-9223372036854775808 : Int) ≤ 1), (by decide : (1 : Int) ≤ 9223372036854775807)⟩, ⟨(by decide : (-9223372036854775808 : Int) ≤ 7), (by decide : (7 : Int) ≤ 9223372036854775807)⟩, fun x hx => by cases hx⟩
theorem awake12 (w : World) (hT : Ty w) : Cz 4 #[] w fun e w' => e = .returned (.bool true) ∧ Oz w w' := by
 have HD : Hid (∀ (W : World) (Q : Nat), Oz w W → W.cell? ⟨Q, 0, none⟩ = some (.iface 35 (.agg #[.int .i64 7])) → Cz 7 #[.string ⟨#[100, 117, 112]⟩, .slice (some ⟨Q, 0, none⟩) 1 1] W fun e w' => ∃ a c, e = .returned (.tuple #[.slice a 2 c, .int .i64 0]) ∧ Hid (Oz w w')) := fun W Q o hc => by
  have hl : PsAt W (fun b => b = Q) 1 false [t7] (some ⟨Q, 0, none⟩) := fun j x hx => by
   have hj : j = 0 := by have := (List.getElem?_eq_some_iff.1 hx).1; simp at this; exact this
   subst hj
   simp at hx
   subst hx
   exact ⟨Q, 0, _, rfl, rfl, hc, .inl ⟨rfl, rfl, rfl⟩⟩
  have := do_any (cap := 1) cDup.wt cDup.cy cDup.one cDup.few hl (fun b hb => by subst hb; exact World.block_lt_of_cell? W _ hc) sm7 (by simp) (hT.1.frame o)
  refine this.mono fun e w' g => ?_
  rw [show doR 1 pDup.ks pDup.cy [t7] = .ok [t7, t7] from do7] at g
  obtain ⟨a, c, he, g⟩ := g
  exact ⟨a, c, he, o.trans g.out.2.1 (fun _ _ g => g)⟩
 have HIs : Hid (∀ W, Oz w W → Cz 10 #[.string ⟨#[100, 117, 112]⟩] W fun e w' => e = .returned (.bool true) ∧ Oz W w') := fun W o => by
  have := is_any ⟨#[100, 117, 112]⟩ W (hT.2.frame o)
  rw [show isB ⟨#[100, 117, 112]⟩ = true by kernel_rfl] at this
  exact this
 have O0 : Hid (Oz w w) := Only.refl _ _
 clear hT
 go_enter Tryz.func4, Tryz.ntmps4
 go_wp2_with fail
 refine (show Cz 7 _ _ _ from HD.out _ _ (O0.out.alloc _) (by simp [go_sem])).mono ?_
 rintro e w1 ⟨a, c, rfl, o1⟩
 clear HD O0
 go_wp2_with fail
 refine (show Cz 10 _ _ _ from HIs.out _ o1.out).mono ?_
 rintro e w2 ⟨rfl, o2⟩
 have O2 : Hid (Oz w w2) := o1.out.trans o2 (fun _ _ g => g)
 clear o1 o2 HIs
 go_wp2
 go_ret
 exact ⟨rfl, O2.out⟩
def C3 (w : World) (g : Nat) (x y z : Vt) (lx ly lz : Value) : Prop := (w.cell? ⟨g, 0, none⟩ = some (.int .i64 x.k) ∧ w.cell? ⟨g, 1, none⟩ = some (.int .i64 x.n) ∧ w.cell? ⟨g, 2, none⟩ = some (.string x.s) ∧ w.cell? ⟨g, 3, none⟩ = some lx) ∧ (w.cell? ⟨g, 4, none⟩ = some (.int .i64 y.k) ∧ w.cell? ⟨g, 5, none⟩ = some (.int .i64 y.n) ∧ w.cell? ⟨g, 6, none⟩ = some (.string y.s) ∧ w.cell? ⟨g, 7, none⟩ = some ly) ∧ (w.cell? ⟨g, 8, none⟩ = some (.int .i64 z.k) ∧ w.cell? ⟨g, 9, none⟩ = some (.int .i64 z.n) ∧ w.cell? ⟨g, 10, none⟩ = some (.string z.s) ∧ w.cell? ⟨g, 11, none⟩ = some lz)
theorem C3.only {w w' : World} {g : Nat} {x y z : Vt} {lx ly lz : Value} (h : C3 w g x y z lx ly lz) (o : Oz w w') : C3 w' g x y z lx ly lz :=
 ⟨⟨o.cell h.1.1 (fun g => g), o.cell h.1.2.1 (fun g => g), o.cell h.1.2.2.1 (fun g => g), o.cell h.1.2.2.2 (fun g => g)⟩, ⟨o.cell h.2.1.1 (fun g => g), o.cell h.2.1.2.1 (fun g => g), o.cell h.2.1.2.2.1 (fun g => g), o.cell h.2.1.2.2.2 (fun g => g)⟩, o.cell h.2.2.1 (fun g => g), o.cell h.2.2.2.1 (fun g => g), o.cell h.2.2.2.2.1 (fun g => g), o.cell h.2.2.2.2.2 (fun g => g)⟩
def MyC (s : ByteArray) (ds : List Int) : Prop := ∀ (k n : Int) (t : ByteArray) (ao : Option Addr) (L c : Nat) (w : World), Cz 38 #[.string s, .agg #[.int .i64 k, .int .i64 n, .string t, .slice ao L c]] w fun e w' => e = .returned (.bool (ds.any (· == k))) ∧ Oz w w'
theorem may_of {s : ByteArray} {ds : List Int} (hl : s.size = ds.length) (h8 : ds.length ≤ 8) (hd : ∀ (j : Nat) (h : j < s.size), (((s[j]'h).toNat : Int) - 48) % 256 = ds.getD j 0) : MyC s ds := by
 intro k n t ao L c w
 have O0 : Hid (Oz w w) := Only.refl _ _
 obtain ⟨W0, hW0⟩ : ∃ W0, W0 = w.alloc (.cells #[.int .i64 k, .int .i64 n, .string t, .slice ao L c] 38) := ⟨_, rfl⟩
 have hb : W0.heap[w.heap.size]? = some (.cells #[.int .i64 k, .int .i64 n, .string t, .slice ao L c] 38) := by rw [hW0]; exact valloc_at _ _ _ rfl
 have HC : Hid (∀ W, Oz W0 W → W.cell? ⟨w.heap.size, 0, none⟩ = some (.int .i64 k)) := fun W o => o.cell (blk_cells hb 0) (fun g => g)
 have OW : Hid (∀ W, Oz W0 W → Oz w W) := fun W o => (by rw [hW0] at o; exact (O0.out.alloc _).trans o (fun _ _ g => g))
 obtain ⟨N, hN⟩ : ∃ N, N = s.size := ⟨_, rfl⟩
 have HL : Hid (N = s.size ∧ s.size = ds.length ∧ ds.length ≤ 8) := ⟨hN, hl, h8⟩
 have HD : Hid (∀ (j : Nat) (h : j < s.size), (((s[j]'h).toNat : Int) - 48) % 256 = ds.getD j 0) := hd
 obtain ⟨R, hR⟩ : ∃ R, R = ds.any (· == k) := ⟨_, rfl⟩
 have HI0 : Hid (Oz W0 W0 ∧ R = (ds.drop 0).any (· == k)) := ⟨Only.refl _ _, hR⟩
 rw [← hR]
 clear hR hd hl h8 hN
 clear hb O0
 go_enter Tryz.func38, Tryz.ntmps38
 go_wp2
 rw [← hW0]
 clear hW0
 go_loopw [5] (fun r wr => ∃ j : Nat, r = .int .i64 (j : Int) ∧ j ≤ N ∧ Hid (Oz W0 wr ∧ R = (ds.drop j).any (· == k))) (fun r _ => N - vuOf r)
 case atStart => exact ⟨0, rfl, Nat.zero_le _, HI0⟩
 case round =>
  obtain ⟨j, rfl, hj, HI⟩ := hrel
  obtain ⟨w5, hw5⟩ : ∃ w5, w5 = wr := ⟨_, rfl⟩
  rw [← hw5] at HI ⊢
  clear hw5 HI0
  have c0 := HC.out w5 HI.out.1
  have c1 : w5.drew.cell? ⟨w.heap.size, 0, none⟩ = some (.int .i64 k) := c0
  have hL := HL.out
  by_cases hjN : j < N
  ·have hjs : j < s.size := by omega
   obtain ⟨d, hdd⟩ : ∃ d, d = ds.getD j 0 := ⟨_, rfl⟩
   have hv : (((s[j]'hjs).toNat : Int) - 48) % 256 = d := (HD.out j hjs).trans hdd.symm
   have hdr : ds.drop j = d :: ds.drop (j + 1) := by
    rw [List.drop_eq_getElem_cons (show j < ds.length by omega), hdd, List.getD, List.getElem?_eq_getElem (show j < ds.length by omega)]
    rfl
   have i1 : (j : Int) < (s.size : Int) := by omega
   have i0 : (0 : Int) ≤ (j : Int) := by omega
   have i8 : j ≤ 8 := by omega
   by_cases hk : k = d
   ·have hR1 : R = true := by rw [HI.out.2, hdr, hk]; simp
    have HR : Hid (R = true) := hR1
    subst hk
    clear hL hdd hdr HL HD hR1
    go_wp2
    go_region
    go_wp2
    go_ret
    exact ⟨by rw [HR.out]; rfl, (OW.out _ HI.out.1).drew⟩
   ·have hk2 : ¬ d = k := fun h => hk h.symm
    have HI2 : Hid (Oz W0 w5 ∧ R = (ds.drop (j + 1)).any (· == k)) := ⟨HI.out.1, by
     rw [HI.out.2, hdr, List.any_cons, beq_false_of_ne hk2, Bool.false_or]⟩
    clear hL hdd hdr HD
    go_wp2
    go_region
    go_wp2
    go_roundw
    case rel => exact ⟨j + 1, by go_num, by omega, ⟨HI2.out.1.drew, HI2.out.2⟩⟩
    case measure => simp only [vuOf]; omega
  ·have HR : Hid (R = false) := by
    rw [HI.out.2, List.drop_eq_nil_of_le (by omega)]
    rfl
   have i1 : ¬ (j : Int) < (s.size : Int) := by omega
   clear hL HD
   go_wp2
   go_ret
   exact ⟨by rw [HR.out]; rfl, OW.out _ HI.out.1⟩
theorem may_1 : MyC ⟨#[49]⟩ [1] := may_of (by decide) (by decide) (fun j h => by
 have h9 : j = 0 := by
  have : j < 1 := h
  omega
 rcases h9 with rfl <;> rfl)
theorem may_2 : MyC ⟨#[50]⟩ [2] := may_of (by decide) (by decide) (fun j h => by
 have h9 : j = 0 := by
  have : j < 1 := h
  omega
 rcases h9 with rfl <;> rfl)
theorem may_3 : MyC ⟨#[51]⟩ [3] := may_of (by decide) (by decide) (fun j h => by
 have h9 : j = 0 := by
  have : j < 1 := h
  omega
 rcases h9 with rfl <;> rfl)
theorem may_4 : MyC ⟨#[52]⟩ [4] := may_of (by decide) (by decide) (fun j h => by
 have h9 : j = 0 := by
  have : j < 1 := h
  omega
 rcases h9 with rfl <;> rfl)
theorem may_5 : MyC ⟨#[53]⟩ [5] := may_of (by decide) (by decide) (fun j h => by
 have h9 : j = 0 := by
  have : j < 1 := h
  omega
 rcases h9 with rfl <;> rfl)
theorem may_24 : MyC ⟨#[50, 52]⟩ [2, 4] := may_of (by decide) (by decide) (fun j h => by
 have h9 : j = 0 ∨ j = 1 := by
  have : j < 2 := h
  omega
 rcases h9 with rfl | rfl <;> rfl)
theorem may_245 : MyC ⟨#[50, 52, 53]⟩ [2, 4, 5] := may_of (by decide) (by decide) (fun j h => by
 have h9 : j = 0 ∨ j = 1 ∨ j = 2 := by
  have : j < 3 := h
  omega
 rcases h9 with rfl | rfl | rfl <;> rfl)
theorem may_12345678 : MyC ⟨#[49, 50, 51, 52, 53, 54, 55, 56]⟩ [1, 2, 3, 4, 5, 6, 7, 8] := may_of (by decide) (by decide) (fun j h => by
 have h9 : j = 0 ∨ j = 1 ∨ j = 2 ∨ j = 3 ∨ j = 4 ∨ j = 5 ∨ j = 6 ∨ j = 7 := by
  have : j < 8 := h
  omega
 rcases h9 with rfl | rfl | rfl | rfl | rfl | rfl | rfl | rfl <;> rfl)
def KnC (name : ByteArray) (ls : List ByteArray) : Prop := ∀ w, Cz 37 #[.string name] w fun e w' => ∃ a, e = .returned (.slice a ls.length ls.length) ∧ Hid ((∀ (j : Nat) (s : ByteArray), ls[j]? = some s → ∃ g, a = some ⟨g, 0, none⟩ ∧ w'.cell? ⟨g, j, none⟩ = some (.string s)) ∧ Oz w w')
def KqC (name : ByteArray) (k : Int) : Prop := ∀ w, Cz 40 #[.string name] w fun e w' => e = .returned (.int .i64 k) ∧ Oz w w'
theorem gkn_0 : (KnC ⟨#[100, 117, 112]⟩ []) ∧ (KnC ⟨#[100, 114, 111, 112]⟩ []) ∧ (KnC ⟨#[115, 119, 97, 112]⟩ []) ∧ (KnC ⟨#[111, 118, 101, 114]⟩ []) ∧ (KnC ⟨#[114, 111, 116]⟩ []) ∧ (KnC ⟨#[110, 105, 112]⟩ []) ∧ (KnC ⟨#[116, 117, 99, 107]⟩ []) ∧ (KnC ⟨#[61]⟩ []) ∧ (KnC ⟨#[105, 110, 116, 63]⟩ []) ∧ (KnC ⟨#[115, 116, 114, 63]⟩ []) ∧ (KnC ⟨#[98, 111, 111, 108, 63]⟩ []) ∧ (KnC ⟨#[108, 105, 115, 116, 63]⟩ []) ∧ (KnC ⟨#[113, 117, 111, 116, 63]⟩ []) ∧ (KnC ⟨#[98, 111, 120, 63]⟩ []) ∧ (KnC ⟨#[119, 114, 97, 112]⟩ []) ∧ (KnC ⟨#[112, 97, 105, 114]⟩ []) ∧ (KnC ⟨#[62, 115, 116, 114]⟩ []) := by
 refine ⟨?_, ?_, ?_, ?_, ?_, ?_, ?_, ?_, ?_, ?_, ?_, ?_, ?_, ?_, ?_, ?_, ?_⟩
 all_goals
  intro w
  have O0 : Hid (Oz w w) := Only.refl _ _
  go_enter Tryz.func37, Tryz.ntmps37
  go_wp2
  go_ret
  exact ⟨none, rfl, fun j s h => by simp at h, O0.out⟩
theorem kn_0 : KnC ⟨#[100, 117, 112]⟩ [] := gkn_0.1
theorem kn_1 : KnC ⟨#[100, 114, 111, 112]⟩ [] := gkn_0.2.1
theorem kn_2 : KnC ⟨#[115, 119, 97, 112]⟩ [] := gkn_0.2.2.1
theorem kn_3 : KnC ⟨#[111, 118, 101, 114]⟩ [] := gkn_0.2.2.2.1
theorem kn_4 : KnC ⟨#[114, 111, 116]⟩ [] := gkn_0.2.2.2.2.1
theorem kn_5 : KnC ⟨#[110, 105, 112]⟩ [] := gkn_0.2.2.2.2.2.1
theorem kn_6 : KnC ⟨#[116, 117, 99, 107]⟩ [] := gkn_0.2.2.2.2.2.2.1
theorem gkn_7 : (KnC ⟨#[43]⟩ [⟨#[49]⟩, ⟨#[49]⟩]) ∧ (KnC ⟨#[45]⟩ [⟨#[49]⟩, ⟨#[49]⟩]) ∧ (KnC ⟨#[42]⟩ [⟨#[49]⟩, ⟨#[49]⟩]) ∧ (KnC ⟨#[47]⟩ [⟨#[49]⟩, ⟨#[49]⟩]) ∧ (KnC ⟨#[109, 111, 100]⟩ [⟨#[49]⟩, ⟨#[49]⟩]) ∧ (KnC ⟨#[109, 105, 110]⟩ [⟨#[49]⟩, ⟨#[49]⟩]) ∧ (KnC ⟨#[109, 97, 120]⟩ [⟨#[49]⟩, ⟨#[49]⟩]) ∧ (KnC ⟨#[60]⟩ [⟨#[49]⟩, ⟨#[49]⟩]) ∧ (KnC ⟨#[62]⟩ [⟨#[49]⟩, ⟨#[49]⟩]) ∧ (KnC ⟨#[97, 110, 100]⟩ [⟨#[51]⟩, ⟨#[51]⟩]) ∧ (KnC ⟨#[111, 114]⟩ [⟨#[51]⟩, ⟨#[51]⟩]) ∧ (KnC ⟨#[97, 112, 112, 101, 110, 100]⟩ [⟨#[50, 52, 53]⟩, ⟨#[50, 52, 53]⟩]) ∧ (KnC ⟨#[110, 116, 104]⟩ [⟨#[49]⟩, ⟨#[50, 52]⟩]) ∧ (KnC ⟨#[99, 117, 114, 114, 121]⟩ [⟨#[49, 50, 51, 52, 53, 54, 55, 56]⟩, ⟨#[53]⟩]) ∧ (KnC ⟨#[99, 111, 109, 112, 111, 115, 101]⟩ [⟨#[53]⟩, ⟨#[53]⟩]) := by
 refine ⟨?_, ?_, ?_, ?_, ?_, ?_, ?_, ?_, ?_, ?_, ?_, ?_, ?_, ?_, ?_⟩
 all_goals
  intro w
  have O0 : Hid (Oz w w) := Only.refl _ _
  go_enter Tryz.func37, Tryz.ntmps37
  go_wp2
  go_ret
  refine ⟨_, rfl, fun j s h => ⟨_, rfl, ?_⟩, O0.out.alloc _⟩
  have hj := (List.getElem?_eq_some_iff.1 h).1
  match j, hj with
  | 0, _ => simp at h; subst h; simp [go_sem]
  | 1, _ => simp at h; subst h; simp [go_sem]
theorem kn_7 : KnC ⟨#[43]⟩ [⟨#[49]⟩, ⟨#[49]⟩] := gkn_7.1
theorem kn_8 : KnC ⟨#[45]⟩ [⟨#[49]⟩, ⟨#[49]⟩] := gkn_7.2.1
theorem kn_9 : KnC ⟨#[42]⟩ [⟨#[49]⟩, ⟨#[49]⟩] := gkn_7.2.2.1
theorem kn_10 : KnC ⟨#[47]⟩ [⟨#[49]⟩, ⟨#[49]⟩] := gkn_7.2.2.2.1
theorem kn_11 : KnC ⟨#[109, 111, 100]⟩ [⟨#[49]⟩, ⟨#[49]⟩] := gkn_7.2.2.2.2.1
theorem gkn_12 : (KnC ⟨#[110, 101, 103]⟩ [⟨#[49]⟩]) ∧ (KnC ⟨#[97, 98, 115]⟩ [⟨#[49]⟩]) ∧ (KnC ⟨#[110, 111, 116]⟩ [⟨#[51]⟩]) ∧ (KnC ⟨#[108, 101, 110, 103, 116, 104]⟩ [⟨#[50, 52, 53]⟩]) ∧ (KnC ⟨#[117, 110, 112, 97, 105, 114]⟩ [⟨#[52]⟩]) ∧ (KnC ⟨#[114, 101, 118, 101, 114, 115, 101]⟩ [⟨#[50, 52]⟩]) ∧ (KnC ⟨#[62, 105, 110, 116]⟩ [⟨#[50]⟩]) := by
 refine ⟨?_, ?_, ?_, ?_, ?_, ?_, ?_⟩
 all_goals
  intro w
  have O0 : Hid (Oz w w) := Only.refl _ _
  go_enter Tryz.func37, Tryz.ntmps37
  go_wp2
  go_ret
  refine ⟨_, rfl, fun j s h => ⟨_, rfl, ?_⟩, O0.out.alloc _⟩
  have hj := (List.getElem?_eq_some_iff.1 h).1
  match j, hj with
  | 0, _ => simp at h; subst h; simp [go_sem]
theorem kn_12 : KnC ⟨#[110, 101, 103]⟩ [⟨#[49]⟩] := gkn_12.1
theorem kn_13 : KnC ⟨#[97, 98, 115]⟩ [⟨#[49]⟩] := gkn_12.2.1
theorem kn_14 : KnC ⟨#[109, 105, 110]⟩ [⟨#[49]⟩, ⟨#[49]⟩] := gkn_7.2.2.2.2.2.1
theorem kn_15 : KnC ⟨#[109, 97, 120]⟩ [⟨#[49]⟩, ⟨#[49]⟩] := gkn_7.2.2.2.2.2.2.1
theorem kn_16 : KnC ⟨#[60]⟩ [⟨#[49]⟩, ⟨#[49]⟩] := gkn_7.2.2.2.2.2.2.2.1
theorem kn_17 : KnC ⟨#[62]⟩ [⟨#[49]⟩, ⟨#[49]⟩] := gkn_7.2.2.2.2.2.2.2.2.1
theorem kn_18 : KnC ⟨#[61]⟩ [] := gkn_0.2.2.2.2.2.2.2.1
theorem kn_19 : KnC ⟨#[97, 110, 100]⟩ [⟨#[51]⟩, ⟨#[51]⟩] := gkn_7.2.2.2.2.2.2.2.2.2.1
theorem kn_20 : KnC ⟨#[111, 114]⟩ [⟨#[51]⟩, ⟨#[51]⟩] := gkn_7.2.2.2.2.2.2.2.2.2.2.1
theorem kn_21 : KnC ⟨#[110, 111, 116]⟩ [⟨#[51]⟩] := gkn_12.2.2.1
theorem kn_22 : KnC ⟨#[105, 110, 116, 63]⟩ [] := gkn_0.2.2.2.2.2.2.2.2.1
theorem kn_23 : KnC ⟨#[115, 116, 114, 63]⟩ [] := gkn_0.2.2.2.2.2.2.2.2.2.1
theorem kn_24 : KnC ⟨#[98, 111, 111, 108, 63]⟩ [] := gkn_0.2.2.2.2.2.2.2.2.2.2.1
theorem kn_25 : KnC ⟨#[108, 105, 115, 116, 63]⟩ [] := gkn_0.2.2.2.2.2.2.2.2.2.2.2.1
theorem kn_26 : KnC ⟨#[113, 117, 111, 116, 63]⟩ [] := gkn_0.2.2.2.2.2.2.2.2.2.2.2.2.1
theorem kn_27 : KnC ⟨#[98, 111, 120, 63]⟩ [] := gkn_0.2.2.2.2.2.2.2.2.2.2.2.2.2.1
theorem kn_28 : KnC ⟨#[108, 101, 110, 103, 116, 104]⟩ [⟨#[50, 52, 53]⟩] := gkn_12.2.2.2.1
theorem kn_29 : KnC ⟨#[97, 112, 112, 101, 110, 100]⟩ [⟨#[50, 52, 53]⟩, ⟨#[50, 52, 53]⟩] := gkn_7.2.2.2.2.2.2.2.2.2.2.2.1
theorem kn_30 : KnC ⟨#[110, 116, 104]⟩ [⟨#[49]⟩, ⟨#[50, 52]⟩] := gkn_7.2.2.2.2.2.2.2.2.2.2.2.2.1
theorem kn_31 : KnC ⟨#[115, 108, 105, 99, 101]⟩ [⟨#[49]⟩, ⟨#[49]⟩, ⟨#[50, 52]⟩] := by
 intro w
 have O0 : Hid (Oz w w) := Only.refl _ _
 go_enter Tryz.func37, Tryz.ntmps37
 go_wp2
 go_ret
 refine ⟨_, rfl, fun j s h => ⟨_, rfl, ?_⟩, O0.out.alloc _⟩
 have hj := (List.getElem?_eq_some_iff.1 h).1
 match j, hj with
 | 0, _ => simp at h; subst h; simp [go_sem]
 | 1, _ => simp at h; subst h; simp [go_sem]
 | 2, _ => simp at h; subst h; simp [go_sem]
theorem kn_32 : KnC ⟨#[119, 114, 97, 112]⟩ [] := gkn_0.2.2.2.2.2.2.2.2.2.2.2.2.2.2.1
theorem kn_33 : KnC ⟨#[112, 97, 105, 114]⟩ [] := gkn_0.2.2.2.2.2.2.2.2.2.2.2.2.2.2.2.1
theorem kn_34 : KnC ⟨#[117, 110, 112, 97, 105, 114]⟩ [⟨#[52]⟩] := gkn_12.2.2.2.2.1
theorem kn_35 : KnC ⟨#[114, 101, 118, 101, 114, 115, 101]⟩ [⟨#[50, 52]⟩] := gkn_12.2.2.2.2.2.1
theorem kn_36 : KnC ⟨#[99, 117, 114, 114, 121]⟩ [⟨#[49, 50, 51, 52, 53, 54, 55, 56]⟩, ⟨#[53]⟩] := gkn_7.2.2.2.2.2.2.2.2.2.2.2.2.2.1
theorem kn_37 : KnC ⟨#[99, 111, 109, 112, 111, 115, 101]⟩ [⟨#[53]⟩, ⟨#[53]⟩] := gkn_7.2.2.2.2.2.2.2.2.2.2.2.2.2.2
theorem kn_38 : KnC ⟨#[62, 115, 116, 114]⟩ [] := gkn_0.2.2.2.2.2.2.2.2.2.2.2.2.2.2.2.2
theorem kn_39 : KnC ⟨#[62, 105, 110, 116]⟩ [⟨#[50]⟩] := gkn_12.2.2.2.2.2.2
theorem kq_1 : KqC ⟨#[105, 110, 116, 63]⟩ 1 := by
 intro w
 have O0 : Hid (Oz w w) := Only.refl _ _
 obtain ⟨W0, hW0⟩ : ∃ W0, W0 = w.alloc (.cells #[.string ⟨#[]⟩, .string ⟨#[105, 110, 116, 63]⟩, .string ⟨#[115, 116, 114, 63]⟩, .string ⟨#[98, 111, 111, 108, 63]⟩, .string ⟨#[108, 105, 115, 116, 63]⟩, .string ⟨#[113, 117, 111, 116, 63]⟩, .string ⟨#[98, 111, 120, 63]⟩] 9) := ⟨_, rfl⟩
 have hb : W0.heap[w.heap.size]? = some (.cells #[.string ⟨#[]⟩, .string ⟨#[105, 110, 116, 63]⟩, .string ⟨#[115, 116, 114, 63]⟩, .string ⟨#[98, 111, 111, 108, 63]⟩, .string ⟨#[108, 105, 115, 116, 63]⟩, .string ⟨#[113, 117, 111, 116, 63]⟩, .string ⟨#[98, 111, 120, 63]⟩] 9) := by rw [hW0]; exact valloc_at _ _ _ rfl
 have c1 : W0.cell? ⟨w.heap.size, 1, none⟩ = some (.string ⟨#[105, 110, 116, 63]⟩) := blk_cells hb 1
 have c2 : W0.cell? ⟨w.heap.size, 2, none⟩ = some (.string ⟨#[115, 116, 114, 63]⟩) := blk_cells hb 2
 have c3 : W0.cell? ⟨w.heap.size, 3, none⟩ = some (.string ⟨#[98, 111, 111, 108, 63]⟩) := blk_cells hb 3
 have c4 : W0.cell? ⟨w.heap.size, 4, none⟩ = some (.string ⟨#[108, 105, 115, 116, 63]⟩) := blk_cells hb 4
 have c5 : W0.cell? ⟨w.heap.size, 5, none⟩ = some (.string ⟨#[113, 117, 111, 116, 63]⟩) := blk_cells hb 5
 have c6 : W0.cell? ⟨w.heap.size, 6, none⟩ = some (.string ⟨#[98, 111, 120, 63]⟩) := blk_cells hb 6
 have OW : Hid (Oz w W0) := by rw [hW0]; exact O0.out.alloc _
 clear hb O0
 go_enter Tryz.func40, Tryz.ntmps40
 go_wp2
 rw [← hW0]
 clear hW0
 go_loopw [4] (fun r wr => ∃ j : Nat, r = .int .i64 (j : Int) ∧ 1 ≤ j ∧ j ≤ 1 ∧ wr = W0) (fun r _ => 7 - vuOf r)
 case atStart => exact ⟨1, rfl, by omega, by omega, rfl⟩
 case round =>
  obtain ⟨j, rfl, hj1, hj7, rfl⟩ := hrel
  have hjj : j = 1 := by omega
  clear hj1 hj7
  rcases hjj with rfl
  ·go_wp2
   go_ret
   exact ⟨rfl, OW.out⟩
theorem kq_2 : KqC ⟨#[115, 116, 114, 63]⟩ 2 := by
 intro w
 have O0 : Hid (Oz w w) := Only.refl _ _
 obtain ⟨W0, hW0⟩ : ∃ W0, W0 = w.alloc (.cells #[.string ⟨#[]⟩, .string ⟨#[105, 110, 116, 63]⟩, .string ⟨#[115, 116, 114, 63]⟩, .string ⟨#[98, 111, 111, 108, 63]⟩, .string ⟨#[108, 105, 115, 116, 63]⟩, .string ⟨#[113, 117, 111, 116, 63]⟩, .string ⟨#[98, 111, 120, 63]⟩] 9) := ⟨_, rfl⟩
 have hb : W0.heap[w.heap.size]? = some (.cells #[.string ⟨#[]⟩, .string ⟨#[105, 110, 116, 63]⟩, .string ⟨#[115, 116, 114, 63]⟩, .string ⟨#[98, 111, 111, 108, 63]⟩, .string ⟨#[108, 105, 115, 116, 63]⟩, .string ⟨#[113, 117, 111, 116, 63]⟩, .string ⟨#[98, 111, 120, 63]⟩] 9) := by rw [hW0]; exact valloc_at _ _ _ rfl
 have c1 : W0.cell? ⟨w.heap.size, 1, none⟩ = some (.string ⟨#[105, 110, 116, 63]⟩) := blk_cells hb 1
 have c2 : W0.cell? ⟨w.heap.size, 2, none⟩ = some (.string ⟨#[115, 116, 114, 63]⟩) := blk_cells hb 2
 have c3 : W0.cell? ⟨w.heap.size, 3, none⟩ = some (.string ⟨#[98, 111, 111, 108, 63]⟩) := blk_cells hb 3
 have c4 : W0.cell? ⟨w.heap.size, 4, none⟩ = some (.string ⟨#[108, 105, 115, 116, 63]⟩) := blk_cells hb 4
 have c5 : W0.cell? ⟨w.heap.size, 5, none⟩ = some (.string ⟨#[113, 117, 111, 116, 63]⟩) := blk_cells hb 5
 have c6 : W0.cell? ⟨w.heap.size, 6, none⟩ = some (.string ⟨#[98, 111, 120, 63]⟩) := blk_cells hb 6
 have OW : Hid (Oz w W0) := by rw [hW0]; exact O0.out.alloc _
 clear hb O0
 go_enter Tryz.func40, Tryz.ntmps40
 go_wp2
 rw [← hW0]
 clear hW0
 go_loopw [4] (fun r wr => ∃ j : Nat, r = .int .i64 (j : Int) ∧ 1 ≤ j ∧ j ≤ 2 ∧ wr = W0) (fun r _ => 7 - vuOf r)
 case atStart => exact ⟨1, rfl, by omega, by omega, rfl⟩
 case round =>
  obtain ⟨j, rfl, hj1, hj7, rfl⟩ := hrel
  have hjj : j = 1 ∨ j = 2 := by omega
  clear hj1 hj7
  rcases hjj with rfl | rfl
  ·go_wp2
   go_roundw
   case rel => exact ⟨2, by go_num, by omega, by omega, trivial⟩
   case measure => simp only [vuOf]; omega
  ·go_wp2
   go_ret
   exact ⟨rfl, OW.out⟩
theorem kq_3 : KqC ⟨#[98, 111, 111, 108, 63]⟩ 3 := by
 intro w
 have O0 : Hid (Oz w w) := Only.refl _ _
 obtain ⟨W0, hW0⟩ : ∃ W0, W0 = w.alloc (.cells #[.string ⟨#[]⟩, .string ⟨#[105, 110, 116, 63]⟩, .string ⟨#[115, 116, 114, 63]⟩, .string ⟨#[98, 111, 111, 108, 63]⟩, .string ⟨#[108, 105, 115, 116, 63]⟩, .string ⟨#[113, 117, 111, 116, 63]⟩, .string ⟨#[98, 111, 120, 63]⟩] 9) := ⟨_, rfl⟩
 have hb : W0.heap[w.heap.size]? = some (.cells #[.string ⟨#[]⟩, .string ⟨#[105, 110, 116, 63]⟩, .string ⟨#[115, 116, 114, 63]⟩, .string ⟨#[98, 111, 111, 108, 63]⟩, .string ⟨#[108, 105, 115, 116, 63]⟩, .string ⟨#[113, 117, 111, 116, 63]⟩, .string ⟨#[98, 111, 120, 63]⟩] 9) := by rw [hW0]; exact valloc_at _ _ _ rfl
 have c1 : W0.cell? ⟨w.heap.size, 1, none⟩ = some (.string ⟨#[105, 110, 116, 63]⟩) := blk_cells hb 1
 have c2 : W0.cell? ⟨w.heap.size, 2, none⟩ = some (.string ⟨#[115, 116, 114, 63]⟩) := blk_cells hb 2
 have c3 : W0.cell? ⟨w.heap.size, 3, none⟩ = some (.string ⟨#[98, 111, 111, 108, 63]⟩) := blk_cells hb 3
 have c4 : W0.cell? ⟨w.heap.size, 4, none⟩ = some (.string ⟨#[108, 105, 115, 116, 63]⟩) := blk_cells hb 4
 have c5 : W0.cell? ⟨w.heap.size, 5, none⟩ = some (.string ⟨#[113, 117, 111, 116, 63]⟩) := blk_cells hb 5
 have c6 : W0.cell? ⟨w.heap.size, 6, none⟩ = some (.string ⟨#[98, 111, 120, 63]⟩) := blk_cells hb 6
 have OW : Hid (Oz w W0) := by rw [hW0]; exact O0.out.alloc _
 clear hb O0
 go_enter Tryz.func40, Tryz.ntmps40
 go_wp2
 rw [← hW0]
 clear hW0
 go_loopw [4] (fun r wr => ∃ j : Nat, r = .int .i64 (j : Int) ∧ 1 ≤ j ∧ j ≤ 3 ∧ wr = W0) (fun r _ => 7 - vuOf r)
 case atStart => exact ⟨1, rfl, by omega, by omega, rfl⟩
 case round =>
  obtain ⟨j, rfl, hj1, hj7, rfl⟩ := hrel
  have hjj : j = 1 ∨ j = 2 ∨ j = 3 := by omega
  clear hj1 hj7
  rcases hjj with rfl | rfl | rfl
  ·go_wp2
   go_roundw
   case rel => exact ⟨2, by go_num, by omega, by omega, trivial⟩
   case measure => simp only [vuOf]; omega
  ·go_wp2
   go_roundw
   case rel => exact ⟨3, by go_num, by omega, by omega, trivial⟩
   case measure => simp only [vuOf]; omega
  ·go_wp2
   go_ret
   exact ⟨rfl, OW.out⟩
theorem kq_4 : KqC ⟨#[108, 105, 115, 116, 63]⟩ 4 := by
 intro w
 have O0 : Hid (Oz w w) := Only.refl _ _
 obtain ⟨W0, hW0⟩ : ∃ W0, W0 = w.alloc (.cells #[.string ⟨#[]⟩, .string ⟨#[105, 110, 116, 63]⟩, .string ⟨#[115, 116, 114, 63]⟩, .string ⟨#[98, 111, 111, 108, 63]⟩, .string ⟨#[108, 105, 115, 116, 63]⟩, .string ⟨#[113, 117, 111, 116, 63]⟩, .string ⟨#[98, 111, 120, 63]⟩] 9) := ⟨_, rfl⟩
 have hb : W0.heap[w.heap.size]? = some (.cells #[.string ⟨#[]⟩, .string ⟨#[105, 110, 116, 63]⟩, .string ⟨#[115, 116, 114, 63]⟩, .string ⟨#[98, 111, 111, 108, 63]⟩, .string ⟨#[108, 105, 115, 116, 63]⟩, .string ⟨#[113, 117, 111, 116, 63]⟩, .string ⟨#[98, 111, 120, 63]⟩] 9) := by rw [hW0]; exact valloc_at _ _ _ rfl
 have c1 : W0.cell? ⟨w.heap.size, 1, none⟩ = some (.string ⟨#[105, 110, 116, 63]⟩) := blk_cells hb 1
 have c2 : W0.cell? ⟨w.heap.size, 2, none⟩ = some (.string ⟨#[115, 116, 114, 63]⟩) := blk_cells hb 2
 have c3 : W0.cell? ⟨w.heap.size, 3, none⟩ = some (.string ⟨#[98, 111, 111, 108, 63]⟩) := blk_cells hb 3
 have c4 : W0.cell? ⟨w.heap.size, 4, none⟩ = some (.string ⟨#[108, 105, 115, 116, 63]⟩) := blk_cells hb 4
 have c5 : W0.cell? ⟨w.heap.size, 5, none⟩ = some (.string ⟨#[113, 117, 111, 116, 63]⟩) := blk_cells hb 5
 have c6 : W0.cell? ⟨w.heap.size, 6, none⟩ = some (.string ⟨#[98, 111, 120, 63]⟩) := blk_cells hb 6
 have OW : Hid (Oz w W0) := by rw [hW0]; exact O0.out.alloc _
 clear hb O0
 go_enter Tryz.func40, Tryz.ntmps40
 go_wp2
 rw [← hW0]
 clear hW0
 go_loopw [4] (fun r wr => ∃ j : Nat, r = .int .i64 (j : Int) ∧ 1 ≤ j ∧ j ≤ 4 ∧ wr = W0) (fun r _ => 7 - vuOf r)
 case atStart => exact ⟨1, rfl, by omega, by omega, rfl⟩
 case round =>
  obtain ⟨j, rfl, hj1, hj7, rfl⟩ := hrel
  have hjj : j = 1 ∨ j = 2 ∨ j = 3 ∨ j = 4 := by omega
  clear hj1 hj7
  rcases hjj with rfl | rfl | rfl | rfl
  ·go_wp2
   go_roundw
   case rel => exact ⟨2, by go_num, by omega, by omega, trivial⟩
   case measure => simp only [vuOf]; omega
  ·go_wp2
   go_roundw
   case rel => exact ⟨3, by go_num, by omega, by omega, trivial⟩
   case measure => simp only [vuOf]; omega
  ·go_wp2
   go_roundw
   case rel => exact ⟨4, by go_num, by omega, by omega, trivial⟩
   case measure => simp only [vuOf]; omega
  ·go_wp2
   go_ret
   exact ⟨rfl, OW.out⟩
theorem kq_5 : KqC ⟨#[113, 117, 111, 116, 63]⟩ 5 := by
 intro w
 have O0 : Hid (Oz w w) := Only.refl _ _
 obtain ⟨W0, hW0⟩ : ∃ W0, W0 = w.alloc (.cells #[.string ⟨#[]⟩, .string ⟨#[105, 110, 116, 63]⟩, .string ⟨#[115, 116, 114, 63]⟩, .string ⟨#[98, 111, 111, 108, 63]⟩, .string ⟨#[108, 105, 115, 116, 63]⟩, .string ⟨#[113, 117, 111, 116, 63]⟩, .string ⟨#[98, 111, 120, 63]⟩] 9) := ⟨_, rfl⟩
 have hb : W0.heap[w.heap.size]? = some (.cells #[.string ⟨#[]⟩, .string ⟨#[105, 110, 116, 63]⟩, .string ⟨#[115, 116, 114, 63]⟩, .string ⟨#[98, 111, 111, 108, 63]⟩, .string ⟨#[108, 105, 115, 116, 63]⟩, .string ⟨#[113, 117, 111, 116, 63]⟩, .string ⟨#[98, 111, 120, 63]⟩] 9) := by rw [hW0]; exact valloc_at _ _ _ rfl
 have c1 : W0.cell? ⟨w.heap.size, 1, none⟩ = some (.string ⟨#[105, 110, 116, 63]⟩) := blk_cells hb 1
 have c2 : W0.cell? ⟨w.heap.size, 2, none⟩ = some (.string ⟨#[115, 116, 114, 63]⟩) := blk_cells hb 2
 have c3 : W0.cell? ⟨w.heap.size, 3, none⟩ = some (.string ⟨#[98, 111, 111, 108, 63]⟩) := blk_cells hb 3
 have c4 : W0.cell? ⟨w.heap.size, 4, none⟩ = some (.string ⟨#[108, 105, 115, 116, 63]⟩) := blk_cells hb 4
 have c5 : W0.cell? ⟨w.heap.size, 5, none⟩ = some (.string ⟨#[113, 117, 111, 116, 63]⟩) := blk_cells hb 5
 have c6 : W0.cell? ⟨w.heap.size, 6, none⟩ = some (.string ⟨#[98, 111, 120, 63]⟩) := blk_cells hb 6
 have OW : Hid (Oz w W0) := by rw [hW0]; exact O0.out.alloc _
 clear hb O0
 go_enter Tryz.func40, Tryz.ntmps40
 go_wp2
 rw [← hW0]
 clear hW0
 go_loopw [4] (fun r wr => ∃ j : Nat, r = .int .i64 (j : Int) ∧ 1 ≤ j ∧ j ≤ 5 ∧ wr = W0) (fun r _ => 7 - vuOf r)
 case atStart => exact ⟨1, rfl, by omega, by omega, rfl⟩
 case round =>
  obtain ⟨j, rfl, hj1, hj7, rfl⟩ := hrel
  have hjj : j = 1 ∨ j = 2 ∨ j = 3 ∨ j = 4 ∨ j = 5 := by omega
  clear hj1 hj7
  rcases hjj with rfl | rfl | rfl | rfl | rfl
  ·go_wp2
   go_roundw
   case rel => exact ⟨2, by go_num, by omega, by omega, trivial⟩
   case measure => simp only [vuOf]; omega
  ·go_wp2
   go_roundw
   case rel => exact ⟨3, by go_num, by omega, by omega, trivial⟩
   case measure => simp only [vuOf]; omega
  ·go_wp2
   go_roundw
   case rel => exact ⟨4, by go_num, by omega, by omega, trivial⟩
   case measure => simp only [vuOf]; omega
  ·go_wp2
   go_roundw
   case rel => exact ⟨5, by go_num, by omega, by omega, trivial⟩
   case measure => simp only [vuOf]; omega
  ·go_wp2
   go_ret
   exact ⟨rfl, OW.out⟩
theorem kq_6 : KqC ⟨#[98, 111, 120, 63]⟩ 6 := by
 intro w
 have O0 : Hid (Oz w w) := Only.refl _ _
 obtain ⟨W0, hW0⟩ : ∃ W0, W0 = w.alloc (.cells #[.string ⟨#[]⟩, .string ⟨#[105, 110, 116, 63]⟩, .string ⟨#[115, 116, 114, 63]⟩, .string ⟨#[98, 111, 111, 108, 63]⟩, .string ⟨#[108, 105, 115, 116, 63]⟩, .string ⟨#[113, 117, 111, 116, 63]⟩, .string ⟨#[98, 111, 120, 63]⟩] 9) := ⟨_, rfl⟩
 have hb : W0.heap[w.heap.size]? = some (.cells #[.string ⟨#[]⟩, .string ⟨#[105, 110, 116, 63]⟩, .string ⟨#[115, 116, 114, 63]⟩, .string ⟨#[98, 111, 111, 108, 63]⟩, .string ⟨#[108, 105, 115, 116, 63]⟩, .string ⟨#[113, 117, 111, 116, 63]⟩, .string ⟨#[98, 111, 120, 63]⟩] 9) := by rw [hW0]; exact valloc_at _ _ _ rfl
 have c1 : W0.cell? ⟨w.heap.size, 1, none⟩ = some (.string ⟨#[105, 110, 116, 63]⟩) := blk_cells hb 1
 have c2 : W0.cell? ⟨w.heap.size, 2, none⟩ = some (.string ⟨#[115, 116, 114, 63]⟩) := blk_cells hb 2
 have c3 : W0.cell? ⟨w.heap.size, 3, none⟩ = some (.string ⟨#[98, 111, 111, 108, 63]⟩) := blk_cells hb 3
 have c4 : W0.cell? ⟨w.heap.size, 4, none⟩ = some (.string ⟨#[108, 105, 115, 116, 63]⟩) := blk_cells hb 4
 have c5 : W0.cell? ⟨w.heap.size, 5, none⟩ = some (.string ⟨#[113, 117, 111, 116, 63]⟩) := blk_cells hb 5
 have c6 : W0.cell? ⟨w.heap.size, 6, none⟩ = some (.string ⟨#[98, 111, 120, 63]⟩) := blk_cells hb 6
 have OW : Hid (Oz w W0) := by rw [hW0]; exact O0.out.alloc _
 clear hb O0
 go_enter Tryz.func40, Tryz.ntmps40
 go_wp2
 rw [← hW0]
 clear hW0
 go_loopw [4] (fun r wr => ∃ j : Nat, r = .int .i64 (j : Int) ∧ 1 ≤ j ∧ j ≤ 6 ∧ wr = W0) (fun r _ => 7 - vuOf r)
 case atStart => exact ⟨1, rfl, by omega, by omega, rfl⟩
 case round =>
  obtain ⟨j, rfl, hj1, hj7, rfl⟩ := hrel
  have hjj : j = 1 ∨ j = 2 ∨ j = 3 ∨ j = 4 ∨ j = 5 ∨ j = 6 := by omega
  clear hj1 hj7
  rcases hjj with rfl | rfl | rfl | rfl | rfl | rfl
  ·go_wp2
   go_roundw
   case rel => exact ⟨2, by go_num, by omega, by omega, trivial⟩
   case measure => simp only [vuOf]; omega
  ·go_wp2
   go_roundw
   case rel => exact ⟨3, by go_num, by omega, by omega, trivial⟩
   case measure => simp only [vuOf]; omega
  ·go_wp2
   go_roundw
   case rel => exact ⟨4, by go_num, by omega, by omega, trivial⟩
   case measure => simp only [vuOf]; omega
  ·go_wp2
   go_roundw
   case rel => exact ⟨5, by go_num, by omega, by omega, trivial⟩
   case measure => simp only [vuOf]; omega
  ·go_wp2
   go_roundw
   case rel => exact ⟨6, by go_num, by omega, by omega, trivial⟩
   case measure => simp only [vuOf]; omega
  ·go_wp2
   go_ret
   exact ⟨rfl, OW.out⟩
theorem kq_no {s : ByteArray} (h1 : (s.toList == [105, 110, 116, 63]) = false) (h2 : (s.toList == [115, 116, 114, 63]) = false) (h3 : (s.toList == [98, 111, 111, 108, 63]) = false) (h4 : (s.toList == [108, 105, 115, 116, 63]) = false) (h5 : (s.toList == [113, 117, 111, 116, 63]) = false) (h6 : (s.toList == [98, 111, 120, 63]) = false) : KqC s 0 := by
 intro w
 have g1 : (([105, 110, 116, 63] : List UInt8) == s.toList) = false := by rw [BEq.comm]; exact h1
 have g2 : (([115, 116, 114, 63] : List UInt8) == s.toList) = false := by rw [BEq.comm]; exact h2
 have g3 : (([98, 111, 111, 108, 63] : List UInt8) == s.toList) = false := by rw [BEq.comm]; exact h3
 have g4 : (([108, 105, 115, 116, 63] : List UInt8) == s.toList) = false := by rw [BEq.comm]; exact h4
 have g5 : (([113, 117, 111, 116, 63] : List UInt8) == s.toList) = false := by rw [BEq.comm]; exact h5
 have g6 : (([98, 111, 120, 63] : List UInt8) == s.toList) = false := by rw [BEq.comm]; exact h6
 have O0 : Hid (Oz w w) := Only.refl _ _
 obtain ⟨W0, hW0⟩ : ∃ W0, W0 = w.alloc (.cells #[.string ⟨#[]⟩, .string ⟨#[105, 110, 116, 63]⟩, .string ⟨#[115, 116, 114, 63]⟩, .string ⟨#[98, 111, 111, 108, 63]⟩, .string ⟨#[108, 105, 115, 116, 63]⟩, .string ⟨#[113, 117, 111, 116, 63]⟩, .string ⟨#[98, 111, 120, 63]⟩] 9) := ⟨_, rfl⟩
 have hb : W0.heap[w.heap.size]? = some (.cells #[.string ⟨#[]⟩, .string ⟨#[105, 110, 116, 63]⟩, .string ⟨#[115, 116, 114, 63]⟩, .string ⟨#[98, 111, 111, 108, 63]⟩, .string ⟨#[108, 105, 115, 116, 63]⟩, .string ⟨#[113, 117, 111, 116, 63]⟩, .string ⟨#[98, 111, 120, 63]⟩] 9) := by rw [hW0]; exact valloc_at _ _ _ rfl
 have c1 : W0.cell? ⟨w.heap.size, 1, none⟩ = some (.string ⟨#[105, 110, 116, 63]⟩) := blk_cells hb 1
 have c2 : W0.cell? ⟨w.heap.size, 2, none⟩ = some (.string ⟨#[115, 116, 114, 63]⟩) := blk_cells hb 2
 have c3 : W0.cell? ⟨w.heap.size, 3, none⟩ = some (.string ⟨#[98, 111, 111, 108, 63]⟩) := blk_cells hb 3
 have c4 : W0.cell? ⟨w.heap.size, 4, none⟩ = some (.string ⟨#[108, 105, 115, 116, 63]⟩) := blk_cells hb 4
 have c5 : W0.cell? ⟨w.heap.size, 5, none⟩ = some (.string ⟨#[113, 117, 111, 116, 63]⟩) := blk_cells hb 5
 have c6 : W0.cell? ⟨w.heap.size, 6, none⟩ = some (.string ⟨#[98, 111, 120, 63]⟩) := blk_cells hb 6
 have OW : Hid (Oz w W0) := by rw [hW0]; exact O0.out.alloc _
 clear hb O0
 go_enter Tryz.func40, Tryz.ntmps40
 go_wp2
 rw [← hW0]
 clear hW0
 go_loopw [4] (fun r wr => ∃ j : Nat, r = .int .i64 (j : Int) ∧ 1 ≤ j ∧ j ≤ 7 ∧ wr = W0) (fun r _ => 7 - vuOf r)
 case atStart => exact ⟨1, rfl, by omega, by omega, rfl⟩
 case round =>
  obtain ⟨j, rfl, hj1, hj7, rfl⟩ := hrel
  have hjj : j = 1 ∨ j = 2 ∨ j = 3 ∨ j = 4 ∨ j = 5 ∨ j = 6 ∨ j = 7 := by omega
  clear hj1 hj7
  rcases hjj with rfl | rfl | rfl | rfl | rfl | rfl | rfl
  ·go_wp2
   go_roundw
   case rel => exact ⟨2, by go_num, by omega, by omega, trivial⟩
   case measure => simp only [vuOf]; omega
  ·go_wp2
   go_roundw
   case rel => exact ⟨3, by go_num, by omega, by omega, trivial⟩
   case measure => simp only [vuOf]; omega
  ·go_wp2
   go_roundw
   case rel => exact ⟨4, by go_num, by omega, by omega, trivial⟩
   case measure => simp only [vuOf]; omega
  ·go_wp2
   go_roundw
   case rel => exact ⟨5, by go_num, by omega, by omega, trivial⟩
   case measure => simp only [vuOf]; omega
  ·go_wp2
   go_roundw
   case rel => exact ⟨6, by go_num, by omega, by omega, trivial⟩
   case measure => simp only [vuOf]; omega
  ·go_wp2
   go_roundw
   case rel => exact ⟨7, by go_num, by omega, by omega, trivial⟩
   case measure => simp only [vuOf]; omega
  ·go_wp2
   go_ret
   exact ⟨rfl, OW.out⟩
def V4 (w : World) (g o : Nat) (k n : Int) (s : ByteArray) (lv : Value) : Prop := w.cell? ⟨g, o, none⟩ = some (.int .i64 k) ∧ w.cell? ⟨g, o + 1, none⟩ = some (.int .i64 n) ∧ w.cell? ⟨g, o + 2, none⟩ = some (.string s) ∧ w.cell? ⟨g, o + 3, none⟩ = some lv
theorem rmv_0 (g o c : Nat) (k0 n0 : Int) (s0 : ByteArray) (a0 : Option Addr) (L0 c0 : Nat) (w : World) (h0 : V4 w g o k0 n0 s0 (.slice a0 L0 c0)) : Cz 39 #[.string ⟨#[100, 117, 112]⟩, .slice (some ⟨g, o, none⟩) 1 c] w fun e w' => e = .returned (.tuple #[.slice (some ⟨w.heap.size, 0, none⟩) 2 2, .bool true]) ∧ ∃ W, (W = w ∨ W = w.drew) ∧ w' = W.alloc (.cells #[.int .i64 k0, .int .i64 n0, .string s0, .slice a0 L0 c0, .int .i64 k0, .int .i64 n0, .string s0, .slice a0 L0 c0] 38) := by
 obtain ⟨x00, x01, x02, x03⟩ := h0
 have y00 : w.drew.cell? ⟨g, o, none⟩ = _ := x00
 have y01 : w.drew.cell? ⟨g, o + 1, none⟩ = _ := x01
 have y02 : w.drew.cell? ⟨g, o + 2, none⟩ = _ := x02
 have y03 : w.drew.cell? ⟨g, o + 3, none⟩ = _ := x03
 go_enter Tryz.func39, Tryz.ntmps39
 go_wp2
 go_region
 go_wp2
 go_ret2
 exact ⟨rfl, _, .inr rfl, rfl⟩
theorem rmv_1 (g o c : Nat) (k0 n0 : Int) (s0 : ByteArray) (a0 : Option Addr) (L0 c0 : Nat) (w : World) (h0 : V4 w g o k0 n0 s0 (.slice a0 L0 c0)) : Cz 39 #[.string ⟨#[100, 114, 111, 112]⟩, .slice (some ⟨g, o, none⟩) 1 c] w fun e w' => e = .returned (.tuple #[.slice none 0 0, .bool true]) ∧ w' = w := by
 obtain ⟨x00, x01, x02, x03⟩ := h0
 have y00 : w.drew.cell? ⟨g, o, none⟩ = _ := x00
 have y01 : w.drew.cell? ⟨g, o + 1, none⟩ = _ := x01
 have y02 : w.drew.cell? ⟨g, o + 2, none⟩ = _ := x02
 have y03 : w.drew.cell? ⟨g, o + 3, none⟩ = _ := x03
 go_enter Tryz.func39, Tryz.ntmps39
 go_wp2
 go_ret2
 exact ⟨rfl, rfl⟩
theorem rmv_2 (g o c : Nat) (k0 n0 : Int) (s0 : ByteArray) (a0 : Option Addr) (L0 c0 : Nat) (k1 n1 : Int) (s1 : ByteArray) (a1 : Option Addr) (L1 c1 : Nat) (w : World) (h0 : V4 w g o k0 n0 s0 (.slice a0 L0 c0)) (h1 : V4 w g (o + 4) k1 n1 s1 (.slice a1 L1 c1)) : Cz 39 #[.string ⟨#[115, 119, 97, 112]⟩, .slice (some ⟨g, o, none⟩) 2 c] w fun e w' => e = .returned (.tuple #[.slice (some ⟨w.heap.size, 0, none⟩) 2 2, .bool true]) ∧ ∃ W, (W = w ∨ W = w.drew) ∧ w' = W.alloc (.cells #[.int .i64 k1, .int .i64 n1, .string s1, .slice a1 L1 c1, .int .i64 k0, .int .i64 n0, .string s0, .slice a0 L0 c0] 38) := by
 obtain ⟨x00, x01, x02, x03⟩ := h0
 have y00 : w.drew.cell? ⟨g, o, none⟩ = _ := x00
 have y01 : w.drew.cell? ⟨g, o + 1, none⟩ = _ := x01
 have y02 : w.drew.cell? ⟨g, o + 2, none⟩ = _ := x02
 have y03 : w.drew.cell? ⟨g, o + 3, none⟩ = _ := x03
 obtain ⟨x10, x11, x12, x13⟩ := h1
 have y10 : w.drew.cell? ⟨g, o + 4, none⟩ = _ := x10
 have y11 : w.drew.cell? ⟨g, o + 4 + 1, none⟩ = _ := x11
 have y12 : w.drew.cell? ⟨g, o + 4 + 2, none⟩ = _ := x12
 have y13 : w.drew.cell? ⟨g, o + 4 + 3, none⟩ = _ := x13
 go_enter Tryz.func39, Tryz.ntmps39
 go_wp2
 go_region
 go_wp2
 go_ret2
 exact ⟨rfl, _, .inr rfl, rfl⟩
theorem rmv_3 (g o c : Nat) (k0 n0 : Int) (s0 : ByteArray) (a0 : Option Addr) (L0 c0 : Nat) (k1 n1 : Int) (s1 : ByteArray) (a1 : Option Addr) (L1 c1 : Nat) (w : World) (h0 : V4 w g o k0 n0 s0 (.slice a0 L0 c0)) (h1 : V4 w g (o + 4) k1 n1 s1 (.slice a1 L1 c1)) : Cz 39 #[.string ⟨#[111, 118, 101, 114]⟩, .slice (some ⟨g, o, none⟩) 2 c] w fun e w' => e = .returned (.tuple #[.slice (some ⟨w.heap.size, 0, none⟩) 3 3, .bool true]) ∧ ∃ W, (W = w ∨ W = w.drew) ∧ w' = W.alloc (.cells #[.int .i64 k0, .int .i64 n0, .string s0, .slice a0 L0 c0, .int .i64 k1, .int .i64 n1, .string s1, .slice a1 L1 c1, .int .i64 k0, .int .i64 n0, .string s0, .slice a0 L0 c0] 38) := by
 obtain ⟨x00, x01, x02, x03⟩ := h0
 have y00 : w.drew.cell? ⟨g, o, none⟩ = _ := x00
 have y01 : w.drew.cell? ⟨g, o + 1, none⟩ = _ := x01
 have y02 : w.drew.cell? ⟨g, o + 2, none⟩ = _ := x02
 have y03 : w.drew.cell? ⟨g, o + 3, none⟩ = _ := x03
 obtain ⟨x10, x11, x12, x13⟩ := h1
 have y10 : w.drew.cell? ⟨g, o + 4, none⟩ = _ := x10
 have y11 : w.drew.cell? ⟨g, o + 4 + 1, none⟩ = _ := x11
 have y12 : w.drew.cell? ⟨g, o + 4 + 2, none⟩ = _ := x12
 have y13 : w.drew.cell? ⟨g, o + 4 + 3, none⟩ = _ := x13
 go_enter Tryz.func39, Tryz.ntmps39
 go_wp2
 go_region
 go_wp2
 go_ret2
 exact ⟨rfl, _, .inr rfl, rfl⟩
theorem rmv_4 (g o c : Nat) (k0 n0 : Int) (s0 : ByteArray) (a0 : Option Addr) (L0 c0 : Nat) (k1 n1 : Int) (s1 : ByteArray) (a1 : Option Addr) (L1 c1 : Nat) (k2 n2 : Int) (s2 : ByteArray) (a2 : Option Addr) (L2 c2 : Nat) (w : World) (h0 : V4 w g o k0 n0 s0 (.slice a0 L0 c0)) (h1 : V4 w g (o + 4) k1 n1 s1 (.slice a1 L1 c1)) (h2 : V4 w g (o + 8) k2 n2 s2 (.slice a2 L2 c2)) : Cz 39 #[.string ⟨#[114, 111, 116]⟩, .slice (some ⟨g, o, none⟩) 3 c] w fun e w' => e = .returned (.tuple #[.slice (some ⟨w.heap.size, 0, none⟩) 3 3, .bool true]) ∧ ∃ W, (W = w ∨ W = w.drew) ∧ w' = W.alloc (.cells #[.int .i64 k1, .int .i64 n1, .string s1, .slice a1 L1 c1, .int .i64 k2, .int .i64 n2, .string s2, .slice a2 L2 c2, .int .i64 k0, .int .i64 n0, .string s0, .slice a0 L0 c0] 38) := by
 obtain ⟨x00, x01, x02, x03⟩ := h0
 have y00 : w.drew.cell? ⟨g, o, none⟩ = _ := x00
 have y01 : w.drew.cell? ⟨g, o + 1, none⟩ = _ := x01
 have y02 : w.drew.cell? ⟨g, o + 2, none⟩ = _ := x02
 have y03 : w.drew.cell? ⟨g, o + 3, none⟩ = _ := x03
 obtain ⟨x10, x11, x12, x13⟩ := h1
 have y10 : w.drew.cell? ⟨g, o + 4, none⟩ = _ := x10
 have y11 : w.drew.cell? ⟨g, o + 4 + 1, none⟩ = _ := x11
 have y12 : w.drew.cell? ⟨g, o + 4 + 2, none⟩ = _ := x12
 have y13 : w.drew.cell? ⟨g, o + 4 + 3, none⟩ = _ := x13
 obtain ⟨x20, x21, x22, x23⟩ := h2
 have y20 : w.drew.cell? ⟨g, o + 8, none⟩ = _ := x20
 have y21 : w.drew.cell? ⟨g, o + 8 + 1, none⟩ = _ := x21
 have y22 : w.drew.cell? ⟨g, o + 8 + 2, none⟩ = _ := x22
 have y23 : w.drew.cell? ⟨g, o + 8 + 3, none⟩ = _ := x23
 go_enter Tryz.func39, Tryz.ntmps39
 go_wp2
 go_region
 go_wp2
 go_ret2
 exact ⟨rfl, _, .inr rfl, rfl⟩
theorem rmv_5 (g o c : Nat) (k0 n0 : Int) (s0 : ByteArray) (a0 : Option Addr) (L0 c0 : Nat) (k1 n1 : Int) (s1 : ByteArray) (a1 : Option Addr) (L1 c1 : Nat) (w : World) (h0 : V4 w g o k0 n0 s0 (.slice a0 L0 c0)) (h1 : V4 w g (o + 4) k1 n1 s1 (.slice a1 L1 c1)) : Cz 39 #[.string ⟨#[110, 105, 112]⟩, .slice (some ⟨g, o, none⟩) 2 c] w fun e w' => e = .returned (.tuple #[.slice (some ⟨w.heap.size, 0, none⟩) 1 1, .bool true]) ∧ ∃ W, (W = w ∨ W = w.drew) ∧ w' = W.alloc (.cells #[.int .i64 k1, .int .i64 n1, .string s1, .slice a1 L1 c1] 38) := by
 obtain ⟨x00, x01, x02, x03⟩ := h0
 have y00 : w.drew.cell? ⟨g, o, none⟩ = _ := x00
 have y01 : w.drew.cell? ⟨g, o + 1, none⟩ = _ := x01
 have y02 : w.drew.cell? ⟨g, o + 2, none⟩ = _ := x02
 have y03 : w.drew.cell? ⟨g, o + 3, none⟩ = _ := x03
 obtain ⟨x10, x11, x12, x13⟩ := h1
 have y10 : w.drew.cell? ⟨g, o + 4, none⟩ = _ := x10
 have y11 : w.drew.cell? ⟨g, o + 4 + 1, none⟩ = _ := x11
 have y12 : w.drew.cell? ⟨g, o + 4 + 2, none⟩ = _ := x12
 have y13 : w.drew.cell? ⟨g, o + 4 + 3, none⟩ = _ := x13
 go_enter Tryz.func39, Tryz.ntmps39
 go_wp2
 go_ret2
 exact ⟨rfl, _, .inl rfl, rfl⟩
theorem rmv_6 (g o c : Nat) (k0 n0 : Int) (s0 : ByteArray) (a0 : Option Addr) (L0 c0 : Nat) (k1 n1 : Int) (s1 : ByteArray) (a1 : Option Addr) (L1 c1 : Nat) (w : World) (h0 : V4 w g o k0 n0 s0 (.slice a0 L0 c0)) (h1 : V4 w g (o + 4) k1 n1 s1 (.slice a1 L1 c1)) : Cz 39 #[.string ⟨#[116, 117, 99, 107]⟩, .slice (some ⟨g, o, none⟩) 2 c] w fun e w' => e = .returned (.tuple #[.slice (some ⟨w.heap.size, 0, none⟩) 3 3, .bool true]) ∧ ∃ W, (W = w ∨ W = w.drew) ∧ w' = W.alloc (.cells #[.int .i64 k1, .int .i64 n1, .string s1, .slice a1 L1 c1, .int .i64 k0, .int .i64 n0, .string s0, .slice a0 L0 c0, .int .i64 k1, .int .i64 n1, .string s1, .slice a1 L1 c1] 38) := by
 obtain ⟨x00, x01, x02, x03⟩ := h0
 have y00 : w.drew.cell? ⟨g, o, none⟩ = _ := x00
 have y01 : w.drew.cell? ⟨g, o + 1, none⟩ = _ := x01
 have y02 : w.drew.cell? ⟨g, o + 2, none⟩ = _ := x02
 have y03 : w.drew.cell? ⟨g, o + 3, none⟩ = _ := x03
 obtain ⟨x10, x11, x12, x13⟩ := h1
 have y10 : w.drew.cell? ⟨g, o + 4, none⟩ = _ := x10
 have y11 : w.drew.cell? ⟨g, o + 4 + 1, none⟩ = _ := x11
 have y12 : w.drew.cell? ⟨g, o + 4 + 2, none⟩ = _ := x12
 have y13 : w.drew.cell? ⟨g, o + 4 + 3, none⟩ = _ := x13
 go_enter Tryz.func39, Tryz.ntmps39
 go_wp2
 go_region
 go_wp2
 go_ret2
 exact ⟨rfl, _, .inr rfl, rfl⟩
end Go.Proofs.YtenjollhlgjjdaaGreatDoor
namespace Go.Proofs.YtenjollhlgjjdaaGreatDoor
open Go.RowKit
def cfit (n : Int) : Bool := decide (-1152921504606846976 ≤ n ∧ n ≤ 1152921504606846975)
theorem cfit_true {n : Int} (h : cfit n = true) : -1152921504606846976 ≤ n ∧ n ≤ 1152921504606846975 := of_decide_eq_true h
def cU (c : Int) : Prop := 0 ≤ c ∧ c < 18446744073709551616
theorem cwrap_in {n : Int} (h : -9223372036854775808 ≤ n ∧ n ≤ 9223372036854775807) : wrap64 n = n := by unfold wrap64; omega
theorem cfits_any (n : Int) (w : World) : Cz 107 #[.int .i64 n] w fun e w' => e = .returned (.bool (cfit n)) ∧ w' = w := by
 by_cases h1 : -1152921504606846976 ≤ n
 ·by_cases h2 : n ≤ 1152921504606846975
  ·rw [show cfit n = true from decide_eq_true ⟨h1, h2⟩]
   go_enter Tryz.func107, Tryz.ntmps107
   go_wp2
   go_ret
   exact ⟨rfl, rfl⟩
  ·rw [show cfit n = false from decide_eq_false (by omega)]
   go_enter Tryz.func107, Tryz.ntmps107
   go_wp2
   go_ret
   exact ⟨rfl, rfl⟩
 ·rw [show cfit n = false from decide_eq_false (by omega)]
  go_enter Tryz.func107, Tryz.ntmps107
  go_wp2
  go_ret
  exact ⟨rfl, rfl⟩
theorem cin_any (n : Int) (w : World) : Cz 61 #[.int .i64 n] w fun e w' => e = .returned (.bool (cfit n)) ∧ w' = w := by
 by_cases h1 : -1152921504606846976 ≤ n
 ·by_cases h2 : n ≤ 1152921504606846975
  ·rw [show cfit n = true from decide_eq_true ⟨h1, h2⟩]
   go_enter Tryz.func61, Tryz.ntmps61
   go_wp2
   go_ret
   exact ⟨rfl, rfl⟩
  ·rw [show cfit n = false from decide_eq_false (by omega)]
   go_enter Tryz.func61, Tryz.ntmps61
   go_wp2
   go_ret
   exact ⟨rfl, rfl⟩
 ·rw [show cfit n = false from decide_eq_false (by omega)]
  go_enter Tryz.func61, Tryz.ntmps61
  go_wp2
  go_ret
  exact ⟨rfl, rfl⟩
def cinr (n : Int) : Bool := decide (-9223372036854775808 ≤ n ∧ n ≤ 9223372036854775807)
theorem tdiv_abs (n b : Int) : n - (n.tdiv b) * b = n.tmod b := by
 have := Int.tmod_add_tdiv_mul n b; omega
theorem tmod_small (n b : Int) (hb : b ≠ 0) : (n.tmod b).natAbs < b.natAbs := by
 rw [Int.natAbs_tmod]
 exact Nat.mod_lt _ (by omega)
theorem times_wraps {a b : Int} (ha : cfit a = true) (hb : cfit b = true) (h0 : b ≠ 0) (h : cinr (a * b) = false) : (wrap64 ((wrap64 (a * b)).tdiv b) == a) = false := by
 have ha := cfit_true ha
 have hb := cfit_true hb
 have h := of_decide_eq_false h
 rw [beq_eq_false_iff_ne]
 intro he
 generalize hp : a * b = p at *
 have hn : ∃ k : Int, wrap64 p = p + k * 18446744073709551616 ∧ k ≠ 0 := by
  refine ⟨-((p + 9223372036854775808) / 18446744073709551616), ?_, ?_⟩
  ·unfold wrap64; omega
  ·omega
 obtain ⟨k, hk, hk0⟩ := hn
 have hr : -9223372036854775808 ≤ wrap64 p ∧ wrap64 p ≤ 9223372036854775807 := by unfold wrap64; omega
 generalize wrap64 p = n at *
 have hq := tdiv_abs n b
 have hs := tmod_small n b h0
 have hnq : (n.tdiv b).natAbs ≤ n.natAbs := by rw [Int.natAbs_tdiv]; exact Nat.div_le_self _ _
 generalize n.tmod b = r at *
 generalize n.tdiv b = q at *
 have : q = a := by
  unfold wrap64 at he
  omega
 subst this
 omega
theorem ctimes_any (a b : Int) (w : World) (ha : cfit a = true) (hb : cfit b = true) :
  Cz 136 #[.int .i64 a, .int .i64 b] w fun e w' => e = .returned (if cinr (a * b) then .tuple #[.int .i64 (a * b), .int .i64 0] else .tuple #[.int .i64 0, .int .i64 18]) ∧ w' = w := by
 by_cases h0 : b = 0
 ·subst h0
  rw [show a * 0 = 0 by omega, show cinr 0 = true from rfl, if_pos rfl]
  have hz : wrap64 0 = 0 := cwrap_in (by omega)
  clear ha hb
  go_enter Tryz.func136, Tryz.ntmps136
  go_wp2
  go_ret2
  exact ⟨rfl, rfl⟩
 ·have hz : (b != 0) = true := by simpa using h0
  cases h : cinr (a * b)
  ·have hx : (wrap64 ((wrap64 (a * b)).tdiv b) != a) = true := by rw [bne, times_wraps ha hb h0 h]; rfl
   rw [if_neg (by decide)]
   clear ha hb h
   go_enter Tryz.func136, Tryz.ntmps136
   go_wp2
   go_ret2
   exact ⟨rfl, rfl⟩
  ·have hw : wrap64 a = a := by have := cfit_true ha; exact cwrap_in (by omega)
   have hy := cwrap_in (of_decide_eq_true h)
   rw [if_pos rfl]
   clear ha hb h
   go_enter Tryz.func136, Tryz.ntmps136
   go_wp2
   go_ret2
   exact ⟨congrArg (fun x => Ending.returned (.tuple #[.int .i64 x, .int .i64 0])) hy, rfl⟩
def copN (op a b : Int) : Int := if op = 43 then a + b else if op = 45 then a - b else if op = 42 then a * b else if op = 47 then a.tdiv b else a.tmod b
def cisOp (op : Int) : Bool := decide (op = 43 ∨ op = 45 ∨ op = 42 ∨ op = 47 ∨ op = 37)
def arE (op a b : Int) : Int := if cisOp op && cfit a && cfit b then (if (op = 47 ∨ op = 37) ∧ b = 0 then 19 else if cfit (copN op a b) then 0 else 18) else 2
def arN (op a b : Int) : Int := if arE op a b = 0 then copN op a b else 0
theorem tdiv_fits {a b : Int} (ha : cfit a = true) : -1152921504606846976 ≤ a.tdiv b ∧ a.tdiv b ≤ 1152921504606846976 := by
 have ha := cfit_true ha
 have hq : (a.tdiv b).natAbs ≤ a.natAbs := by rw [Int.natAbs_tdiv]; exact Nat.div_le_self _ _
 omega
theorem tmod_fits {a b : Int} (ha : cfit a = true) : cfit (a.tmod b) = true := by
 have ha := cfit_true ha
 have hq : (a.tmod b).natAbs ≤ a.natAbs := by rw [Int.natAbs_tmod]; exact Nat.mod_le _ _
 refine decide_eq_true ⟨by omega, ?_⟩
 by_cases h : 0 ≤ a
 ·omega
 ·have e : a.tmod b = -((-a).tmod b) := by rw [Int.neg_tmod]; omega
  have := Int.tmod_nonneg (a := -a) b (by omega)
  omega
theorem cdivide_any (op a b : Int) (w : World) (ho : op = 47 ∨ op = 37) (ha : cfit a = true) (hb : cfit b = true) :
  Cz 137 #[.int .u8 op, .int .i64 a, .int .i64 b] w fun e w' => e = .returned (if b = 0 then .tuple #[.int .i64 0, .int .i64 19] else .tuple #[.int .i64 (copN op a b), .int .i64 0]) ∧ w' = w := by
 by_cases h0 : b = 0
 ·subst h0
  rw [if_pos rfl]
  go_enter Tryz.func137, Tryz.ntmps137
  go_wp2
  go_ret2
  exact ⟨rfl, rfl⟩
 ·rw [if_neg h0]
  have hz : (b == 0) = false := by simpa using h0
  have hq := cwrap_in (n := a.tdiv b) (by have := tdiv_fits (b := b) ha; omega)
  have hr := cwrap_in (n := a.tmod b) (by have := cfit_true (tmod_fits (b := b) ha); omega)
  rcases ho with rfl | rfl
  ·rw [show copN 47 a b = a.tdiv b from rfl]
   clear ha hb
   go_enter Tryz.func137, Tryz.ntmps137
   go_wp2
   go_ret2
   exact ⟨congrArg (fun x => Ending.returned (.tuple #[.int .i64 x, .int .i64 0])) hq, rfl⟩
  ·rw [show copN 37 a b = a.tmod b from rfl]
   clear ha hb
   go_enter Tryz.func137, Tryz.ntmps137
   go_wp2
   go_ret2
   exact ⟨rfl, rfl⟩
def rkE (op a b : Int) : Int := if cisOp op then (if (op = 47 ∨ op = 37) ∧ b = 0 then 19 else if op = 42 ∧ cinr (a * b) = false then 18 else 0) else 2
theorem reckon_any (op a b : Int) (w : World) (ho : 0 ≤ op ∧ op < 256) (ha : cfit a = true) (hb : cfit b = true) :
  Cz 108 #[.int .u8 op, .int .i64 a, .int .i64 b] w fun e w' => e = .returned (.tuple #[.int .i64 (if rkE op a b = 0 then copN op a b else 0), .int .i64 (rkE op a b)]) ∧ w' = w := by
 have ha' := cfit_true ha
 have hb' := cfit_true hb
 cases hi : cisOp op
 ·have h1 : (op == 43) = false := by have := of_decide_eq_false hi; simp; omega
  have h2 : (op == 45) = false := by have := of_decide_eq_false hi; simp; omega
  have h3 : (op == 42) = false := by have := of_decide_eq_false hi; simp; omega
  have h4 : (op == 47) = false := by have := of_decide_eq_false hi; simp; omega
  have h5 : (op == 37) = false := by have := of_decide_eq_false hi; simp; omega
  rw [show rkE op a b = 2 by unfold rkE; rw [hi]; rfl, if_neg (by decide)]
  clear hi
  go_enter Tryz.func108, Tryz.ntmps108
  go_wp2
  go_ret2
  exact ⟨rfl, rfl⟩
 ·rcases (of_decide_eq_true hi) with rfl | rfl | rfl | rfl | rfl
  ·have hw := cwrap_in (n := a + b) (by omega)
   rw [show rkE 43 a b = 0 by rfl, if_pos rfl, show copN 43 a b = a + b from rfl]
   clear ha hb hi
   go_enter Tryz.func108, Tryz.ntmps108
   go_wp2
   go_ret2
   exact ⟨rfl, rfl⟩
  ·have hw := cwrap_in (n := a - b) (by omega)
   rw [show rkE 45 a b = 0 by rfl, if_pos rfl, show copN 45 a b = a - b from rfl]
   clear ha hb hi
   go_enter Tryz.func108, Tryz.ntmps108
   go_wp2
   go_ret2
   exact ⟨rfl, rfl⟩
  ·have ht := ctimes_any a b w ha hb
   rw [show (if cinr (a * b) then Value.tuple #[.int .i64 (a * b), .int .i64 0] else .tuple #[.int .i64 0, .int .i64 18]) = .tuple #[.int .i64 (if rkE 42 a b = 0 then copN 42 a b else 0), .int .i64 (rkE 42 a b)] by
    cases h : cinr (a * b)
    ·rw [show rkE 42 a b = 18 by unfold rkE; rw [h]; rfl]; rfl
    ·rw [show rkE 42 a b = 0 by unfold rkE; rw [h]; rfl]; rfl] at ht
   generalize rkE 42 a b = x at *
   generalize (if x = 0 then copN 42 a b else 0) = y at *
   clear ha hb hi
   go_enter Tryz.func108, Tryz.ntmps108
   go_wp2_with fail
   refine ht.mono ?_
   rintro e w1 ⟨rfl, rfl⟩
   go_wp2
   go_ret2
   exact ⟨rfl, rfl⟩
  ·have ht := cdivide_any 47 a b w (.inl rfl) ha hb
   rw [show (if b = 0 then Value.tuple #[.int .i64 0, .int .i64 19] else .tuple #[.int .i64 (copN 47 a b), .int .i64 0]) = .tuple #[.int .i64 (if rkE 47 a b = 0 then copN 47 a b else 0), .int .i64 (rkE 47 a b)] by
    by_cases h : b = 0
    ·rw [show rkE 47 a b = 19 by unfold rkE; simp [h, cisOp]]; simp [h]
    ·rw [show rkE 47 a b = 0 by unfold rkE; simp [h, cisOp]]; simp [h]] at ht
   generalize rkE 47 a b = x at *
   generalize (if x = 0 then copN 47 a b else 0) = y at *
   clear ha hb hi
   go_enter Tryz.func108, Tryz.ntmps108
   go_wp2_with fail
   refine ht.mono ?_
   rintro e w1 ⟨rfl, rfl⟩
   go_wp2
   go_ret2
   exact ⟨rfl, rfl⟩
  ·have ht := cdivide_any 37 a b w (.inr rfl) ha hb
   rw [show (if b = 0 then Value.tuple #[.int .i64 0, .int .i64 19] else .tuple #[.int .i64 (copN 37 a b), .int .i64 0]) = .tuple #[.int .i64 (if rkE 37 a b = 0 then copN 37 a b else 0), .int .i64 (rkE 37 a b)] by
    by_cases h : b = 0
    ·rw [show rkE 37 a b = 19 by unfold rkE; simp [h, cisOp]]; simp [h]
    ·rw [show rkE 37 a b = 0 by unfold rkE; simp [h, cisOp]]; simp [h]] at ht
   generalize rkE 37 a b = x at *
   generalize (if x = 0 then copN 37 a b else 0) = y at *
   clear ha hb hi
   go_enter Tryz.func108, Tryz.ntmps108
   go_wp2_with fail
   refine ht.mono ?_
   rintro e w1 ⟨rfl, rfl⟩
   go_wp2
   go_ret2
   exact ⟨rfl, rfl⟩
theorem ar_bad {op a b : Int} (h : cfit a = false ∨ cfit b = false) : arE op a b = 2 ∧ arN op a b = 0 := by
 have : arE op a b = 2 := by
  unfold arE
  rw [if_neg (by rcases h with h | h <;> simp [h])]
 exact ⟨this, by unfold arN; rw [this]; rfl⟩
theorem ar_rk {op a b : Int} (ha : cfit a = true) (hb : cfit b = true) : arE op a b = if rkE op a b = 0 then (if cfit (copN op a b) then 0 else 18) else rkE op a b := by
 unfold arE rkE
 cases hi : cisOp op
 ·simp
 ·simp only [ha, hb, Bool.and_self, if_true]
  by_cases h : (op = 47 ∨ op = 37) ∧ b = 0
  ·simp [h]
  ·rw [if_neg h, if_neg h]
   by_cases h2 : op = 42 ∧ cinr (a * b) = false
   ·rw [if_pos h2]
    obtain ⟨rfl, h3⟩ := h2
    rw [show copN 42 a b = a * b from rfl, if_neg]
    ·rfl
    intro h4
    have := cfit_true h4
    have := of_decide_eq_false h3
    omega
   ·rw [if_neg h2]; rfl
theorem arith_any (op a b : Int) (w : World) (ho : 0 ≤ op ∧ op < 256) :
  Cz 80 #[.int .u8 op, .int .i64 a, .int .i64 b] w fun e w' => e = .returned (.tuple #[.int .i64 (arN op a b), .int .i64 (arE op a b)]) ∧ w' = w := by
 have h1 := cfits_any a w
 have h2 := cfits_any b w
 cases ha : cfit a
 ·obtain ⟨e1, e2⟩ := ar_bad (op := op) (a := a) (b := b) (.inl ha)
  rw [e1, e2]
  rw [ha] at h1
  clear ha e1 e2
  go_enter Tryz.func80, Tryz.ntmps80
  go_wp2_with fail
  refine h1.mono ?_
  rintro e w1 ⟨rfl, rfl⟩
  go_wp2
  go_ret2
  exact ⟨rfl, rfl⟩
 ·cases hb : cfit b
  ·obtain ⟨e1, e2⟩ := ar_bad (op := op) (a := a) (b := b) (.inr hb)
   rw [e1, e2]
   rw [ha] at h1
   rw [hb] at h2
   clear ha hb e1 e2
   go_enter Tryz.func80, Tryz.ntmps80
   go_wp2_with fail
   refine h1.mono ?_
   rintro e w1 ⟨rfl, rfl⟩
   go_wp2_with fail
   refine h2.mono ?_
   rintro e w1 ⟨rfl, rfl⟩
   go_wp2
   go_ret2
   exact ⟨rfl, rfl⟩
  ·have h3 := reckon_any op a b w ho ha hb
   have he := ar_rk (op := op) ha hb
   rw [ha] at h1
   rw [hb] at h2
   by_cases hk : rkE op a b = 0
   ·rw [if_pos hk] at he
    rw [hk, if_pos rfl] at h3
    unfold arN
    rw [he]
    have h4 := cfits_any (copN op a b) w
    clear he ha hb hk
    generalize copN op a b = x at *
    cases hx : cfit x
    ·rw [hx] at h4
     rw [show (if (if false = true then (0 : Int) else 18) = 0 then x else 0) = 0 from rfl, show (if false = true then (0 : Int) else 18) = 18 from rfl]
     clear hx
     go_enter Tryz.func80, Tryz.ntmps80
     go_wp2_with fail
     refine h1.mono ?_
     rintro e w1 ⟨rfl, rfl⟩
     go_wp2_with fail
     refine h2.mono ?_
     rintro e w1 ⟨rfl, rfl⟩
     go_wp2_with fail
     refine h3.mono ?_
     rintro e w1 ⟨rfl, rfl⟩
     go_wp2_with fail
     refine h4.mono ?_
     rintro e w1 ⟨rfl, rfl⟩
     go_wp2
     go_ret2
     exact ⟨rfl, rfl⟩
    ·rw [hx] at h4
     rw [show (if (if true = true then (0 : Int) else 18) = 0 then x else 0) = x from rfl, show (if true = true then (0 : Int) else 18) = 0 from rfl]
     clear hx
     go_enter Tryz.func80, Tryz.ntmps80
     go_wp2_with fail
     refine h1.mono ?_
     rintro e w1 ⟨rfl, rfl⟩
     go_wp2_with fail
     refine h2.mono ?_
     rintro e w1 ⟨rfl, rfl⟩
     go_wp2_with fail
     refine h3.mono ?_
     rintro e w1 ⟨rfl, rfl⟩
     go_wp2_with fail
     refine h4.mono ?_
     rintro e w1 ⟨rfl, rfl⟩
     go_wp2
     go_ret2
     exact ⟨rfl, rfl⟩
   ·rw [if_neg hk] at he
    rw [if_neg hk] at h3
    unfold arN
    rw [he, if_neg hk]
    clear he ha hb
    generalize rkE op a b = x at *
    have hx : (x != 0) = true := by simpa using hk
    clear hk
    go_enter Tryz.func80, Tryz.ntmps80
    go_wp2_with fail
    refine h1.mono ?_
    rintro e w1 ⟨rfl, rfl⟩
    go_wp2_with fail
    refine h2.mono ?_
    rintro e w1 ⟨rfl, rfl⟩
    go_wp2_with fail
    refine h3.mono ?_
    rintro e w1 ⟨rfl, rfl⟩
    go_wp2
    go_ret2
    exact ⟨rfl, rfl⟩
end Go.Proofs.YtenjollhlgjjdaaGreatDoor
