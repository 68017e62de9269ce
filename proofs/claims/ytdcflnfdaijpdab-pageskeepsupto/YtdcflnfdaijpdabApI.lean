/- Apart, of lists of numbers: they are marked, each number by itself, grown and looked at. -/
import Derived.Test.YtdcflnfdaijpdabRows
import Derived.WalkKit
import Derived.OwnWalk
import Derived.Deep.RegionHeld3
import Derived.WalkSpells
import Derived.WalkLawsBesides
import Derived.Test.YtdcflnfdaijpdabGrowF
import Derived.Test.YtdcflnfdaijpdabRead
namespace Go.Proofs.Ytdcflnfdaijpdab
open Go.RowKit
set_option linter.unusedSimpArgs false
set_option linter.unusedVariables false

theorem infoI3 : (Try.prog.info? 3).map (fun i => (i.zero, i.size, i.bytes)) = some (some (.int .i64 0), 1, 8) := by kernel_rfl
theorem infoI30 : (Try.prog.info? 30).map (fun i => (i.zero, i.size, i.bytes)) = some (some (.slice none 0 0), 1, 24) := by kernel_rfl
theorem own_slice (a : Option Addr) (n n' c c' : Nat) : (Value.slice a n c).ownBlock = (Value.slice a n' c').ownBlock := by cases a <;> rfl
/-- What an append of one element comes to: in its place, or in new memory. -/
def AppIs (w w' : World) (v v' : Value) (n : Nat) : Prop :=
  (∃ a c, v = .slice a n c ∧ v' = .slice a (n + 1) c ∧ w.grownBy w' v.ownBlock) ∨ ((∀ b, v'.ownBlock = some b → w.heap.size ≤ b ∧ b < w'.heap.size) ∧ w.grownBy w' none)
section
variable {P : Program}
theorem run_append_whole3 (w : World) (t ty e : TypeId) (i : TypeInfo) (z : Value) (bytes : Nat) (ht : P.underlying t = some (.slice e)) (hi : P.info? e = some i) (hz : i.zero = some z) (hsize : i.size = 1) (hby : i.bytes = bytes) (hzs : z.cells.size = 1)
    (v : Value) (n : Nat) (f : Nat → Value) (h : Whole w v n f) (ad : Addr) (x : Value) (hx : ∀ j u, [x][j]? = some u → w.cell? (ad.add j) = some u) (h1 : x.oneCell' = true) (hm : n + 1 ≤ maxLen) (hb : (n + 1) * bytes ≤ 140737488355328) :
    ∃ v' w', (Builtin.append_ #[t, t] ty #[v, .slice (some ad) 1 1]).run P w = .ok v' w' ∧ Whole w' v' (n + 1) (fun j => if j = n then x else f j) ∧ Th w w' ∧ AppIs w w' v v' n := by
  obtain ⟨a, c, rfl, h2, h3, h4, h5⟩ := h
  have g1 : ∀ u ∈ [x], u.oneCell' = true := fun u hu => by simp at hu; rw [hu]; exact h1
  have fin : ∀ v' w', (Builtin.append_ #[t, t] ty #[.slice a n c, .slice (some ad) 1 1]).run P w = .ok v' w' → w'.ownsRow w.heap.size e 1 v' (n + 1) ((List.range n).map f ++ [x]) → w.grownBy w' none →
      ∃ v' w', (Builtin.append_ #[t, t] ty #[.slice a n c, .slice (some ad) 1 1]).run P w = .ok v' w' ∧ Whole w' v' (n + 1) (fun j => if j = n then x else f j) ∧ Th w w' ∧ AppIs w w' (.slice a n c) v' n := by
    intro v' w' hr own hg
    refine ⟨v', w', hr, Whole.ofOwn own (fun j hj => ?_), ((Only.refl (fun _ => False) w).grown hg (by simp)).th, .inr ⟨fun b hb => own.lt b hb, hg⟩⟩
    by_cases ej : j = n
    · subst ej; simp
    · have hjn : j < n := by omega
      rw [List.getElem?_append_left (by simpa using hjn)]
      simp [hjn, ej]
  by_cases hroom : n + 1 ≤ c
  · obtain ⟨g, o, rfl, hth, hf⟩ := h5 (by omega)
    have hrun := run_append_room_cells (P := P) w t ty e i ht hi g o n c ad 1 1 [x] (by simp [hsize]) hx g1 hroom (fun j hj => by simp at hj; subst hj; rw [hsize]; simpa using (hth n (by omega)).1) (fun j hj => by simp at hj; subst hj; rw [hsize]; simpa using (hth n (by omega)).2)
    rw [hsize, Nat.mul_one] at hrun
    refine ⟨_, _, hrun, ⟨_, c, rfl, hroom, h3, fun e => (by cases e), fun hc => ⟨g, o, rfl, World.there_setCells hth _ _ _, fun j hj => ?_⟩⟩, Th.setCells _ _ _ _, .inl ⟨_, c, rfl, rfl, ?_⟩⟩
    · by_cases ej : j = n
      · subst ej
        simp only [if_true]
        have := World.cell?_setCells_in g [x] (o + j) w (fun i hi => by simp at hi; subst hi; exact (hth j (by omega)).1) 0 (by simp)
        simpa using this
      · simp only [if_neg ej]
        rw [World.cell?_setCells_out g _ _ _ _ (fun _ _ => by simp; omega)]
        exact hf j (by omega)
    · obtain ⟨s1, s2, s3, s4⟩ := setCells_same g [x] (o + n) w
      exact ⟨s1, s2, s3, Nat.le_of_eq s4.symm, fun k hk hne => World.heap_setCells_other w g _ _ hk (fun e => hne (by rw [e]; rfl))⟩
  · obtain rfl : n = c := by omega
    cases a with
    | none =>
      obtain rfl : n = 0 := h4 rfl
      obtain ⟨v', w', hr, r1, r2, _⟩ := run_append_own (P := P) w w.heap.size t ty e i z 1 bytes ht hi hz hsize hby hzs (by omega) (.slice none 0 0) 0 [] (World.ownsRow_nil w _ e 1) ad 1 1 [x] rfl hx g1 hm hb (Nat.le_refl _)
      exact fin v' w' hr r1 r2
    | some b =>
      obtain ⟨v', w', hr, r1, r2⟩ := run_append_arg_grows (P := P) w t ty e i z 1 bytes ht hi hz hsize hby hzs (by omega) b n n ((List.range n).map f) (by simp) (fun j u hu => by
        obtain ⟨hj, hu⟩ := List.getElem?_eq_some_iff.1 hu
        simp at hj hu
        obtain ⟨g, o, hb, hth, hf⟩ := h5 (by omega)
        obtain rfl : b = ⟨g, o, none⟩ := by simpa using hb
        rw [Addr.add_mid, ← hu]; exact hf j hj) ad 1 1 [x] rfl hx (by omega) hm hb
      exact fin v' w' hr r1 r2
theorem wpList_append_whole3 {ops : Array Oper} {rest : List Oper} {op : Oper} {a : Act} {Q : Exit → Act → World → Prop} (w : World) (hgd : op.guard = none) (s x : Operand) (t : TypeId)
    (ho : op.op = .call { callee := .builtin .append, args := #[s, x], argTypes := #[t, t] }) (e : TypeId) (i : TypeInfo) (z : Value) (bytes : Nat) (ht : P.underlying t = some (.slice e)) (hi : P.info? e = some i) (hz : i.zero = some z) (hsize : i.size = 1) (hby : i.bytes = bytes) (hzs : z.cells.size = 1)
    (v : Value) (n : Nat) (f : Nat → Value) (hs : a.eval s = v) (hw : Whole w v n f) (ad : Addr) (u : Value) (hx : a.eval x = .slice (some ad) 1 1) (hu : w.cell? ad = some u) (h1 : u.oneCell' = true) (hm : n + 1 ≤ maxLen) (hb : (n + 1) * bytes ≤ 140737488355328)
    (h : ∀ v' w', Whole w' v' (n + 1) (fun j => if j = n then u else f j) → Th w w' → Hid (AppIs w w' v v' n) → wpList P ops Q rest (a.put op.dst v') w') :
    wpList P ops Q (op :: rest) a w := by
  refine wpList_plain hgd fun K hK => ?_
  obtain ⟨v', w', hr, h2, h3, h4⟩ := run_append_whole3 (P := P) w t op.type e i z bytes ht hi hz hsize hby hzs v n f hw ad u (fun j u' hu' => by
    cases j with
    | zero => simp at hu'; subst hu'; simpa [Addr.add] using hu
    | succ j => simp at hu') h1 hm hb
  unfold Oper.wp execOp
  simp only [ho, resolve, invoke, builtin, Sem.run_bind, Sem.run_pure, Result.andThen_ok, List.map_toArray, List.map_cons, List.map_nil, hs, hx, hr]
  exact hK _ _ (h v' w' h2 h3 h4)
end
theorem AppIs.grown {w w' : World} {v v' : Value} {n : Nat} (h : AppIs w w' v v' n) : w.grownBy w' v.ownBlock := by
  rcases h with ⟨a, c, _, _, hg⟩ | ⟨_, hg⟩
  · exact hg
  · exact ⟨hg.os, hg.tape, hg.output, hg.size, fun k hk _ => hg.block k hk (by simp)⟩
theorem AppIs.own {w w' : World} {v v' : Value} {n : Nat} (h : AppIs w w' v v' n) : v'.ownBlock = v.ownBlock ∨ ∀ b, v'.ownBlock = some b → w.heap.size ≤ b ∧ b < w'.heap.size := by
  rcases h with ⟨a, c, rfl, rfl, _⟩ | ⟨hb, _⟩
  · exact .inl (own_slice _ _ _ _ _)
  · exact .inr hb
/-- What has grown is still at the list's place, or apart from it. -/
def Link (x g : Value) (n m : Nat) : Prop := (∃ a c c', x = .slice a n c ∧ g = .slice a (n + m) c') ∨ ∀ b, x.ownBlock = some b → g.ownBlock ≠ some b
theorem Link.next {w w' : World} {x g g' : Value} {n m : Nat} {M : Nat → Value} (hl : Link x g n m) (hm : MarkedF w x n n M) (hx : ∀ b, x.ownBlock = some b → b < w.heap.size) (hW : Whole w' g' (n + m + 1) (fun j => if j = n + m then M (n + m) else M j)) (ha : AppIs w w' g g' (n + m)) (ht : Th w w') : Link x g' n (m + 1) ∧ MarkedF w' x n n M := by
  rcases ha with ⟨a, c, rfl, rfl, hg⟩ | ⟨hb, hg⟩
  · rcases hl with ⟨a', c1, c2, rfl, hv⟩ | hl
    · simp only [Value.slice.injEq] at hv
      obtain ⟨rfl, _, rfl⟩ := hv
      refine ⟨.inl ⟨a, c1, c, rfl, by rw [Nat.add_assoc]⟩, hm.1.th ht, fun g0 o c' hv j hj => ?_⟩
      simp only [Value.slice.injEq] at hv
      obtain ⟨rfl, _, _⟩ := hv
      obtain ⟨g1, o1, c3, hv, hc, _⟩ := hW.form (by omega)
      simp only [Value.slice.injEq, Option.some.injEq, Addr.mk.injEq, and_true] at hv
      obtain ⟨⟨rfl, rfl⟩, _⟩ := hv
      rw [hc j (by omega), if_neg (by omega)]
    · have ho : Only (fun b => (Value.slice a (n + m) c).ownBlock = some b) w w' := (Only.refl _ w).grown hg (fun k e _ => e)
      exact ⟨.inr (fun b e => by rw [own_slice a (n + m + 1) (n + m) c c]; exact hl b e), hm.frame ho ht (fun b e => hl b e)⟩
  · have ho : Only (fun _ => False) w w' := (Only.refl _ w).grown hg (by simp)
    exact ⟨.inr (fun b e e' => by have := hx b e; have := (hb b e').1; omega), hm.frame ho ht (fun _ _ e => e)⟩
/-- The number that the list number q is marked from. -/
def offN (ns : Nat → Nat) : Nat → Nat
  | 0 => 1000000
  | q + 1 => offN ns q + (ns q + 9)
def markI (ns : Nat → Nat) : Nat → Nat → Value := fun q j => .int .i64 ((offN ns q + j : Nat) : Int)

set_option maxRecDepth 100000 in
set_option maxHeartbeats 4000000 in
theorem apart_ints (k : Nat) (xs : Nat → Value) (ns : Nat → Nat) (lv : Value) (w : World) (hlv : Whole w lv k xs) (hlb : ∀ b, lv.ownBlock = some b → ¬ lsB k xs b) (hL : Lists w k xs ns) (hk : k * 24 ≤ 140737488355328) (hoff : ∀ q, q ≤ k → offN ns q ≤ 4611686018427387904) (hmx : ∀ q, q < k → ns q ≤ 1048576) :
    Calls Try.prog 16 #[lv] w fun e w' => e = .returned (.bool true) ∧ Only (lsB k xs) w w' ∧ Th w w' := by
  obtain ⟨i3, hi3, hz30, hz31, hz32⟩ := info_parts infoI3
  obtain ⟨i30, hi30, hz300, hz301, hz302⟩ := info_parts infoI30
  have HLV : Hid (Whole w lv k xs) := hlv
  have HLB : Hid (∀ b, lv.ownBlock = some b → ¬ lsB k xs b) := hlb
  have HL : Hid (Lists w k xs ns) := hL
  have HOF : Hid (∀ q, q ≤ k → offN ns q ≤ 4611686018427387904) := hoff
  have HMX : Hid (∀ q, q < k → ns q ≤ 1048576) := hmx
  obtain ⟨la, lc, hlv'⟩ := hlv.slice
  have hkm : k ≤ 9223372036854775807 := by omega
  subst hlv'
  clear hlv hlb hL hoff hmx
  go_enter Try.func16, Try.ntmps16
  go_wp2_with fail
  go_loopw [3, 4, 5] (fun a b t wr => ∃ i : Nat, i ≤ k ∧ t = .int .i64 i ∧ a = .int .i64 (offN ns i : Nat) ∧ ∃ G, GrF w wr k xs ns (markI ns) b G i) (fun _ _ t _ => k - (intOf t).toNat)
  case atStart => exact ⟨0, Nat.zero_le _, rfl, rfl, fun _ => .bool true, GrF.start _ _ _ _ _ _⟩
  case round =>
    obtain ⟨i, hi, rfl, rfl, G, hG⟩ := hrel
    obtain ⟨w2, rfl⟩ : ∃ w2, w2 = wr := ⟨_, rfl⟩
    obtain ⟨gv, rfl⟩ : ∃ gv, gv = u4 := ⟨_, rfl⟩
    by_cases hlt : i < k
    · have i0 : (0 : Int) ≤ (i : Int) := Int.natCast_nonneg _
      have i1 : (i : Int) < (k : Int) := by omega
      obtain ⟨lg, lo, lc', hv, hcell, _⟩ := HLV.out.form (by omega)
      simp only [Value.slice.injEq, true_and] at hv
      obtain ⟨rfl, rfl⟩ := hv
      obtain ⟨xa, xc, hxi⟩ := (HL.out.room i hlt).form
      have HX : Hid (xs i = .slice xa (ns i) xc) := hxi
      have HC : Hid (∀ wr gv G, GrF w wr k xs ns (markI ns) gv G i → wr.cell? ⟨lg, lo + i, none⟩ = some (.slice xa (ns i) xc)) := fun wr gv G h => by
        rw [← hxi]; exact h.only.cell (hcell i hlt) (HLB.out _ rfl)
      have y0 := HC.out _ _ _ hG
      obtain ⟨nn, hnn⟩ : ∃ nn, nn = ns i := ⟨_, rfl⟩
      have HNN : Hid (nn = ns i) := hnn
      have hmax : nn ≤ 1048576 := hnn ▸ HMX.out i hlt
      have hof1 := HOF.out i hi
      have HOS : Hid (offN ns (i + 1) = offN ns i + (ns i + 9)) := rfl
      have hof2 := HOF.out (i + 1) hlt
      rw [HOS.out, ← hnn] at hof2
      rw [← hnn] at y0 hxi HOS
      obtain ⟨N, hN⟩ : ∃ N, N = offN ns i := ⟨_, rfl⟩
      have HN : Hid (N = offN ns i) := hN
      have HMK : Hid (∀ j, markI ns i j = .int .i64 ((N + j : Nat) : Int)) := fun j => by rw [hN]; rfl
      rw [← hN] at hof1 hof2 HOS
      rw [← hN]
      have HGM : Hid _ := GmF.start HL.out hG hlt
      clear hxi hnn hG hcell hN
      go_wp2_with fail
      go_loopw [7] (fun t wr => ∃ j : Nat, j ≤ nn ∧ t = .int .i64 j ∧ GmF w wr k xs ns (markI ns) gv G i j) (fun t _ => nn - (intOf t).toNat)
      case atStart => exact ⟨0, Nat.zero_le _, rfl, HGM.out⟩
      case round =>
        clear HGM y0
        obtain ⟨j, hj, rfl, hM⟩ := hrel
        obtain ⟨w3, rfl⟩ : ∃ w3, w3 = wr := ⟨_, rfl⟩
        have y0 := HC.out _ _ _ hM.gr
        rw [← HNN.out] at y0
        by_cases hlj : j < nn
        · have j0 : (0 : Int) ≤ (j : Int) := Int.natCast_nonneg _
          have j1 : (j : Int) < (nn : Int) := by omega
          have jw : IntKind.i64.wrap ((N : Int) + (j : Int)) = (N : Int) + (j : Int) := by rw [IntKind.wrap_i64]; omega
          obtain ⟨xg, xo, xc', hv, hth⟩ := hM.md.1.at_ (by rw [← HNN.out]; omega)
          have hx2 := hv
          rw [HX.out] at hv
          simp only [Value.slice.injEq, true_and] at hv
          obtain ⟨rfl, rfl⟩ := hv
          obtain ⟨yv, z0⟩ := Option.isSome_iff_exists.1 (hth j (by rw [← HNN.out]; omega)).1
          have z1 := (hth j (by rw [← HNN.out]; omega)).2
          have hmm := hM.more HL.out hlt (by rw [← HNN.out]; omega) hx2
          rw [HMK.out] at hmm
          have hcast : ((N + j : Nat) : Int) = (N : Int) + (j : Int) := by omega
          rw [hcast] at hmm
          have HMM : Hid _ := hmm
          clear hM hx2 hth hmm hcast
          go_wp2
          go_roundw
          case rel => exact ⟨j + 1, by omega, by go_num, HMM.out⟩
          case measure => simp [intOf]; omega
        · obtain rfl : j = nn := by omega
          have HW : Hid (GwF w w3 k xs ns (markI ns) gv G i (.slice xa j xc) 0 ∧ Link (xs i) (.slice xa j xc) (ns i) 0) := by
            have h1 := GwF.start HL.out (HNN.out ▸ hM) hlt
            rw [HX.out, ← HNN.out] at h1
            refine ⟨h1, .inl ⟨xa, xc, xc, HX.out, by rw [← HNN.out]; rfl⟩⟩
          clear hM
          go_wp2_with fail
          go_loopw [6, 8] (fun b t wr => ∃ m : Nat, m ≤ 9 ∧ t = .int .i64 m ∧ GwF w wr k xs ns (markI ns) gv G i b m ∧ Link (xs i) b (ns i) m) (fun _ t _ => 9 - (intOf t).toNat)
          case atStart => exact ⟨0, Nat.zero_le _, rfl, HW.out⟩
          case round =>
            clear HW y0
            obtain ⟨m, hm, rfl, hW, hLk⟩ := hrel
            obtain ⟨w4, rfl⟩ : ∃ w4, w4 = wr := ⟨_, rfl⟩
            obtain ⟨g, rfl⟩ : ∃ g, g = u6 := ⟨_, rfl⟩
            by_cases hlm : m < 9
            · have m0 : (0 : Int) ≤ (m : Int) := Int.natCast_nonneg _
              have m1 : (m : Int) < 9 := by omega
              have y0 := HC.out _ _ _ hW.gr
              rw [← HNN.out] at y0
              have mw1 : IntKind.i64.wrap ((N : Int) + (j : Int)) = (N : Int) + (j : Int) := by rw [IntKind.wrap_i64]; omega
              have mw2 : IntKind.i64.wrap ((N : Int) + (j : Int) + (m : Int)) = (N : Int) + (j : Int) + (m : Int) := by rw [IntKind.wrap_i64]; omega
              have oA : Only (fun _ => False) w4 (w4.alloc (.cells #[.int .i64 ((N : Int) + (j : Int) + (m : Int))] 3)) := (Only.refl _ w4).alloc _
              have hrow := hW.row.frame oA (fun _ _ e => e)
              have HEQ : Hid (markI ns i (ns i + m) = .int .i64 ((N : Int) + (j : Int) + (m : Int))) := (by rw [HMK.out, ← HNN.out]; congr 1; omega : _ = _)
              have HOA : Hid _ := oA
              have HWH : Hid _ := hW
              have HLK : Hid _ := hLk
              have hns : ns i ≤ 1048576 := HNN.out ▸ hmax
              clear hW oA hLk
              go_wp2_with (at_builtin; go_must (refine wpList_append_whole3 _ rfl _ _ 30 rfl 3 i3 _ 8 Try.underlying30 hi3 hz30 hz31 hz32 rfl _ (ns i + m) _ rfl hrow ⟨w4.heap.size, 0, none⟩ (.int .i64 ((N : Int) + (j : Int) + (m : Int))) rfl (by simp) rfl (by unfold maxLen; omega) (by omega) ?_); intro v' w5 hv5 ht5 ha5)
              have HW5 : Hid (GwF w w5 k xs ns (markI ns) gv G i v' (m + 1) ∧ Link (xs i) v' (ns i) (m + 1)) := by
                rw [← HEQ.out] at hv5
                have hmk := HWH.out.oldi.frame HOA.out HOA.out.th (fun _ _ e => e)
                have hlk := Link.next HLK.out hmk (fun b e => by have := HL.out.lt i b hlt e; have := HWH.out.gr.only.size; have := HOA.out.size; omega) hv5 ha5.out ht5
                exact ⟨HWH.out.more _ HL.out hlt hv5 hlk.2 ha5.out.grown ha5.out.own ht5, hlk.1⟩
              clear hrow hv5 ht5 ha5 y0
              go_wp2
              go_roundw
              case rel => exact ⟨m + 1, by omega, by go_num, HW5.out⟩
              case measure => simp [intOf]; omega
            · obtain rfl : m = 9 := by omega
              obtain ⟨ga, gc, hgs⟩ := hW.row.slice
              subst hgs
              have oA : Only (fun _ => False) w4 (w4.alloc (.cells #[.slice ga (ns i + 9) gc] 30)) := (Only.refl _ w4).alloc _
              have hrow := hW.gr.row.frame oA (fun _ _ e => e)
              have HWH : Hid _ := hW
              clear hW oA hLk
              rw [← HNN.out] at hrow
              obtain ⟨gl, hgl⟩ : ∃ gl, gl = ns i + 9 := ⟨_, rfl⟩
              have HGL : Hid (gl = ns i + 9) := hgl
              have hgl2 : gl = j + 9 := by have := HNN.out; omega
              have glw : IntKind.i64.wrap ((N : Int) + (gl : Int)) = (N : Int) + (gl : Int) := by rw [IntKind.wrap_i64]; omega
              have HOE : Hid ((N : Int) + (gl : Int) = ((offN ns (i + 1) : Nat) : Int)) := (by rw [HOS.out]; omega : _ = _)
              rw [← hgl] at HWH
              rw [← hgl]
              have hrow2 : Whole (w4.alloc (.cells #[.slice ga gl gc] 30)) gv i G := HWH.out.gr.row.frame ((Only.refl (fun _ => False) w4).alloc _) (fun _ _ e => e)
              clear hrow hgl hgl2
              go_wp2_with (at_builtin; go_must (refine wpList_append_whole _ rfl _ _ 34 rfl 30 i30 _ 24 Try.underlying34 hi30 hz300 hz301 hz302 rfl _ i _ rfl hrow2 ⟨w4.heap.size, 0, none⟩ (.slice ga gl gc) rfl (by simp) rfl (by unfold maxLen; omega) (by omega) ?_); intro v' w5 hv5 hg5 hb5 ht5)
              have HG5 : Hid _ := GrF.more _ HL.out hlt HWH.out hv5 hg5 hb5 ht5
              clear hrow2 hv5 hg5 hb5 ht5
              go_wp2
              go_roundw
              case rel => exact ⟨i + 1, by omega, by go_num, by rw [← HOE.out], _, HG5.out⟩
              case measure => simp [intOf]; omega
    · obtain rfl : i = k := by omega
      obtain ⟨ga, gc, hgs⟩ := hG.row.slice
      subst hgs
      have HG : Hid _ := hG
      clear hG
      go_wp2_with fail
      go_loopw [3, 9] (fun a t wr => ∃ q : Nat, q ≤ i ∧ t = .int .i64 q ∧ a = .int .i64 (offN ns q : Nat) ∧ w2 = wr) (fun _ t _ => i - (intOf t).toNat)
      case atStart => exact ⟨0, Nat.zero_le _, rfl, rfl, rfl⟩
      case round =>
        obtain ⟨q, hq, rfl, rfl, rfl⟩ := hrel
        by_cases hlq : q < i
        · have q0 : (0 : Int) ≤ (q : Int) := Int.natCast_nonneg _
          have q1 : (q : Int) < (i : Int) := by omega
          obtain ⟨bg, bo, bc, hv, gg, go, gc', y0, y1⟩ := HG.out.done q hlq
          simp only [Value.slice.injEq, true_and] at hv
          obtain ⟨rfl, rfl⟩ := hv
          obtain ⟨lg, lo, lc', hv, hcell, _⟩ := HLV.out.form (by omega)
          simp only [Value.slice.injEq, true_and] at hv
          obtain ⟨rfl, rfl⟩ := hv
          obtain ⟨xa, xc, hxi⟩ := (HL.out.room q hlq).form
          have yl := HG.out.only.cell (hcell q hlq) (HLB.out _ rfl)
          have hold := (HG.out.old q hlq)
          rw [hxi] at yl hold
          obtain ⟨sn, hsn⟩ : ∃ sn, sn = ns q := ⟨_, rfl⟩
          have hsm : sn ≤ 1048576 := hsn ▸ HMX.out q hlq
          obtain ⟨nn, hnn⟩ : ∃ nn, nn = ns q + 9 := ⟨_, rfl⟩
          have hof1 := HOF.out q (by omega)
          have hof2 := HOF.out (q + 1) (by omega)
          have HOS : Hid (offN ns (q + 1) = offN ns q + nn) := (by rw [hnn]; rfl : _ = _)
          rw [HOS.out] at hof2
          rw [← hnn] at y0 y1
          rw [← hsn] at yl hold
          have hns : nn = sn + 9 := by omega
          have HNS : Hid (nn = sn + 9) := hns
          have hnm : nn ≤ 1048600 := by omega
          obtain ⟨N, hN⟩ : ∃ N, N = offN ns q := ⟨_, rfl⟩
          have HMK : Hid (∀ j, markI ns q j = .int .i64 ((N + j : Nat) : Int)) := fun j => by rw [hN]; rfl
          rw [← hN] at hof1 hof2 HOS
          rw [← hN]
          have Y1 : Hid _ := y1
          have YO : Hid (∀ g o c, Value.slice xa sn xc = .slice (some ⟨g, o, none⟩) sn c → ∀ j, j < sn → w2.cell? ⟨g, o + j, none⟩ = some (markI ns q j)) := hold.2
          have YR : Hid (Room w2 (.slice xa sn xc) sn) := hold.1
          clear y1 hnn hold hsn hcell hN hxi hns
          go_wp2_with fail
          go_loopw [10] (fun t wr => ∃ j : Nat, j ≤ nn ∧ t = .int .i64 j ∧ w2 = wr) (fun t _ => nn - (intOf t).toNat)
          case atStart => exact ⟨0, Nat.zero_le _, rfl, rfl⟩
          case round =>
            obtain ⟨j, hj, rfl, rfl⟩ := hrel
            by_cases hlj : j < nn
            · have j0 : (0 : Int) ≤ (j : Int) := Int.natCast_nonneg _
              have j1 : (j : Int) < (nn : Int) := by omega
              have jw : IntKind.i64.wrap ((N : Int) + (j : Int)) = (N : Int) + (j : Int) := by rw [IntKind.wrap_i64]; omega
              have y1 := Y1.out j hlj
              rw [HMK.out, show ((N + j : Nat) : Int) = (N : Int) + (j : Int) by omega] at y1
              have jne : (((N : Int) + (j : Int)) != ((N : Int) + (j : Int))) = false := by simp
              by_cases hls : j < sn
              · have j2 : (j : Int) < (sn : Int) := by omega
                obtain ⟨g, o, c2, hv, hth⟩ := YR.out.at_ (by omega)
                have y2 := YO.out g o c2 hv j hls
                simp only [Value.slice.injEq, true_and] at hv
                obtain ⟨rfl, rfl⟩ := hv
                rw [HMK.out, show ((N + j : Nat) : Int) = (N : Int) + (j : Int) by omega] at y2
                clear hth
                go_wp2
                go_roundw
                case rel => exact ⟨j + 1, by omega, by go_num, trivial⟩
                case measure => simp [intOf]; omega
              · have j2 : ¬ (j : Int) < (sn : Int) := by omega
                go_wp2
                go_roundw
                case rel => exact ⟨j + 1, by omega, by go_num, trivial⟩
                case measure => simp [intOf]; omega
            · obtain rfl : j = nn := by omega
              have jw : IntKind.i64.wrap ((N : Int) + (j : Int)) = (N : Int) + (j : Int) := by rw [IntKind.wrap_i64]; omega
              go_wp2
              go_roundw
              case rel => exact ⟨q + 1, by omega, by go_num, by rw [HOS.out]; simp, trivial⟩
              case measure => simp [intOf]; omega
        · obtain rfl : q = i := by omega
          go_wp2
          go_ret
          exact ⟨rfl, HG.out.only, HG.out.th⟩
end Go.Proofs.Ytdcflnfdaijpdab
