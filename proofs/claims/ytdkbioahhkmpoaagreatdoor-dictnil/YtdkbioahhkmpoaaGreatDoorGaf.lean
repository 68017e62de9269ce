/- Copies of rows: anew and copyEach. Values of any kind as the document's trees: how these lie in memory. A measure of a value, of an item; all of them. A measure of a list, of a quotation, of an item; of all. The measure of values: a list of two, a quotation of one. -/
import Derived.Test.YtdkbioahhkmpoaaGreatDoorGaa
import Derived.Test.YtdkbioahhkmpoaaGreatDoorGae
import Derived.Deep.AppendSrc
import Derived.Lib.SliceRun
import Derived.Laws.MakeOwn
import Derived.Laws.CopyRow
import Derived.Test.YtdkbioahhkmpoaaGreatDoorGad
namespace Go.Proofs.YtdkbioahhkmpoaaGreatDoor
open Go.RowKit Go.Lib
set_option linter.unusedSimpArgs false
set_option linter.unusedVariables false
theorem mk_row {sT eT : TypeId} (hT : Tryz.prog.underlying sT = some (.slice eT)) (hI : (Tryz.prog.info? eT).map (fun i => (i.zero, i.size, i.bytes)) = some (some .nilIface, 1, 16)) (n : Nat) (hn : n ≤ 2513169434900) : ∃ M : Array Value, M.size = n ∧ ∀ w : World, (Instr.makeSlice sT (.int .i64 0) (.int .i64 n)).run Tryz.prog w = .ok (.slice (some ⟨w.heap.size, 0, none⟩) 0 n) (w.alloc (.cells M eT)) := by
  obtain ⟨i0, hi0, hz0, hz1, hz2⟩ := vinfo_parts hI
  refine ⟨madeCells (Value.nilIface).cells n, size_madeCells _ _, fun w => ?_⟩
  have := run_make (P := Tryz.prog) w sT eT i0 _ hT hi0 hz0 .i64 .i64 0 (n : Int) (by omega) (by omega) (by rw [hz2]; omega) (by omega)
  rw [hz1, show ((n : Int)).toNat = n by omega, Nat.mul_one] at this
  exact this
theorem ap_row {sT eT : TypeId} (hT : Tryz.prog.underlying sT = some (.slice eT)) (hI : (Tryz.prog.info? eT).map (fun i => (i.zero, i.size, i.bytes)) = some (some .nilIface, 1, 16)) {W : World} {g n cap : Nat} {a : Addr} {us : List Value} {cur : Array Value} (hl : us.length = n) (hu : ∀ j u, us[j]? = some u → W.cell? (a.add j) = some u) (h1 : ∀ u ∈ us, u.oneCell' = true) (hg : W.heap[g]? = some (.cells cur eT)) (hc : cur.size = n) (ty : TypeId) :
    (Builtin.append_ #[sT, sT] ty #[.slice (some ⟨g, 0, none⟩) 0 n, .slice (some a) n cap]).run Tryz.prog W = .ok (.slice (some ⟨g, 0, none⟩) n n) (W.setRow g us.toArray) := by
  obtain ⟨i0, hi, hz0, hz1, hz2⟩ := vinfo_parts hI
  have hs : Src Tryz.prog i0.size sT (.slice (some a) n cap) n us W := Src.ofSlice W hT a n cap us (by rw [hz1, Nat.mul_one]; exact hl) hu h1
  have hst := run_storeCells_at Tryz.prog g 0 eT us 0 cur W hg (by omega) h1
  simp only [Nat.add_zero, Nat.zero_add, List.take_zero, List.nil_append] at hst
  rw [show cur.toList.drop us.length = [] from List.drop_eq_nil_of_le (by simp; omega), List.append_nil] at hst
  have hroom : 0 + n ≤ n := by omega
  rcases hs.kind with ⟨e', hk⟩ | hk <;> simp [Builtin.append_, run_underlying hT, run_underlying hk, sizeOf, typeInfo, hi, hs.len, hroom, hs.cells, Addr.add_lit, hst]
theorem setRow_only {w : World} {g : Nat} {cs : Array Value} : Only (fun b => b = g) w (w.setRow g cs) := by
  refine ⟨rfl, rfl, rfl, by simp [World.setRow], fun j _ hne => ?_⟩
  show (w.heap.modify g _)[j]? = w.heap[j]?
  rw [Array.getElem?_modify, if_neg (fun h => hne h.symm)]
theorem TiAt.one {w : World} {S : Nat → Prop} {d : Nat} {i : Bool} {t : Vt} {v : Value} (h : TiAt w S d i t v) : v.oneCell' = true := by
  cases d with
  | zero => exact h.elim
  | succ d =>
    cases i with
    | true => rcases h with ⟨_, _, rfl⟩ | ⟨_, _, rfl⟩ | ⟨_, _, u, rfl, _⟩ <;> rfl
    | false => rcases h with ⟨_, _, rfl⟩ | ⟨_, _, rfl⟩ | ⟨_, _, rfl⟩ | ⟨_, _, rfl⟩ | ⟨_, _, rfl⟩ | ⟨_, ao, cap, rfl, _⟩ <;> rfl
theorem TiAt.shape2 {w : World} {S : Nat → Prop} {d : Nat} {i : Bool} {t : Vt} {v : Value} (h : TiAt w S d i t v) : v = .nilIface ∨ ∃ T y, v = .iface T y := by
  cases d with
  | zero => exact h.elim
  | succ d =>
    cases i with
    | true => rcases h with ⟨_, _, rfl⟩ | ⟨_, _, rfl⟩ | ⟨_, _, u, rfl, _⟩ <;> first | exact .inl rfl | exact .inr ⟨_, _, rfl⟩
    | false => rcases h with ⟨_, _, rfl⟩ | ⟨_, _, rfl⟩ | ⟨_, _, rfl⟩ | ⟨_, _, rfl⟩ | ⟨_, _, rfl⟩ | ⟨_, ao, cap, rfl, _⟩ <;> first | exact .inl rfl | exact .inr ⟨_, _, rfl⟩
/-- a slice as anew makes it: the values us in a block of its own since w, or nothing -/
def AnP (eT : TypeId) (us : List Value) (w : World) (e : Ending) (w' : World) : Prop := (us = [] ∧ e = .returned (.slice none 0 0) ∧ w' = w) ∨ ∃ g, e = .returned (.slice (some ⟨g, 0, none⟩) us.length us.length) ∧ w.heap.size ≤ g ∧ w'.heap[g]? = some (.cells us.toArray eT) ∧ Only (fun _ => False) w w'
/-- what copies a part: its contract -/
def CpC (d : Nat) (i : Bool) (F : Nat) : Prop := ∀ (t : Vt) (v : Value) (w : World) (S : Nat → Prop), TiAt w S d i t v → (∃ e, SmT e t) → (∀ b, S b → b < w.heap.size) → Calls Tryz.prog F #[v] w fun e w' => ∃ v', e = .returned v' ∧ Hid (NiAt w' w.heap.size d i t v' ∧ Only (fun _ => False) w w')
/-- the parts l of a row at ao -/
def PsAt (w : World) (S : Nat → Prop) (d : Nat) (i : Bool) (l : List Vt) (ao : Option Addr) : Prop := ∀ (j : Nat) (x : Vt), l[j]? = some x → ∃ g q u, ao = some ⟨g, q, none⟩ ∧ S g ∧ w.cell? ⟨g, q + j, none⟩ = some u ∧ TiAt w S d i x u
/-- what copyEach answers -/
def CeC (d : Nat) (i : Bool) (F G : Nat) : Prop := ∀ (l : List Vt) (ao : Option Addr) (cap : Nat) (w : World) (S : Nat → Prop), PsAt w S d i l ao → (∀ b, S b → b < w.heap.size) → (∀ x ∈ l, ∃ e, SmT e x) → l.length ≤ 2513169434900 → (ao = none → l = []) →
  Calls Tryz.prog G #[.slice ao l.length cap, .func (.func F) #[] #[]] w fun e w' => ∃ ao' cap', e = .returned (.slice ao' l.length cap') ∧ Hid (l.length ≤ cap' ∧ (∃ S', PsAt w' S' d i l ao' ∧ ∀ b, S' b → w.heap.size ≤ b ∧ Liv w' b) ∧ Only (fun _ => False) w w')
theorem ps_row0 {w : World} {S : Nat → Prop} {d : Nat} {i : Bool} {l : List Vt} {ao : Option Addr} (h : PsAt w S d i l ao) : ∀ m, m ≤ l.length → ∃ us : List Value, us.length = m ∧ ∀ (j : Nat) (u : Value), us[j]? = some u → ∃ x, l[j]? = some x ∧ (∀ a, ao = some a → w.cell? (a.add j) = some u) ∧ TiAt w S d i x u := by
  intro m
  induction m with
  | zero => intro _; exact ⟨[], rfl, fun j u hu => by simp at hu⟩
  | succ m ih =>
    intro hm
    obtain ⟨us, h1, h2⟩ := ih (by omega)
    obtain ⟨g, q, u, ha, hg, hc, ht⟩ := h m (l[m]'(by omega)) (List.getElem?_eq_getElem (by omega))
    refine ⟨us ++ [u], by simp [h1], fun j v hv => ?_⟩
    by_cases hj : j < us.length
    · rw [List.getElem?_append_left hj] at hv
      exact h2 j v hv
    · have hj2 := (List.getElem?_eq_some_iff.1 hv).1
      have hj3 : j = us.length := by simp at hj2; omega
      subst hj3
      simp at hv
      subst hv
      refine ⟨_, by rw [h1]; exact List.getElem?_eq_getElem (by omega), fun a e => ?_, ht⟩
      rw [ha] at e
      injection e with e
      rw [← e, Addr.add_mid, h1]
      exact hc
theorem ps_row {w : World} {S : Nat → Prop} {d : Nat} {i : Bool} {l : List Vt} {ao : Option Addr} (h : PsAt w S d i l ao) : ∃ us : List Value, us.length = l.length ∧ (∀ u ∈ us, u.oneCell' = true) ∧ (∀ a, ao = some a → ∀ j u, us[j]? = some u → w.cell? (a.add j) = some u) ∧ ∀ (j : Nat) (x : Vt), l[j]? = some x → ∃ u, us[j]? = some u ∧ TiAt w S d i x u := by
  obtain ⟨us, h1, h2⟩ := ps_row0 h l.length (Nat.le_refl _)
  refine ⟨us, h1, fun u hu => ?_, fun a e j u hu => ?_, fun j x hx => ?_⟩
  · obtain ⟨j, hj, e⟩ := List.mem_iff_getElem.1 hu
    obtain ⟨x, _, _, ht⟩ := h2 j u (by rw [← e]; exact List.getElem?_eq_getElem hj)
    exact ht.one
  · obtain ⟨x, _, hc, _⟩ := h2 j u hu
    exact hc a e
  · have hj := (List.getElem?_eq_some_iff.1 hx).1
    obtain ⟨y, hy, _, ht⟩ := h2 j (us[j]'(by omega)) (List.getElem?_eq_getElem (by omega))
    rw [hx] at hy
    injection hy with hy
    rw [hy]
    exact ⟨_, List.getElem?_eq_getElem (by omega), ht⟩
/-- a copy under way: j parts are copied, the others are still those that were handed in -/
def CeI (w wr : World) (S : Nat → Prop) (d : Nat) (i : Bool) (eT : TypeId) (l : List Vt) (G j : Nat) : Prop :=
  ∃ (vs : List Value) (S' : Nat → Prop), vs.length = l.length ∧ wr.heap[G]? = some (.cells vs.toArray eT) ∧ Only (fun _ => False) w wr ∧ w.heap.size ≤ G ∧
    (∀ b, S' b → w.heap.size ≤ b ∧ Liv wr b ∧ b ≠ G) ∧ (∀ u ∈ vs, u.oneCell' = true) ∧ ∀ (k : Nat) (x : Vt), l[k]? = some x → ∃ u, vs[k]? = some u ∧ (k < j → TiAt wr S' d i x u) ∧ (j ≤ k → TiAt wr S d i x u)
theorem CeI.step {w wr w2 : World} {S : Nat → Prop} {d : Nat} {i : Bool} {eT : TypeId} {l : List Vt} {G j : Nat} {x : Vt} {v' : Value} (hS : ∀ b, S b → b < w.heap.size) (h : CeI w wr S d i eT l G j) (hx : l[j]? = some x) (hn : NiAt w2 wr.heap.size d i x v') (o : Only (fun _ => False) wr w2) : CeI w (w2.setCell ⟨G, j, none⟩ v') S d i eT l G (j + 1) := by
  obtain ⟨vs, S', h1, h2, h3, h4, h5, h6, h7⟩ := h
  obtain ⟨S2, t2, s2⟩ := hn
  have hGlt : G < wr.heap.size := (Array.getElem?_eq_some_iff.1 h2).1
  have hw2 : w2.heap[G]? = some (.cells vs.toArray eT) := (o.block G hGlt (fun g => g)).trans h2
  have hjl : j < l.length := (List.getElem?_eq_some_iff.1 hx).1
  have oo : Only (fun b => b = G) w2 (w2.setCell ⟨G, j, none⟩ v') := (Only.refl _ _).setCell ⟨G, j, none⟩ v' (fun _ => rfl)
  have hsz : (w2.setCell ⟨G, j, none⟩ v').heap.size = w2.heap.size := by simp
  refine ⟨vs.set j v', fun b => S' b ∨ S2 b, by simpa using h1, ?_, (h3.trans o (fun _ _ g => g)).trans oo (fun b hb e => by omega), h4, fun b hb => ?_, fun u hu => ?_, fun k y hy => ?_⟩
  · rw [heap_setCell_same w2 G j vs.toArray eT v' hw2]
    simp
  · rcases hb with g | g
    · obtain ⟨a1, a2, a3⟩ := h5 b g
      exact ⟨a1, (a2.only o (fun g => g)).only oo a3, a3⟩
    · obtain ⟨a1, a2⟩ := s2 b g
      have a3 : b ≠ G := by omega
      exact ⟨Nat.le_trans h3.size a1, a2.only oo a3, a3⟩
  · rcases List.mem_or_eq_of_mem_set hu with g | g
    · exact h6 u g
    · rw [g]; exact t2.one
  · obtain ⟨u, p1, p2, p3⟩ := h7 k y hy
    have nS : ∀ b, S b → ¬ b = G := fun b g e => by have := hS b g; omega
    by_cases hk : k = j
    · subst hk
      rw [hx] at hy
      injection hy with hy
      subst hy
      refine ⟨v', by rw [List.getElem?_set_self (by omega)], fun _ => ?_, fun g => by omega⟩
      exact (t2.only oo (fun b g e => by have := (s2 b g).1; omega)).step (fun _ g => .inr g) (fun _ _ _ g => g) (Nat.le_refl _)
    · refine ⟨u, by rw [List.getElem?_set_ne (fun e => hk e.symm)]; exact p1, fun g => ?_, fun g => ?_⟩
      · have t1 := p2 (by omega)
        exact ((t1.only o (fun _ _ g => g)).only oo (fun b g => (h5 b g).2.2)).step (fun _ g => .inl g) (fun _ _ _ g => g) (Nat.le_refl _)
      · exact ((p3 (by omega)).only o (fun _ _ g => g)).only oo nS
set_option maxRecDepth 100000 in
theorem anew_v (us : List Value) (h1 : ∀ u ∈ us, u.oneCell' = true) (ao : Option Addr) (cap : Nat) (w : World) (hn : us.length ≤ 2513169434900) (hnil : ao = none → us = []) (hc : ∀ a, ao = some a → ∀ j u, us[j]? = some u → w.cell? (a.add j) = some u) : Calls Tryz.prog 93 #[.slice ao us.length cap] w fun e w' => AnP 76 us w e w' := by
  cases ao with
  | none =>
    have e0 := hnil rfl
    subst e0
    have heq : (binOp .eql 130 (.slice none 0 cap) (.slice none 0 0)).run Tryz.prog w = .ok (.bool true) w := Go.Lib.run_eql_slice_nil w _ _ none 0 cap 0 0 Tryz.underlying130
    have HP : Hid (∀ e, e = .returned (.slice none 0 0) → AnP 76 [] w e w) := fun e he => .inl ⟨rfl, he, rfl⟩
    clear h1 hn hnil hc
    go_enter Tryz.func93, Tryz.ntmps93
    go_wp2
    go_ret
    exact HP.out _ rfl
  | some a =>
    obtain ⟨M, hM, hmk0⟩ := mk_row Tryz.underlying130 vinfoV us.length hn
    have hmk := hmk0 w
    obtain ⟨W, hW⟩ : ∃ W, W = w.alloc (.cells M 76) := ⟨_, rfl⟩
    have o1 : Only (fun _ => False) w W := by rw [hW]; exact (Only.refl _ w).alloc _
    have hgW : W.heap[w.heap.size]? = some (.cells M 76) := by rw [hW]; exact heap_alloc_new w _
    have hap : ∀ ty, _ := ap_row Tryz.underlying130 vinfoV (W := W) (cap := cap) rfl (fun j u hu => o1.cell (hc a rfl j u hu) (fun g => g)) h1 hgW hM
    obtain ⟨N, hN⟩ : ∃ N, N = us.length := ⟨_, rfl⟩
    have HP : Hid (AnP 76 us w (.returned (.slice (some ⟨w.heap.size, 0, none⟩) N N)) (W.setRow w.heap.size us.toArray)) := by
      refine .inr ⟨w.heap.size, by rw [hN], Nat.le_refl _, setRow_heap W _ M _ _ _ hgW, o1.trans setRow_only (fun b hb e => by omega)⟩
    obtain ⟨U, hU⟩ : ∃ U, U = W.setRow w.heap.size us.toArray := ⟨_, rfl⟩
    rw [← hN, ← hU] at hap
    rw [← hU] at HP
    rw [← hN, ← hW] at hmk
    have HR : Hid _ := hap
    have heq : (binOp .eql 130 (.slice (some a) N cap) (.slice none 0 0)).run Tryz.prog w = .ok (.bool false) w := Go.Lib.run_eql_slice_nil w _ _ (some a) N cap 0 0 Tryz.underlying130
    have i1 : N ≤ 2513169434900 := by omega
    rw [← hN]
    clear h1 hn hnil hc hM hmk0 hW o1 hgW hap hN hU
    go_enter Tryz.func93, Tryz.ntmps93
    go_wp2_with (at_builtin; refine vwpList_append_run rfl _ _ 130 rfl _ _ _ rfl rfl HR.out ?_)
    go_ret
    exact HP.out
set_option maxRecDepth 100000 in
set_option maxHeartbeats 4000000 in
theorem ce_v (d : Nat) (H : CpC d false 49) : CeC d false 49 67 := by
  intro l ao cap w S hl hS hsm hlen hnil
  obtain ⟨us, u1, u2, u3, u4⟩ := ps_row hl
  have HA : Hid (Calls Tryz.prog 93 #[.slice ao us.length cap] w fun e w' => AnP 76 us w e w') := anew_v us u2 ao cap w (by omega) (fun e => List.length_eq_zero_iff.1 (by rw [u1, hnil e]; rfl)) u3
  obtain ⟨N, hN⟩ : ∃ N, N = l.length := ⟨_, rfl⟩
  have HN : Hid (N = l.length ∧ N ≤ 2513169434900 ∧ us.length = l.length) := ⟨hN, by omega, u1⟩
  rw [u1, ← hN] at HA
  rw [← hN]
  have HT : Hid ((∀ (j : Nat) (x : Vt), l[j]? = some x → ∃ u, us[j]? = some u ∧ TiAt w S d false x u) ∧ (∀ u ∈ us, u.oneCell' = true) ∧ (∀ b, S b → b < w.heap.size) ∧ ∀ x ∈ l, ∃ e, SmT e x) := ⟨u4, u2, hS, hsm⟩
  clear hl hS hsm hlen hnil u1 u2 u3 u4 hN
  go_enter Tryz.func67, Tryz.ntmps67
  go_wp2_with fail
  refine (show Calls Tryz.prog 93 _ _ _ from HA.out).mono ?_
  intro e w1 g1
  rcases g1 with ⟨e0, rfl, rfl⟩ | ⟨G, rfl, hG, hr1, o1⟩
  · have hz : N = 0 := by rw [HN.out.1, ← HN.out.2.2, e0]; rfl
    have HF : Hid (N = 0 ∧ l = []) := ⟨hz, List.length_eq_zero_iff.1 (by rw [← HN.out.1]; exact hz)⟩
    clear HA hz e0
    go_wp2
    go_loopw [12] (fun r wr => r = .int .i64 0 ∧ wr = w1) (fun r _ => 0)
    case atStart => exact ⟨rfl, rfl⟩
    case round =>
      obtain ⟨rfl, rfl⟩ := hrel
      obtain ⟨z1, z2⟩ := HF.out
      go_wp2
      go_ret
      exact ⟨none, 0, by rw [z1]; rfl, by rw [z1]; exact Nat.zero_le _, ⟨fun _ => False, fun j x hx => by rw [z2] at hx; simp at hx, fun b hb => hb.elim⟩, Only.refl _ _⟩
  · have HI0 : Hid (CeI w w1 S d false 76 l G 0) := by
      refine ⟨us, fun _ => False, HN.out.2.2, hr1, o1, hG, fun b hb => hb.elim, HT.out.2.1, fun k x hx => ?_⟩
      obtain ⟨u, p1, p2⟩ := HT.out.1 k x hx
      exact ⟨u, p1, fun g => by omega, fun _ => p2.only o1 (fun _ _ g => g)⟩
    obtain ⟨K, hK⟩ : ∃ K, K = us.length := ⟨_, rfl⟩
    rw [← hK]
    have HK : Hid (K = N) := by rw [hK]; exact HN.out.2.2.trans HN.out.1.symm
    obtain rfl : K = N := HK.out
    clear hr1 o1 hG HA hK HK
    go_wp2
    go_loopw [12] (fun r wr => ∃ j : Nat, r = .int .i64 (j : Int) ∧ j ≤ K ∧ Hid (CeI w wr S d false 76 l G j)) (fun r _ => K - vuOf r)
    case atStart => exact ⟨0, rfl, Nat.zero_le _, HI0.out⟩
    case round =>
      obtain ⟨j, rfl, hj, HI⟩ := hrel
      obtain ⟨w2, hw2⟩ : ∃ w2, w2 = wr := ⟨_, rfl⟩
      rw [← hw2] at HI ⊢
      clear hw2
      have hNl := HN.out.1
      by_cases hjN : j < K
      · obtain ⟨x, hx⟩ : ∃ x, l[j]? = some x := ⟨l[j]'(by omega), List.getElem?_eq_getElem (by omega)⟩
        obtain ⟨vs, S', q1, q2, q3, q4, q5, q6, q7⟩ := HI.out
        obtain ⟨u, p1, _, p3⟩ := q7 j x hx
        have hcell : w2.cell? ⟨G, j, none⟩ = some u := by
          rw [cell_of_row _ _ _ _ _ _ q2]
          simpa using p1
        have HC : Hid _ := H x u w2 S (p3 (Nat.le_refl _)) (HT.out.2.2.2 x (List.mem_of_getElem? hx)) (fun b g => Nat.lt_of_lt_of_le (HT.out.2.2.1 b g) q3.size)
        have HX : Hid (j < K ∧ l[j]? = some x) := ⟨hjN, hx⟩
        have i1 : (j : Int) < (K : Int) := by omega
        have i0 : (0 : Int) ≤ (j : Int) := by omega
        have i4 : j ≤ 2513169434900 := by have := HN.out.2.1; omega
        clear q1 q2 q3 q4 q5 q6 q7 p1 p3 hx hNl hjN hj
        go_wp2_with fail
        refine (show Calls Tryz.prog 49 _ _ _ from HC.out).mono ?_
        rintro e w3 ⟨v', rfl, G3⟩
        have HI2 : Hid (CeI w (w3.setCell ⟨G, j, none⟩ v') S d false 76 l G (j + 1)) := HI.out.step HT.out.2.2.1 HX.out.2 G3.out.1 G3.out.2
        have hone : v'.oneCell' = true := by obtain ⟨_, t, _⟩ := G3.out.1; exact t.one
        have hc3 : w3.cell? ⟨G, j, none⟩ = some u := G3.out.2.cell hcell (fun g => g)
        have hf3 : w3.frozen? ⟨G, j, none⟩ = false := by
          obtain ⟨vs, S', q1, q2, _⟩ := HI.out
          exact frozen_of_row _ _ _ _ _ ((G3.out.2.block G (Array.getElem?_eq_some_iff.1 q2).1 (fun g => g)).trans q2)
        have HJ : Hid (j < K) := HX.out.1
        have hform : v' = .nilIface ∨ ∃ T y, v' = .iface T y := by obtain ⟨_, t, _⟩ := G3.out.1; exact t.shape2
        clear HC HX HI G3 hcell hone
        rcases hform with rfl | ⟨T, y, rfl⟩
        all_goals
          go_wp2
          go_roundw
          case rel => exact ⟨j + 1, by go_num, by have := HJ.out; omega, HI2⟩
          case measure => simp only [vuOf]; have := HJ.out; omega
      · obtain rfl : j = K := by omega
        have i1 : ¬ (j : Int) < (j : Int) := by omega
        clear hNl hjN hj
        go_wp2
        go_ret
        refine ⟨some ⟨G, 0, none⟩, j, rfl, by rw [HN.out.1]; exact Nat.le_refl _, ?_, ?_⟩
        · obtain ⟨vs, S', q1, q2, q3, q4, q5, q6, q7⟩ := HI.out
          refine ⟨fun b => S' b ∨ b = G, fun k x hx => ?_, fun b hb => ?_⟩
          · obtain ⟨u, p1, p2, _⟩ := q7 k x hx
            have hk := (List.getElem?_eq_some_iff.1 hx).1
            refine ⟨G, 0, u, rfl, .inr rfl, ?_, (p2 (by rw [HN.out.1]; exact hk)).step (fun _ g => .inl g) (fun _ _ _ g => g) (Nat.le_refl _)⟩
            rw [Nat.zero_add, cell_of_row _ _ _ _ _ _ q2]
            simpa using p1
          · rcases hb with g | rfl
            · exact ⟨(q5 b g).1, (q5 b g).2.1⟩
            · exact ⟨q4, Liv.of q2⟩
        · obtain ⟨vs, S', q1, q2, q3, _⟩ := HI.out
          exact q3
set_option maxRecDepth 100000 in
theorem anew_i (us : List Value) (h1 : ∀ u ∈ us, u.oneCell' = true) (ao : Option Addr) (cap : Nat) (w : World) (hn : us.length ≤ 2513169434900) (hnil : ao = none → us = []) (hc : ∀ a, ao = some a → ∀ j u, us[j]? = some u → w.cell? (a.add j) = some u) : Calls Tryz.prog 94 #[.slice ao us.length cap] w fun e w' => AnP 137 us w e w' := by
  cases ao with
  | none =>
    have e0 := hnil rfl
    subst e0
    have heq : (binOp .eql 25 (.slice none 0 cap) (.slice none 0 0)).run Tryz.prog w = .ok (.bool true) w := Go.Lib.run_eql_slice_nil w _ _ none 0 cap 0 0 Tryz.underlying25
    have HP : Hid (∀ e, e = .returned (.slice none 0 0) → AnP 137 [] w e w) := fun e he => .inl ⟨rfl, he, rfl⟩
    clear h1 hn hnil hc
    go_enter Tryz.func94, Tryz.ntmps94
    go_wp2
    go_ret
    exact HP.out _ rfl
  | some a =>
    obtain ⟨M, hM, hmk0⟩ := mk_row Tryz.underlying25 vinfoI us.length hn
    have hmk := hmk0 w
    obtain ⟨W, hW⟩ : ∃ W, W = w.alloc (.cells M 137) := ⟨_, rfl⟩
    have o1 : Only (fun _ => False) w W := by rw [hW]; exact (Only.refl _ w).alloc _
    have hgW : W.heap[w.heap.size]? = some (.cells M 137) := by rw [hW]; exact heap_alloc_new w _
    have hap : ∀ ty, _ := ap_row Tryz.underlying25 vinfoI (W := W) (cap := cap) rfl (fun j u hu => o1.cell (hc a rfl j u hu) (fun g => g)) h1 hgW hM
    obtain ⟨N, hN⟩ : ∃ N, N = us.length := ⟨_, rfl⟩
    have HP : Hid (AnP 137 us w (.returned (.slice (some ⟨w.heap.size, 0, none⟩) N N)) (W.setRow w.heap.size us.toArray)) := by
      refine .inr ⟨w.heap.size, by rw [hN], Nat.le_refl _, setRow_heap W _ M _ _ _ hgW, o1.trans setRow_only (fun b hb e => by omega)⟩
    obtain ⟨U, hU⟩ : ∃ U, U = W.setRow w.heap.size us.toArray := ⟨_, rfl⟩
    rw [← hN, ← hU] at hap
    rw [← hU] at HP
    rw [← hN, ← hW] at hmk
    have HR : Hid _ := hap
    have heq : (binOp .eql 25 (.slice (some a) N cap) (.slice none 0 0)).run Tryz.prog w = .ok (.bool false) w := Go.Lib.run_eql_slice_nil w _ _ (some a) N cap 0 0 Tryz.underlying25
    have i1 : N ≤ 2513169434900 := by omega
    rw [← hN]
    clear h1 hn hnil hc hM hmk0 hW o1 hgW hap hN hU
    go_enter Tryz.func94, Tryz.ntmps94
    go_wp2_with (at_builtin; refine vwpList_append_run rfl _ _ 25 rfl _ _ _ rfl rfl HR.out ?_)
    go_ret
    exact HP.out
set_option maxRecDepth 100000 in
set_option maxHeartbeats 4000000 in
theorem ce_i (d : Nat) (H : CpC d true 69) : CeC d true 69 68 := by
  intro l ao cap w S hl hS hsm hlen hnil
  obtain ⟨us, u1, u2, u3, u4⟩ := ps_row hl
  have HA : Hid (Calls Tryz.prog 94 #[.slice ao us.length cap] w fun e w' => AnP 137 us w e w') := anew_i us u2 ao cap w (by omega) (fun e => List.length_eq_zero_iff.1 (by rw [u1, hnil e]; rfl)) u3
  obtain ⟨N, hN⟩ : ∃ N, N = l.length := ⟨_, rfl⟩
  have HN : Hid (N = l.length ∧ N ≤ 2513169434900 ∧ us.length = l.length) := ⟨hN, by omega, u1⟩
  rw [u1, ← hN] at HA
  rw [← hN]
  have HT : Hid ((∀ (j : Nat) (x : Vt), l[j]? = some x → ∃ u, us[j]? = some u ∧ TiAt w S d true x u) ∧ (∀ u ∈ us, u.oneCell' = true) ∧ (∀ b, S b → b < w.heap.size) ∧ ∀ x ∈ l, ∃ e, SmT e x) := ⟨u4, u2, hS, hsm⟩
  clear hl hS hsm hlen hnil u1 u2 u3 u4 hN
  go_enter Tryz.func68, Tryz.ntmps68
  go_wp2_with fail
  refine (show Calls Tryz.prog 94 _ _ _ from HA.out).mono ?_
  intro e w1 g1
  rcases g1 with ⟨e0, rfl, rfl⟩ | ⟨G, rfl, hG, hr1, o1⟩
  · have hz : N = 0 := by rw [HN.out.1, ← HN.out.2.2, e0]; rfl
    have HF : Hid (N = 0 ∧ l = []) := ⟨hz, List.length_eq_zero_iff.1 (by rw [← HN.out.1]; exact hz)⟩
    clear HA hz e0
    go_wp2
    go_loopw [12] (fun r wr => r = .int .i64 0 ∧ wr = w1) (fun r _ => 0)
    case atStart => exact ⟨rfl, rfl⟩
    case round =>
      obtain ⟨rfl, rfl⟩ := hrel
      obtain ⟨z1, z2⟩ := HF.out
      go_wp2
      go_ret
      exact ⟨none, 0, by rw [z1]; rfl, by rw [z1]; exact Nat.zero_le _, ⟨fun _ => False, fun j x hx => by rw [z2] at hx; simp at hx, fun b hb => hb.elim⟩, Only.refl _ _⟩
  · have HI0 : Hid (CeI w w1 S d true 137 l G 0) := by
      refine ⟨us, fun _ => False, HN.out.2.2, hr1, o1, hG, fun b hb => hb.elim, HT.out.2.1, fun k x hx => ?_⟩
      obtain ⟨u, p1, p2⟩ := HT.out.1 k x hx
      exact ⟨u, p1, fun g => by omega, fun _ => p2.only o1 (fun _ _ g => g)⟩
    obtain ⟨K, hK⟩ : ∃ K, K = us.length := ⟨_, rfl⟩
    rw [← hK]
    have HK : Hid (K = N) := by rw [hK]; exact HN.out.2.2.trans HN.out.1.symm
    obtain rfl : K = N := HK.out
    clear hr1 o1 hG HA hK HK
    go_wp2
    go_loopw [12] (fun r wr => ∃ j : Nat, r = .int .i64 (j : Int) ∧ j ≤ K ∧ Hid (CeI w wr S d true 137 l G j)) (fun r _ => K - vuOf r)
    case atStart => exact ⟨0, rfl, Nat.zero_le _, HI0.out⟩
    case round =>
      obtain ⟨j, rfl, hj, HI⟩ := hrel
      obtain ⟨w2, hw2⟩ : ∃ w2, w2 = wr := ⟨_, rfl⟩
      rw [← hw2] at HI ⊢
      clear hw2
      have hNl := HN.out.1
      by_cases hjN : j < K
      · obtain ⟨x, hx⟩ : ∃ x, l[j]? = some x := ⟨l[j]'(by omega), List.getElem?_eq_getElem (by omega)⟩
        obtain ⟨vs, S', q1, q2, q3, q4, q5, q6, q7⟩ := HI.out
        obtain ⟨u, p1, _, p3⟩ := q7 j x hx
        have hcell : w2.cell? ⟨G, j, none⟩ = some u := by
          rw [cell_of_row _ _ _ _ _ _ q2]
          simpa using p1
        have HC : Hid _ := H x u w2 S (p3 (Nat.le_refl _)) (HT.out.2.2.2 x (List.mem_of_getElem? hx)) (fun b g => Nat.lt_of_lt_of_le (HT.out.2.2.1 b g) q3.size)
        have HX : Hid (j < K ∧ l[j]? = some x) := ⟨hjN, hx⟩
        have i1 : (j : Int) < (K : Int) := by omega
        have i0 : (0 : Int) ≤ (j : Int) := by omega
        have i4 : j ≤ 2513169434900 := by have := HN.out.2.1; omega
        clear q1 q2 q3 q4 q5 q6 q7 p1 p3 hx hNl hjN hj
        go_wp2_with fail
        refine (show Calls Tryz.prog 69 _ _ _ from HC.out).mono ?_
        rintro e w3 ⟨v', rfl, G3⟩
        have HI2 : Hid (CeI w (w3.setCell ⟨G, j, none⟩ v') S d true 137 l G (j + 1)) := HI.out.step HT.out.2.2.1 HX.out.2 G3.out.1 G3.out.2
        have hone : v'.oneCell' = true := by obtain ⟨_, t, _⟩ := G3.out.1; exact t.one
        have hc3 : w3.cell? ⟨G, j, none⟩ = some u := G3.out.2.cell hcell (fun g => g)
        have hf3 : w3.frozen? ⟨G, j, none⟩ = false := by
          obtain ⟨vs, S', q1, q2, _⟩ := HI.out
          exact frozen_of_row _ _ _ _ _ ((G3.out.2.block G (Array.getElem?_eq_some_iff.1 q2).1 (fun g => g)).trans q2)
        have HJ : Hid (j < K) := HX.out.1
        have hform : v' = .nilIface ∨ ∃ T y, v' = .iface T y := by obtain ⟨_, t, _⟩ := G3.out.1; exact t.shape2
        clear HC HX HI G3 hcell hone
        rcases hform with rfl | ⟨T, y, rfl⟩
        all_goals
          go_wp2
          go_roundw
          case rel => exact ⟨j + 1, by go_num, by have := HJ.out; omega, HI2⟩
          case measure => simp only [vuOf]; have := HJ.out; omega
      · obtain rfl : j = K := by omega
        have i1 : ¬ (j : Int) < (j : Int) := by omega
        clear hNl hjN hj
        go_wp2
        go_ret
        refine ⟨some ⟨G, 0, none⟩, j, rfl, by rw [HN.out.1]; exact Nat.le_refl _, ?_, ?_⟩
        · obtain ⟨vs, S', q1, q2, q3, q4, q5, q6, q7⟩ := HI.out
          refine ⟨fun b => S' b ∨ b = G, fun k x hx => ?_, fun b hb => ?_⟩
          · obtain ⟨u, p1, p2, _⟩ := q7 k x hx
            have hk := (List.getElem?_eq_some_iff.1 hx).1
            refine ⟨G, 0, u, rfl, .inr rfl, ?_, (p2 (by rw [HN.out.1]; exact hk)).step (fun _ g => .inl g) (fun _ _ _ g => g) (Nat.le_refl _)⟩
            rw [Nat.zero_add, cell_of_row _ _ _ _ _ _ q2]
            simpa using p1
          · rcases hb with g | rfl
            · exact ⟨(q5 b g).1, (q5 b g).2.1⟩
            · exact ⟨q4, Liv.of q2⟩
        · obtain ⟨vs, S', q1, q2, q3, _⟩ := HI.out
          exact q3
end Go.Proofs.YtdkbioahhkmpoaaGreatDoor
namespace Go.Proofs.YtdkbioahhkmpoaaGreatDoor
open Go.RowKit
set_option linter.unusedSimpArgs false
set_option linter.unusedVariables false
/-- the number and the text that a tree of its kind has -/
def vnn (t : Vt) : Int := if t.k = 1 ∨ t.k = 6 then t.n else if t.k = 3 then (if t.n != 0 then 1 else 0) else 0
def vss (t : Vt) : ByteArray := if t.k = 2 ∨ t.k = 7 then t.s else ⟨#[]⟩
/-- a tree as values have it: no number and no text but where its kind has one -/
def NfT : Nat → Vt → Prop
  | 0, _ => False
  | d + 1, t => t.l.length ≤ 2513169434900 ∧ (-9223372036854775808 ≤ t.n ∧ t.n ≤ 9223372036854775807) ∧ t.n = vnn t ∧ t.s = vss t ∧ ∀ x ∈ t.l, NfT d x
theorem NfT.mono : ∀ {d d' : Nat} {t : Vt}, d ≤ d' → NfT d t → NfT d' t
  | 0, _, _, _, h => h.elim
  | d + 1, 0, t, hd, h => by omega
  | d + 1, e + 1, t, hd, h => ⟨h.1, h.2.1, h.2.2.1, h.2.2.2.1, fun x hx => (h.2.2.2.2 x hx).mono (by omega)⟩
theorem nf8 {d : Nat} : NfT (d + 1) ⟨8, 0, ⟨#[]⟩, []⟩ := ⟨Nat.zero_le _, ⟨by decide, by decide⟩, rfl, rfl, fun x hx => by cases hx⟩
theorem nm_nf : ∀ (d : Nat) (i : Bool) (t : Vt), SmT d t → NfT d (nm d i t)
  | 0, _, _, h => h.elim
  | d + 1, i, t, h => by
    obtain ⟨k, n, s, l⟩ := t
    obtain ⟨h1, h2, h3, h4, h5⟩ := h
    dsimp only at h1 h2 h3 h4 h5
    unfold nm
    dsimp only
    have z0 : (-9223372036854775808 : Int) ≤ 0 ∧ (0 : Int) ≤ 9223372036854775807 := ⟨by decide, by decide⟩
    split
    · exact ⟨Nat.zero_le _, h4, rfl, rfl, fun x hx => by cases hx⟩
    split
    · exact ⟨Nat.zero_le _, z0, rfl, rfl, fun x hx => by cases hx⟩
    split
    · refine ⟨Nat.zero_le _, ?_, ?_, rfl, fun x hx => by cases hx⟩ <;> dsimp only [vnn] <;> cases n != 0 <;> decide
    split
    · refine ⟨by simpa using h2, z0, rfl, rfl, fun x hx => ?_⟩
      obtain ⟨y, hy, rfl⟩ := List.mem_map.1 hx
      exact nm_nf d false y (h5 y hy)
    split
    · refine ⟨by simpa using h2, z0, rfl, rfl, fun x hx => ?_⟩
      obtain ⟨y, hy, rfl⟩ := List.mem_map.1 hx
      exact nm_nf d true y (h5 y hy)
    split
    · exact ⟨Nat.zero_le _, h4, rfl, rfl, fun x hx => by cases hx⟩
    split
    · exact ⟨Nat.zero_le _, z0, rfl, rfl, fun x hx => by cases hx⟩
    · exact nf8
def NuAt (w : World) (B d : Nat) (t : Vt) (lv : Value) : Prop := ∃ S, VsAt w S d t.l lv ∧ ∀ b, S b → B ≤ b ∧ b < w.heap.size
theorem NuAt.only {w w' : World} {B d : Nat} {t : Vt} {lv : Value} {bs : Nat → Prop} (h : NuAt w B d t lv) (o : Only bs w w') (hb : ∀ b, B ≤ b → ¬ bs b) : NuAt w' B d t lv := by
  obtain ⟨S, ht, hS⟩ := h
  exact ⟨S, ht.step (fun _ g => g) (fun a u hs hc => o.cell hc (hb _ (hS _ hs).1)) (Nat.le_refl _), fun b hbS => ⟨(hS b hbS).1, Nat.lt_of_lt_of_le (hS b hbS).2 o.size⟩⟩
theorem NuAt.lower {w : World} {B C d : Nat} {t : Vt} {lv : Value} (h : NuAt w B d t lv) (hC : C ≤ B) : NuAt w C d t lv := by
  obtain ⟨S, ht, hS⟩ := h
  exact ⟨S, ht, fun b hbS => ⟨Nat.le_trans hC (hS b hbS).1, (hS b hbS).2⟩⟩
theorem NuAt.deep {w : World} {B d d' : Nat} {t : Vt} {lv : Value} (h : NuAt w B d t lv) (hd : d ≤ d') : NuAt w B d' t lv := by
  obtain ⟨S, ht, hS⟩ := h
  exact ⟨S, ht.step (fun _ g => g) (fun _ _ _ g => g) hd, hS⟩
theorem nu_nil {w : World} {B d : Nat} {t : Vt} (h : t.l = []) : NuAt w B (d + 1) t (.slice none 0 0) :=
  ⟨fun _ => False, ⟨none, 0, by rw [h]; rfl, by rw [h]; exact Nat.zero_le _, fun i x hx => by rw [h] at hx; simp at hx⟩, fun b h => h.elim⟩
theorem NuAt.form {w : World} {B d : Nat} {t : Vt} {lv : Value} (h : NuAt w B d t lv) : ∃ ao cap, lv = .slice ao t.l.length cap := by
  obtain ⟨S, ht, _⟩ := h
  cases d with
  | zero => exact ht.elim
  | succ d => obtain ⟨ao, cap, hv, _⟩ := ht; exact ⟨ao, cap, hv⟩
/-- what a type assertion with two values answers -/
theorem uas_hit (T xt : TypeId) (D : TypeDesc) (hD : Tryz.prog.underlying T = some D) (hn : ∀ m, D ≠ .interface m) (x : Value) (W : World) : (Instr.typeAssert (.iface T x) xt T true).run Tryz.prog W = .ok (.tuple #[x, .bool true]) W := by
  simp only [Instr.typeAssert, Sem.run_bind, run_underlying hD, Result.andThen_ok]
  cases D <;> simp_all
theorem uas_miss (T U xt : TypeId) (D : TypeDesc) (hD : Tryz.prog.underlying U = some D) (hn : ∀ m, D ≠ .interface m) (hT : T ≠ U) (z : Value) (hz : ∀ W : World, (zeroValue U).run Tryz.prog W = .ok z W) (x : Value) (W : World) : (Instr.typeAssert (.iface T x) xt U true).run Tryz.prog W = .ok (.tuple #[z, .bool false]) W := by
  simp only [Instr.typeAssert, Sem.run_bind, run_underlying hD, Result.andThen_ok]
  cases D <;> simp_all
theorem uas_nil (U xt : TypeId) (D : TypeDesc) (hD : Tryz.prog.underlying U = some D) (hn : ∀ m, D ≠ .interface m) (z : Value) (hz : ∀ W : World, (zeroValue U).run Tryz.prog W = .ok z W) (W : World) : (Instr.typeAssert .nilIface xt U true).run Tryz.prog W = .ok (.tuple #[z, .bool false]) W := by
  simp only [Instr.typeAssert, Sem.run_bind, run_underlying hD, Result.andThen_ok]
  cases D <;> simp_all
/-- trees in a slice of values or items -/
def QiAt (w : World) (S : Nat → Prop) (d : Nat) (i : Bool) (v : Value) (l : List Vt) : Prop := ∃ ao cap, v = .slice ao l.length cap ∧ l.length ≤ cap ∧ ∀ (j : Nat) (x : Vt), l[j]? = some x → ∃ g k u, ao = some ⟨g, k, none⟩ ∧ S g ∧ w.cell? ⟨g, k + j, none⟩ = some u ∧ TiAt w S d i x u
theorem QiAt.step {w w' : World} {S S' : Nat → Prop} (hS : ∀ b, S b → S' b) (hk : ∀ (a : Addr) u, S a.block → w.cell? a = some u → w'.cell? a = some u) {d d' : Nat} {i : Bool} {l : List Vt} {v : Value} (hd : d ≤ d') (h : QiAt w S d i v l) : QiAt w' S' d' i v l := by
  obtain ⟨ao, cap, hv, hc, hl⟩ := h
  refine ⟨ao, cap, hv, hc, fun j x hx => ?_⟩
  obtain ⟨g, k, u, ha, hg, hu, ht⟩ := hl j x hx
  exact ⟨g, k, u, ha, hS g hg, hk _ _ hg hu, ht.step hS hk hd⟩
end Go.Proofs.YtdkbioahhkmpoaaGreatDoor
namespace Go.Proofs.YtdkbioahhkmpoaaGreatDoor
open Go.RowKit Go.Lib
set_option linter.unusedSimpArgs false
set_option linter.unusedVariables false
theorem VmB.keep {w w' : World} {M : Nat} {k d : Int} (h : VmB w M k d) (o : Only (fun _ => False) w w') : VmB w' M k d := (o.block M (Array.getElem?_eq_some_iff.1 h).1 (fun g => g)).trans h
/-- what holds no others is no list and no quotation -/
def LqM (v : Value) : Prop := (∀ W : World, (Instr.typeAssert v 76 132 true).run Tryz.prog W = .ok (.tuple #[.agg #[.slice none 0 0], .bool false]) W) ∧ (∀ W : World, (Instr.typeAssert v 76 80 true).run Tryz.prog W = .ok (.tuple #[.agg #[.slice none 0 0], .bool false]) W)
theorem leaf_lq {S : Nat → Prop} {d : Nat} {t : Vt} {v : Value} {w : World} (h : TiAt w S (d + 1) false t v) (hk : ¬ (t.k = 4 ∨ t.k = 5)) : LqM v ∧ t.l = [] := by
  have m1 : ∀ T x, T ≠ 132 → T ≠ 80 → LqM (.iface T x) := fun T x h1 h2 => ⟨va_miss T 132 76 _ Tryz.underlying132 (by intro m h; cases h) h1 _ zL x, va_miss T 80 76 _ Tryz.underlying80 (by intro m h; cases h) h2 _ zQ x⟩
  rcases h with ⟨_, e, rfl⟩ | ⟨_, e, rfl⟩ | ⟨_, e, rfl⟩ | ⟨_, e, rfl⟩ | ⟨_, e, rfl⟩ | ⟨e, _⟩
  · exact ⟨m1 _ _ (by decide) (by decide), e⟩
  · exact ⟨m1 _ _ (by decide) (by decide), e⟩
  · exact ⟨m1 _ _ (by decide) (by decide), e⟩
  · exact ⟨m1 _ _ (by decide) (by decide), e⟩
  · exact ⟨⟨bad_nil.l, bad_nil.q⟩, e⟩
  · exact absurd e hk
theorem SmT.str {e : Nat} {t : Vt} (h : SmT e t) : t.s.size ≤ 140737488355328 := by
  cases e with
  | zero => exact h.elim
  | succ e => exact h.1
theorem SmT.len {e : Nat} {t : Vt} (h : SmT e t) : t.l.length ≤ 2513169434900 := by
  cases e with
  | zero => exact h.elim
  | succ e => exact h.2.1
theorem SmT.parts {e : Nat} {t : Vt} (h : SmT e t) : ∀ x ∈ t.l, ∃ e, SmT e x := by
  cases e with
  | zero => exact h.elim
  | succ e => exact fun x hx => ⟨e, h.2.2.2.2 x hx⟩
set_option maxRecDepth 100000 in
set_option maxHeartbeats 4000000 in
theorem mleaf (d : Nat) (t : Vt) (v : Value) (w : World) (S : Nat → Prop) (M k o : Nat) (dd : Int) (h : TiAt w S (d + 1) false t v) (hk4 : ¬ (t.k = 4 ∨ t.k = 5)) (hs : t.s.size ≤ 140737488355328) (hv : VmB w M k dd) (hk : k ≤ 1024) (hd1 : (o : Int) ≤ dd) (hd2 : dd ≤ 1000) (ho : o ≤ 32) (hT : Tb w) (hg : Mg M) :
    Calls Tryz.prog 92 #[.pointer (some ⟨M, 0, none⟩), v, .int .i64 (o : Int)] w fun e w' => e = .returned (.bool (msB (d + 1) false t k o)) ∧ Hid (Only (fun b => b = M) w w' ∧ (msB (d + 1) false t k o = true → ∃ dd' : Int, VmB w' M ((k + sz (d + 1) false t : Nat) : Int) dd' ∧ dd' = max dd ((o + dp (d + 1) false t : Nat) : Int) ∧ dd' ≤ 1000)) := by
  obtain ⟨⟨hl, hq⟩, hnil⟩ := leaf_lq h hk4
  have hsz : sz (d + 1) false t = 1 := by unfold sz; rw [hnil]; rfl
  have hdp : dp (d + 1) false t = 0 := by unfold dp; rw [if_neg hk4]
  have hok : okV (d + 1) false t = alB t := by unfold okV; rw [if_neg hk4]
  have hms : msB (d + 1) false t k o = (alB t && decide (k + 1 ≤ 1024)) := by
    unfold msB
    rw [hok, hsz, hdp, decide_eq_true (show o + 0 ≤ 32 by omega), Bool.and_true]
  have HM : Hid _ := vcount_all M k dd w hv (by omega) (by omega)
  have HA : Hid (∀ w1, Only (fun b => b = M) w w1 → Calls Tryz.prog 120 #[v] w1 fun e w' => e = .returned (.bool (alB t)) ∧ Only (fun _ => False) w1 w') := fun w1 o1 => alone_any h hk4 hs w1 (hT.keep o1 hg.1 hg.2.1 hg.2.2)
  have HD : Hid (dd = max dd ((o + 0 : Nat) : Int) ∧ dd ≤ 1000) := ⟨by omega, hd2⟩
  rw [hms, hsz, hdp]
  obtain ⟨a, ha⟩ : ∃ a, a = alB t := ⟨_, rfl⟩
  rw [← ha] at HA ⊢
  clear h hk4 hs hv hd1 hd2 ho hT hg hsz hdp hok hms hnil ha
  by_cases h1 : k + 1 ≤ 1024
  · have e1 : decide ((k : Int) + 1 ≤ 1024) = true := decide_eq_true (by omega)
    rw [e1] at HM
    rw [decide_eq_true h1]
    clear e1
    go_enter Tryz.func92, Tryz.ntmps92
    go_wp2_with fail
    refine (show Calls Tryz.prog 115 _ _ _ from HM.out).mono ?_
    rintro e w1 ⟨rfl, o1, m1⟩
    have O1 : Hid (Only (fun b => b = M) w w1 ∧ VmB w1 M ((k : Int) + 1) dd) := ⟨o1, m1⟩
    clear HM o1 m1
    go_wp2_with fail
    refine (show Calls Tryz.prog 120 _ _ _ from HA.out _ (by repeat' first | exact O1.out.1 | apply Only.alloc)).mono ?_
    rintro e w2 ⟨rfl, o2⟩
    have o3 : Only (fun _ => False) w1 w2 := Only.trans (show Only (fun _ => False) w1 _ by repeat' first | exact (Only.refl _ _) | apply Only.alloc) o2 (fun _ _ g => g)
    have HF : Hid (Only (fun b => b = M) w w2 ∧ VmB w2 M ((k + 1 : Nat) : Int) dd) := ⟨O1.out.1.trans (o3.mono (bs' := fun b => b = M) (fun _ _ g => g.elim)) (fun _ _ g => g), by have := O1.out.2.keep o3; simpa using this⟩
    clear HA o2 o3 O1
    go_wp2
    go_ret
    exact ⟨by simp, HF.out.1, fun _ => ⟨dd, HF.out.2, HD.out.1, HD.out.2⟩⟩
  · have e1 : decide ((k : Int) + 1 ≤ 1024) = false := decide_eq_false (by omega)
    rw [e1] at HM
    rw [decide_eq_false h1]
    clear e1 HA
    go_enter Tryz.func92, Tryz.ntmps92
    go_wp2_with fail
    refine (show Calls Tryz.prog 115 _ _ _ from HM.out).mono ?_
    rintro e w1 ⟨rfl, o1, m1⟩
    have O1 : Hid (Only (fun b => b = M) w w1) := o1
    clear HM o1 m1
    go_wp2
    go_ret
    exact ⟨by simp, O1.out, fun h => by simp at h⟩
end Go.Proofs.YtdkbioahhkmpoaaGreatDoor
namespace Go.Proofs.YtdkbioahhkmpoaaGreatDoor
open Go.RowKit Go.Lib
set_option linter.unusedSimpArgs false
set_option linter.unusedVariables false
theorem ms_list (d : Nat) (t : Vt) (k o : Nat) (hk : t.k = 4 ∨ t.k = 5) : msB (d + 1) false t k o = (decide (k + 1 ≤ 1024) && decide (o + 1 ≤ 32) && evB d (decide (t.k = 5)) t.l (k + 1) (o + 1)) := by
  have h1 : okV (d + 1) false t = t.l.all (okV d (decide (t.k = 5))) := by unfold okV; rw [if_pos hk]
  have h2 : sz (d + 1) false t = 1 + (t.l.map (sz d (decide (t.k = 5)))).sum := by unfold sz; rfl
  have h3 : dp (d + 1) false t = 1 + ((t.l.map (dp d (decide (t.k = 5)))).foldl max 0) := by unfold dp; rw [if_pos hk]
  unfold msB
  rw [h1, h2, h3]
  by_cases a1 : k + 1 ≤ 1024
  · by_cases a2 : o + 1 ≤ 32
    · rw [evB_eq _ _ _ _ _ a1 a2, decide_eq_true a1, decide_eq_true a2]
      rw [show k + (1 + (t.l.map (sz d (decide (t.k = 5)))).sum) = k + 1 + (t.l.map (sz d (decide (t.k = 5)))).sum by omega, show o + (1 + (t.l.map (dp d (decide (t.k = 5)))).foldl max 0) = o + 1 + (t.l.map (dp d (decide (t.k = 5)))).foldl max 0 by omega]
      simp
    · rw [decide_eq_false a2, decide_eq_false (show ¬ o + (1 + (t.l.map (dp d (decide (t.k = 5)))).foldl max 0) ≤ 32 by omega)]
      simp
  · rw [decide_eq_false a1, decide_eq_false (show ¬ k + (1 + (t.l.map (sz d (decide (t.k = 5)))).sum) ≤ 1024 by omega)]
    simp
set_option maxRecDepth 100000 in
set_option maxHeartbeats 4000000 in
theorem mlist (d : Nat) (H : EvC d false 117 92) (t : Vt) (v : Value) (w : World) (S : Nat → Prop) (M k o : Nat) (dd : Int) (h : TiAt w S (d + 1) false t v) (hk4 : t.k = 4) (hM : ∀ b, S b → b ≠ M) (hsm : ∃ e, SmT e t) (hv : VmB w M k dd) (hk : k ≤ 1024) (hd1 : (o : Int) ≤ dd) (hd2 : dd ≤ 1000) (ho : o ≤ 32) (hT : Tb w) (hg : Mg M) :
    Calls Tryz.prog 92 #[.pointer (some ⟨M, 0, none⟩), v, .int .i64 (o : Int)] w fun e w' => e = .returned (.bool (msB (d + 1) false t k o)) ∧ Hid (Only (fun b => b = M) w w' ∧ (msB (d + 1) false t k o = true → ∃ dd' : Int, VmB w' M ((k + sz (d + 1) false t : Nat) : Int) dd' ∧ dd' = max dd ((o + dp (d + 1) false t : Nat) : Int) ∧ dd' ≤ 1000)) := by
  have hk45 : t.k = 4 ∨ t.k = 5 := by omega
  obtain ⟨ao, cap, rfl, hcap, hel⟩ : ∃ ao cap, v = .iface 132 (.agg #[.slice ao t.l.length cap]) ∧ t.l.length ≤ cap ∧ ∀ i x, t.l[i]? = some x → ∃ g k u, ao = some ⟨g, k, none⟩ ∧ S g ∧ w.cell? ⟨g, k + i, none⟩ = some u ∧ TiAt w S d false x u := by
    rcases h with ⟨e, _⟩ | ⟨e, _⟩ | ⟨e, _⟩ | ⟨e, _⟩ | ⟨e, _⟩ | ⟨_, ao, cap, h1, h2, h3⟩
    · omega
    · omega
    · omega
    · omega
    · omega
    · rw [hk4] at h1 h3
      exact ⟨ao, cap, h1, h2, h3⟩
  have hms := ms_list d t k o hk45
  rw [show decide (t.k = 5) = false by rw [hk4]; rfl] at hms
  have hdp : dp (d + 1) false t = 1 + (t.l.map (dp d false)).foldl max 0 := by unfold dp; rw [if_pos hk45, show decide (t.k = 5) = false by rw [hk4]; rfl]
  have hsz : sz (d + 1) false t = 1 + (t.l.map (sz d false)).sum := by unfold sz; rw [show decide (t.k = 5) = false by rw [hk4]; rfl]
  have HM : Hid _ := vcount_all M k dd w hv (by omega) (by omega)
  have HN : Hid (∀ w1 (k1 : Int), VmB w1 M k1 dd → Calls Tryz.prog 116 #[.pointer (some ⟨M, 0, none⟩), .int .i64 ((o : Int) + 1)] w1 fun e w' => e = .returned (.bool (decide ((o : Int) + 1 ≤ 32))) ∧ Only (fun b => b = M) w1 w' ∧ ∃ d', VmB w' M k1 d' ∧ d' = max dd ((o : Int) + 1) ∧ d' ≤ 1000) := fun w1 k1 hv1 => venter_all M k1 dd ((o : Int) + 1) w1 hv1 (by omega) hd2 (by omega) (by omega)
  have HC : Hid (∀ w1 (dd1 : Int), Only (fun b => b = M) w w1 → VmB w1 M ((k + 1 : Nat) : Int) dd1 → k + 1 ≤ 1024 → o + 1 ≤ 32 → ((o + 1 : Nat) : Int) ≤ dd1 → dd1 ≤ 1000 → Calls Tryz.prog 117 #[.slice ao t.l.length cap, .func (.func 92) #[.pointer (some ⟨M, 0, none⟩)] #[], .int .i64 ((o + 1 : Nat) : Int)] w1 fun e w' => e = .returned (.bool (evB d false t.l (k + 1) (o + 1))) ∧ Hid (Only (fun b => b = M) w1 w' ∧ (evB d false t.l (k + 1) (o + 1) = true → ∃ dd' : Int, VmB w' M ((k + 1 + (t.l.map (sz d false)).sum : Nat) : Int) dd' ∧ dd' = max dd1 ((o + 1 + (t.l.map (dp d false)).foldl max 0 : Nat) : Int) ∧ dd' ≤ 1000))) := by
    intro w1 dd1 o1 hv1 hk1 ho1 h1 h2
    refine H t.l ao cap w1 S M (k + 1) (o + 1) dd1 (fun j x hx => ?_) hM (by obtain ⟨e, he⟩ := hsm; exact he.parts) (by obtain ⟨e, he⟩ := hsm; exact he.len) hv1 hk1 h1 h2 ho1 (hT.keep o1 hg.1 hg.2.1 hg.2.2) hg
    obtain ⟨g, q, u, p1, p2, p3, p4⟩ := hel j x hx
    exact ⟨g, q, u, p1, p2, o1.cell p3 (hM g p2), p4.only o1 (fun b hb => hM b hb)⟩
  have HL : Hid (M < w.heap.size) := (Array.getElem?_eq_some_iff.1 hv).1
  have hHit := va_hit 132 76 _ Tryz.underlying132 (by intro m h; cases h)
  rw [hms, hsz, hdp]
  obtain ⟨L, hL⟩ : ∃ L, L = t.l.length := ⟨_, rfl⟩
  obtain ⟨Y, hY⟩ : ∃ Y, Y = (t.l.map (sz d false)).sum := ⟨_, rfl⟩
  obtain ⟨F, hF⟩ : ∃ F, F = (t.l.map (dp d false)).foldl max 0 := ⟨_, rfl⟩
  obtain ⟨Z, hZ⟩ : ∃ Z, Z = evB d false t.l (k + 1) (o + 1) := ⟨_, rfl⟩
  rw [← hL, ← hY, ← hZ, ← hF] at HC
  rw [← hL, ← hY, ← hZ, ← hF]
  clear hL hY hZ hF hdp h hk4 hM hsm hv hd1 hd2 hT hg hel hcap hms hsz H hk45
  by_cases h1 : k + 1 ≤ 1024
  · have e1 : decide ((k : Int) + 1 ≤ 1024) = true := decide_eq_true (by omega)
    rw [e1] at HM
    rw [decide_eq_true h1]
    clear e1
    by_cases h2 : o + 1 ≤ 32
    · have e2 : decide ((o : Int) + 1 ≤ 32) = true := decide_eq_true (by omega)
      rw [e2] at HN
      rw [decide_eq_true h2]
      have HB : Hid (k + 1 ≤ 1024 ∧ o + 1 ≤ 32) := ⟨h1, h2⟩
      clear e2 h1
      go_enter Tryz.func92, Tryz.ntmps92
      go_wp2_with fail
      refine (show Calls Tryz.prog 115 _ _ _ from HM.out).mono ?_
      rintro e w1 ⟨rfl, o1, m1⟩
      have O1 : Hid (Only (fun b => b = M) w w1 ∧ VmB w1 M ((k : Int) + 1) dd) := ⟨o1, m1⟩
      clear HM o1 m1
      go_wp2_with fail
      refine (show Calls Tryz.prog 116 _ _ _ from HN.out _ _ (O1.out.2.keep (by repeat' first | exact (Only.refl _ _) | apply Only.alloc))).mono ?_
      rintro e w2 ⟨rfl, o2, d2, m2, p2, q2⟩
      have O2 : Hid (Only (fun b => b = M) w w2 ∧ VmB w2 M ((k + 1 : Nat) : Int) d2 ∧ d2 = max dd ((o : Int) + 1) ∧ d2 ≤ 1000) := ⟨O1.out.1.trans (Only.trans (show Only (fun b => b = M) w1 _ by repeat' first | exact (Only.refl _ _) | apply Only.alloc) o2 (fun _ _ g => g)) (fun _ _ g => g), by simpa using m2, p2, q2⟩
      have hs1 := O1.out.1.size
      have x0 : w2.cell? ⟨w1.heap.size, 0, none⟩ = some (.slice ao L cap) := o2.cell (a := ⟨w1.heap.size, 0, none⟩) (by simp [go_sem]) (by have := HL.out; simp only; omega)
      have HC2 : Hid _ := HC.out w2 d2 O2.out.1 O2.out.2.1 HB.out.1 HB.out.2 (by rw [p2]; omega) q2
      clear HN HC o2 m2 p2 q2 O1 hs1
      go_wp2_with fail
      refine (show Calls Tryz.prog 117 _ _ _ from HC2.out).mono ?_
      rintro e w3 ⟨rfl, G3⟩
      have HF : Hid (Only (fun b => b = M) w w3 ∧ (Z = true → ∃ dd' : Int, VmB w3 M ((k + (1 + Y) : Nat) : Int) dd' ∧ dd' = max dd ((o + (1 + F) : Nat) : Int) ∧ dd' ≤ 1000)) := ⟨O2.out.1.trans G3.out.1 (fun _ _ g => g), fun hz => by
        obtain ⟨q, q1, q2, q3⟩ := G3.out.2 hz
        refine ⟨q, by rwa [show k + (1 + Y) = k + 1 + Y by omega], ?_, q3⟩
        rw [q2, O2.out.2.2.1]
        omega⟩
      clear HC2 G3 O2 x0
      go_wp2
      go_ret
      exact ⟨by simp, HF.out.1, fun h => HF.out.2 (by simpa using h)⟩
    · have e2 : decide ((o : Int) + 1 ≤ 32) = false := decide_eq_false (by omega)
      rw [e2] at HN
      rw [decide_eq_false h2]
      clear e2 h1 HC
      go_enter Tryz.func92, Tryz.ntmps92
      go_wp2_with fail
      refine (show Calls Tryz.prog 115 _ _ _ from HM.out).mono ?_
      rintro e w1 ⟨rfl, o1, m1⟩
      have O1 : Hid (Only (fun b => b = M) w w1 ∧ VmB w1 M ((k : Int) + 1) dd) := ⟨o1, m1⟩
      clear HM o1 m1
      go_wp2_with fail
      refine (show Calls Tryz.prog 116 _ _ _ from HN.out _ _ (O1.out.2.keep (by repeat' first | exact (Only.refl _ _) | apply Only.alloc))).mono ?_
      rintro e w2 ⟨rfl, o2, d2, m2, p2, q2⟩
      have O2 : Hid (Only (fun b => b = M) w w2) := O1.out.1.trans (Only.trans (show Only (fun b => b = M) w1 _ by repeat' first | exact (Only.refl _ _) | apply Only.alloc) o2 (fun _ _ g => g)) (fun _ _ g => g)
      clear HN o2 m2 p2 q2 O1
      go_wp2
      go_ret
      exact ⟨by simp, O2.out, fun h => by simp at h⟩
  · have e1 : decide ((k : Int) + 1 ≤ 1024) = false := decide_eq_false (by omega)
    rw [e1] at HM
    rw [decide_eq_false h1]
    clear e1 HC HN
    go_enter Tryz.func92, Tryz.ntmps92
    go_wp2_with fail
    refine (show Calls Tryz.prog 115 _ _ _ from HM.out).mono ?_
    rintro e w1 ⟨rfl, o1, m1⟩
    have O1 : Hid (Only (fun b => b = M) w w1) := o1
    clear HM o1 m1
    go_wp2
    go_ret
    exact ⟨by simp, O1.out, fun h => by simp at h⟩
set_option maxRecDepth 100000 in
set_option maxHeartbeats 4000000 in
theorem mquot (d : Nat) (H : EvC d true 118 119) (t : Vt) (v : Value) (w : World) (S : Nat → Prop) (M k o : Nat) (dd : Int) (h : TiAt w S (d + 1) false t v) (hk4 : t.k = 5) (hM : ∀ b, S b → b ≠ M) (hsm : ∃ e, SmT e t) (hv : VmB w M k dd) (hk : k ≤ 1024) (hd1 : (o : Int) ≤ dd) (hd2 : dd ≤ 1000) (ho : o ≤ 32) (hT : Tb w) (hg : Mg M) :
    Calls Tryz.prog 92 #[.pointer (some ⟨M, 0, none⟩), v, .int .i64 (o : Int)] w fun e w' => e = .returned (.bool (msB (d + 1) false t k o)) ∧ Hid (Only (fun b => b = M) w w' ∧ (msB (d + 1) false t k o = true → ∃ dd' : Int, VmB w' M ((k + sz (d + 1) false t : Nat) : Int) dd' ∧ dd' = max dd ((o + dp (d + 1) false t : Nat) : Int) ∧ dd' ≤ 1000)) := by
  have hk45 : t.k = 4 ∨ t.k = 5 := by omega
  obtain ⟨ao, cap, rfl, hcap, hel⟩ : ∃ ao cap, v = .iface 80 (.agg #[.slice ao t.l.length cap]) ∧ t.l.length ≤ cap ∧ ∀ i x, t.l[i]? = some x → ∃ g k u, ao = some ⟨g, k, none⟩ ∧ S g ∧ w.cell? ⟨g, k + i, none⟩ = some u ∧ TiAt w S d true x u := by
    rcases h with ⟨e, _⟩ | ⟨e, _⟩ | ⟨e, _⟩ | ⟨e, _⟩ | ⟨e, _⟩ | ⟨_, ao, cap, h1, h2, h3⟩
    · omega
    · omega
    · omega
    · omega
    · omega
    · rw [hk4] at h1 h3
      exact ⟨ao, cap, h1, h2, h3⟩
  have hms := ms_list d t k o hk45
  rw [show decide (t.k = 5) = true by rw [hk4]; rfl] at hms
  have hdp : dp (d + 1) false t = 1 + (t.l.map (dp d true)).foldl max 0 := by unfold dp; rw [if_pos hk45, show decide (t.k = 5) = true by rw [hk4]; rfl]
  have hsz : sz (d + 1) false t = 1 + (t.l.map (sz d true)).sum := by unfold sz; rw [show decide (t.k = 5) = true by rw [hk4]; rfl]
  have HM : Hid _ := vcount_all M k dd w hv (by omega) (by omega)
  have HN : Hid (∀ w1 (k1 : Int), VmB w1 M k1 dd → Calls Tryz.prog 116 #[.pointer (some ⟨M, 0, none⟩), .int .i64 ((o : Int) + 1)] w1 fun e w' => e = .returned (.bool (decide ((o : Int) + 1 ≤ 32))) ∧ Only (fun b => b = M) w1 w' ∧ ∃ d', VmB w' M k1 d' ∧ d' = max dd ((o : Int) + 1) ∧ d' ≤ 1000) := fun w1 k1 hv1 => venter_all M k1 dd ((o : Int) + 1) w1 hv1 (by omega) hd2 (by omega) (by omega)
  have HC : Hid (∀ w1 (dd1 : Int), Only (fun b => b = M) w w1 → VmB w1 M ((k + 1 : Nat) : Int) dd1 → k + 1 ≤ 1024 → o + 1 ≤ 32 → ((o + 1 : Nat) : Int) ≤ dd1 → dd1 ≤ 1000 → Calls Tryz.prog 118 #[.slice ao t.l.length cap, .func (.func 119) #[.pointer (some ⟨M, 0, none⟩)] #[], .int .i64 ((o + 1 : Nat) : Int)] w1 fun e w' => e = .returned (.bool (evB d true t.l (k + 1) (o + 1))) ∧ Hid (Only (fun b => b = M) w1 w' ∧ (evB d true t.l (k + 1) (o + 1) = true → ∃ dd' : Int, VmB w' M ((k + 1 + (t.l.map (sz d true)).sum : Nat) : Int) dd' ∧ dd' = max dd1 ((o + 1 + (t.l.map (dp d true)).foldl max 0 : Nat) : Int) ∧ dd' ≤ 1000))) := by
    intro w1 dd1 o1 hv1 hk1 ho1 h1 h2
    refine H t.l ao cap w1 S M (k + 1) (o + 1) dd1 (fun j x hx => ?_) hM (by obtain ⟨e, he⟩ := hsm; exact he.parts) (by obtain ⟨e, he⟩ := hsm; exact he.len) hv1 hk1 h1 h2 ho1 (hT.keep o1 hg.1 hg.2.1 hg.2.2) hg
    obtain ⟨g, q, u, p1, p2, p3, p4⟩ := hel j x hx
    exact ⟨g, q, u, p1, p2, o1.cell p3 (hM g p2), p4.only o1 (fun b hb => hM b hb)⟩
  have HL : Hid (M < w.heap.size) := (Array.getElem?_eq_some_iff.1 hv).1
  have hMiss := va_miss 80 132 76 _ Tryz.underlying132 (by intro m h; cases h) (by decide) _ zL
  have hHit := va_hit 80 76 _ Tryz.underlying80 (by intro m h; cases h)
  rw [hms, hsz, hdp]
  obtain ⟨L, hL⟩ : ∃ L, L = t.l.length := ⟨_, rfl⟩
  obtain ⟨Y, hY⟩ : ∃ Y, Y = (t.l.map (sz d true)).sum := ⟨_, rfl⟩
  obtain ⟨F, hF⟩ : ∃ F, F = (t.l.map (dp d true)).foldl max 0 := ⟨_, rfl⟩
  obtain ⟨Z, hZ⟩ : ∃ Z, Z = evB d true t.l (k + 1) (o + 1) := ⟨_, rfl⟩
  rw [← hL, ← hY, ← hZ, ← hF] at HC
  rw [← hL, ← hY, ← hZ, ← hF]
  clear hL hY hZ hF hdp h hk4 hM hsm hv hd1 hd2 hT hg hel hcap hms hsz H hk45
  by_cases h1 : k + 1 ≤ 1024
  · have e1 : decide ((k : Int) + 1 ≤ 1024) = true := decide_eq_true (by omega)
    rw [e1] at HM
    rw [decide_eq_true h1]
    clear e1
    by_cases h2 : o + 1 ≤ 32
    · have e2 : decide ((o : Int) + 1 ≤ 32) = true := decide_eq_true (by omega)
      rw [e2] at HN
      rw [decide_eq_true h2]
      have HB : Hid (k + 1 ≤ 1024 ∧ o + 1 ≤ 32) := ⟨h1, h2⟩
      clear e2 h1
      go_enter Tryz.func92, Tryz.ntmps92
      go_wp2_with fail
      refine (show Calls Tryz.prog 115 _ _ _ from HM.out).mono ?_
      rintro e w1 ⟨rfl, o1, m1⟩
      have O1 : Hid (Only (fun b => b = M) w w1 ∧ VmB w1 M ((k : Int) + 1) dd) := ⟨o1, m1⟩
      clear HM o1 m1
      go_wp2_with fail
      refine (show Calls Tryz.prog 116 _ _ _ from HN.out _ _ (O1.out.2.keep (by repeat' first | exact (Only.refl _ _) | apply Only.alloc))).mono ?_
      rintro e w2 ⟨rfl, o2, d2, m2, p2, q2⟩
      have O2 : Hid (Only (fun b => b = M) w w2 ∧ VmB w2 M ((k + 1 : Nat) : Int) d2 ∧ d2 = max dd ((o : Int) + 1) ∧ d2 ≤ 1000) := ⟨O1.out.1.trans (Only.trans (show Only (fun b => b = M) w1 _ by repeat' first | exact (Only.refl _ _) | apply Only.alloc) o2 (fun _ _ g => g)) (fun _ _ g => g), by simpa using m2, p2, q2⟩
      have hs1 := O1.out.1.size
      have x0 : w2.cell? ⟨w1.heap.size + 1, 0, none⟩ = some (.slice ao L cap) := o2.cell (a := ⟨w1.heap.size + 1, 0, none⟩) (by simp [go_sem]) (by have := HL.out; simp only; omega)
      have HC2 : Hid _ := HC.out w2 d2 O2.out.1 O2.out.2.1 HB.out.1 HB.out.2 (by rw [p2]; omega) q2
      clear HN HC o2 m2 p2 q2 O1 hs1
      go_wp2_with fail
      refine (show Calls Tryz.prog 118 _ _ _ from HC2.out).mono ?_
      rintro e w3 ⟨rfl, G3⟩
      have HF : Hid (Only (fun b => b = M) w w3 ∧ (Z = true → ∃ dd' : Int, VmB w3 M ((k + (1 + Y) : Nat) : Int) dd' ∧ dd' = max dd ((o + (1 + F) : Nat) : Int) ∧ dd' ≤ 1000)) := ⟨O2.out.1.trans G3.out.1 (fun _ _ g => g), fun hz => by
        obtain ⟨q, q1, q2, q3⟩ := G3.out.2 hz
        refine ⟨q, by rwa [show k + (1 + Y) = k + 1 + Y by omega], ?_, q3⟩
        rw [q2, O2.out.2.2.1]
        omega⟩
      clear HC2 G3 O2 x0
      go_wp2
      go_ret
      exact ⟨by simp, HF.out.1, fun h => HF.out.2 (by simpa using h)⟩
    · have e2 : decide ((o : Int) + 1 ≤ 32) = false := decide_eq_false (by omega)
      rw [e2] at HN
      rw [decide_eq_false h2]
      clear e2 h1 HC
      go_enter Tryz.func92, Tryz.ntmps92
      go_wp2_with fail
      refine (show Calls Tryz.prog 115 _ _ _ from HM.out).mono ?_
      rintro e w1 ⟨rfl, o1, m1⟩
      have O1 : Hid (Only (fun b => b = M) w w1 ∧ VmB w1 M ((k : Int) + 1) dd) := ⟨o1, m1⟩
      clear HM o1 m1
      go_wp2_with fail
      refine (show Calls Tryz.prog 116 _ _ _ from HN.out _ _ (O1.out.2.keep (by repeat' first | exact (Only.refl _ _) | apply Only.alloc))).mono ?_
      rintro e w2 ⟨rfl, o2, d2, m2, p2, q2⟩
      have O2 : Hid (Only (fun b => b = M) w w2) := O1.out.1.trans (Only.trans (show Only (fun b => b = M) w1 _ by repeat' first | exact (Only.refl _ _) | apply Only.alloc) o2 (fun _ _ g => g)) (fun _ _ g => g)
      clear HN o2 m2 p2 q2 O1
      go_wp2
      go_ret
      exact ⟨by simp, O2.out, fun h => by simp at h⟩
  · have e1 : decide ((k : Int) + 1 ≤ 1024) = false := decide_eq_false (by omega)
    rw [e1] at HM
    rw [decide_eq_false h1]
    clear e1 HC HN
    go_enter Tryz.func92, Tryz.ntmps92
    go_wp2_with fail
    refine (show Calls Tryz.prog 115 _ _ _ from HM.out).mono ?_
    rintro e w1 ⟨rfl, o1, m1⟩
    have O1 : Hid (Only (fun b => b = M) w w1) := o1
    clear HM o1 m1
    go_wp2
    go_ret
    exact ⟨by simp, O1.out, fun h => by simp at h⟩
end Go.Proofs.YtdkbioahhkmpoaaGreatDoor
namespace Go.Proofs.YtdkbioahhkmpoaaGreatDoor
open Go.RowKit Go.Lib
set_option linter.unusedSimpArgs false
set_option linter.unusedVariables false
abbrev i1v : Value := .iface 216 (.agg #[.int .i64 1])
set_option maxRecDepth 100000 in
theorem vevery_bad (v : Value) (hv : BadV v) (M g : Nat) (k d : Int) (w : World) (h : VmB w M k d) (h1 : 0 ≤ k) (h2 : k < 900) (hgM : g ≠ M) (hg0 : w.cell? ⟨g, 0, none⟩ = some i1v) (hg1 : w.cell? ⟨g, 1, none⟩ = some v) : Calls Tryz.prog 117 #[.slice (some ⟨g, 0, none⟩) 2 2, .func (.func 92) #[.pointer (some ⟨M, 0, none⟩)] #[], .int .i64 1] w fun e w' => e = .returned (.bool false) ∧ Only (fun b => b = M) w w' := by
  have HI : Hid (∀ w1 k d, VmB w1 M k d → 0 ≤ k → k < 1000 → Calls Tryz.prog 92 #[.pointer (some ⟨M, 0, none⟩), i1v, .int .i64 1] w1 fun e w' => e = .returned (.bool true) ∧ Only (fun b => b = M) w1 w' ∧ VmB w' M (k + 1) d) := fun w1 k d => vval_int 1 (by omega) (by omega) M k d 1 w1
  have HV : Hid (∀ w1 k d, VmB w1 M k d → 0 ≤ k → k < 1000 → Calls Tryz.prog 92 #[.pointer (some ⟨M, 0, none⟩), v, .int .i64 1] w1 fun e w' => e = .returned (.bool false) ∧ Only (fun b => b = M) w1 w') := fun w1 k d => vval_bad v hv M k d 1 w1
  have HM : Hid (VmB w M k d) := h
  clear h hv
  go_enter Tryz.func117, Tryz.ntmps117
  go_wp2
  go_loopw [11] (fun r wr => ∃ i : Int, r = .int .i64 i ∧ ((i = 0 ∧ Hid (wr = w)) ∨ (i = 1 ∧ Hid (Only (fun b => b = M) w wr ∧ VmB wr M (k + 1) d)))) (fun r _ => 1 - uOf r)
  case atStart => exact ⟨0, rfl, .inl ⟨rfl, rfl⟩⟩
  case round =>
    obtain ⟨i, rfl, hi⟩ := hrel
    rcases hi with ⟨rfl, HW⟩ | ⟨rfl, HO⟩
    · obtain rfl := HW.out
      go_wp2_with fail
      refine (show Calls Tryz.prog 92 _ _ _ from HI.out _ _ _ HM.out h1 (by omega)).mono ?_
      rintro e w2 ⟨rfl, o2⟩
      have O2 : Hid (Only (fun b => b = M) wr w2 ∧ VmB w2 M (k + 1) d) := o2
      clear HI o2 HV HM hg0 hg1 HW
      go_wp2
      go_roundw
      case rel => exact ⟨1, rfl, .inr ⟨rfl, O2⟩⟩
      case measure => simp [uOf]
    · have hg2 := HO.out.1.cell hg1 (fun h => hgM h)
      have i2 : (0 : Int) ≤ k + 1 := by omega
      have i3 : k + 1 < 1000 := by omega
      clear hg0 hg1
      go_wp2_with fail
      refine (show Calls Tryz.prog 92 _ _ _ from HV.out _ _ _ HO.out.2 i2 i3).mono ?_
      rintro e w2 ⟨rfl, o2⟩
      have O2 : Hid (Only (fun b => b = M) w w2) := HO.out.1.trans o2 (fun _ _ g => g)
      clear o2 HI HV HM
      go_wp2
      go_ret
      exact ⟨rfl, O2.out⟩
end Go.Proofs.YtdkbioahhkmpoaaGreatDoor
