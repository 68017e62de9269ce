/- Copies of rows: anew and copyEach. Values that are written over: what stays of them, whatever is shared. Values of any kind as the document's trees: how these lie in memory. spoil: every list of a value is written over. -/
import Derived.Test.YtllpacppedobjaaGreatDoorHag
import Derived.Test.YtllpacppedobjaaGreatDoorHaa
import Derived.Test.YtllpacppedobjaaGreatDoorHae
import Derived.Deep.AppendSrc
import Derived.Lib.SliceRun
import Derived.Laws.MakeOwn
import Derived.Laws.CopyRow
import Derived.Test.YtllpacppedobjaaGreatDoorHac
import Derived.Test.YtllpacppedobjaaGreatDoorHaf
namespace Go.Proofs.YtllpacppedobjaaGreatDoor
open Go.RowKit Go.Lib
set_option linter.unusedSimpArgs false
set_option linter.unusedVariables false
theorem mk_row {sT eT : TypeId} (hT : Tryz.prog.underlying sT = some (.slice eT)) (hI : (Tryz.prog.info? eT).map (fun i => (i.zero, i.size, i.bytes)) = some (some .nilIface, 1, 16)) (n : Nat) (hn : n ≤ 1048576) : ∃ M : Array Value, M.size = n ∧ ∀ w : World, (Instr.makeSlice sT (.int .i64 0) (.int .i64 n)).run Tryz.prog w = .ok (.slice (some ⟨w.heap.size, 0, none⟩) 0 n) (w.alloc (.cells M eT)) := by
  obtain ⟨i0, hi0, hz0, hz1, hz2⟩ := vinfo_parts hI
  refine ⟨madeCells (Value.nilIface).cells n, size_madeCells _ _, fun w => ?_⟩
  have := run_make (P := Tryz.prog) w sT eT i0 _ hT hi0 hz0 .i64 .i64 0 (n : Int) (by omega) (by omega) (by rw [hz2]; omega) (by omega)
  rw [hz1, show ((n : Int)).toNat = n by omega, Nat.mul_one] at this
  exact this
theorem ap_row {sT eT : TypeId} (hT : Tryz.prog.underlying sT = some (.slice eT)) (hI : (Tryz.prog.info? eT).map (fun i => (i.zero, i.size, i.bytes)) = some (some .nilIface, 1, 16)) {W : World} {g n cap : Nat} {a : Addr} {us : List Value} {cur : Array Value} (hl : us.length = n) (hu : ∀ j u, us[j]? = some u → W.cell? (a.add j) = some u) (h1 : ∀ u ∈ us, u.oneCell' = true) (hg : W.heap[g]? = some (.cells cur eT)) (hc : cur.size = n) (ty : TypeId) :
    (Builtin.append_ #[sT, sT] ty #[.slice (some ⟨g, 0, none⟩) 0 n, .slice (some a) n cap]).run Tryz.prog W = .ok (.slice (some ⟨g, 0, none⟩) n n) (W.setRow g us.toArray) := by
  obtain ⟨i0, hi, hz0, hz1, hz2⟩ := vinfo_parts hI
  have hs : Src Tryz.prog i0.size sT (.slice (some a) n cap) n us W := Src.ofSlice W hT a n cap us (by rw [hz1, Nat.mul_one]; exact hl) hu h1
  have hst := run_storeCells_at Tryz.prog g 0 eT us 0 cur W hg (by omega) h1
  simp only [Nat.add_zero, Nat.zero_add, List.take_zero, List.nil_append] at hst
  rw [show cur.toList.drop us.length = [] from List.drop_eq_nil_of_le (by simp; omega), List.append_nil] at hst
  have hroom : 0 + n ≤ n := by omega
  rcases hs.kind with ⟨e', hk⟩ | hk <;> simp [Builtin.append_, run_underlying hT, run_underlying hk, sizeOf, typeInfo, hi, hs.len, hroom, hs.cells, Addr.add_lit, hst]
theorem setRow_only {w : World} {g : Nat} {cs : Array Value} : Only (fun b => b = g) w (w.setRow g cs) := by
  refine ⟨rfl, rfl, rfl, by simp [World.setRow], fun j _ hne => ?_⟩
  show (w.heap.modify g _)[j]? = w.heap[j]?
  rw [Array.getElem?_modify, if_neg (fun h => hne h.symm)]
theorem TiAt.one {w : World} {S : Nat → Prop} {d : Nat} {i : Bool} {t : Vt} {v : Value} (h : TiAt w S d i t v) : v.oneCell' = true := by
  cases d with
  | zero => exact h.elim
  | succ d =>
    cases i with
    | true => rcases h with ⟨_, _, rfl⟩ | ⟨_, _, rfl⟩ | ⟨_, _, u, rfl, _⟩ <;> rfl
    | false => rcases h with ⟨_, _, rfl⟩ | ⟨_, _, rfl⟩ | ⟨_, _, rfl⟩ | ⟨_, _, rfl⟩ | ⟨_, _, rfl⟩ | ⟨_, ao, cap, rfl, _⟩ <;> rfl
theorem TiAt.shape2 {w : World} {S : Nat → Prop} {d : Nat} {i : Bool} {t : Vt} {v : Value} (h : TiAt w S d i t v) : v = .nilIface ∨ ∃ T y, v = .iface T y := by
  cases d with
  | zero => exact h.elim
  | succ d =>
    cases i with
    | true => rcases h with ⟨_, _, rfl⟩ | ⟨_, _, rfl⟩ | ⟨_, _, u, rfl, _⟩ <;> first | exact .inl rfl | exact .inr ⟨_, _, rfl⟩
    | false => rcases h with ⟨_, _, rfl⟩ | ⟨_, _, rfl⟩ | ⟨_, _, rfl⟩ | ⟨_, _, rfl⟩ | ⟨_, _, rfl⟩ | ⟨_, ao, cap, rfl, _⟩ <;> first | exact .inl rfl | exact .inr ⟨_, _, rfl⟩
/-- a slice as anew makes it: the values us in a block of its own since w, or nothing -/
def AnP (eT : TypeId) (us : List Value) (w : World) (e : Ending) (w' : World) : Prop := (us = [] ∧ e = .returned (.slice none 0 0) ∧ w' = w) ∨ ∃ g, e = .returned (.slice (some ⟨g, 0, none⟩) us.length us.length) ∧ w.heap.size ≤ g ∧ w'.heap[g]? = some (.cells us.toArray eT) ∧ Only (fun _ => False) w w'
/-- what copies a part: its contract -/
def CpC (d : Nat) (i : Bool) (F : Nat) : Prop := ∀ (t : Vt) (v : Value) (w : World) (S : Nat → Prop), TiAt w S d i t v → (∃ e, SmT e t) → (∀ b, S b → b < w.heap.size) → Calls Tryz.prog F #[v] w fun e w' => ∃ v', e = .returned v' ∧ Hid (NiAt w' w.heap.size d i t v' ∧ Only (fun _ => False) w w')
/-- the parts l of a row at ao -/
def PsAt (w : World) (S : Nat → Prop) (d : Nat) (i : Bool) (l : List Vt) (ao : Option Addr) : Prop := ∀ (j : Nat) (x : Vt), l[j]? = some x → ∃ g q u, ao = some ⟨g, q, none⟩ ∧ S g ∧ w.cell? ⟨g, q + j, none⟩ = some u ∧ TiAt w S d i x u
/-- what copyEach answers -/
def CeC (d : Nat) (i : Bool) (F G : Nat) : Prop := ∀ (l : List Vt) (ao : Option Addr) (cap : Nat) (w : World) (S : Nat → Prop), PsAt w S d i l ao → (∀ b, S b → b < w.heap.size) → (∀ x ∈ l, ∃ e, SmT e x) → l.length ≤ 1048576 → (ao = none → l = []) →
  Calls Tryz.prog G #[.slice ao l.length cap, .func (.func F) #[] #[]] w fun e w' => ∃ ao' cap', e = .returned (.slice ao' l.length cap') ∧ Hid (l.length ≤ cap' ∧ (∃ S', PsAt w' S' d i l ao' ∧ ∀ b, S' b → w.heap.size ≤ b ∧ Liv w' b) ∧ Only (fun _ => False) w w')
theorem ps_row0 {w : World} {S : Nat → Prop} {d : Nat} {i : Bool} {l : List Vt} {ao : Option Addr} (h : PsAt w S d i l ao) : ∀ m, m ≤ l.length → ∃ us : List Value, us.length = m ∧ ∀ (j : Nat) (u : Value), us[j]? = some u → ∃ x, l[j]? = some x ∧ (∀ a, ao = some a → w.cell? (a.add j) = some u) ∧ TiAt w S d i x u := by
  intro m
  induction m with
  | zero => intro _; exact ⟨[], rfl, fun j u hu => by simp at hu⟩
  | succ m ih =>
    intro hm
    obtain ⟨us, h1, h2⟩ := ih (by omega)
    obtain ⟨g, q, u, ha, hg, hc, ht⟩ := h m (l[m]'(by omega)) (List.getElem?_eq_getElem (by omega))
    refine ⟨us ++ [u], by simp [h1], fun j v hv => ?_⟩
    by_cases hj : j < us.length
    · rw [List.getElem?_append_left hj] at hv
      exact h2 j v hv
    · have hj2 := (List.getElem?_eq_some_iff.1 hv).1
      have hj3 : j = us.length := by simp at hj2; omega
      subst hj3
      simp at hv
      subst hv
      refine ⟨_, by rw [h1]; exact List.getElem?_eq_getElem (by omega), fun a e => ?_, ht⟩
      rw [ha] at e
      injection e with e
      rw [← e, Addr.add_mid, h1]
      exact hc
theorem ps_row {w : World} {S : Nat → Prop} {d : Nat} {i : Bool} {l : List Vt} {ao : Option Addr} (h : PsAt w S d i l ao) : ∃ us : List Value, us.length = l.length ∧ (∀ u ∈ us, u.oneCell' = true) ∧ (∀ a, ao = some a → ∀ j u, us[j]? = some u → w.cell? (a.add j) = some u) ∧ ∀ (j : Nat) (x : Vt), l[j]? = some x → ∃ u, us[j]? = some u ∧ TiAt w S d i x u := by
  obtain ⟨us, h1, h2⟩ := ps_row0 h l.length (Nat.le_refl _)
  refine ⟨us, h1, fun u hu => ?_, fun a e j u hu => ?_, fun j x hx => ?_⟩
  · obtain ⟨j, hj, e⟩ := List.mem_iff_getElem.1 hu
    obtain ⟨x, _, _, ht⟩ := h2 j u (by rw [← e]; exact List.getElem?_eq_getElem hj)
    exact ht.one
  · obtain ⟨x, _, hc, _⟩ := h2 j u hu
    exact hc a e
  · have hj := (List.getElem?_eq_some_iff.1 hx).1
    obtain ⟨y, hy, _, ht⟩ := h2 j (us[j]'(by omega)) (List.getElem?_eq_getElem (by omega))
    rw [hx] at hy
    injection hy with hy
    rw [hy]
    exact ⟨_, List.getElem?_eq_getElem (by omega), ht⟩
/-- a copy under way: j parts are copied, the others are still those that were handed in -/
def CeI (w wr : World) (S : Nat → Prop) (d : Nat) (i : Bool) (eT : TypeId) (l : List Vt) (G j : Nat) : Prop :=
  ∃ (vs : List Value) (S' : Nat → Prop), vs.length = l.length ∧ wr.heap[G]? = some (.cells vs.toArray eT) ∧ Only (fun _ => False) w wr ∧ w.heap.size ≤ G ∧
    (∀ b, S' b → w.heap.size ≤ b ∧ Liv wr b ∧ b ≠ G) ∧ (∀ u ∈ vs, u.oneCell' = true) ∧ ∀ (k : Nat) (x : Vt), l[k]? = some x → ∃ u, vs[k]? = some u ∧ (k < j → TiAt wr S' d i x u) ∧ (j ≤ k → TiAt wr S d i x u)
theorem CeI.step {w wr w2 : World} {S : Nat → Prop} {d : Nat} {i : Bool} {eT : TypeId} {l : List Vt} {G j : Nat} {x : Vt} {v' : Value} (hS : ∀ b, S b → b < w.heap.size) (h : CeI w wr S d i eT l G j) (hx : l[j]? = some x) (hn : NiAt w2 wr.heap.size d i x v') (o : Only (fun _ => False) wr w2) : CeI w (w2.setCell ⟨G, j, none⟩ v') S d i eT l G (j + 1) := by
  obtain ⟨vs, S', h1, h2, h3, h4, h5, h6, h7⟩ := h
  obtain ⟨S2, t2, s2⟩ := hn
  have hGlt : G < wr.heap.size := (Array.getElem?_eq_some_iff.1 h2).1
  have hw2 : w2.heap[G]? = some (.cells vs.toArray eT) := (o.block G hGlt (fun g => g)).trans h2
  have hjl : j < l.length := (List.getElem?_eq_some_iff.1 hx).1
  have oo : Only (fun b => b = G) w2 (w2.setCell ⟨G, j, none⟩ v') := (Only.refl _ _).setCell ⟨G, j, none⟩ v' (fun _ => rfl)
  have hsz : (w2.setCell ⟨G, j, none⟩ v').heap.size = w2.heap.size := by simp
  refine ⟨vs.set j v', fun b => S' b ∨ S2 b, by simpa using h1, ?_, (h3.trans o (fun _ _ g => g)).trans oo (fun b hb e => by omega), h4, fun b hb => ?_, fun u hu => ?_, fun k y hy => ?_⟩
  · rw [heap_setCell_same w2 G j vs.toArray eT v' hw2]
    simp
  · rcases hb with g | g
    · obtain ⟨a1, a2, a3⟩ := h5 b g
      exact ⟨a1, (a2.only o (fun g => g)).only oo a3, a3⟩
    · obtain ⟨a1, a2⟩ := s2 b g
      have a3 : b ≠ G := by omega
      exact ⟨Nat.le_trans h3.size a1, a2.only oo a3, a3⟩
  · rcases List.mem_or_eq_of_mem_set hu with g | g
    · exact h6 u g
    · rw [g]; exact t2.one
  · obtain ⟨u, p1, p2, p3⟩ := h7 k y hy
    have nS : ∀ b, S b → ¬ b = G := fun b g e => by have := hS b g; omega
    by_cases hk : k = j
    · subst hk
      rw [hx] at hy
      injection hy with hy
      subst hy
      refine ⟨v', by rw [List.getElem?_set_self (by omega)], fun _ => ?_, fun g => by omega⟩
      exact (t2.only oo (fun b g e => by have := (s2 b g).1; omega)).step (fun _ g => .inr g) (fun _ _ _ g => g) (Nat.le_refl _)
    · refine ⟨u, by rw [List.getElem?_set_ne (fun e => hk e.symm)]; exact p1, fun g => ?_, fun g => ?_⟩
      · have t1 := p2 (by omega)
        exact ((t1.only o (fun _ _ g => g)).only oo (fun b g => (h5 b g).2.2)).step (fun _ g => .inl g) (fun _ _ _ g => g) (Nat.le_refl _)
      · exact ((p3 (by omega)).only o (fun _ _ g => g)).only oo nS
set_option maxRecDepth 100000 in
theorem anew_v (us : List Value) (h1 : ∀ u ∈ us, u.oneCell' = true) (ao : Option Addr) (cap : Nat) (w : World) (hn : us.length ≤ 1048576) (hnil : ao = none → us = []) (hc : ∀ a, ao = some a → ∀ j u, us[j]? = some u → w.cell? (a.add j) = some u) : Calls Tryz.prog 71 #[.slice ao us.length cap] w fun e w' => AnP 27 us w e w' := by
  cases ao with
  | none =>
    have e0 := hnil rfl
    subst e0
    have heq : (binOp .eql 68 (.slice none 0 cap) (.slice none 0 0)).run Tryz.prog w = .ok (.bool true) w := Go.Lib.run_eql_slice_nil w _ _ none 0 cap 0 0 Tryz.underlying68
    have HP : Hid (∀ e, e = .returned (.slice none 0 0) → AnP 27 [] w e w) := fun e he => .inl ⟨rfl, he, rfl⟩
    clear h1 hn hnil hc
    go_enter Tryz.func71, Tryz.ntmps71
    go_wp2
    go_ret
    exact HP.out _ rfl
  | some a =>
    obtain ⟨M, hM, hmk0⟩ := mk_row Tryz.underlying68 vinfoV us.length hn
    have hmk := hmk0 w
    obtain ⟨W, hW⟩ : ∃ W, W = w.alloc (.cells M 27) := ⟨_, rfl⟩
    have o1 : Only (fun _ => False) w W := by rw [hW]; exact (Only.refl _ w).alloc _
    have hgW : W.heap[w.heap.size]? = some (.cells M 27) := by rw [hW]; exact heap_alloc_new w _
    have hap : ∀ ty, _ := ap_row Tryz.underlying68 vinfoV (W := W) (cap := cap) rfl (fun j u hu => o1.cell (hc a rfl j u hu) (fun g => g)) h1 hgW hM
    obtain ⟨N, hN⟩ : ∃ N, N = us.length := ⟨_, rfl⟩
    have HP : Hid (AnP 27 us w (.returned (.slice (some ⟨w.heap.size, 0, none⟩) N N)) (W.setRow w.heap.size us.toArray)) := by
      refine .inr ⟨w.heap.size, by rw [hN], Nat.le_refl _, setRow_heap W _ M _ _ _ hgW, o1.trans setRow_only (fun b hb e => by omega)⟩
    obtain ⟨U, hU⟩ : ∃ U, U = W.setRow w.heap.size us.toArray := ⟨_, rfl⟩
    rw [← hN, ← hU] at hap
    rw [← hU] at HP
    rw [← hN, ← hW] at hmk
    have HR : Hid _ := hap
    have heq : (binOp .eql 68 (.slice (some a) N cap) (.slice none 0 0)).run Tryz.prog w = .ok (.bool false) w := Go.Lib.run_eql_slice_nil w _ _ (some a) N cap 0 0 Tryz.underlying68
    have i1 : N ≤ 1048576 := by omega
    rw [← hN]
    clear h1 hn hnil hc hM hmk0 hW o1 hgW hap hN hU
    go_enter Tryz.func71, Tryz.ntmps71
    go_wp2_with (at_builtin; refine vwpList_append_run rfl _ _ 68 rfl _ _ _ rfl rfl HR.out ?_)
    go_ret
    exact HP.out
set_option maxRecDepth 100000 in
set_option maxHeartbeats 4000000 in
theorem ce_v (d : Nat) (H : CpC d false 32) : CeC d false 32 50 := by
  intro l ao cap w S hl hS hsm hlen hnil
  obtain ⟨us, u1, u2, u3, u4⟩ := ps_row hl
  have HA : Hid (Calls Tryz.prog 71 #[.slice ao us.length cap] w fun e w' => AnP 27 us w e w') := anew_v us u2 ao cap w (by omega) (fun e => List.length_eq_zero_iff.1 (by rw [u1, hnil e]; rfl)) u3
  obtain ⟨N, hN⟩ : ∃ N, N = l.length := ⟨_, rfl⟩
  have HN : Hid (N = l.length ∧ N ≤ 1048576 ∧ us.length = l.length) := ⟨hN, by omega, u1⟩
  rw [u1, ← hN] at HA
  rw [← hN]
  have HT : Hid ((∀ (j : Nat) (x : Vt), l[j]? = some x → ∃ u, us[j]? = some u ∧ TiAt w S d false x u) ∧ (∀ u ∈ us, u.oneCell' = true) ∧ (∀ b, S b → b < w.heap.size) ∧ ∀ x ∈ l, ∃ e, SmT e x) := ⟨u4, u2, hS, hsm⟩
  clear hl hS hsm hlen hnil u1 u2 u3 u4 hN
  go_enter Tryz.func50, Tryz.ntmps50
  go_wp2_with fail
  refine (show Calls Tryz.prog 71 _ _ _ from HA.out).mono ?_
  intro e w1 g1
  rcases g1 with ⟨e0, rfl, rfl⟩ | ⟨G, rfl, hG, hr1, o1⟩
  · have hz : N = 0 := by rw [HN.out.1, ← HN.out.2.2, e0]; rfl
    have HF : Hid (N = 0 ∧ l = []) := ⟨hz, List.length_eq_zero_iff.1 (by rw [← HN.out.1]; exact hz)⟩
    clear HA hz e0
    go_wp2
    go_loopw [12] (fun r wr => r = .int .i64 0 ∧ wr = w1) (fun r _ => 0)
    case atStart => exact ⟨rfl, rfl⟩
    case round =>
      obtain ⟨rfl, rfl⟩ := hrel
      obtain ⟨z1, z2⟩ := HF.out
      go_wp2
      go_ret
      exact ⟨none, 0, by rw [z1]; rfl, by rw [z1]; exact Nat.zero_le _, ⟨fun _ => False, fun j x hx => by rw [z2] at hx; simp at hx, fun b hb => hb.elim⟩, Only.refl _ _⟩
  · have HI0 : Hid (CeI w w1 S d false 27 l G 0) := by
      refine ⟨us, fun _ => False, HN.out.2.2, hr1, o1, hG, fun b hb => hb.elim, HT.out.2.1, fun k x hx => ?_⟩
      obtain ⟨u, p1, p2⟩ := HT.out.1 k x hx
      exact ⟨u, p1, fun g => by omega, fun _ => p2.only o1 (fun _ _ g => g)⟩
    obtain ⟨K, hK⟩ : ∃ K, K = us.length := ⟨_, rfl⟩
    rw [← hK]
    have HK : Hid (K = N) := by rw [hK]; exact HN.out.2.2.trans HN.out.1.symm
    obtain rfl : K = N := HK.out
    clear hr1 o1 hG HA hK HK
    go_wp2
    go_loopw [12] (fun r wr => ∃ j : Nat, r = .int .i64 (j : Int) ∧ j ≤ K ∧ Hid (CeI w wr S d false 27 l G j)) (fun r _ => K - vuOf r)
    case atStart => exact ⟨0, rfl, Nat.zero_le _, HI0.out⟩
    case round =>
      obtain ⟨j, rfl, hj, HI⟩ := hrel
      obtain ⟨w2, hw2⟩ : ∃ w2, w2 = wr := ⟨_, rfl⟩
      rw [← hw2] at HI ⊢
      clear hw2
      have hNl := HN.out.1
      by_cases hjN : j < K
      · obtain ⟨x, hx⟩ : ∃ x, l[j]? = some x := ⟨l[j]'(by omega), List.getElem?_eq_getElem (by omega)⟩
        obtain ⟨vs, S', q1, q2, q3, q4, q5, q6, q7⟩ := HI.out
        obtain ⟨u, p1, _, p3⟩ := q7 j x hx
        have hcell : w2.cell? ⟨G, j, none⟩ = some u := by
          rw [cell_of_row _ _ _ _ _ _ q2]
          simpa using p1
        have HC : Hid _ := H x u w2 S (p3 (Nat.le_refl _)) (HT.out.2.2.2 x (List.mem_of_getElem? hx)) (fun b g => Nat.lt_of_lt_of_le (HT.out.2.2.1 b g) q3.size)
        have HX : Hid (j < K ∧ l[j]? = some x) := ⟨hjN, hx⟩
        have i1 : (j : Int) < (K : Int) := by omega
        have i0 : (0 : Int) ≤ (j : Int) := by omega
        have i4 : j ≤ 1048576 := by have := HN.out.2.1; omega
        clear q1 q2 q3 q4 q5 q6 q7 p1 p3 hx hNl hjN hj
        go_wp2_with fail
        refine (show Calls Tryz.prog 32 _ _ _ from HC.out).mono ?_
        rintro e w3 ⟨v', rfl, G3⟩
        have HI2 : Hid (CeI w (w3.setCell ⟨G, j, none⟩ v') S d false 27 l G (j + 1)) := HI.out.step HT.out.2.2.1 HX.out.2 G3.out.1 G3.out.2
        have hone : v'.oneCell' = true := by obtain ⟨_, t, _⟩ := G3.out.1; exact t.one
        have hc3 : w3.cell? ⟨G, j, none⟩ = some u := G3.out.2.cell hcell (fun g => g)
        have hf3 : w3.frozen? ⟨G, j, none⟩ = false := by
          obtain ⟨vs, S', q1, q2, _⟩ := HI.out
          exact frozen_of_row _ _ _ _ _ ((G3.out.2.block G (Array.getElem?_eq_some_iff.1 q2).1 (fun g => g)).trans q2)
        have HJ : Hid (j < K) := HX.out.1
        have hform : v' = .nilIface ∨ ∃ T y, v' = .iface T y := by obtain ⟨_, t, _⟩ := G3.out.1; exact t.shape2
        clear HC HX HI G3 hcell hone
        rcases hform with rfl | ⟨T, y, rfl⟩
        all_goals
          go_wp2
          go_roundw
          case rel => exact ⟨j + 1, by go_num, by have := HJ.out; omega, HI2⟩
          case measure => simp only [vuOf]; have := HJ.out; omega
      · obtain rfl : j = K := by omega
        have i1 : ¬ (j : Int) < (j : Int) := by omega
        clear hNl hjN hj
        go_wp2
        go_ret
        refine ⟨some ⟨G, 0, none⟩, j, rfl, by rw [HN.out.1]; exact Nat.le_refl _, ?_, ?_⟩
        · obtain ⟨vs, S', q1, q2, q3, q4, q5, q6, q7⟩ := HI.out
          refine ⟨fun b => S' b ∨ b = G, fun k x hx => ?_, fun b hb => ?_⟩
          · obtain ⟨u, p1, p2, _⟩ := q7 k x hx
            have hk := (List.getElem?_eq_some_iff.1 hx).1
            refine ⟨G, 0, u, rfl, .inr rfl, ?_, (p2 (by rw [HN.out.1]; exact hk)).step (fun _ g => .inl g) (fun _ _ _ g => g) (Nat.le_refl _)⟩
            rw [Nat.zero_add, cell_of_row _ _ _ _ _ _ q2]
            simpa using p1
          · rcases hb with g | rfl
            · exact ⟨(q5 b g).1, (q5 b g).2.1⟩
            · exact ⟨q4, Liv.of q2⟩
        · obtain ⟨vs, S', q1, q2, q3, _⟩ := HI.out
          exact q3
set_option maxRecDepth 100000 in
theorem anew_i (us : List Value) (h1 : ∀ u ∈ us, u.oneCell' = true) (ao : Option Addr) (cap : Nat) (w : World) (hn : us.length ≤ 1048576) (hnil : ao = none → us = []) (hc : ∀ a, ao = some a → ∀ j u, us[j]? = some u → w.cell? (a.add j) = some u) : Calls Tryz.prog 72 #[.slice ao us.length cap] w fun e w' => AnP 86 us w e w' := by
  cases ao with
  | none =>
    have e0 := hnil rfl
    subst e0
    have heq : (binOp .eql 43 (.slice none 0 cap) (.slice none 0 0)).run Tryz.prog w = .ok (.bool true) w := Go.Lib.run_eql_slice_nil w _ _ none 0 cap 0 0 Tryz.underlying43
    have HP : Hid (∀ e, e = .returned (.slice none 0 0) → AnP 86 [] w e w) := fun e he => .inl ⟨rfl, he, rfl⟩
    clear h1 hn hnil hc
    go_enter Tryz.func72, Tryz.ntmps72
    go_wp2
    go_ret
    exact HP.out _ rfl
  | some a =>
    obtain ⟨M, hM, hmk0⟩ := mk_row Tryz.underlying43 vinfoI us.length hn
    have hmk := hmk0 w
    obtain ⟨W, hW⟩ : ∃ W, W = w.alloc (.cells M 86) := ⟨_, rfl⟩
    have o1 : Only (fun _ => False) w W := by rw [hW]; exact (Only.refl _ w).alloc _
    have hgW : W.heap[w.heap.size]? = some (.cells M 86) := by rw [hW]; exact heap_alloc_new w _
    have hap : ∀ ty, _ := ap_row Tryz.underlying43 vinfoI (W := W) (cap := cap) rfl (fun j u hu => o1.cell (hc a rfl j u hu) (fun g => g)) h1 hgW hM
    obtain ⟨N, hN⟩ : ∃ N, N = us.length := ⟨_, rfl⟩
    have HP : Hid (AnP 86 us w (.returned (.slice (some ⟨w.heap.size, 0, none⟩) N N)) (W.setRow w.heap.size us.toArray)) := by
      refine .inr ⟨w.heap.size, by rw [hN], Nat.le_refl _, setRow_heap W _ M _ _ _ hgW, o1.trans setRow_only (fun b hb e => by omega)⟩
    obtain ⟨U, hU⟩ : ∃ U, U = W.setRow w.heap.size us.toArray := ⟨_, rfl⟩
    rw [← hN, ← hU] at hap
    rw [← hU] at HP
    rw [← hN, ← hW] at hmk
    have HR : Hid _ := hap
    have heq : (binOp .eql 43 (.slice (some a) N cap) (.slice none 0 0)).run Tryz.prog w = .ok (.bool false) w := Go.Lib.run_eql_slice_nil w _ _ (some a) N cap 0 0 Tryz.underlying43
    have i1 : N ≤ 1048576 := by omega
    rw [← hN]
    clear h1 hn hnil hc hM hmk0 hW o1 hgW hap hN hU
    go_enter Tryz.func72, Tryz.ntmps72
    go_wp2_with (at_builtin; refine vwpList_append_run rfl _ _ 43 rfl _ _ _ rfl rfl HR.out ?_)
    go_ret
    exact HP.out
set_option maxRecDepth 100000 in
set_option maxHeartbeats 4000000 in
theorem ce_i (d : Nat) (H : CpC d true 52) : CeC d true 52 51 := by
  intro l ao cap w S hl hS hsm hlen hnil
  obtain ⟨us, u1, u2, u3, u4⟩ := ps_row hl
  have HA : Hid (Calls Tryz.prog 72 #[.slice ao us.length cap] w fun e w' => AnP 86 us w e w') := anew_i us u2 ao cap w (by omega) (fun e => List.length_eq_zero_iff.1 (by rw [u1, hnil e]; rfl)) u3
  obtain ⟨N, hN⟩ : ∃ N, N = l.length := ⟨_, rfl⟩
  have HN : Hid (N = l.length ∧ N ≤ 1048576 ∧ us.length = l.length) := ⟨hN, by omega, u1⟩
  rw [u1, ← hN] at HA
  rw [← hN]
  have HT : Hid ((∀ (j : Nat) (x : Vt), l[j]? = some x → ∃ u, us[j]? = some u ∧ TiAt w S d true x u) ∧ (∀ u ∈ us, u.oneCell' = true) ∧ (∀ b, S b → b < w.heap.size) ∧ ∀ x ∈ l, ∃ e, SmT e x) := ⟨u4, u2, hS, hsm⟩
  clear hl hS hsm hlen hnil u1 u2 u3 u4 hN
  go_enter Tryz.func51, Tryz.ntmps51
  go_wp2_with fail
  refine (show Calls Tryz.prog 72 _ _ _ from HA.out).mono ?_
  intro e w1 g1
  rcases g1 with ⟨e0, rfl, rfl⟩ | ⟨G, rfl, hG, hr1, o1⟩
  · have hz : N = 0 := by rw [HN.out.1, ← HN.out.2.2, e0]; rfl
    have HF : Hid (N = 0 ∧ l = []) := ⟨hz, List.length_eq_zero_iff.1 (by rw [← HN.out.1]; exact hz)⟩
    clear HA hz e0
    go_wp2
    go_loopw [12] (fun r wr => r = .int .i64 0 ∧ wr = w1) (fun r _ => 0)
    case atStart => exact ⟨rfl, rfl⟩
    case round =>
      obtain ⟨rfl, rfl⟩ := hrel
      obtain ⟨z1, z2⟩ := HF.out
      go_wp2
      go_ret
      exact ⟨none, 0, by rw [z1]; rfl, by rw [z1]; exact Nat.zero_le _, ⟨fun _ => False, fun j x hx => by rw [z2] at hx; simp at hx, fun b hb => hb.elim⟩, Only.refl _ _⟩
  · have HI0 : Hid (CeI w w1 S d true 86 l G 0) := by
      refine ⟨us, fun _ => False, HN.out.2.2, hr1, o1, hG, fun b hb => hb.elim, HT.out.2.1, fun k x hx => ?_⟩
      obtain ⟨u, p1, p2⟩ := HT.out.1 k x hx
      exact ⟨u, p1, fun g => by omega, fun _ => p2.only o1 (fun _ _ g => g)⟩
    obtain ⟨K, hK⟩ : ∃ K, K = us.length := ⟨_, rfl⟩
    rw [← hK]
    have HK : Hid (K = N) := by rw [hK]; exact HN.out.2.2.trans HN.out.1.symm
    obtain rfl : K = N := HK.out
    clear hr1 o1 hG HA hK HK
    go_wp2
    go_loopw [12] (fun r wr => ∃ j : Nat, r = .int .i64 (j : Int) ∧ j ≤ K ∧ Hid (CeI w wr S d true 86 l G j)) (fun r _ => K - vuOf r)
    case atStart => exact ⟨0, rfl, Nat.zero_le _, HI0.out⟩
    case round =>
      obtain ⟨j, rfl, hj, HI⟩ := hrel
      obtain ⟨w2, hw2⟩ : ∃ w2, w2 = wr := ⟨_, rfl⟩
      rw [← hw2] at HI ⊢
      clear hw2
      have hNl := HN.out.1
      by_cases hjN : j < K
      · obtain ⟨x, hx⟩ : ∃ x, l[j]? = some x := ⟨l[j]'(by omega), List.getElem?_eq_getElem (by omega)⟩
        obtain ⟨vs, S', q1, q2, q3, q4, q5, q6, q7⟩ := HI.out
        obtain ⟨u, p1, _, p3⟩ := q7 j x hx
        have hcell : w2.cell? ⟨G, j, none⟩ = some u := by
          rw [cell_of_row _ _ _ _ _ _ q2]
          simpa using p1
        have HC : Hid _ := H x u w2 S (p3 (Nat.le_refl _)) (HT.out.2.2.2 x (List.mem_of_getElem? hx)) (fun b g => Nat.lt_of_lt_of_le (HT.out.2.2.1 b g) q3.size)
        have HX : Hid (j < K ∧ l[j]? = some x) := ⟨hjN, hx⟩
        have i1 : (j : Int) < (K : Int) := by omega
        have i0 : (0 : Int) ≤ (j : Int) := by omega
        have i4 : j ≤ 1048576 := by have := HN.out.2.1; omega
        clear q1 q2 q3 q4 q5 q6 q7 p1 p3 hx hNl hjN hj
        go_wp2_with fail
        refine (show Calls Tryz.prog 52 _ _ _ from HC.out).mono ?_
        rintro e w3 ⟨v', rfl, G3⟩
        have HI2 : Hid (CeI w (w3.setCell ⟨G, j, none⟩ v') S d true 86 l G (j + 1)) := HI.out.step HT.out.2.2.1 HX.out.2 G3.out.1 G3.out.2
        have hone : v'.oneCell' = true := by obtain ⟨_, t, _⟩ := G3.out.1; exact t.one
        have hc3 : w3.cell? ⟨G, j, none⟩ = some u := G3.out.2.cell hcell (fun g => g)
        have hf3 : w3.frozen? ⟨G, j, none⟩ = false := by
          obtain ⟨vs, S', q1, q2, _⟩ := HI.out
          exact frozen_of_row _ _ _ _ _ ((G3.out.2.block G (Array.getElem?_eq_some_iff.1 q2).1 (fun g => g)).trans q2)
        have HJ : Hid (j < K) := HX.out.1
        have hform : v' = .nilIface ∨ ∃ T y, v' = .iface T y := by obtain ⟨_, t, _⟩ := G3.out.1; exact t.shape2
        clear HC HX HI G3 hcell hone
        rcases hform with rfl | ⟨T, y, rfl⟩
        all_goals
          go_wp2
          go_roundw
          case rel => exact ⟨j + 1, by go_num, by have := HJ.out; omega, HI2⟩
          case measure => simp only [vuOf]; have := HJ.out; omega
      · obtain rfl : j = K := by omega
        have i1 : ¬ (j : Int) < (j : Int) := by omega
        clear hNl hjN hj
        go_wp2
        go_ret
        refine ⟨some ⟨G, 0, none⟩, j, rfl, by rw [HN.out.1]; exact Nat.le_refl _, ?_, ?_⟩
        · obtain ⟨vs, S', q1, q2, q3, q4, q5, q6, q7⟩ := HI.out
          refine ⟨fun b => S' b ∨ b = G, fun k x hx => ?_, fun b hb => ?_⟩
          · obtain ⟨u, p1, p2, _⟩ := q7 k x hx
            have hk := (List.getElem?_eq_some_iff.1 hx).1
            refine ⟨G, 0, u, rfl, .inr rfl, ?_, (p2 (by rw [HN.out.1]; exact hk)).step (fun _ g => .inl g) (fun _ _ _ g => g) (Nat.le_refl _)⟩
            rw [Nat.zero_add, cell_of_row _ _ _ _ _ _ q2]
            simpa using p1
          · rcases hb with g | rfl
            · exact ⟨(q5 b g).1, (q5 b g).2.1⟩
            · exact ⟨q4, Liv.of q2⟩
        · obtain ⟨vs, S', q1, q2, q3, _⟩ := HI.out
          exact q3
end Go.Proofs.YtllpacppedobjaaGreatDoor
namespace Go.Proofs.YtllpacppedobjaaGreatDoor
open Go.RowKit Go.Lib
set_option linter.unusedSimpArgs false
set_option linter.unusedVariables false
/-- what is written over a value, over an item -/
def Lint : Value := .iface 63 (.agg #[.int .i64 99])
def Lcall : Value := .iface 102 (.agg #[.string ⟨#[103, 111, 110, 101]⟩])
/-- v may be gone through, d deep: its lists lie in blocks of S -/
def SpAt (w : World) (S : Nat → Prop) : Nat → Value → Prop
  | 0, _ => False
  | d + 1, v => v = .nilIface ∨ ∃ T y, v = .iface T y ∧ ((T = 71 ∨ T = 73) → ∃ ao n cap, y = .agg #[.slice ao n cap] ∧ n ≤ cap ∧ n ≤ 1048576 ∧ ∀ j, j < n → ∃ g k u, ao = some ⟨g, k, none⟩ ∧ S g ∧ w.cell? ⟨g, k + j, none⟩ = some u ∧ SpAt w S d u) ∧ (T = 99 → ∃ u, y = .agg #[u] ∧ SpAt w S d u)
/-- a value or an item that holds no others -/
def Lfv (u : Value) : Prop := ∃ T y, u = .iface T y ∧ T ≠ 71 ∧ T ≠ 73 ∧ T ≠ 99
theorem lfv_int (n : Int) : Lfv (.iface 63 (.agg #[.int .i64 n])) := ⟨_, _, rfl, by decide, by decide, by decide⟩
theorem lfv_lint : Lfv Lint := lfv_int 99
theorem lfv_call : Lfv Lcall := ⟨_, _, rfl, by decide, by decide, by decide⟩
theorem sp_leaf {u : Value} (h : Lfv u) (w : World) (S : Nat → Prop) (d : Nat) : SpAt w S (d + 1) u := by
  obtain ⟨T, y, rfl, h1, h2, h3⟩ := h
  exact .inr ⟨T, y, rfl, fun g => by rcases g with g | g; exact absurd g h1; exact absurd g h2, fun g => absurd g h3⟩
theorem SpAt.deep {w : World} {S : Nat → Prop} : ∀ {d d' : Nat} {v : Value}, d ≤ d' → SpAt w S d v → SpAt w S d' v
  | 0, _, _, _, h => h.elim
  | d + 1, 0, _, hd, _ => by omega
  | d + 1, e + 1, v, hd, h => by
    rcases h with h | ⟨T, y, hv, h1, h2⟩
    · exact .inl h
    · refine .inr ⟨T, y, hv, fun hT => ?_, fun hT => ?_⟩
      · obtain ⟨ao, n, cap, p1, p2, p3, p4⟩ := h1 hT
        refine ⟨ao, n, cap, p1, p2, p3, fun j hj => ?_⟩
        obtain ⟨g, k, u, q1, q2, q3, q4⟩ := p4 j hj
        exact ⟨g, k, u, q1, q2, q3, q4.deep (by omega)⟩
      · obtain ⟨u, p1, p2⟩ := h2 hT
        exact ⟨u, p1, p2.deep (by omega)⟩
/-- what may have been done to the blocks S -/
def Spl (S : Nat → Prop) (w w' : World) : Prop := Only S w w' ∧ (∀ b, S b → Liv w b → Liv w' b) ∧ ∀ (a : Addr) u, S a.block → w.cell? a = some u → ∃ u', w'.cell? a = some u' ∧ (u' = u ∨ Lfv u')
theorem Spl.of {S : Nat → Prop} {w w' : World} (o : Only (fun _ => False) w w') : Spl S w w' := ⟨o.mono (fun _ _ h => h.elim), fun b _ h => h.only o (fun g => g), fun a u _ hc => ⟨u, o.cell hc (fun g => g), .inl rfl⟩⟩
theorem Spl.trans {S : Nat → Prop} {a b c : World} (h : Spl S a b) (k : Spl S b c) : Spl S a c := by
  refine ⟨h.1.trans k.1 (fun _ _ g => g), fun x hx hl => k.2.1 x hx (h.2.1 x hx hl), fun p u hp hu => ?_⟩
  obtain ⟨u1, h1, h2⟩ := h.2.2 p u hp hu
  obtain ⟨u2, k1, k2⟩ := k.2.2 p u1 hp h1
  refine ⟨u2, k1, ?_⟩
  rcases k2 with rfl | k2
  · exact h2
  · exact .inr k2
theorem Spl.set {S : Nat → Prop} {w : World} {g k : Nat} {u x : Value} (hS : S g) (hl : Liv w g) (hc : w.cell? ⟨g, k, none⟩ = some u) (hx : Lfv x) : Spl S w (w.setCell ⟨g, k, none⟩ x) := by
  obtain ⟨h1, c, t, hb⟩ := hl
  have o : Only S w (w.setCell ⟨g, k, none⟩ x) := (Only.refl _ _).setCell _ _ (fun _ => hS)
  have og : Only (fun b => b = g) w (w.setCell ⟨g, k, none⟩ x) := (Only.refl _ _).setCell _ _ (fun _ => rfl)
  have hs := heap_setCell_same w g k c t x hb
  refine ⟨o, fun b hb' hl' => ?_, fun a y ha hy => ?_⟩
  · by_cases e : b = g
    · subst e
      exact Liv.of hs
    · exact hl'.only og e
  · by_cases e : a.block = g
    · obtain ⟨ab, ao, asp⟩ := a
      simp only at e
      subst e
      have hsp : asp = none := World.cell?_spot hy
      subst hsp
      rw [vblk_cells hb] at hy hc
      rw [vblk_cells hs]
      by_cases e2 : ao = k
      · subst e2
        have := (Array.getElem?_eq_some_iff.1 hc).1
        exact ⟨x, by simp [this], .inr hx⟩
      · exact ⟨y, by rw [← hy]; simp [Array.setIfInBounds, Array.getElem?_set]; split <;> simp [Array.getElem?_set, Ne.symm e2], .inl rfl⟩
    · exact ⟨y, og.cell hy e, .inl rfl⟩
theorem SpAt.keep {S : Nat → Prop} {w w' : World} (h : Spl S w w') : ∀ {d : Nat} {v : Value}, SpAt w S d v → SpAt w' S d v
  | 0, _, g => g.elim
  | d + 1, v, g => by
    rcases g with g | ⟨T, y, hv, h1, h2⟩
    · exact .inl g
    · refine .inr ⟨T, y, hv, fun hT => ?_, fun hT => ?_⟩
      · obtain ⟨ao, n, cap, p1, p2, p3, p4⟩ := h1 hT
        refine ⟨ao, n, cap, p1, p2, p3, fun j hj => ?_⟩
        obtain ⟨q, k, u, q1, q2, q3, q4⟩ := p4 j hj
        obtain ⟨u', c1, c2⟩ := h.2.2 ⟨q, k + j, none⟩ u q2 q3
        refine ⟨q, k, u', q1, q2, c1, ?_⟩
        cases d with
        | zero => exact q4.elim
        | succ d =>
          rcases c2 with rfl | c2
          · exact SpAt.keep h q4
          · exact sp_leaf c2 _ _ _
      · obtain ⟨u, p1, p2⟩ := h2 hT
        exact ⟨u, p1, SpAt.keep h p2⟩
theorem SmT.parts' {d : Nat} {t : Vt} (h : SmT d t) : t.l.length ≤ 1048576 ∧ ∀ x ∈ t.l, ∃ e, SmT e x := by
  cases d with
  | zero => exact h.elim
  | succ d => exact ⟨h.2.1, fun x hx => ⟨d, h.2.2.2.2 x hx⟩⟩
theorem TiAt.sp {w : World} {S : Nat → Prop} : ∀ {d : Nat} {i : Bool} {t : Vt} {v : Value}, (∃ e, SmT e t) → TiAt w S d i t v → SpAt w S d v
  | 0, _, _, _, _, h => h.elim
  | d + 1, true, t, v, hs, h => by
    rcases h with ⟨_, _, rfl⟩ | ⟨_, _, rfl⟩ | ⟨_, _, u, rfl, hu⟩
    · exact .inr ⟨_, _, rfl, fun h => by rcases h with h | h <;> exact absurd h (by decide), fun h => absurd h (by decide)⟩
    · exact .inl rfl
    · exact .inr ⟨_, _, rfl, fun h => by rcases h with h | h <;> exact absurd h (by decide), fun _ => ⟨u, rfl, TiAt.sp hs hu⟩⟩
  | d + 1, false, t, v, hs, h => by
    rcases h with ⟨_, _, rfl⟩ | ⟨_, _, rfl⟩ | ⟨_, _, rfl⟩ | ⟨_, _, rfl⟩ | ⟨_, _, rfl⟩ | ⟨hk, ao, cap, rfl, hc, hl⟩
    · exact .inr ⟨_, _, rfl, fun h => by rcases h with h | h <;> exact absurd h (by decide), fun h => absurd h (by decide)⟩
    · exact .inr ⟨_, _, rfl, fun h => by rcases h with h | h <;> exact absurd h (by decide), fun h => absurd h (by decide)⟩
    · exact .inr ⟨_, _, rfl, fun h => by rcases h with h | h <;> exact absurd h (by decide), fun h => absurd h (by decide)⟩
    · exact .inr ⟨_, _, rfl, fun h => by rcases h with h | h <;> exact absurd h (by decide), fun h => absurd h (by decide)⟩
    · exact .inl rfl
    · obtain ⟨e, hs⟩ := hs
      obtain ⟨s1, s2⟩ := hs.parts'
      refine .inr ⟨_, _, rfl, fun _ => ⟨ao, t.l.length, cap, rfl, hc, s1, fun j hj => ?_⟩, fun h => by split at h <;> exact absurd h (by decide)⟩
      obtain ⟨g, k, u, q1, q2, q3, q4⟩ := hl j (t.l[j]'hj) (List.getElem?_eq_getElem hj)
      exact ⟨g, k, u, q1, q2, q3, TiAt.sp (s2 _ (List.getElem_mem hj)) q4⟩
/-- what spoil answers -/
def SpC (d : Nat) : Prop := ∀ (v : Value) (w : World) (S : Nat → Prop), SpAt w S d v → (∀ b, S b → Liv w b) → Calls Tryz.prog 26 #[v] w fun e w' => e = .returned (.tuple #[]) ∧ Hid (Spl S w w')
end Go.Proofs.YtllpacppedobjaaGreatDoor
namespace Go.Proofs.YtllpacppedobjaaGreatDoor
open Go.RowKit
set_option linter.unusedSimpArgs false
set_option linter.unusedVariables false
/-- the number and the text that a tree of its kind has -/
def vnn (t : Vt) : Int := if t.k = 1 ∨ t.k = 6 then t.n else if t.k = 3 then (if t.n != 0 then 1 else 0) else 0
def vss (t : Vt) : ByteArray := if t.k = 2 ∨ t.k = 7 then t.s else ⟨#[]⟩
/-- a tree as values have it: no number and no text but where its kind has one -/
def NfT : Nat → Vt → Prop
  | 0, _ => False
  | d + 1, t => t.l.length ≤ 1048576 ∧ (-9223372036854775808 ≤ t.n ∧ t.n ≤ 9223372036854775807) ∧ t.n = vnn t ∧ t.s = vss t ∧ ∀ x ∈ t.l, NfT d x
theorem NfT.mono : ∀ {d d' : Nat} {t : Vt}, d ≤ d' → NfT d t → NfT d' t
  | 0, _, _, _, h => h.elim
  | d + 1, 0, t, hd, h => by omega
  | d + 1, e + 1, t, hd, h => ⟨h.1, h.2.1, h.2.2.1, h.2.2.2.1, fun x hx => (h.2.2.2.2 x hx).mono (by omega)⟩
theorem nf8 {d : Nat} : NfT (d + 1) ⟨8, 0, ⟨#[]⟩, []⟩ := ⟨Nat.zero_le _, ⟨by decide, by decide⟩, rfl, rfl, fun x hx => by cases hx⟩
theorem nm_nf : ∀ (d : Nat) (i : Bool) (t : Vt), SmT d t → NfT d (nm d i t)
  | 0, _, _, h => h.elim
  | d + 1, i, t, h => by
    obtain ⟨k, n, s, l⟩ := t
    obtain ⟨h1, h2, h3, h4, h5⟩ := h
    dsimp only at h1 h2 h3 h4 h5
    unfold nm
    dsimp only
    have z0 : (-9223372036854775808 : Int) ≤ 0 ∧ (0 : Int) ≤ 9223372036854775807 := ⟨by decide, by decide⟩
    split
    · exact ⟨Nat.zero_le _, h4, rfl, rfl, fun x hx => by cases hx⟩
    split
    · exact ⟨Nat.zero_le _, z0, rfl, rfl, fun x hx => by cases hx⟩
    split
    · refine ⟨Nat.zero_le _, ?_, ?_, rfl, fun x hx => by cases hx⟩ <;> dsimp only [vnn] <;> cases n != 0 <;> decide
    split
    · refine ⟨by simpa using h2, z0, rfl, rfl, fun x hx => ?_⟩
      obtain ⟨y, hy, rfl⟩ := List.mem_map.1 hx
      exact nm_nf d false y (h5 y hy)
    split
    · refine ⟨by simpa using h2, z0, rfl, rfl, fun x hx => ?_⟩
      obtain ⟨y, hy, rfl⟩ := List.mem_map.1 hx
      exact nm_nf d true y (h5 y hy)
    split
    · exact ⟨Nat.zero_le _, h4, rfl, rfl, fun x hx => by cases hx⟩
    split
    · exact ⟨Nat.zero_le _, z0, rfl, rfl, fun x hx => by cases hx⟩
    · exact nf8
def NuAt (w : World) (B d : Nat) (t : Vt) (lv : Value) : Prop := ∃ S, VsAt w S d t.l lv ∧ ∀ b, S b → B ≤ b ∧ b < w.heap.size
theorem NuAt.only {w w' : World} {B d : Nat} {t : Vt} {lv : Value} {bs : Nat → Prop} (h : NuAt w B d t lv) (o : Only bs w w') (hb : ∀ b, B ≤ b → ¬ bs b) : NuAt w' B d t lv := by
  obtain ⟨S, ht, hS⟩ := h
  exact ⟨S, ht.step (fun _ g => g) (fun a u hs hc => o.cell hc (hb _ (hS _ hs).1)) (Nat.le_refl _), fun b hbS => ⟨(hS b hbS).1, Nat.lt_of_lt_of_le (hS b hbS).2 o.size⟩⟩
theorem NuAt.lower {w : World} {B C d : Nat} {t : Vt} {lv : Value} (h : NuAt w B d t lv) (hC : C ≤ B) : NuAt w C d t lv := by
  obtain ⟨S, ht, hS⟩ := h
  exact ⟨S, ht, fun b hbS => ⟨Nat.le_trans hC (hS b hbS).1, (hS b hbS).2⟩⟩
theorem NuAt.deep {w : World} {B d d' : Nat} {t : Vt} {lv : Value} (h : NuAt w B d t lv) (hd : d ≤ d') : NuAt w B d' t lv := by
  obtain ⟨S, ht, hS⟩ := h
  exact ⟨S, ht.step (fun _ g => g) (fun _ _ _ g => g) hd, hS⟩
theorem nu_nil {w : World} {B d : Nat} {t : Vt} (h : t.l = []) : NuAt w B (d + 1) t (.slice none 0 0) :=
  ⟨fun _ => False, ⟨none, 0, by rw [h]; rfl, by rw [h]; exact Nat.zero_le _, fun i x hx => by rw [h] at hx; simp at hx⟩, fun b h => h.elim⟩
theorem NuAt.form {w : World} {B d : Nat} {t : Vt} {lv : Value} (h : NuAt w B d t lv) : ∃ ao cap, lv = .slice ao t.l.length cap := by
  obtain ⟨S, ht, _⟩ := h
  cases d with
  | zero => exact ht.elim
  | succ d => obtain ⟨ao, cap, hv, _⟩ := ht; exact ⟨ao, cap, hv⟩
/-- a row of the document's trees that was made since block B -/
def UrAt (w : World) (B d : Nat) (v : Value) (l : List Vt) : Prop :=
  ∃ us S, w.ownsRow B 24 4 v l.length us ∧ (∀ (j : Nat) (x : Vt), l[j]? = some x → ∃ lx, (us[j * 4]? = some (.int .i64 x.k) ∧ us[j * 4 + 1]? = some (.int .i64 (x.n)) ∧ us[j * 4 + 2]? = some (.string (x.s)) ∧ us[j * 4 + 3]? = some lx) ∧ VsAt w S d x.l lx) ∧ ∀ b, S b → B ≤ b ∧ b < w.heap.size ∧ v.ownBlock ≠ some b
theorem ur_nil (w : World) (B d : Nat) : UrAt w B d (.slice none 0 0) [] :=
  ⟨[], fun _ => False, ⟨rfl, .inl ⟨rfl, rfl⟩⟩, fun j x h => by simp at h, fun b h => h.elim⟩
theorem UrAt.form {w : World} {B d : Nat} {v : Value} {l : List Vt} (h : UrAt w B d v l) : ∃ ao cap, v = .slice ao l.length cap := by
  obtain ⟨us, S, ho, _⟩ := h
  rcases ho.2 with ⟨h1, h2⟩ | ⟨g, cap, cur, h1, _⟩
  · exact ⟨_, _, by rw [h1, h2]⟩
  · exact ⟨_, _, h1⟩
theorem UrAt.only {w w' : World} {B d : Nat} {v : Value} {l : List Vt} {bs : Nat → Prop} (h : UrAt w B d v l) (o : Only bs w w') (hb : ∀ b, B ≤ b → ¬ bs b) : UrAt w' B d v l := by
  obtain ⟨us, S, ho, ht, hS⟩ := h
  refine ⟨us, S, o.owns ho (fun k hk => hb k (ho.lt k hk).1), fun j x hx => ?_, fun b hbS => ?_⟩
  · obtain ⟨lx, hu, h2⟩ := ht j x hx
    exact ⟨lx, hu, h2.step (fun _ g => g) (fun a u hs hc => o.cell hc (hb _ (hS _ hs).1)) (Nat.le_refl _)⟩
  · obtain ⟨h1, h2, h3⟩ := hS b hbS
    exact ⟨h1, Nat.lt_of_lt_of_le h2 o.size, h3⟩
theorem UrAt.snoc {w w' : World} {B C d : Nat} {v v' : Value} {l : List Vt} {t : Vt} {lv : Value} {us : List Value} {S : Nat → Prop} (hg : w.grownBy w' v.ownBlock) (ho : w.ownsRow B 24 4 v l.length us) (ht : ∀ (j : Nat) (x : Vt), l[j]? = some x → ∃ lx, (us[j * 4]? = some (.int .i64 x.k) ∧ us[j * 4 + 1]? = some (.int .i64 (x.n)) ∧ us[j * 4 + 2]? = some (.string (x.s)) ∧ us[j * 4 + 3]? = some lx) ∧ VsAt w S d x.l lx) (hS : ∀ b, S b → B ≤ b ∧ b < w.heap.size ∧ v.ownBlock ≠ some b)
    (hn : NuAt w C d t lv) (hC : B ≤ C) (hv : ∀ k, v.ownBlock = some k → k < C) (ho' : w'.ownsRow B 24 4 v' (l.length + 1) (us ++ [.int .i64 t.k, .int .i64 (t.n), .string (t.s), lv])) (hat : v'.ownBlock = v.ownBlock ∨ v'.ownBlock = some w.heap.size) : UrAt w' B d v' (l ++ [t]) := by
  obtain ⟨S1, t1, s1⟩ := hn
  have oo : Only (fun k => v.ownBlock = some k) w w' := (Only.refl _ w).grown hg (fun k e _ => e)
  have a1 : ∀ b, S b → ¬ v.ownBlock = some b := fun b h => (hS b h).2.2
  have a2 : ∀ b, S1 b → ¬ v.ownBlock = some b := fun b h e => by have := hv b e; have := (s1 b h).1; omega
  have hl : us.length = l.length * 4 := ho.1
  refine ⟨_, fun b => S b ∨ S1 b, by simpa using ho', fun j x hx => ?_, fun b hb => ?_⟩
  · by_cases hj : j < l.length
    · rw [List.getElem?_append_left hj] at hx
      obtain ⟨lx, ⟨h0, h1, h2, h3⟩, h6⟩ := ht j x hx
      have ap : ∀ i u, us[i]? = some u → (us ++ [.int .i64 t.k, .int .i64 (t.n), .string (t.s), lv])[i]? = some u := fun i u hu => by
        rw [List.getElem?_append_left (List.getElem?_eq_some_iff.1 hu).1]; exact hu
      exact ⟨lx, ⟨ap _ _ h0, ap _ _ h1, ap _ _ h2, ap _ _ h3⟩, h6.step (fun _ g => .inl g) (fun a y hs hc => oo.cell hc (a1 _ hs)) (Nat.le_refl _)⟩
    · have hj2 : j < (l ++ [t]).length := (List.getElem?_eq_some_iff.1 hx).1
      have hj3 : j = l.length := by simp at hj2; omega
      subst hj3
      simp at hx
      subst hx
      have ap : ∀ i, (us ++ [.int .i64 t.k, .int .i64 (t.n), .string (t.s), lv])[l.length * 4 + i]? = ([.int .i64 t.k, .int .i64 (t.n), .string (t.s), lv] : List Value)[i]? := fun i => by
        rw [List.getElem?_append_right (by omega)]
        congr 1
        omega
      exact ⟨lv, ⟨ap 0, ap 1, ap 2, ap 3⟩, t1.step (fun _ g => .inr g) (fun a y hs hc => oo.cell hc (a2 _ hs)) (Nat.le_refl _)⟩
  · have h1 : B ≤ b ∧ b < w.heap.size ∧ v.ownBlock ≠ some b := by
      rcases hb with h | h
      · exact hS b h
      · exact ⟨Nat.le_trans hC (s1 b h).1, (s1 b h).2, a2 b h⟩
    refine ⟨h1.1, Nat.lt_of_lt_of_le h1.2.1 oo.size, ?_⟩
    rcases hat with e | e <;> rw [e]
    · exact h1.2.2
    · intro e2
      injection e2 with e2
      have := h1.2.1
      omega
/-- a row as the parts of a tree -/
theorem UrAt.tree {w : World} {B d : Nat} {v : Value} {l : List Vt} {t : Vt} (h : UrAt w B d v l) (e : t.l = l) : NuAt w B (d + 1) t v := by
  subst e
  obtain ⟨us, S, ho, ht, hS⟩ := h
  refine ⟨fun b => S b ∨ v.ownBlock = some b, ?_, fun b hb => ?_⟩
  · rcases ho.2 with ⟨rfl, h2⟩ | ⟨g, cap, cur, hv, hB, hg, hn, hcm, hcs, htk⟩
    · exact ⟨none, 0, by rw [h2], by omega, fun i x hx => by have := (List.getElem?_eq_some_iff.1 hx).1; omega⟩
    · refine ⟨some ⟨g, 0, none⟩, cap, hv, hn, fun i x hx => ?_⟩
      obtain ⟨lx, ⟨h0, h1, h2, h3⟩, h4⟩ := ht i x hx
      have hc : ∀ j u, us[j]? = some u → w.cell? ⟨g, 0 + j, none⟩ = some u := fun j u hu => by
        have := ho.cells (g := g) (by rw [hv]; rfl) j u hu
        rwa [addr_ad, ← Nat.zero_add j] at this
      exact ⟨g, 0, lx, rfl, .inr (by rw [hv]; rfl), ⟨hc _ _ h0, hc _ _ h1, hc _ _ h2, hc _ _ h3⟩, h4.step (fun _ g => .inl g) (fun _ _ _ g => g) (Nat.le_refl _)⟩
  · rcases hb with h | h
    · exact ⟨(hS b h).1, (hS b h).2.1⟩
    · exact ho.lt b h
/-- what a type assertion with two values answers -/
theorem uas_hit (T xt : TypeId) (D : TypeDesc) (hD : Tryz.prog.underlying T = some D) (hn : ∀ m, D ≠ .interface m) (x : Value) (W : World) : (Instr.typeAssert (.iface T x) xt T true).run Tryz.prog W = .ok (.tuple #[x, .bool true]) W := by
  simp only [Instr.typeAssert, Sem.run_bind, run_underlying hD, Result.andThen_ok]
  cases D <;> simp_all
theorem uas_miss (T U xt : TypeId) (D : TypeDesc) (hD : Tryz.prog.underlying U = some D) (hn : ∀ m, D ≠ .interface m) (hT : T ≠ U) (z : Value) (hz : ∀ W : World, (zeroValue U).run Tryz.prog W = .ok z W) (x : Value) (W : World) : (Instr.typeAssert (.iface T x) xt U true).run Tryz.prog W = .ok (.tuple #[z, .bool false]) W := by
  simp only [Instr.typeAssert, Sem.run_bind, run_underlying hD, Result.andThen_ok]
  cases D <;> simp_all
theorem uas_nil (U xt : TypeId) (D : TypeDesc) (hD : Tryz.prog.underlying U = some D) (hn : ∀ m, D ≠ .interface m) (z : Value) (hz : ∀ W : World, (zeroValue U).run Tryz.prog W = .ok z W) (W : World) : (Instr.typeAssert .nilIface xt U true).run Tryz.prog W = .ok (.tuple #[z, .bool false]) W := by
  simp only [Instr.typeAssert, Sem.run_bind, run_underlying hD, Result.andThen_ok]
  cases D <;> simp_all
/-- trees in a slice of values or items -/
def QiAt (w : World) (S : Nat → Prop) (d : Nat) (i : Bool) (v : Value) (l : List Vt) : Prop := ∃ ao cap, v = .slice ao l.length cap ∧ l.length ≤ cap ∧ ∀ (j : Nat) (x : Vt), l[j]? = some x → ∃ g k u, ao = some ⟨g, k, none⟩ ∧ S g ∧ w.cell? ⟨g, k + j, none⟩ = some u ∧ TiAt w S d i x u
theorem QiAt.step {w w' : World} {S S' : Nat → Prop} (hS : ∀ b, S b → S' b) (hk : ∀ (a : Addr) u, S a.block → w.cell? a = some u → w'.cell? a = some u) {d d' : Nat} {i : Bool} {l : List Vt} {v : Value} (hd : d ≤ d') (h : QiAt w S d i v l) : QiAt w' S' d' i v l := by
  obtain ⟨ao, cap, hv, hc, hl⟩ := h
  refine ⟨ao, cap, hv, hc, fun j x hx => ?_⟩
  obtain ⟨g, k, u, ha, hg, hu, ht⟩ := hl j x hx
  exact ⟨g, k, u, ha, hS g hg, hk _ _ hg hu, ht.step hS hk hd⟩
end Go.Proofs.YtllpacppedobjaaGreatDoor
namespace Go.Proofs.YtllpacppedobjaaGreatDoor
open Go.RowKit Go.Lib
set_option linter.unusedSimpArgs false
set_option linter.unusedVariables false
set_option maxRecDepth 100000 in
theorem spo_other (T : TypeId) (x : Value) (hL : T ≠ 71) (hQ : T ≠ 73) (w : World) : Calls Tryz.prog 26 #[.iface T x] w fun e w' => e = .returned (.tuple #[]) ∧ Only (fun _ => False) w w' := by
  have mList := va_miss T 71 27 _ Tryz.underlying71 (by intro m h; cases h) hL _ zL
  have mQuot := va_miss T 73 27 _ Tryz.underlying73 (by intro m h; cases h) hQ _ zQ
  have O : Hid (Only (fun _ => False) w w) := Only.refl _ _
  clear hL hQ
  go_enter Tryz.func26, Tryz.ntmps26
  go_wp2
  go_end0
  exact ⟨rfl, by repeat' first | exact O.out | apply Only.alloc⟩
set_option maxRecDepth 100000 in
theorem spo_nil (w : World) : Calls Tryz.prog 26 #[.nilIface] w fun e w' => e = .returned (.tuple #[]) ∧ Only (fun _ => False) w w' := by
  have mList := uas_nil 71 27 _ Tryz.underlying71 (by intro m h; cases h) _ zL
  have mQuot := uas_nil 73 27 _ Tryz.underlying73 (by intro m h; cases h) _ zQ
  have O : Hid (Only (fun _ => False) w w) := Only.refl _ _
  go_enter Tryz.func26, Tryz.ntmps26
  go_wp2
  go_end0
  exact ⟨rfl, by repeat' first | exact O.out | apply Only.alloc⟩
theorem SpAt.shape {w : World} {S : Nat → Prop} {d : Nat} {v : Value} (h : SpAt w S d v) : v = .nilIface ∨ ∃ T y, v = .iface T y := by
  cases d with
  | zero => exact h.elim
  | succ d =>
    rcases h with h | ⟨T, y, h, _⟩
    · exact .inl h
    · exact .inr ⟨T, y, h⟩
set_option maxRecDepth 100000 in
set_option maxHeartbeats 4000000 in
theorem spo_list (d : Nat) (H : SpC d) (ao : Option Addr) (n cap : Nat) (w : World) (S : Nat → Prop) (hS : ∀ b, S b → Liv w b) (hn : n ≤ 1048576) (hel : ∀ j, j < n → ∃ g k u, ao = some ⟨g, k, none⟩ ∧ S g ∧ w.cell? ⟨g, k + j, none⟩ = some u ∧ SpAt w S d u) :
    Calls Tryz.prog 26 #[.iface 71 (.agg #[.slice ao n cap])] w fun e w' => e = .returned (.tuple #[]) ∧ Hid (Spl S w w') := by
  have hList := va_hit 71 27 _ Tryz.underlying71 (by intro m h; cases h)
  obtain ⟨W, hW⟩ : ∃ W, W = w.alloc (.cells #[.slice ao n cap] 71) := ⟨_, rfl⟩
  have bW : W.heap[w.heap.size]? = some (.cells #[.slice ao n cap] 71) := by rw [hW]; exact valloc_at _ _ _ rfl
  have oW : Only (fun _ => False) w W := by rw [hW]; exact (Only.refl _ w).alloc _
  have HE : Hid (∀ w1, Spl S W w1 → (w1.heap[w.heap.size]? = some (.cells #[.slice ao n cap] 71)) ∧ ∀ j, j < n → ∃ g k u, ao = some ⟨g, k, none⟩ ∧ S g ∧ Liv w1 g ∧ w1.cell? ⟨g, k + j, none⟩ = some u ∧ (u = .nilIface ∨ ∃ T y, u = .iface T y) ∧ Calls Tryz.prog 26 #[u] w1 fun e w' => e = .returned (.tuple #[]) ∧ Hid (Spl S w1 w')) := fun w1 s1 => by
    have s2 : Spl S w w1 := (Spl.of oW).trans s1
    refine ⟨(s1.1.block _ (by rw [hW]; simp) (fun g => by have := (hS _ g).1; omega)).trans bW, fun j hj => ?_⟩
    obtain ⟨g, k, u, e1, e2, e3, e4⟩ := hel j hj
    obtain ⟨u', c1, c2⟩ := s2.2.2 ⟨g, k + j, none⟩ u e2 e3
    have hd : SpAt w1 S d u' := by
      cases d with
      | zero => exact e4.elim
      | succ d =>
        rcases c2 with rfl | c2
        · exact e4.keep s2
        · exact sp_leaf c2 _ _ _
    exact ⟨g, k, u', e1, e2, s2.2.1 g e2 (hS g e2), c1, hd.shape, H u' w1 S hd (fun b hb => s2.2.1 b hb (hS b hb))⟩
  have HW : Hid (Spl S w W) := Spl.of oW
  have HN : Hid (n ≤ 1048576) := hn
  obtain ⟨B, hB⟩ : ∃ B, B = w.heap.size := ⟨_, rfl⟩
  rw [← hB] at HE
  clear hel hS hn bW oW H
  go_enter Tryz.func26, Tryz.ntmps26
  go_wp2
  rw [← hW, ← hB]
  clear hW hB
  go_loopw [3] (fun r wr => ∃ j : Nat, r = .int .i64 (j : Int) ∧ j ≤ n ∧ Hid (Spl S W wr)) (fun r _ => n - vuOf r)
  case atStart => exact ⟨0, rfl, Nat.zero_le _, Spl.of (Only.refl _ _)⟩
  case round =>
    obtain ⟨j, rfl, hj, HI⟩ := hrel
    obtain ⟨w1, hw1⟩ : ∃ w1, w1 = wr := ⟨_, rfl⟩
    rw [← hw1] at HI ⊢
    clear hw1
    obtain ⟨hb, he⟩ := HE.out w1 HI.out
    have cB := (vblk_cells hb 0).trans rfl
    by_cases hjN : j < n
    · obtain ⟨g, k, u, rfl, h2, h3, h4, h5, h6⟩ := he j hjN
      have HC : Hid _ := h6
      have HG : Hid (S g ∧ Liv w1 g ∧ w1.cell? ⟨g, k + j, none⟩ = some u ∧ w1.heap[B]? = some (.cells #[.slice (some ⟨g, k, none⟩) n cap] 71) ∧ j < n ∧ ∀ b, S b → Liv w1 b → b ≠ B → True) := ⟨h2, h3, h4, hb, hjN, fun _ _ _ _ => trivial⟩
      have i1 : (j : Int) < (n : Int) := by omega
      have i0 : (0 : Int) ≤ (j : Int) := by omega
      have i4 : j ≤ 1048576 := by have := HN.out; omega
      clear he h2 h3 h6 hb hj hjN
      rcases h5 with rfl | ⟨T, y, rfl⟩
      all_goals
        go_wp2_with fail
        refine (show Calls Tryz.prog 26 _ _ _ from HC.out).mono ?_
        rintro e w2 ⟨rfl, G2⟩
        obtain ⟨hb2, he2⟩ := HE.out w2 (HI.out.trans G2.out)
        obtain ⟨g', k', u', q1, q2, q3, q4, _, _⟩ := he2 j HG.out.2.2.2.2.1
        obtain ⟨rfl, rfl⟩ : g = g' ∧ k = k' := by simpa using q1
        have cB2 := (vblk_cells hb2 0).trans rfl
        have f2 := q3.froz (k + j)
        have H3 : Hid (Spl S W (w2.setCell ⟨g, k + j, none⟩ Lint)) := (HI.out.trans G2.out).trans (Spl.set q2 q3 q4 lfv_lint)
        have HJ : Hid (j < n) := HG.out.2.2.2.2.1
        unfold Lint at H3
        clear HC HG hb2 he2 q1 q2 q3 G2 cB h4
        go_wp2
        go_roundw
        case rel => exact ⟨j + 1, by go_num, by have := HJ.out; omega, H3⟩
        case measure => simp only [vuOf]; have := HJ.out; omega
    · obtain rfl : j = n := by omega
      have i1 : ¬ (j : Int) < (j : Int) := by omega
      have HF : Hid (Spl S w w1) := HW.out.trans HI.out
      clear he hb hj hjN HI HE
      go_wp2
      go_end0
      exact ⟨rfl, HF⟩
set_option maxRecDepth 100000 in
set_option maxHeartbeats 4000000 in
theorem spo_quot (d : Nat) (H : SpC d) (ao : Option Addr) (n cap : Nat) (w : World) (S : Nat → Prop) (hS : ∀ b, S b → Liv w b) (hn : n ≤ 1048576) (hel : ∀ j, j < n → ∃ g k u, ao = some ⟨g, k, none⟩ ∧ S g ∧ w.cell? ⟨g, k + j, none⟩ = some u ∧ SpAt w S (d + 1) u) :
    Calls Tryz.prog 26 #[.iface 73 (.agg #[.slice ao n cap])] w fun e w' => e = .returned (.tuple #[]) ∧ Hid (Spl S w w') := by
  have mList := va_miss 73 71 27 _ Tryz.underlying71 (by intro m h; cases h) (by decide) _ zL
  have hQuot := va_hit 73 27 _ Tryz.underlying73 (by intro m h; cases h)
  obtain ⟨W, hW⟩ : ∃ W, W = w.alloc (.cells #[.slice ao n cap] 73) := ⟨_, rfl⟩
  have bW : W.heap[w.heap.size]? = some (.cells #[.slice ao n cap] 73) := by rw [hW]; exact valloc_at _ _ _ rfl
  have oW : Only (fun _ => False) w W := by rw [hW]; exact (Only.refl _ w).alloc _
  have HE : Hid (∀ w1, Spl S W w1 → (w1.heap[w.heap.size]? = some (.cells #[.slice ao n cap] 73)) ∧ ∀ j, j < n → ∃ g k u, ao = some ⟨g, k, none⟩ ∧ S g ∧ Liv w1 g ∧ w1.cell? ⟨g, k + j, none⟩ = some u ∧ SpAt w1 S (d + 1) u ∧ ∀ w2 x, Only (fun _ => False) w1 w2 → SpAt w1 S d x → Calls Tryz.prog 26 #[x] w2 fun e w' => e = .returned (.tuple #[]) ∧ Hid (Spl S w1 w')) := fun w1 s1 => by
    have s2 : Spl S w w1 := (Spl.of oW).trans s1
    refine ⟨(s1.1.block _ (by rw [hW]; simp) (fun g => by have := (hS _ g).1; omega)).trans bW, fun j hj => ?_⟩
    obtain ⟨g, k, u, e1, e2, e3, e4⟩ := hel j hj
    obtain ⟨u', c1, c2⟩ := s2.2.2 ⟨g, k + j, none⟩ u e2 e3
    have hd : SpAt w1 S (d + 1) u' := by
      rcases c2 with rfl | c2
      · exact e4.keep s2
      · exact sp_leaf c2 _ _ _
    refine ⟨g, k, u', e1, e2, s2.2.1 g e2 (hS g e2), c1, hd, fun w2 x o2 hx => ?_⟩
    have s3 : Spl S w1 w2 := Spl.of o2
    exact (H x w2 S (hx.keep s3) (fun b hb => s3.2.1 b hb (s2.2.1 b hb (hS b hb)))).mono fun e w' g => ⟨g.1, s3.trans g.2.out⟩
  have HW : Hid (Spl S w W) := Spl.of oW
  have HN : Hid (n ≤ 1048576) := hn
  obtain ⟨B, hB⟩ : ∃ B, B = w.heap.size := ⟨_, rfl⟩
  rw [← hB] at HE
  clear hel hS hn bW oW H
  go_enter Tryz.func26, Tryz.ntmps26
  go_wp2
  rw [← hW, ← hB]
  clear hW hB
  go_loopw [5] (fun r wr => ∃ j : Nat, r = .int .i64 (j : Int) ∧ j ≤ n ∧ Hid (Spl S W wr)) (fun r _ => n - vuOf r)
  case atStart => exact ⟨0, rfl, Nat.zero_le _, Spl.of (Only.refl _ _)⟩
  case round =>
    obtain ⟨j, rfl, hj, HI⟩ := hrel
    obtain ⟨w1, hw1⟩ : ∃ w1, w1 = wr := ⟨_, rfl⟩
    rw [← hw1] at HI ⊢
    clear hw1
    obtain ⟨hb, he⟩ := HE.out w1 HI.out
    have cB := (vblk_cells hb 0).trans rfl
    by_cases hjN : j < n
    · obtain ⟨g, k, u, rfl, h2, h3, h4, h5, h6⟩ := he j hjN
      have i1 : (j : Int) < (n : Int) := by omega
      have i0 : (0 : Int) ≤ (j : Int) := by omega
      have i4 : j ≤ 1048576 := by have := HN.out; omega
      have HJ : Hid (j < n) := hjN
      have HLAST : Hid (∀ w2, Spl S w1 w2 → w2.cell? ⟨B, 0, none⟩ = some (.slice (some ⟨g, k, none⟩) n cap) ∧ w2.frozen? ⟨g, k + j, none⟩ = false ∧ (∃ u', w2.cell? ⟨g, k + j, none⟩ = some u') ∧ Spl S W (w2.setCell ⟨g, k + j, none⟩ (.iface 102 (.agg #[.string ⟨#[103, 111, 110, 101]⟩])))) := fun w2 s2 => by
        obtain ⟨hb2, he2⟩ := HE.out w2 (HI.out.trans s2)
        obtain ⟨g', k', u', q1, q2, q3, q4, _, _⟩ := he2 j hjN
        obtain ⟨rfl, rfl⟩ : g = g' ∧ k = k' := by simpa using q1
        exact ⟨(vblk_cells hb2 0).trans rfl, q3.froz (k + j), ⟨u', q4⟩, (HI.out.trans s2).trans (Spl.set q2 q3 q4 lfv_call)⟩
      have HR : Hid (Spl S w1 w1) := Spl.of (Only.refl _ _)
      have OR : Hid (Only (fun _ => False) w1 w1) := Only.refl _ _
      clear he h2 h3 hb hj hjN
      rcases h5 with rfl | ⟨T, y, rfl, _, hp⟩
      · have mP := uas_nil 99 86 _ Tryz.underlying99 (by intro m h; cases h) _ vzero_Push
        obtain ⟨W2, hW2⟩ : ∃ W2, W2 = w1.alloc (.cells #[.nilIface] 99) := ⟨_, rfl⟩
        obtain ⟨c1, c2, ⟨u', c3⟩, c4⟩ := HLAST.out W2 (Spl.of (by rw [hW2]; exact OR.out.alloc _))
        rw [hW2] at c1 c2 c3 c4
        have H3 : Hid _ := c4
        clear c4 h6 hW2
        go_wp2
        go_roundw
        case rel => exact ⟨j + 1, by go_num, by have := HJ.out; omega, H3⟩
        case measure => simp only [vuOf]; have := HJ.out; omega
      by_cases hT : T = 99
      · subst hT
        obtain ⟨x, rfl, hx⟩ := hp rfl
        have hP := va_hit 99 86 _ Tryz.underlying99 (by intro m h; cases h)
        have HC : Hid _ := h6 (w1.alloc (.cells #[x] 99)) x (OR.out.alloc _) hx
        have hsh := hx.shape
        clear h6 hx hp
        rcases hsh with rfl | ⟨T2, y2, rfl⟩
        all_goals
          go_wp2_with fail
          refine (show Calls Tryz.prog 26 _ _ _ from HC.out).mono ?_
          rintro e w2 ⟨rfl, G2⟩
          obtain ⟨c1, c2, ⟨u', c3⟩, c4⟩ := HLAST.out w2 G2.out
          have H3 : Hid _ := c4
          clear c4 HC G2 cB h4 HLAST
          go_wp2
          go_roundw
          case rel => exact ⟨j + 1, by go_num, by have := HJ.out; omega, H3⟩
          case measure => simp only [vuOf]; have := HJ.out; omega
      · have mP := va_miss T 99 86 _ Tryz.underlying99 (by intro m h; cases h) hT _ vzero_Push
        obtain ⟨W2, hW2⟩ : ∃ W2, W2 = w1.alloc (.cells #[.nilIface] 99) := ⟨_, rfl⟩
        obtain ⟨c1, c2, ⟨u', c3⟩, c4⟩ := HLAST.out W2 (Spl.of (by rw [hW2]; exact OR.out.alloc _))
        rw [hW2] at c1 c2 c3 c4
        have H3 : Hid _ := c4
        clear c4 h6 hW2 hT hp
        go_wp2
        go_roundw
        case rel => exact ⟨j + 1, by go_num, by have := HJ.out; omega, H3⟩
        case measure => simp only [vuOf]; have := HJ.out; omega
    · obtain rfl : j = n := by omega
      have i1 : ¬ (j : Int) < (j : Int) := by omega
      have HF : Hid (Spl S w w1) := HW.out.trans HI.out
      clear he hb hj hjN HI HE
      go_wp2
      go_end0
      exact ⟨rfl, HF⟩
theorem spo_all : ∀ (D d : Nat), d < D → SpC d
  | 0, d, h => by omega
  | D + 1, d, h => by
    cases d with
    | zero => exact fun v w S h => h.elim
    | succ d =>
      intro v w S hv hS
      have ih := spo_all D d (by omega)
      rcases hv with rfl | ⟨T, y, rfl, h1, h2⟩
      · exact (spo_nil w).mono fun e w' g => ⟨g.1, Spl.of g.2⟩
      · by_cases hL : T = 71
        · subst hL
          obtain ⟨ao, n, cap, rfl, _, hn, hel⟩ := h1 (.inl rfl)
          exact spo_list d ih ao n cap w S hS hn hel
        by_cases hQ : T = 73
        · subst hQ
          obtain ⟨ao, n, cap, rfl, _, hn, hel⟩ := h1 (.inr rfl)
          exact spo_quot d ih ao n cap w S hS hn (fun j hj => by obtain ⟨g, k, u, q1, q2, q3, q4⟩ := hel j hj; exact ⟨g, k, u, q1, q2, q3, q4.deep (by omega)⟩)
        exact (spo_other T y hL hQ w).mono fun e w' g => ⟨g.1, Spl.of g.2⟩
end Go.Proofs.YtllpacppedobjaaGreatDoor
