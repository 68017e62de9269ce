/- Copies of rows: anew and copyEach. Equal values: same, sameItem; Equal. Equal values: those that hold no others; items; all; Equal. -/
import Derived.Test.YtdfbnnephfoboaaGreatDoorGah
import Derived.Test.YtdfbnnephfoboaaGreatDoorGaa
import Derived.Test.YtdfbnnephfoboaaGreatDoorGae
import Derived.Deep.AppendSrc
import Derived.Lib.SliceRun
import Derived.Laws.MakeOwn
import Derived.Laws.CopyRow
import Derived.Test.YtdfbnnephfoboaaGreatDoorGaf
namespace Go.Proofs.YtdfbnnephfoboaaGreatDoor
open Go.RowKit Go.Lib
set_option linter.unusedSimpArgs false
set_option linter.unusedVariables false
theorem mk_row {sT eT : TypeId} (hT : Tryz.prog.underlying sT = some (.slice eT)) (hI : (Tryz.prog.info? eT).map (fun i => (i.zero, i.size, i.bytes)) = some (some .nilIface, 1, 16)) (n : Nat) (hn : n ≤ 2600000000000) : ∃ M : Array Value, M.size = n ∧ ∀ w : World, (Instr.makeSlice sT (.int .i64 0) (.int .i64 n)).run Tryz.prog w = .ok (.slice (some ⟨w.heap.size, 0, none⟩) 0 n) (w.alloc (.cells M eT)) := by
  obtain ⟨i0, hi0, hz0, hz1, hz2⟩ := vinfo_parts hI
  refine ⟨madeCells (Value.nilIface).cells n, size_madeCells _ _, fun w => ?_⟩
  have := run_make (P := Tryz.prog) w sT eT i0 _ hT hi0 hz0 .i64 .i64 0 (n : Int) (by omega) (by omega) (by rw [hz2]; omega) (by omega)
  rw [hz1, show ((n : Int)).toNat = n by omega, Nat.mul_one] at this
  exact this
theorem ap_row {sT eT : TypeId} (hT : Tryz.prog.underlying sT = some (.slice eT)) (hI : (Tryz.prog.info? eT).map (fun i => (i.zero, i.size, i.bytes)) = some (some .nilIface, 1, 16)) {W : World} {g n cap : Nat} {a : Addr} {us : List Value} {cur : Array Value} (hl : us.length = n) (hu : ∀ j u, us[j]? = some u → W.cell? (a.add j) = some u) (h1 : ∀ u ∈ us, u.oneCell' = true) (hg : W.heap[g]? = some (.cells cur eT)) (hc : cur.size = n) (ty : TypeId) :
    (Builtin.append_ #[sT, sT] ty #[.slice (some ⟨g, 0, none⟩) 0 n, .slice (some a) n cap]).run Tryz.prog W = .ok (.slice (some ⟨g, 0, none⟩) n n) (W.setRow g us.toArray) := by
  obtain ⟨i0, hi, hz0, hz1, hz2⟩ := vinfo_parts hI
  have hs : Src Tryz.prog i0.size sT (.slice (some a) n cap) n us W := Src.ofSlice W hT a n cap us (by rw [hz1, Nat.mul_one]; exact hl) hu h1
  have hst := run_storeCells_at Tryz.prog g 0 eT us 0 cur W hg (by omega) h1
  simp only [Nat.add_zero, Nat.zero_add, List.take_zero, List.nil_append] at hst
  rw [show cur.toList.drop us.length = [] from List.drop_eq_nil_of_le (by simp; omega), List.append_nil] at hst
  have hroom : 0 + n ≤ n := by omega
  rcases hs.kind with ⟨e', hk⟩ | hk <;> simp [Builtin.append_, run_underlying hT, run_underlying hk, sizeOf, typeInfo, hi, hs.len, hroom, hs.cells, Addr.add_lit, hst]
theorem setRow_only {w : World} {g : Nat} {cs : Array Value} : Only (fun b => b = g) w (w.setRow g cs) := by
  refine ⟨rfl, rfl, rfl, by simp [World.setRow], fun j _ hne => ?_⟩
  show (w.heap.modify g _)[j]? = w.heap[j]?
  rw [Array.getElem?_modify, if_neg (fun h => hne h.symm)]
theorem TiAt.one {w : World} {S : Nat → Prop} {d : Nat} {i : Bool} {t : Vt} {v : Value} (h : TiAt w S d i t v) : v.oneCell' = true := by
  cases d with
  | zero => exact h.elim
  | succ d =>
    cases i with
    | true => rcases h with ⟨_, _, rfl⟩ | ⟨_, _, rfl⟩ | ⟨_, _, u, rfl, _⟩ <;> rfl
    | false => rcases h with ⟨_, _, rfl⟩ | ⟨_, _, rfl⟩ | ⟨_, _, rfl⟩ | ⟨_, _, rfl⟩ | ⟨_, _, rfl⟩ | ⟨_, ao, cap, rfl, _⟩ <;> rfl
theorem TiAt.shape2 {w : World} {S : Nat → Prop} {d : Nat} {i : Bool} {t : Vt} {v : Value} (h : TiAt w S d i t v) : v = .nilIface ∨ ∃ T y, v = .iface T y := by
  cases d with
  | zero => exact h.elim
  | succ d =>
    cases i with
    | true => rcases h with ⟨_, _, rfl⟩ | ⟨_, _, rfl⟩ | ⟨_, _, u, rfl, _⟩ <;> first | exact .inl rfl | exact .inr ⟨_, _, rfl⟩
    | false => rcases h with ⟨_, _, rfl⟩ | ⟨_, _, rfl⟩ | ⟨_, _, rfl⟩ | ⟨_, _, rfl⟩ | ⟨_, _, rfl⟩ | ⟨_, ao, cap, rfl, _⟩ <;> first | exact .inl rfl | exact .inr ⟨_, _, rfl⟩
/-- a slice as anew makes it: the values us in a block of its own since w, or nothing -/
def AnP (eT : TypeId) (us : List Value) (w : World) (e : Ending) (w' : World) : Prop := (us = [] ∧ e = .returned (.slice none 0 0) ∧ w' = w) ∨ ∃ g, e = .returned (.slice (some ⟨g, 0, none⟩) us.length us.length) ∧ w.heap.size ≤ g ∧ w'.heap[g]? = some (.cells us.toArray eT) ∧ Only (fun _ => False) w w'
/-- what copies a part: its contract -/
def CpC (d : Nat) (i : Bool) (F : Nat) : Prop := ∀ (t : Vt) (v : Value) (w : World) (S : Nat → Prop), TiAt w S d i t v → (∃ e, SmT e t) → (∀ b, S b → b < w.heap.size) → Calls Tryz.prog F #[v] w fun e w' => ∃ v', e = .returned v' ∧ Hid (NiAt w' w.heap.size d i t v' ∧ Only (fun _ => False) w w')
/-- the parts l of a row at ao -/
def PsAt (w : World) (S : Nat → Prop) (d : Nat) (i : Bool) (l : List Vt) (ao : Option Addr) : Prop := ∀ (j : Nat) (x : Vt), l[j]? = some x → ∃ g q u, ao = some ⟨g, q, none⟩ ∧ S g ∧ w.cell? ⟨g, q + j, none⟩ = some u ∧ TiAt w S d i x u
/-- what copyEach answers -/
def CeC (d : Nat) (i : Bool) (F G : Nat) : Prop := ∀ (l : List Vt) (ao : Option Addr) (cap : Nat) (w : World) (S : Nat → Prop), PsAt w S d i l ao → (∀ b, S b → b < w.heap.size) → (∀ x ∈ l, ∃ e, SmT e x) → l.length ≤ 2600000000000 → (ao = none → l = []) →
  Calls Tryz.prog G #[.slice ao l.length cap, .func (.func F) #[] #[]] w fun e w' => ∃ ao' cap', e = .returned (.slice ao' l.length cap') ∧ Hid (l.length ≤ cap' ∧ (∃ S', PsAt w' S' d i l ao' ∧ ∀ b, S' b → w.heap.size ≤ b ∧ b < w'.heap.size) ∧ Only (fun _ => False) w w')
theorem ps_row0 {w : World} {S : Nat → Prop} {d : Nat} {i : Bool} {l : List Vt} {ao : Option Addr} (h : PsAt w S d i l ao) : ∀ m, m ≤ l.length → ∃ us : List Value, us.length = m ∧ ∀ (j : Nat) (u : Value), us[j]? = some u → ∃ x, l[j]? = some x ∧ (∀ a, ao = some a → w.cell? (a.add j) = some u) ∧ TiAt w S d i x u := by
  intro m
  induction m with
  | zero => intro _; exact ⟨[], rfl, fun j u hu => by simp at hu⟩
  | succ m ih =>
    intro hm
    obtain ⟨us, h1, h2⟩ := ih (by omega)
    obtain ⟨g, q, u, ha, hg, hc, ht⟩ := h m (l[m]'(by omega)) (List.getElem?_eq_getElem (by omega))
    refine ⟨us ++ [u], by simp [h1], fun j v hv => ?_⟩
    by_cases hj : j < us.length
    · rw [List.getElem?_append_left hj] at hv
      exact h2 j v hv
    · have hj2 := (List.getElem?_eq_some_iff.1 hv).1
      have hj3 : j = us.length := by simp at hj2; omega
      subst hj3
      simp at hv
      subst hv
      refine ⟨_, by rw [h1]; exact List.getElem?_eq_getElem (by omega), fun a e => ?_, ht⟩
      rw [ha] at e
      injection e with e
      rw [← e, Addr.add_mid, h1]
      exact hc
theorem ps_row {w : World} {S : Nat → Prop} {d : Nat} {i : Bool} {l : List Vt} {ao : Option Addr} (h : PsAt w S d i l ao) : ∃ us : List Value, us.length = l.length ∧ (∀ u ∈ us, u.oneCell' = true) ∧ (∀ a, ao = some a → ∀ j u, us[j]? = some u → w.cell? (a.add j) = some u) ∧ ∀ (j : Nat) (x : Vt), l[j]? = some x → ∃ u, us[j]? = some u ∧ TiAt w S d i x u := by
  obtain ⟨us, h1, h2⟩ := ps_row0 h l.length (Nat.le_refl _)
  refine ⟨us, h1, fun u hu => ?_, fun a e j u hu => ?_, fun j x hx => ?_⟩
  · obtain ⟨j, hj, e⟩ := List.mem_iff_getElem.1 hu
    obtain ⟨x, _, _, ht⟩ := h2 j u (by rw [← e]; exact List.getElem?_eq_getElem hj)
    exact ht.one
  · obtain ⟨x, _, hc, _⟩ := h2 j u hu
    exact hc a e
  · have hj := (List.getElem?_eq_some_iff.1 hx).1
    obtain ⟨y, hy, _, ht⟩ := h2 j (us[j]'(by omega)) (List.getElem?_eq_getElem (by omega))
    rw [hx] at hy
    injection hy with hy
    rw [hy]
    exact ⟨_, List.getElem?_eq_getElem (by omega), ht⟩
/-- a copy under way: j parts are copied, the others are still those that were handed in -/
def CeI (w wr : World) (S : Nat → Prop) (d : Nat) (i : Bool) (eT : TypeId) (l : List Vt) (G j : Nat) : Prop :=
  ∃ (vs : List Value) (S' : Nat → Prop), vs.length = l.length ∧ wr.heap[G]? = some (.cells vs.toArray eT) ∧ Only (fun _ => False) w wr ∧ w.heap.size ≤ G ∧
    (∀ b, S' b → w.heap.size ≤ b ∧ b < wr.heap.size ∧ b ≠ G) ∧ (∀ u ∈ vs, u.oneCell' = true) ∧ ∀ (k : Nat) (x : Vt), l[k]? = some x → ∃ u, vs[k]? = some u ∧ (k < j → TiAt wr S' d i x u) ∧ (j ≤ k → TiAt wr S d i x u)
theorem CeI.step {w wr w2 : World} {S : Nat → Prop} {d : Nat} {i : Bool} {eT : TypeId} {l : List Vt} {G j : Nat} {x : Vt} {v' : Value} (hS : ∀ b, S b → b < w.heap.size) (h : CeI w wr S d i eT l G j) (hx : l[j]? = some x) (hn : NiAt w2 wr.heap.size d i x v') (o : Only (fun _ => False) wr w2) : CeI w (w2.setCell ⟨G, j, none⟩ v') S d i eT l G (j + 1) := by
  obtain ⟨vs, S', h1, h2, h3, h4, h5, h6, h7⟩ := h
  obtain ⟨S2, t2, s2⟩ := hn
  have hGlt : G < wr.heap.size := (Array.getElem?_eq_some_iff.1 h2).1
  have hw2 : w2.heap[G]? = some (.cells vs.toArray eT) := (o.block G hGlt (fun g => g)).trans h2
  have hjl : j < l.length := (List.getElem?_eq_some_iff.1 hx).1
  have oo : Only (fun b => b = G) w2 (w2.setCell ⟨G, j, none⟩ v') := (Only.refl _ _).setCell ⟨G, j, none⟩ v' (fun _ => rfl)
  have hsz : (w2.setCell ⟨G, j, none⟩ v').heap.size = w2.heap.size := by simp
  refine ⟨vs.set j v', fun b => S' b ∨ S2 b, by simpa using h1, ?_, (h3.trans o (fun _ _ g => g)).trans oo (fun b hb e => by omega), h4, fun b hb => ?_, fun u hu => ?_, fun k y hy => ?_⟩
  · rw [heap_setCell_same w2 G j vs.toArray eT v' hw2]
    simp
  · rw [hsz]
    rcases hb with g | g
    · obtain ⟨a1, a2, a3⟩ := h5 b g
      exact ⟨a1, Nat.lt_of_lt_of_le a2 o.size, a3⟩
    · obtain ⟨a1, a2⟩ := s2 b g
      exact ⟨Nat.le_trans h3.size a1, a2, by omega⟩
  · rcases List.mem_or_eq_of_mem_set hu with g | g
    · exact h6 u g
    · rw [g]; exact t2.one
  · obtain ⟨u, p1, p2, p3⟩ := h7 k y hy
    have nS : ∀ b, S b → ¬ b = G := fun b g e => by have := hS b g; omega
    by_cases hk : k = j
    · subst hk
      rw [hx] at hy
      injection hy with hy
      subst hy
      refine ⟨v', by rw [List.getElem?_set_self (by omega)], fun _ => ?_, fun g => by omega⟩
      exact (t2.only oo (fun b g e => by have := (s2 b g).1; omega)).step (fun _ g => .inr g) (fun _ _ _ g => g) (Nat.le_refl _)
    · refine ⟨u, by rw [List.getElem?_set_ne (fun e => hk e.symm)]; exact p1, fun g => ?_, fun g => ?_⟩
      · have t1 := p2 (by omega)
        exact ((t1.only o (fun _ _ g => g)).only oo (fun b g => (h5 b g).2.2)).step (fun _ g => .inl g) (fun _ _ _ g => g) (Nat.le_refl _)
      · exact ((p3 (by omega)).only o (fun _ _ g => g)).only oo nS
set_option maxRecDepth 100000 in
theorem anew_v (us : List Value) (h1 : ∀ u ∈ us, u.oneCell' = true) (ao : Option Addr) (cap : Nat) (w : World) (hn : us.length ≤ 2600000000000) (hnil : ao = none → us = []) (hc : ∀ a, ao = some a → ∀ j u, us[j]? = some u → w.cell? (a.add j) = some u) : Calls Tryz.prog 83 #[.slice ao us.length cap] w fun e w' => AnP 27 us w e w' := by
  cases ao with
  | none =>
    have e0 := hnil rfl
    subst e0
    have heq : (binOp .eql 62 (.slice none 0 cap) (.slice none 0 0)).run Tryz.prog w = .ok (.bool true) w := Go.Lib.run_eql_slice_nil w _ _ none 0 cap 0 0 Tryz.underlying62
    have HP : Hid (∀ e, e = .returned (.slice none 0 0) → AnP 27 [] w e w) := fun e he => .inl ⟨rfl, he, rfl⟩
    clear h1 hn hnil hc
    go_enter Tryz.func83, Tryz.ntmps83
    go_wp2
    go_ret
    exact HP.out _ rfl
  | some a =>
    obtain ⟨M, hM, hmk0⟩ := mk_row Tryz.underlying62 vinfoV us.length hn
    have hmk := hmk0 w
    obtain ⟨W, hW⟩ : ∃ W, W = w.alloc (.cells M 27) := ⟨_, rfl⟩
    have o1 : Only (fun _ => False) w W := by rw [hW]; exact (Only.refl _ w).alloc _
    have hgW : W.heap[w.heap.size]? = some (.cells M 27) := by rw [hW]; exact heap_alloc_new w _
    have hap : ∀ ty, _ := ap_row Tryz.underlying62 vinfoV (W := W) (cap := cap) rfl (fun j u hu => o1.cell (hc a rfl j u hu) (fun g => g)) h1 hgW hM
    obtain ⟨N, hN⟩ : ∃ N, N = us.length := ⟨_, rfl⟩
    have HP : Hid (AnP 27 us w (.returned (.slice (some ⟨w.heap.size, 0, none⟩) N N)) (W.setRow w.heap.size us.toArray)) := by
      refine .inr ⟨w.heap.size, by rw [hN], Nat.le_refl _, setRow_heap W _ M _ _ _ hgW, o1.trans setRow_only (fun b hb e => by omega)⟩
    obtain ⟨U, hU⟩ : ∃ U, U = W.setRow w.heap.size us.toArray := ⟨_, rfl⟩
    rw [← hN, ← hU] at hap
    rw [← hU] at HP
    rw [← hN, ← hW] at hmk
    have HR : Hid _ := hap
    have heq : (binOp .eql 62 (.slice (some a) N cap) (.slice none 0 0)).run Tryz.prog w = .ok (.bool false) w := Go.Lib.run_eql_slice_nil w _ _ (some a) N cap 0 0 Tryz.underlying62
    have i1 : N ≤ 2600000000000 := by omega
    rw [← hN]
    clear h1 hn hnil hc hM hmk0 hW o1 hgW hap hN hU
    go_enter Tryz.func83, Tryz.ntmps83
    go_wp2_with (at_builtin; refine vwpList_append_run rfl _ _ 62 rfl _ _ _ rfl rfl HR.out ?_)
    go_ret
    exact HP.out
set_option maxRecDepth 100000 in
set_option maxHeartbeats 4000000 in
theorem ce_v (d : Nat) (H : CpC d false 38) : CeC d false 38 59 := by
  intro l ao cap w S hl hS hsm hlen hnil
  obtain ⟨us, u1, u2, u3, u4⟩ := ps_row hl
  have HA : Hid (Calls Tryz.prog 83 #[.slice ao us.length cap] w fun e w' => AnP 27 us w e w') := anew_v us u2 ao cap w (by omega) (fun e => List.length_eq_zero_iff.1 (by rw [u1, hnil e]; rfl)) u3
  obtain ⟨N, hN⟩ : ∃ N, N = l.length := ⟨_, rfl⟩
  have HN : Hid (N = l.length ∧ N ≤ 2600000000000 ∧ us.length = l.length) := ⟨hN, by omega, u1⟩
  rw [u1, ← hN] at HA
  rw [← hN]
  have HT : Hid ((∀ (j : Nat) (x : Vt), l[j]? = some x → ∃ u, us[j]? = some u ∧ TiAt w S d false x u) ∧ (∀ u ∈ us, u.oneCell' = true) ∧ (∀ b, S b → b < w.heap.size) ∧ ∀ x ∈ l, ∃ e, SmT e x) := ⟨u4, u2, hS, hsm⟩
  clear hl hS hsm hlen hnil u1 u2 u3 u4 hN
  go_enter Tryz.func59, Tryz.ntmps59
  go_wp2_with fail
  refine (show Calls Tryz.prog 83 _ _ _ from HA.out).mono ?_
  intro e w1 g1
  rcases g1 with ⟨e0, rfl, rfl⟩ | ⟨G, rfl, hG, hr1, o1⟩
  · have hz : N = 0 := by rw [HN.out.1, ← HN.out.2.2, e0]; rfl
    have HF : Hid (N = 0 ∧ l = []) := ⟨hz, List.length_eq_zero_iff.1 (by rw [← HN.out.1]; exact hz)⟩
    clear HA hz e0
    go_wp2
    go_loopw [12] (fun r wr => r = .int .i64 0 ∧ wr = w1) (fun r _ => 0)
    case atStart => exact ⟨rfl, rfl⟩
    case round =>
      obtain ⟨rfl, rfl⟩ := hrel
      obtain ⟨z1, z2⟩ := HF.out
      go_wp2
      go_ret
      exact ⟨none, 0, by rw [z1]; rfl, by rw [z1]; exact Nat.zero_le _, ⟨fun _ => False, fun j x hx => by rw [z2] at hx; simp at hx, fun b hb => hb.elim⟩, Only.refl _ _⟩
  · have HI0 : Hid (CeI w w1 S d false 27 l G 0) := by
      refine ⟨us, fun _ => False, HN.out.2.2, hr1, o1, hG, fun b hb => hb.elim, HT.out.2.1, fun k x hx => ?_⟩
      obtain ⟨u, p1, p2⟩ := HT.out.1 k x hx
      exact ⟨u, p1, fun g => by omega, fun _ => p2.only o1 (fun _ _ g => g)⟩
    obtain ⟨K, hK⟩ : ∃ K, K = us.length := ⟨_, rfl⟩
    rw [← hK]
    have HK : Hid (K = N) := by rw [hK]; exact HN.out.2.2.trans HN.out.1.symm
    obtain rfl : K = N := HK.out
    clear hr1 o1 hG HA hK HK
    go_wp2
    go_loopw [12] (fun r wr => ∃ j : Nat, r = .int .i64 (j : Int) ∧ j ≤ K ∧ Hid (CeI w wr S d false 27 l G j)) (fun r _ => K - vuOf r)
    case atStart => exact ⟨0, rfl, Nat.zero_le _, HI0.out⟩
    case round =>
      obtain ⟨j, rfl, hj, HI⟩ := hrel
      obtain ⟨w2, hw2⟩ : ∃ w2, w2 = wr := ⟨_, rfl⟩
      rw [← hw2] at HI ⊢
      clear hw2
      have hNl := HN.out.1
      by_cases hjN : j < K
      · obtain ⟨x, hx⟩ : ∃ x, l[j]? = some x := ⟨l[j]'(by omega), List.getElem?_eq_getElem (by omega)⟩
        obtain ⟨vs, S', q1, q2, q3, q4, q5, q6, q7⟩ := HI.out
        obtain ⟨u, p1, _, p3⟩ := q7 j x hx
        have hcell : w2.cell? ⟨G, j, none⟩ = some u := by
          rw [cell_of_row _ _ _ _ _ _ q2]
          simpa using p1
        have HC : Hid _ := H x u w2 S (p3 (Nat.le_refl _)) (HT.out.2.2.2 x (List.mem_of_getElem? hx)) (fun b g => Nat.lt_of_lt_of_le (HT.out.2.2.1 b g) q3.size)
        have HX : Hid (j < K ∧ l[j]? = some x) := ⟨hjN, hx⟩
        have i1 : (j : Int) < (K : Int) := by omega
        have i0 : (0 : Int) ≤ (j : Int) := by omega
        have i4 : j ≤ 2600000000000 := by have := HN.out.2.1; omega
        clear q1 q2 q3 q4 q5 q6 q7 p1 p3 hx hNl hjN hj
        go_wp2_with fail
        refine (show Calls Tryz.prog 38 _ _ _ from HC.out).mono ?_
        rintro e w3 ⟨v', rfl, G3⟩
        have HI2 : Hid (CeI w (w3.setCell ⟨G, j, none⟩ v') S d false 27 l G (j + 1)) := HI.out.step HT.out.2.2.1 HX.out.2 G3.out.1 G3.out.2
        have hone : v'.oneCell' = true := by obtain ⟨_, t, _⟩ := G3.out.1; exact t.one
        have hc3 : w3.cell? ⟨G, j, none⟩ = some u := G3.out.2.cell hcell (fun g => g)
        have hf3 : w3.frozen? ⟨G, j, none⟩ = false := by
          obtain ⟨vs, S', q1, q2, _⟩ := HI.out
          exact frozen_of_row _ _ _ _ _ ((G3.out.2.block G (Array.getElem?_eq_some_iff.1 q2).1 (fun g => g)).trans q2)
        have HJ : Hid (j < K) := HX.out.1
        have hform : v' = .nilIface ∨ ∃ T y, v' = .iface T y := by obtain ⟨_, t, _⟩ := G3.out.1; exact t.shape2
        clear HC HX HI G3 hcell hone
        rcases hform with rfl | ⟨T, y, rfl⟩
        all_goals
          go_wp2
          go_roundw
          case rel => exact ⟨j + 1, by go_num, by have := HJ.out; omega, HI2⟩
          case measure => simp only [vuOf]; have := HJ.out; omega
      · obtain rfl : j = K := by omega
        have i1 : ¬ (j : Int) < (j : Int) := by omega
        clear hNl hjN hj
        go_wp2
        go_ret
        refine ⟨some ⟨G, 0, none⟩, j, rfl, by rw [HN.out.1]; exact Nat.le_refl _, ?_, ?_⟩
        · obtain ⟨vs, S', q1, q2, q3, q4, q5, q6, q7⟩ := HI.out
          refine ⟨fun b => S' b ∨ b = G, fun k x hx => ?_, fun b hb => ?_⟩
          · obtain ⟨u, p1, p2, _⟩ := q7 k x hx
            have hk := (List.getElem?_eq_some_iff.1 hx).1
            refine ⟨G, 0, u, rfl, .inr rfl, ?_, (p2 (by rw [HN.out.1]; exact hk)).step (fun _ g => .inl g) (fun _ _ _ g => g) (Nat.le_refl _)⟩
            rw [Nat.zero_add, cell_of_row _ _ _ _ _ _ q2]
            simpa using p1
          · rcases hb with g | rfl
            · exact ⟨(q5 b g).1, (q5 b g).2.1⟩
            · exact ⟨q4, (Array.getElem?_eq_some_iff.1 q2).1⟩
        · obtain ⟨vs, S', q1, q2, q3, _⟩ := HI.out
          exact q3
set_option maxRecDepth 100000 in
theorem anew_i (us : List Value) (h1 : ∀ u ∈ us, u.oneCell' = true) (ao : Option Addr) (cap : Nat) (w : World) (hn : us.length ≤ 2600000000000) (hnil : ao = none → us = []) (hc : ∀ a, ao = some a → ∀ j u, us[j]? = some u → w.cell? (a.add j) = some u) : Calls Tryz.prog 84 #[.slice ao us.length cap] w fun e w' => AnP 94 us w e w' := by
  cases ao with
  | none =>
    have e0 := hnil rfl
    subst e0
    have heq : (binOp .eql 43 (.slice none 0 cap) (.slice none 0 0)).run Tryz.prog w = .ok (.bool true) w := Go.Lib.run_eql_slice_nil w _ _ none 0 cap 0 0 Tryz.underlying43
    have HP : Hid (∀ e, e = .returned (.slice none 0 0) → AnP 94 [] w e w) := fun e he => .inl ⟨rfl, he, rfl⟩
    clear h1 hn hnil hc
    go_enter Tryz.func84, Tryz.ntmps84
    go_wp2
    go_ret
    exact HP.out _ rfl
  | some a =>
    obtain ⟨M, hM, hmk0⟩ := mk_row Tryz.underlying43 vinfoI us.length hn
    have hmk := hmk0 w
    obtain ⟨W, hW⟩ : ∃ W, W = w.alloc (.cells M 94) := ⟨_, rfl⟩
    have o1 : Only (fun _ => False) w W := by rw [hW]; exact (Only.refl _ w).alloc _
    have hgW : W.heap[w.heap.size]? = some (.cells M 94) := by rw [hW]; exact heap_alloc_new w _
    have hap : ∀ ty, _ := ap_row Tryz.underlying43 vinfoI (W := W) (cap := cap) rfl (fun j u hu => o1.cell (hc a rfl j u hu) (fun g => g)) h1 hgW hM
    obtain ⟨N, hN⟩ : ∃ N, N = us.length := ⟨_, rfl⟩
    have HP : Hid (AnP 94 us w (.returned (.slice (some ⟨w.heap.size, 0, none⟩) N N)) (W.setRow w.heap.size us.toArray)) := by
      refine .inr ⟨w.heap.size, by rw [hN], Nat.le_refl _, setRow_heap W _ M _ _ _ hgW, o1.trans setRow_only (fun b hb e => by omega)⟩
    obtain ⟨U, hU⟩ : ∃ U, U = W.setRow w.heap.size us.toArray := ⟨_, rfl⟩
    rw [← hN, ← hU] at hap
    rw [← hU] at HP
    rw [← hN, ← hW] at hmk
    have HR : Hid _ := hap
    have heq : (binOp .eql 43 (.slice (some a) N cap) (.slice none 0 0)).run Tryz.prog w = .ok (.bool false) w := Go.Lib.run_eql_slice_nil w _ _ (some a) N cap 0 0 Tryz.underlying43
    have i1 : N ≤ 2600000000000 := by omega
    rw [← hN]
    clear h1 hn hnil hc hM hmk0 hW o1 hgW hap hN hU
    go_enter Tryz.func84, Tryz.ntmps84
    go_wp2_with (at_builtin; refine vwpList_append_run rfl _ _ 43 rfl _ _ _ rfl rfl HR.out ?_)
    go_ret
    exact HP.out
set_option maxRecDepth 100000 in
set_option maxHeartbeats 4000000 in
theorem ce_i (d : Nat) (H : CpC d true 61) : CeC d true 61 60 := by
  intro l ao cap w S hl hS hsm hlen hnil
  obtain ⟨us, u1, u2, u3, u4⟩ := ps_row hl
  have HA : Hid (Calls Tryz.prog 84 #[.slice ao us.length cap] w fun e w' => AnP 94 us w e w') := anew_i us u2 ao cap w (by omega) (fun e => List.length_eq_zero_iff.1 (by rw [u1, hnil e]; rfl)) u3
  obtain ⟨N, hN⟩ : ∃ N, N = l.length := ⟨_, rfl⟩
  have HN : Hid (N = l.length ∧ N ≤ 2600000000000 ∧ us.length = l.length) := ⟨hN, by omega, u1⟩
  rw [u1, ← hN] at HA
  rw [← hN]
  have HT : Hid ((∀ (j : Nat) (x : Vt), l[j]? = some x → ∃ u, us[j]? = some u ∧ TiAt w S d true x u) ∧ (∀ u ∈ us, u.oneCell' = true) ∧ (∀ b, S b → b < w.heap.size) ∧ ∀ x ∈ l, ∃ e, SmT e x) := ⟨u4, u2, hS, hsm⟩
  clear hl hS hsm hlen hnil u1 u2 u3 u4 hN
  go_enter Tryz.func60, Tryz.ntmps60
  go_wp2_with fail
  refine (show Calls Tryz.prog 84 _ _ _ from HA.out).mono ?_
  intro e w1 g1
  rcases g1 with ⟨e0, rfl, rfl⟩ | ⟨G, rfl, hG, hr1, o1⟩
  · have hz : N = 0 := by rw [HN.out.1, ← HN.out.2.2, e0]; rfl
    have HF : Hid (N = 0 ∧ l = []) := ⟨hz, List.length_eq_zero_iff.1 (by rw [← HN.out.1]; exact hz)⟩
    clear HA hz e0
    go_wp2
    go_loopw [12] (fun r wr => r = .int .i64 0 ∧ wr = w1) (fun r _ => 0)
    case atStart => exact ⟨rfl, rfl⟩
    case round =>
      obtain ⟨rfl, rfl⟩ := hrel
      obtain ⟨z1, z2⟩ := HF.out
      go_wp2
      go_ret
      exact ⟨none, 0, by rw [z1]; rfl, by rw [z1]; exact Nat.zero_le _, ⟨fun _ => False, fun j x hx => by rw [z2] at hx; simp at hx, fun b hb => hb.elim⟩, Only.refl _ _⟩
  · have HI0 : Hid (CeI w w1 S d true 94 l G 0) := by
      refine ⟨us, fun _ => False, HN.out.2.2, hr1, o1, hG, fun b hb => hb.elim, HT.out.2.1, fun k x hx => ?_⟩
      obtain ⟨u, p1, p2⟩ := HT.out.1 k x hx
      exact ⟨u, p1, fun g => by omega, fun _ => p2.only o1 (fun _ _ g => g)⟩
    obtain ⟨K, hK⟩ : ∃ K, K = us.length := ⟨_, rfl⟩
    rw [← hK]
    have HK : Hid (K = N) := by rw [hK]; exact HN.out.2.2.trans HN.out.1.symm
    obtain rfl : K = N := HK.out
    clear hr1 o1 hG HA hK HK
    go_wp2
    go_loopw [12] (fun r wr => ∃ j : Nat, r = .int .i64 (j : Int) ∧ j ≤ K ∧ Hid (CeI w wr S d true 94 l G j)) (fun r _ => K - vuOf r)
    case atStart => exact ⟨0, rfl, Nat.zero_le _, HI0.out⟩
    case round =>
      obtain ⟨j, rfl, hj, HI⟩ := hrel
      obtain ⟨w2, hw2⟩ : ∃ w2, w2 = wr := ⟨_, rfl⟩
      rw [← hw2] at HI ⊢
      clear hw2
      have hNl := HN.out.1
      by_cases hjN : j < K
      · obtain ⟨x, hx⟩ : ∃ x, l[j]? = some x := ⟨l[j]'(by omega), List.getElem?_eq_getElem (by omega)⟩
        obtain ⟨vs, S', q1, q2, q3, q4, q5, q6, q7⟩ := HI.out
        obtain ⟨u, p1, _, p3⟩ := q7 j x hx
        have hcell : w2.cell? ⟨G, j, none⟩ = some u := by
          rw [cell_of_row _ _ _ _ _ _ q2]
          simpa using p1
        have HC : Hid _ := H x u w2 S (p3 (Nat.le_refl _)) (HT.out.2.2.2 x (List.mem_of_getElem? hx)) (fun b g => Nat.lt_of_lt_of_le (HT.out.2.2.1 b g) q3.size)
        have HX : Hid (j < K ∧ l[j]? = some x) := ⟨hjN, hx⟩
        have i1 : (j : Int) < (K : Int) := by omega
        have i0 : (0 : Int) ≤ (j : Int) := by omega
        have i4 : j ≤ 2600000000000 := by have := HN.out.2.1; omega
        clear q1 q2 q3 q4 q5 q6 q7 p1 p3 hx hNl hjN hj
        go_wp2_with fail
        refine (show Calls Tryz.prog 61 _ _ _ from HC.out).mono ?_
        rintro e w3 ⟨v', rfl, G3⟩
        have HI2 : Hid (CeI w (w3.setCell ⟨G, j, none⟩ v') S d true 94 l G (j + 1)) := HI.out.step HT.out.2.2.1 HX.out.2 G3.out.1 G3.out.2
        have hone : v'.oneCell' = true := by obtain ⟨_, t, _⟩ := G3.out.1; exact t.one
        have hc3 : w3.cell? ⟨G, j, none⟩ = some u := G3.out.2.cell hcell (fun g => g)
        have hf3 : w3.frozen? ⟨G, j, none⟩ = false := by
          obtain ⟨vs, S', q1, q2, _⟩ := HI.out
          exact frozen_of_row _ _ _ _ _ ((G3.out.2.block G (Array.getElem?_eq_some_iff.1 q2).1 (fun g => g)).trans q2)
        have HJ : Hid (j < K) := HX.out.1
        have hform : v' = .nilIface ∨ ∃ T y, v' = .iface T y := by obtain ⟨_, t, _⟩ := G3.out.1; exact t.shape2
        clear HC HX HI G3 hcell hone
        rcases hform with rfl | ⟨T, y, rfl⟩
        all_goals
          go_wp2
          go_roundw
          case rel => exact ⟨j + 1, by go_num, by have := HJ.out; omega, HI2⟩
          case measure => simp only [vuOf]; have := HJ.out; omega
      · obtain rfl : j = K := by omega
        have i1 : ¬ (j : Int) < (j : Int) := by omega
        clear hNl hjN hj
        go_wp2
        go_ret
        refine ⟨some ⟨G, 0, none⟩, j, rfl, by rw [HN.out.1]; exact Nat.le_refl _, ?_, ?_⟩
        · obtain ⟨vs, S', q1, q2, q3, q4, q5, q6, q7⟩ := HI.out
          refine ⟨fun b => S' b ∨ b = G, fun k x hx => ?_, fun b hb => ?_⟩
          · obtain ⟨u, p1, p2, _⟩ := q7 k x hx
            have hk := (List.getElem?_eq_some_iff.1 hx).1
            refine ⟨G, 0, u, rfl, .inr rfl, ?_, (p2 (by rw [HN.out.1]; exact hk)).step (fun _ g => .inl g) (fun _ _ _ g => g) (Nat.le_refl _)⟩
            rw [Nat.zero_add, cell_of_row _ _ _ _ _ _ q2]
            simpa using p1
          · rcases hb with g | rfl
            · exact ⟨(q5 b g).1, (q5 b g).2.1⟩
            · exact ⟨q4, (Array.getElem?_eq_some_iff.1 q2).1⟩
        · obtain ⟨vs, S', q1, q2, q3, _⟩ := HI.out
          exact q3
end Go.Proofs.YtdfbnnephfoboaaGreatDoor
namespace Go.Proofs.YtdfbnnephfoboaaGreatDoor
open Go.RowKit Go.Lib
set_option linter.unusedSimpArgs false
set_option linter.unusedVariables false
theorem ok_ne8 {d : Nat} {t : Vt} (h : okV d false t = true) : t.k ≠ 8 := by
  cases d with
  | zero => cases h
  | succ d =>
    intro e
    have : okV (d + 1) false t = alB t := by
      show (if t.k = 4 ∨ t.k = 5 then _ else alB t) = _
      rw [if_neg (by omega)]
    rw [this] at h
    unfold alB at h
    rw [if_neg (by omega), if_neg (by omega), if_neg (by omega)] at h
    simp only [decide_eq_true_eq] at h
    omega
theorem ti_list {w : World} {S : Nat → Prop} {d : Nat} {t : Vt} {v : Value} {k : Int} (h : TiAt w S (d + 1) false t v) (hk : t.k = k) (hk4 : k = 4 ∨ k = 5) : ∃ ao cap, v = .iface (if k = 4 then 80 else 82) (.agg #[.slice ao t.l.length cap]) ∧ t.l.length ≤ cap ∧ ∀ i x, t.l[i]? = some x → ∃ g q u, ao = some ⟨g, q, none⟩ ∧ S g ∧ w.cell? ⟨g, q + i, none⟩ = some u ∧ TiAt w S d (decide (k = 5)) x u := by
  rcases h with ⟨e, _⟩ | ⟨e, _⟩ | ⟨e, _⟩ | ⟨e, _⟩ | ⟨e, _⟩ | ⟨_, ao, cap, h1, h2, h3⟩
  · omega
  · omega
  · omega
  · omega
  · omega
  · rw [hk] at h1 h3
    exact ⟨ao, cap, h1, h2, h3⟩
theorem miss_list {w : World} {S : Nat → Prop} {d : Nat} {t : Vt} {v : Value} (h : TiAt w S (d + 1) false t v) (hk : ¬ t.k = 4) (h8 : t.k ≠ 8) : ∀ W : World, (Instr.typeAssert v 27 80 true).run Tryz.prog W = .ok (.tuple #[.agg #[.slice none 0 0], .bool false]) W := by
  by_cases h5 : t.k = 5
  · obtain ⟨ao, cap, rfl, _⟩ := ti_list h h5 (.inr rfl)
    exact va_miss 82 80 27 _ Tryz.underlying80 (by intro m h; cases h) (by decide) _ zL _
  · exact (leaf_lq h (by omega)).1.1
theorem miss_quot {w : World} {S : Nat → Prop} {d : Nat} {t : Vt} {v : Value} (h : TiAt w S (d + 1) false t v) (hk : ¬ t.k = 5) (h8 : t.k ≠ 8) : ∀ W : World, (Instr.typeAssert v 27 82 true).run Tryz.prog W = .ok (.tuple #[.agg #[.slice none 0 0], .bool false]) W := by
  by_cases h4 : t.k = 4
  · obtain ⟨ao, cap, rfl, _⟩ := ti_list h h4 (.inl rfl)
    exact va_miss 80 82 27 _ Tryz.underlying82 (by intro m h; cases h) (by decide) _ zQ _
  · exact (leaf_lq h (by omega)).1.2
set_option maxRecDepth 100000 in
set_option maxHeartbeats 4000000 in
theorem same_list (d : Nat) (H : EfV d false 66 46) (a b : Vt) (va vb : Value) (w : World) (S : Nat → Prop) (h1 : TiAt w S (d + 1) false a va) (h2 : TiAt w S (d + 1) false b vb) (ho1 : okV (d + 1) false a = true ∧ ∃ e, SmT e a) (ho2 : okV (d + 1) false b = true ∧ ∃ e, SmT e b) (hk : a.k = 4) : Calls Tryz.prog 46 #[va, vb] w fun e w' => e = .returned (.bool (smV (d + 1) false a b)) ∧ Only (fun _ => False) w w' := by
  obtain ⟨ao, ca, rfl, _, hea⟩ := ti_list h1 hk (by decide)
  have hHit := va_hit 80 27 _ Tryz.underlying80 (by intro m h; cases h)
  have O0 : Hid (Only (fun _ => False) w w) := Only.refl _ _
  by_cases hb : b.k = 4
  · obtain ⟨bo, cb, rfl, _, heb⟩ := ti_list h2 hb (by decide)
    have hsm : smV (d + 1) false a b = smL (smV d false) a.l b.l := by
      show (decide (a.k = b.k) && _) = _
      rw [hk, hb]
      rfl
    have hall : ∀ t : Vt, t.k = 4 → okV (d + 1) false t = true ∧ (∃ e, SmT e t) → (∀ x ∈ t.l, okV d false x = true ∧ ∃ e, SmT e x) ∧ t.l.length ≤ 2600000000000 := by
      rintro t ht ⟨hok, e, he⟩
      have : okV (d + 1) false t = t.l.all (okV d false) := by
        show (if t.k = 4 ∨ t.k = 5 then t.l.all (okV d (decide (t.k = 5))) else alB t) = _
        rw [if_pos (by omega), ht]
        rfl
      rw [this, List.all_eq_true] at hok
      exact ⟨fun x hx => ⟨hok x hx, he.parts x hx⟩, he.len⟩
    have HE : Hid (∀ w1, Only (fun _ => False) w w1 → Calls Tryz.prog 66 #[.slice ao a.l.length ca, .slice bo b.l.length cb, .func (.func 46) #[] #[]] w1 fun e w' => e = .returned (.bool (smL (smV d false) a.l b.l)) ∧ Only (fun _ => False) w1 w') := fun w1 o1 => H a.l b.l ao bo ca cb w1 S (fun j x hx => by obtain ⟨g, q, u, p1, p2, p3, p4⟩ := hea j x hx; exact ⟨g, q, u, p1, p2, o1.cell p3 (fun g => g), p4.only o1 (fun _ _ g => g)⟩) (fun j x hx => by obtain ⟨g, q, u, p1, p2, p3, p4⟩ := heb j x hx; exact ⟨g, q, u, p1, p2, o1.cell p3 (fun g => g), p4.only o1 (fun _ _ g => g)⟩) (hall a hk ho1).1 (hall b hb ho2).1 (hall a hk ho1).2 (hall b hb ho2).2
    rw [hsm]
    obtain ⟨Z, hZ⟩ : ∃ Z, Z = smL (smV d false) a.l b.l := ⟨_, rfl⟩
    obtain ⟨L, hL⟩ : ∃ L, L = a.l.length := ⟨_, rfl⟩
    obtain ⟨K, hK⟩ : ∃ K, K = b.l.length := ⟨_, rfl⟩
    rw [← hZ, ← hL, ← hK] at HE
    rw [← hZ, ← hL, ← hK]
    clear h1 h2 ho1 ho2 hk hb hea heb hsm hall hZ hL hK H
    go_enter Tryz.func46, Tryz.ntmps46
    go_wp2_with fail
    refine (show Calls Tryz.prog 66 _ _ _ from HE.out _ (by repeat' first | exact O0.out | apply Only.alloc)).mono ?_
    rintro e w1 ⟨rfl, o1⟩
    have O1 : Hid (Only (fun _ => False) w w1) := Only.trans (show Only (fun _ => False) w _ by repeat' first | exact (Only.refl _ _) | apply Only.alloc) o1 (fun _ _ g => g)
    clear HE o1
    go_wp2
    go_ret
    exact ⟨rfl, O1.out⟩
  · have hsm : smV (d + 1) false a b = false := by
      show (decide (a.k = b.k) && _) = _
      rw [decide_eq_false (by omega), Bool.false_and]
    have hbm := miss_list h2 hb (ok_ne8 ho2.1)
    rw [hsm]
    obtain ⟨L, hL⟩ : ∃ L, L = a.l.length := ⟨_, rfl⟩
    rw [← hL]
    clear h1 h2 ho1 ho2 hk hb hea hsm hL H
    go_enter Tryz.func46, Tryz.ntmps46
    go_wp2
    go_ret
    exact ⟨rfl, (by repeat' first | exact O0.out | apply Only.alloc)⟩
set_option maxRecDepth 100000 in
set_option maxHeartbeats 4000000 in
theorem same_quot (d : Nat) (H : EfV d true 67 68) (a b : Vt) (va vb : Value) (w : World) (S : Nat → Prop) (h1 : TiAt w S (d + 1) false a va) (h2 : TiAt w S (d + 1) false b vb) (ho1 : okV (d + 1) false a = true ∧ ∃ e, SmT e a) (ho2 : okV (d + 1) false b = true ∧ ∃ e, SmT e b) (hk : a.k = 5) : Calls Tryz.prog 46 #[va, vb] w fun e w' => e = .returned (.bool (smV (d + 1) false a b)) ∧ Only (fun _ => False) w w' := by
  obtain ⟨ao, ca, rfl, _, hea⟩ := ti_list h1 hk (by decide)
  have hHit := va_hit 82 27 _ Tryz.underlying82 (by intro m h; cases h)
  have hMissA := va_miss 82 80 27 _ Tryz.underlying80 (by intro m h; cases h) (by decide) _ zL
  have O0 : Hid (Only (fun _ => False) w w) := Only.refl _ _
  by_cases hb : b.k = 5
  · obtain ⟨bo, cb, rfl, _, heb⟩ := ti_list h2 hb (by decide)
    have hsm : smV (d + 1) false a b = smL (smV d true) a.l b.l := by
      show (decide (a.k = b.k) && _) = _
      rw [hk, hb]
      rfl
    have hall : ∀ t : Vt, t.k = 5 → okV (d + 1) false t = true ∧ (∃ e, SmT e t) → (∀ x ∈ t.l, okV d true x = true ∧ ∃ e, SmT e x) ∧ t.l.length ≤ 2600000000000 := by
      rintro t ht ⟨hok, e, he⟩
      have : okV (d + 1) false t = t.l.all (okV d true) := by
        show (if t.k = 4 ∨ t.k = 5 then t.l.all (okV d (decide (t.k = 5))) else alB t) = _
        rw [if_pos (by omega), ht]
        rfl
      rw [this, List.all_eq_true] at hok
      exact ⟨fun x hx => ⟨hok x hx, he.parts x hx⟩, he.len⟩
    have HE : Hid (∀ w1, Only (fun _ => False) w w1 → Calls Tryz.prog 67 #[.slice ao a.l.length ca, .slice bo b.l.length cb, .func (.func 68) #[] #[]] w1 fun e w' => e = .returned (.bool (smL (smV d true) a.l b.l)) ∧ Only (fun _ => False) w1 w') := fun w1 o1 => H a.l b.l ao bo ca cb w1 S (fun j x hx => by obtain ⟨g, q, u, p1, p2, p3, p4⟩ := hea j x hx; exact ⟨g, q, u, p1, p2, o1.cell p3 (fun g => g), p4.only o1 (fun _ _ g => g)⟩) (fun j x hx => by obtain ⟨g, q, u, p1, p2, p3, p4⟩ := heb j x hx; exact ⟨g, q, u, p1, p2, o1.cell p3 (fun g => g), p4.only o1 (fun _ _ g => g)⟩) (hall a hk ho1).1 (hall b hb ho2).1 (hall a hk ho1).2 (hall b hb ho2).2
    rw [hsm]
    obtain ⟨Z, hZ⟩ : ∃ Z, Z = smL (smV d true) a.l b.l := ⟨_, rfl⟩
    obtain ⟨L, hL⟩ : ∃ L, L = a.l.length := ⟨_, rfl⟩
    obtain ⟨K, hK⟩ : ∃ K, K = b.l.length := ⟨_, rfl⟩
    rw [← hZ, ← hL, ← hK] at HE
    rw [← hZ, ← hL, ← hK]
    clear h1 h2 ho1 ho2 hk hb hea heb hsm hall hZ hL hK H
    go_enter Tryz.func46, Tryz.ntmps46
    go_wp2_with fail
    refine (show Calls Tryz.prog 67 _ _ _ from HE.out _ (by repeat' first | exact O0.out | apply Only.alloc)).mono ?_
    rintro e w1 ⟨rfl, o1⟩
    have O1 : Hid (Only (fun _ => False) w w1) := Only.trans (show Only (fun _ => False) w _ by repeat' first | exact (Only.refl _ _) | apply Only.alloc) o1 (fun _ _ g => g)
    clear HE o1
    go_wp2
    go_ret
    exact ⟨rfl, O1.out⟩
  · have hsm : smV (d + 1) false a b = false := by
      show (decide (a.k = b.k) && _) = _
      rw [decide_eq_false (by omega), Bool.false_and]
    have hbm := miss_quot h2 hb (ok_ne8 ho2.1)
    rw [hsm]
    obtain ⟨L, hL⟩ : ∃ L, L = a.l.length := ⟨_, rfl⟩
    rw [← hL]
    clear h1 h2 ho1 ho2 hk hb hea hsm hL H
    go_enter Tryz.func46, Tryz.ntmps46
    go_wp2
    go_ret
    exact ⟨rfl, (by repeat' first | exact O0.out | apply Only.alloc)⟩
end Go.Proofs.YtdfbnnephfoboaaGreatDoor
namespace Go.Proofs.YtdfbnnephfoboaaGreatDoor
open Go.RowKit Go.Lib
set_option linter.unusedSimpArgs false
set_option linter.unusedVariables false
theorem sm_ne (d : Nat) {a b : Vt} (h : a.k ≠ b.k) : smV (d + 1) false a b = false := by
  show (decide (a.k = b.k) && _) = _
  rw [decide_eq_false h, Bool.false_and]
theorem eq_leaf {w : World} {S : Nat → Prop} {d : Nat} {a b : Vt} {va vb : Value} (h1 : TiAt w S (d + 1) false a va) (h2 : TiAt w S (d + 1) false b vb) (hk : ¬ (a.k = 4 ∨ a.k = 5)) (ha8 : a.k ≠ 8) (hb8 : b.k ≠ 8) (W : World) : (binOp .eql 27 va vb).run Tryz.prog W = .ok (.bool (smV (d + 1) false a b)) W := by
  obtain ⟨k, n, s, l⟩ := a
  obtain ⟨k', n', s', l'⟩ := b
  have hU := Tryz.underlying27
  rcases h1 with ⟨e, _, rfl⟩ | ⟨e, _, rfl⟩ | ⟨e, _, rfl⟩ | ⟨e, _, rfl⟩ | ⟨e, _, rfl⟩ | ⟨e, _⟩
  · simp only at e
    subst e
    rcases h2 with ⟨e', _, rfl⟩ | ⟨e', _, rfl⟩ | ⟨e', _, rfl⟩ | ⟨e', _, rfl⟩ | ⟨e', _, rfl⟩ | ⟨e', ao, cap, rfl, _⟩
    · simp only at e'
      subst e'
      exact eqv_int _ hU n n' W
    · simp only at e'
      subst e'
      exact eqv_ne _ _ _ hU _ _ (by decide) W
    · simp only at e'
      subst e'
      exact eqv_ne _ _ _ hU _ _ (by decide) W
    · simp only at e'
      subst e'
      exact eqv_ne _ _ _ hU _ _ (by decide) W
    · exact absurd e' hb8
    · simp only at e'
      rw [sm_ne d (by simp only; omega)]
      rcases e' with rfl | rfl <;> exact eqv_ne _ _ _ hU _ _ (by simp) W
  · simp only at e
    subst e
    rcases h2 with ⟨e', _, rfl⟩ | ⟨e', _, rfl⟩ | ⟨e', _, rfl⟩ | ⟨e', _, rfl⟩ | ⟨e', _, rfl⟩ | ⟨e', ao, cap, rfl, _⟩
    · simp only at e'
      subst e'
      exact eqv_ne _ _ _ hU _ _ (by decide) W
    · simp only at e'
      subst e'
      exact eqv_str _ hU s s' W
    · simp only at e'
      subst e'
      exact eqv_ne _ _ _ hU _ _ (by decide) W
    · simp only at e'
      subst e'
      exact eqv_ne _ _ _ hU _ _ (by decide) W
    · exact absurd e' hb8
    · simp only at e'
      rw [sm_ne d (by simp only; omega)]
      rcases e' with rfl | rfl <;> exact eqv_ne _ _ _ hU _ _ (by simp) W
  · simp only at e
    subst e
    rcases h2 with ⟨e', _, rfl⟩ | ⟨e', _, rfl⟩ | ⟨e', _, rfl⟩ | ⟨e', _, rfl⟩ | ⟨e', _, rfl⟩ | ⟨e', ao, cap, rfl, _⟩
    · simp only at e'
      subst e'
      exact eqv_ne _ _ _ hU _ _ (by decide) W
    · simp only at e'
      subst e'
      exact eqv_ne _ _ _ hU _ _ (by decide) W
    · simp only at e'
      subst e'
      exact eqv_bool _ hU (n != 0) (n' != 0) W
    · simp only at e'
      subst e'
      exact eqv_ne _ _ _ hU _ _ (by decide) W
    · exact absurd e' hb8
    · simp only at e'
      rw [sm_ne d (by simp only; omega)]
      rcases e' with rfl | rfl <;> exact eqv_ne _ _ _ hU _ _ (by simp) W
  · simp only at e
    subst e
    rcases h2 with ⟨e', _, rfl⟩ | ⟨e', _, rfl⟩ | ⟨e', _, rfl⟩ | ⟨e', _, rfl⟩ | ⟨e', _, rfl⟩ | ⟨e', ao, cap, rfl, _⟩
    · simp only at e'
      subst e'
      exact eqv_ne _ _ _ hU _ _ (by decide) W
    · simp only at e'
      subst e'
      exact eqv_ne _ _ _ hU _ _ (by decide) W
    · simp only at e'
      subst e'
      exact eqv_ne _ _ _ hU _ _ (by decide) W
    · simp only at e'
      subst e'
      exact eqv_box _ hU n n' W
    · exact absurd e' hb8
    · simp only at e'
      rw [sm_ne d (by simp only; omega)]
      rcases e' with rfl | rfl <;> exact eqv_ne _ _ _ hU _ _ (by simp) W
  · exact absurd e ha8
  · exact absurd e hk
set_option maxRecDepth 100000 in
theorem same_leaf (d : Nat) (a b : Vt) (va vb : Value) (w : World) (S : Nat → Prop) (h1 : TiAt w S (d + 1) false a va) (h2 : TiAt w S (d + 1) false b vb) (hk : ¬ (a.k = 4 ∨ a.k = 5)) (ha8 : a.k ≠ 8) (hb8 : b.k ≠ 8) : Calls Tryz.prog 46 #[va, vb] w fun e w' => e = .returned (.bool (smV (d + 1) false a b)) ∧ Only (fun _ => False) w w' := by
  have hEq := eq_leaf h1 h2 hk ha8 hb8
  obtain ⟨⟨hl, hq⟩, _⟩ := leaf_lq h1 hk
  have O0 : Hid (Only (fun _ => False) w w) := Only.refl _ _
  obtain ⟨Z, hZ⟩ : ∃ Z, Z = smV (d + 1) false a b := ⟨_, rfl⟩
  rw [← hZ] at hEq ⊢
  have HS : Hid (∃ T y, va = .iface T y) := h1.iface ha8
  have HS2 : Hid (∃ T y, vb = .iface T y) := h2.iface hb8
  clear h1 h2 hk ha8 hb8 hZ
  obtain ⟨T1, y1, rfl⟩ := HS.out
  obtain ⟨T2, y2, rfl⟩ := HS2.out
  go_enter Tryz.func46, Tryz.ntmps46
  go_wp2
  go_ret
  exact ⟨rfl, (by repeat' first | exact O0.out | apply Only.alloc)⟩
set_option maxRecDepth 100000 in
set_option maxHeartbeats 1000000 in
theorem same_item (d : Nat) (H : SaV d false 46) : SaV (d + 1) true 68 := by
  intro a b va vb w S h1 h2 ho1 ho2
  have hP := va_hit 108 94 _ Tryz.underlying108 (by intro m h; cases h)
  have mP := va_miss 111 108 94 _ Tryz.underlying108 (by intro m h; cases h) (by decide) _ vzero_Push
  have O0 : Hid (Only (fun _ => False) w w) := Only.refl _ _
  have no8 : ∀ t : Vt, okV (d + 1) true t = true → t.k ≠ 8 := by
    intro t h e
    have h : (if t.k = 7 then clB t.s else if t.k = 8 then false else okV d false t) = true := h
    rw [if_neg (by omega), if_pos e] at h
    cases h
  have okd : ∀ t : Vt, t.k ≠ 7 → okV (d + 1) true t = true → okV d false t = true := by
    intro t h7 h
    have h : (if t.k = 7 then clB t.s else if t.k = 8 then false else okV d false t) = true := h
    rw [if_neg h7] at h
    split at h
    · cases h
    · exact h
  rcases h1 with ⟨a7, _, rfl⟩ | ⟨a8, _, rfl⟩ | ⟨a7, a8, u, rfl, hu⟩
  · rcases h2 with ⟨b7, _, rfl⟩ | ⟨b8, _, rfl⟩ | ⟨b7, b8, u', rfl, hu'⟩
    · have hsm : smV (d + 1) true a b = (a.s.toList == b.s.toList) := by
        show (if a.k = 7 ∨ b.k = 7 then _ else _) = _
        rw [if_pos (.inl a7), decide_eq_true a7, decide_eq_true b7]
        rfl
      have hEq := eqv_call _ Tryz.underlying94 a.s b.s
      rw [hsm]
      obtain ⟨Z, hZ⟩ : ∃ Z, Z = (a.s.toList == b.s.toList) := ⟨_, rfl⟩
      rw [← hZ] at hEq ⊢
      obtain ⟨s, hs⟩ : ∃ s, s = a.s := ⟨_, rfl⟩
      obtain ⟨r, hr⟩ : ∃ r, r = b.s := ⟨_, rfl⟩
      rw [← hs, ← hr] at hEq ⊢
      clear ho1 ho2 no8 okd a7 b7 hsm hZ hs hr hP
      go_enter Tryz.func68, Tryz.ntmps68
      go_wp2
      go_ret
      exact ⟨rfl, (by repeat' first | exact O0.out | apply Only.alloc)⟩
    · exact absurd b8 (no8 b ho2.1)
    · have hsm : smV (d + 1) true a b = false := by
        show (if a.k = 7 ∨ b.k = 7 then _ else _) = _
        rw [if_pos (.inl a7), decide_eq_false b7]
        simp
      have hEq := eqv_ne 94 111 108 Tryz.underlying94 (.agg #[.string a.s]) (.agg #[u']) (by decide)
      rw [hsm]
      obtain ⟨s, hs⟩ : ∃ s, s = a.s := ⟨_, rfl⟩
      rw [← hs] at hEq ⊢
      clear ho1 ho2 no8 okd a7 b7 hsm hs hP hu'
      go_enter Tryz.func68, Tryz.ntmps68
      go_wp2
      go_ret
      exact ⟨rfl, (by repeat' first | exact O0.out | apply Only.alloc)⟩
  · exact absurd a8 (no8 a ho1.1)
  · obtain ⟨T1, y1, rfl⟩ := hu.iface a8
    rcases h2 with ⟨b7, _, rfl⟩ | ⟨b8, _, rfl⟩ | ⟨b7, b8, u', rfl, hu'⟩
    · have hsm : smV (d + 1) true a b = false := by
        show (if a.k = 7 ∨ b.k = 7 then _ else _) = _
        rw [if_pos (.inr b7), decide_eq_false a7]
        simp
      rw [hsm]
      obtain ⟨s, hs⟩ : ∃ s, s = b.s := ⟨_, rfl⟩
      rw [← hs]
      clear ho1 ho2 no8 okd a7 a8 b7 hsm hs hu
      go_enter Tryz.func68, Tryz.ntmps68
      go_wp2
      go_ret
      exact ⟨rfl, (by repeat' first | exact O0.out | apply Only.alloc)⟩
    · exact absurd b8 (no8 b ho2.1)
    · obtain ⟨T2, y2, rfl⟩ := hu'.iface b8
      have hsm : smV (d + 1) true a b = smV d false a b := by
        show (if a.k = 7 ∨ b.k = 7 then _ else _) = _
        rw [if_neg (by omega)]
      have HC : Hid (∀ w1, Only (fun _ => False) w w1 → Calls Tryz.prog 46 #[.iface T1 y1, .iface T2 y2] w1 fun e w' => e = .returned (.bool (smV d false a b)) ∧ Only (fun _ => False) w1 w') := fun w1 o1 => H a b _ _ w1 S (hu.only o1 (fun _ _ g => g)) (hu'.only o1 (fun _ _ g => g)) ⟨okd a a7 ho1.1, ho1.2⟩ ⟨okd b b7 ho2.1, ho2.2⟩
      rw [hsm]
      obtain ⟨Z, hZ⟩ : ∃ Z, Z = smV d false a b := ⟨_, rfl⟩
      rw [← hZ] at HC ⊢
      clear ho1 ho2 no8 okd a7 a8 b7 b8 hsm hZ hu hu' H
      go_enter Tryz.func68, Tryz.ntmps68
      go_wp2_with fail
      refine (show Calls Tryz.prog 46 _ _ _ from HC.out _ (by repeat' first | exact O0.out | apply Only.alloc)).mono ?_
      rintro e w1 ⟨rfl, o1⟩
      have O1 : Hid (Only (fun _ => False) w w1) := Only.trans (show Only (fun _ => False) w _ by repeat' first | exact (Only.refl _ _) | apply Only.alloc) o1 (fun _ _ g => g)
      clear HC o1
      go_wp2
      go_ret
      exact ⟨rfl, O1.out⟩
theorem same_val (d : Nat) (H1 : SaV d false 46) (H2 : SaV d true 68) : SaV (d + 1) false 46 := by
  intro a b va vb w S h1 h2 ho1 ho2
  by_cases h4 : a.k = 4
  · exact same_list d (ef_values d H1) a b va vb w S h1 h2 ho1 ho2 h4
  by_cases h5 : a.k = 5
  · exact same_quot d (ef_items d H2) a b va vb w S h1 h2 ho1 ho2 h5
  exact same_leaf d a b va vb w S h1 h2 (by omega) (ok_ne8 ho1.1) (ok_ne8 ho2.1)
theorem same_all : ∀ d : Nat, SaV d false 46 ∧ SaV d true 68
  | 0 => ⟨fun a b va vb w S h => h.elim, fun a b va vb w S h => h.elim⟩
  | d + 1 => ⟨same_val d (same_all d).1 (same_all d).2, same_item d (same_all d).1⟩
set_option maxRecDepth 100000 in
/-- Equal, of any two values -/
theorem vequal_any {d : Nat} {a b : Vt} {va vb : Value} {w : World} {S : Nat → Prop} (h1 : TiAt w S d false a va) (h2 : TiAt w S d false b vb) (hS : ∀ x, S x → x < w.heap.size) (hs1 : ∃ e, SmT e a) (hs2 : ∃ e, SmT e b) (hT : Tb w) : Calls Tryz.prog 27 #[va, vb] w fun e w' => e = .returned (.tuple #[.bool (sdB d a && sdB d b && smV d false a b), .int .i64 (if sdB d a && sdB d b then 0 else 1)]) ∧ Only (fun _ => False) w w' := by
  have ok : ∀ t, sdB d t = true → okV d false t = true := by
    intro t h
    unfold sdB msB at h
    simp only [Bool.and_eq_true] at h
    exact h.1.1
  have HA : Hid _ := vcheck_any h1 hS hs1 hT
  have HB : Hid (∀ w1, Only (fun _ => False) w w1 → Calls Tryz.prog 12 #[vb] w1 fun e w' => e = .returned (.int .i64 (if sdB d b then 0 else 1)) ∧ Only (fun _ => False) w1 w') := fun w1 o => vcheck_any (h2.only o (fun _ _ g => g)) (fun x hx => Nat.lt_of_lt_of_le (hS x hx) o.size) hs2 (hT.frame o)
  have HC : Hid (sdB d a = true → sdB d b = true → ∀ w1, Only (fun _ => False) w w1 → Calls Tryz.prog 46 #[va, vb] w1 fun e w' => e = .returned (.bool (smV d false a b)) ∧ Only (fun _ => False) w1 w') := fun p q w1 o => (same_all d).1 a b va vb w1 S (h1.only o (fun _ _ g => g)) (h2.only o (fun _ _ g => g)) ⟨ok a p, hs1⟩ ⟨ok b q, hs2⟩
  obtain ⟨X, hX⟩ : ∃ X, X = sdB d a := ⟨_, rfl⟩
  obtain ⟨Y, hY⟩ : ∃ Y, Y = sdB d b := ⟨_, rfl⟩
  obtain ⟨Z, hZ⟩ : ∃ Z, Z = smV d false a b := ⟨_, rfl⟩
  rw [← hX] at HA HC ⊢
  rw [← hY] at HB HC ⊢
  rw [← hZ] at HC ⊢
  clear h1 h2 hS hs1 hs2 hT ok hX hY hZ
  cases X with
  | false =>
    clear HB HC
    go_enter Tryz.func27, Tryz.ntmps27
    go_wp2_with fail
    refine (show Calls Tryz.prog 12 _ _ _ from HA.out).mono ?_
    rintro e w1 ⟨rfl, o1⟩
    have O1 : Hid (Only (fun _ => False) w w1) := o1
    clear HA o1
    go_wp2
    go_ret2
    exact ⟨rfl, O1.out⟩
  | true =>
    go_enter Tryz.func27, Tryz.ntmps27
    go_wp2_with fail
    refine (show Calls Tryz.prog 12 _ _ _ from HA.out).mono ?_
    rintro e w1 ⟨rfl, o1⟩
    have O1 : Hid (Only (fun _ => False) w w1) := o1
    have HB1 : Hid _ := HB.out w1 o1
    clear HA HB o1
    go_wp2_with fail
    refine (show Calls Tryz.prog 12 _ _ _ from HB1.out).mono ?_
    rintro e w2 ⟨rfl, o2⟩
    have O2 : Hid (Only (fun _ => False) w w2) := O1.out.trans o2 (fun _ _ g => g)
    clear HB1 o2 O1
    cases Y with
    | false =>
      go_wp2
      go_ret2
      exact ⟨rfl, O2.out⟩
    | true =>
      have HC2 : Hid _ := HC.out (by simp) (by simp) w2 O2.out
      clear HC
      go_wp2_with fail
      refine (show Calls Tryz.prog 46 _ _ _ from HC2.out).mono ?_
      rintro e w3 ⟨rfl, o3⟩
      have O3 : Hid (Only (fun _ => False) w w3) := O2.out.trans o3 (fun _ _ g => g)
      clear HC2 o3 O2
      go_wp2
      go_ret2
      exact ⟨by simp, O3.out⟩
end Go.Proofs.YtdfbnnephfoboaaGreatDoor
