/- The document's reader: literals that hold no others. Values as trees: Tree, ItemTree. Many values as trees: Trees, ItemTrees. -/
import Derived.Test.YtapehdolnljnoaaGreatDoorGaf
import Derived.Test.YtapehdolnljnoaaGreatDoorGai
namespace Go.Proofs.YtapehdolnljnoaaGreatDoor
open Go.RowKit
set_option linter.unusedSimpArgs false
set_option linter.unusedVariables false
/-- the document's tree as a value -/
def rV (k n : Int) (s : ByteArray) (lv : Value) : Value := .agg #[.int .i64 k, .int .i64 n, .string s, lv]
/-- what count comes to -/
def CnP (R : Nat) (v : Value) (tl : List Tok) (nx : Nat) (n o s : Int) (w w' : World) : Prop :=
  (¬ (o ≠ 0 ∧ s = 1024) ∧ RrW R v tl ((nx + 1 : Nat) : Int) n o (if o = 0 then s else s + 1) 0 0 w w') ∨ ((o ≠ 0 ∧ s = 1024) ∧ RrF R v tl n (atR tl nx n) 11 w w')
theorem rcnt_any (R : Nat) (v : Value) (tl : List Tok) (nx : Nat) (n o s : Int) (w : World) (ho : 0 ≤ o) (hs : 0 ≤ s) (hs1 : s ≤ 1024) (hx : nx ≤ 1000000) (h : RrAt w R v tl (nx : Int) n o s 0 0) :
    Calls Tryz.prog 67 #[.pointer (some ⟨R, 0, none⟩)] w fun x w' => x = .returned (.tuple #[]) ∧ Hid (CnP R v tl nx n o s w w') := by
  by_cases h0 : o = 0
  · subst h0
    exact (rcount_out R v tl nx n s 0 0 w hx h).mono fun x w' g => ⟨g.1, .inl ⟨by simp, by simpa using g.2.out⟩⟩
  · by_cases h1 : s = 1024
    · subst h1
      refine (rcount_over R v tl nx n o 1024 0 0 w (by omega) (by omega) (by omega) hx h).mono fun x w' g => ⟨g.1, .inr ⟨⟨h0, rfl⟩, nx + 1, o, 1024 + 1, ?_, g.2.out.2⟩⟩
      have := g.2.out.1
      simpa using this
    · exact (rcount_in R v tl nx n o s 0 0 w (by omega) hs (by omega) hx h).mono fun x w' g => ⟨g.1, .inl ⟨fun g => h1 g.2, by rw [if_neg h0]; exact g.2.out⟩⟩
theorem RrAt.other {w w' : World} {R N : Nat} {v : Value} {tl : List Tok} {nx n o s fa e : Int} (h : RrAt w R v tl nx n o s fa e) (hN : R < N) (oo : Only (fun b => b = N) w w') : RrAt w' R v tl nx n o s fa e :=
  ⟨(oo.block R (Array.getElem?_eq_some_iff.1 h.blk).1 (by omega)).trans h.blk, h.tks.onlyR (fun b hb e => by omega) oo⟩
/-- steps ahead of a call on the reader, and behind it in a block of one's own -/
theorem only_fin {w W1 w2 w3 : World} {R N : Nat} (o1 : Only (fun b => b = R) w W1) (o2 : Only (fun b => b = R) W1 w2) (o3 : Only (fun b => b = N) w2 w3) (hN : w.heap.size ≤ N) : Only (fun b => b = R) w w3 :=
  (o1.trans o2 (fun _ _ g => g)).trans o3 (fun i hi g => by omega)
theorem RrW.fin {R N : Nat} {v : Value} {tl : List Tok} {nx n o s fa e : Int} {w W1 w2 w3 : World} (h : RrW R v tl nx n o s fa e W1 w2) (o1 : Only (fun b => b = R) w W1) (o3 : Only (fun b => b = N) w2 w3) (hN : w.heap.size ≤ N) (hR : R < N) : RrW R v tl nx n o s fa e w w3 :=
  ⟨h.1.other hR o3, only_fin o1 h.2 o3 hN⟩
theorem RrF.fin {R N : Nat} {v : Value} {tl : List Tok} {n a e : Int} {w W1 w2 w3 : World} (h : RrF R v tl n a e W1 w2) (o1 : Only (fun b => b = R) w W1) (o3 : Only (fun b => b = N) w2 w3) (hN : w.heap.size ≤ N) (hR : R < N) : RrF R v tl n a e w w3 := by
  obtain ⟨nx, o, s, h1, h2⟩ := h
  exact ⟨nx, o, s, h1.other hR o3, only_fin o1 h2 o3 hN⟩
theorem CnP.on {R : Nat} {v : Value} {tl : List Tok} {nx : Nat} {n o s : Int} {w w' : World} (h : CnP R v tl nx n o s w w') : Only (fun b => b = R) w w' := by
  rcases h with ⟨_, h⟩ | ⟨_, _, _, _, _, h⟩
  · exact h.2
  · exact h
theorem CnP.fin {R N : Nat} {v : Value} {tl : List Tok} {nx : Nat} {n o s : Int} {w W1 w2 w3 : World} (h : CnP R v tl nx n o s W1 w2) (o1 : Only (fun b => b = R) w W1) (o3 : Only (fun b => b = N) w2 w3) (hN : w.heap.size ≤ N) (hR : R < N) : CnP R v tl nx n o s w w3 := by
  rcases h with ⟨h0, h⟩ | ⟨h0, h⟩
  · exact .inl ⟨h0, h.fin o1 o3 hN hR⟩
  · exact .inr ⟨h0, h.fin o1 o3 hN hR⟩
theorem results_vb {fn : Func} {t u : Tmp} (h : fn.results = #[.cell u 75, .tmp t]) (tmps : Array Value) (w : World) (B : Nat) {x y z r : Value} (h0 : w.cell? ⟨B, 0, none⟩ = some x) (h1 : w.cell? ⟨B, 1, none⟩ = some y) (h2 : w.cell? ⟨B, 2, none⟩ = some z) (h3 : w.cell? ⟨B, 3, none⟩ = some r) (ha : tmps.getD u undef = .pointer (some ⟨B, 0, none⟩)) :
    (results fn tmps).run Tryz.prog w = .ok (.tuple #[.agg #[x, y, z, r], tmps.getD t undef]) w := by
  have ha' : tmps[u]?.getD undef = .pointer (some ⟨B, 0, none⟩) := by simpa using ha
  simp [results, h, ha', asAddr, go_sem, loadVar, isAgg, Tryz.underlying75, h0, h1, h2, h3]
theorem on4 (w : World) (N : Nat) (x y z r : Value) : Only (fun b => b = N) w ((((w.setCell ⟨N, 0, none⟩ x).setCell ⟨N, 1, none⟩ y).setCell ⟨N, 2, none⟩ z).setCell ⟨N, 3, none⟩ r) :=
  onlyR_set (onlyR_set (onlyR_set (onlyR_set (Only.refl _ w))))
/-- no tree yet -/
abbrev vZ : Obj := .cells #[.int .i64 0, .int .i64 0, .string ⟨#[]⟩, .slice none 0 0] 75
set_option maxRecDepth 100000 in
set_option maxHeartbeats 2000000 in
/-- nothing is left -/
theorem rl_nil (R : Nat) (v : Value) (tl : List Tok) (nx : Nat) (n o s : Int) (w : World) (hn : tl.length ≤ nx) (h : RrAt w R v tl (nx : Int) n o s 0 0) :
    Calls Tryz.prog 65 #[.pointer (some ⟨R, 0, none⟩)] w fun x w' => x = .returned (.tuple #[rV 0 0 ⟨#[]⟩ (.slice none 0 0), .bool false]) ∧ Hid (RrAt w' R v tl (nx : Int) n o s 0 0 ∧ Only (fun _ => False) w w') := by
  unfold rV
  have H0 : Hid (RrAt w R v tl (nx : Int) n o s 0 0) := h
  obtain ⟨k0, k1, _, _, _, _, k6⟩ := (h.only ((Only.refl (fun _ => False) w).alloc (.cells #[.int .i64 0, .int .i64 0, .string ⟨#[]⟩, .slice none 0 0] 75))).blk.cells
  obtain ⟨ao, cap, rfl, hcap, hq⟩ := h.tks
  obtain ⟨L, hL⟩ : ∃ L, L = tl.length := ⟨_, rfl⟩
  rw [← hL] at k0 H0 ⊢
  have i6 : decide (L ≤ nx) = true := by simp; omega
  have i2 : (L : Int) ≤ (nx : Int) := by omega
  obtain ⟨N, hN⟩ : ∃ N, N = w.heap.size := ⟨_, rfl⟩
  have hRN : R < N := by rw [hN]; exact h.lt
  have HRN : Hid (R < N ∧ w.heap.size ≤ N) := ⟨hRN, by omega⟩
  clear hq hcap hL hn h hRN
  go_enter Tryz.func65, Tryz.ntmps65
  go_wp2
  go_quiet (fail)
  rw [← hN]
  obtain ⟨W1, hW1⟩ : ∃ W1, W1 = (w.alloc (.cells #[.int .i64 0, .int .i64 0, .string ⟨#[]⟩, .slice none 0 0] 75)).drewN nq := ⟨_, rfl⟩
  have O1 : Only (fun _ => False) w W1 := by rw [hW1]; exact ((Only.refl _ w).alloc _).drewN _
  have hV2 : W1.heap[N]? = some (.cells #[.int .i64 0, .int .i64 0, .string ⟨#[]⟩, .slice none 0 0] 75) := by rw [hW1]; exact alloc_at _ _ _ hN
  have HO1 : Hid (Only (fun _ => False) w W1 ∧ RrAt W1 R (.slice ao L cap) tl (nx : Int) n o s 0 0 ∧ W1.heap[N]? = some (.cells #[.int .i64 0, .int .i64 0, .string ⟨#[]⟩, .slice none 0 0] 75)) := ⟨O1, H0.out.only O1, hV2⟩
  rw [← hW1]
  have e0 := blk_cells hV2 0
  have e1 := blk_cells hV2 1
  have e2 := blk_cells hV2 2
  have e3 := blk_cells hV2 3
  have z0 := blk_froz hV2 0
  have z1 := blk_froz hV2 1
  have z2 := blk_froz hV2 2
  have z3 := blk_froz hV2 3
  simp only [List.getElem?_toArray, List.getElem?_cons_zero, List.getElem?_cons_succ] at e0 e1 e2 e3
  clear k0 k1 k6 hW1 O1 hV2 hN H0
  go_wp2
  obtain ⟨q0, q1, q2, q3⟩ := set4 HO1.out.2.2 rfl (.int .i64 0) (.int .i64 0) (.string ⟨#[]⟩) (.slice none 0 0)
  refine bodyPost_ret (results_vb rfl _ _ N q0 q1 q2 q3 rfl) rfl ?_
  exact ⟨rfl, HO1.out.2.1.other HRN.out.1 (on4 W1 N _ _ _ _), HO1.out.1.trans (on4 W1 N _ _ _ _) (fun i hi e => by have := HRN.out.2; omega)⟩
set_option maxRecDepth 100000 in
set_option maxHeartbeats 4000000 in
theorem rl_num (R : Nat) (v : Value) (tl : List Tok) (nx : Nat) (n o s : Int) (tk : Int) (tt : ByteArray) (tn ta : Int) (w : World) (ho : 0 ≤ o) (hs : 0 ≤ s) (hs1 : s ≤ 1024) (hx : nx ≤ 1000000) (ht : tl[nx]? = some ⟨2, tt, tn, ta⟩) (h : RrAt w R v tl (nx : Int) n o s 0 0) :
    Calls Tryz.prog 65 #[.pointer (some ⟨R, 0, none⟩)] w fun x w' => x = .returned (.tuple #[rV 1 tn ⟨#[]⟩ (.slice none 0 0), .bool true]) ∧ Hid (CnP R v tl nx n o s w w') := by
  unfold rV
  have HB : Hid (0 ≤ o ∧ 0 ≤ s ∧ s ≤ 1024 ∧ nx ≤ 1000000) := ⟨ho, hs, hs1, hx⟩
  clear ho hs hs1 hx
  have hn : nx < tl.length := (List.getElem?_eq_some_iff.1 ht).1
  have hlt := h.lt
  obtain ⟨ao, cap, rfl, hcap, hq0⟩ := h.tks
  obtain ⟨g, k, rfl, _⟩ := hq0 nx _ ht
  clear hcap hq0
  obtain ⟨L, hL⟩ : ∃ L, L = tl.length := ⟨_, rfl⟩
  rw [← hL] at h ⊢
  have HL : Hid (L = tl.length) := hL
  have H0 : Hid (RrAt w R (.slice (some ⟨g, k, none⟩) L cap) tl (nx : Int) n o s 0 0) := h
  have HT0 : Hid (tl[nx]? = some ⟨2, tt, tn, ta⟩) := ht
  obtain ⟨k0, k1, _, _, _, _, k6⟩ := (h.only ((Only.refl (fun _ => False) w).alloc (.cells #[.int .i64 0, .int .i64 0, .string ⟨#[]⟩, .slice none 0 0] 75))).blk.cells
  have i1 : (nx : Int) < (L : Int) := by omega
  have i0 : (0 : Int) ≤ (nx : Int) := by omega
  have i6 : decide (L ≤ nx) = false := by simp; omega
  obtain ⟨N, hN⟩ : ∃ N, N = w.heap.size := ⟨_, rfl⟩
  have HRN : Hid (R < N ∧ w.heap.size ≤ N) := ⟨by omega, by omega⟩
  clear hL ht h hn hlt
  go_enter Tryz.func65, Tryz.ntmps65
  go_wp2
  go_quiet (fail)
  rw [← hN]
  obtain ⟨W1, hW1⟩ : ∃ W1, W1 = (w.alloc (.cells #[.int .i64 0, .int .i64 0, .string ⟨#[]⟩, .slice none 0 0] 75)).drewN nq := ⟨_, rfl⟩
  have O1 : Only (fun _ => False) w W1 := by rw [hW1]; exact ((Only.refl _ w).alloc _).drewN _
  have V1 : W1.heap[N]? = some (.cells #[.int .i64 0, .int .i64 0, .string ⟨#[]⟩, .slice none 0 0] 75) := by rw [hW1]; exact alloc_at _ _ _ hN
  rw [← hW1]
  clear k0 k1 k6 hW1
  have A1 := H0.out.only O1
  obtain ⟨k0, k1, _, _, _, _, k6⟩ := A1.blk.cells
  obtain ⟨_, _, hv, _, hq⟩ := A1.tks
  injection hv with hv1 hv2 hv3
  subst hv1 hv3
  obtain ⟨g', k', hgk, _, c0, c1, c2, c3⟩ := hq nx _ HT0.out
  injection hgk with hgk
  injection hgk with hg hk
  subst hg hk
  dsimp only at c0 c1 c2 c3
  have HO1 : Hid (Only (fun _ => False) w W1 ∧ RrAt W1 R (.slice (some ⟨g, k, none⟩) L cap) tl (nx : Int) n o s 0 0 ∧ W1.heap[N]? = some (.cells #[.int .i64 0, .int .i64 0, .string ⟨#[]⟩, .slice none 0 0] 75)) := ⟨O1, A1, V1⟩
  have K0 := fun x => alloc_cell W1 _ x _ k0
  have K1 := fun x => alloc_cell W1 _ x _ k1
  have C0 := fun x => alloc_cell W1 _ x _ c0
  have C1 := fun x => alloc_cell W1 _ x _ c1
  have C2 := fun x => alloc_cell W1 _ x _ c2
  have C3 := fun x => alloc_cell W1 _ x _ c3
  clear O1 A1 V1 hq H0 hv2 hN
  go_wp2
  go_region
  obtain ⟨T, hT⟩ : ∃ T, T = W1.heap.size := ⟨_, rfl⟩
  obtain ⟨W2, hW2⟩ : ∃ W2, W2 = (W1.alloc (.cells #[.int .i64 2, .string tt, .int .i64 tn, .int .i64 ta] 133)).drew := ⟨_, rfl⟩
  have O2 : Only (fun _ => False) W1 W2 := by rw [hW2]; exact ((Only.refl _ W1).alloc _).drew
  have T2 : W2.heap[T]? = some (.cells #[.int .i64 2, .string tt, .int .i64 tn, .int .i64 ta] 133) := by rw [hW2]; exact alloc_at _ _ _ hT
  have V2 : W2.heap[N]? = some (.cells #[.int .i64 0, .int .i64 0, .string ⟨#[]⟩, .slice none 0 0] 75) := (O2.block N (Array.getElem?_eq_some_iff.1 HO1.out.2.2).1 (fun g => g)).trans HO1.out.2.2
  have A2 := HO1.out.2.1.only O2
  have NT : N < T := by rw [hT]; exact (Array.getElem?_eq_some_iff.1 HO1.out.2.2).1
  have H2 : Hid (Only (fun b => b = R) w W2 ∧ RrAt W2 R (.slice (some ⟨g, k, none⟩) L cap) tl (nx : Int) n o s 0 0 ∧ W2.heap[T]? = some (.cells #[.int .i64 2, .string tt, .int .i64 tn, .int .i64 ta] 133) ∧ W2.heap[N]? = some (.cells #[.int .i64 0, .int .i64 0, .string ⟨#[]⟩, .slice none 0 0] 75) ∧ N < T ∧ Only (fun _ => False) w W2) := ⟨(HO1.out.1.trans O2 (fun _ _ g => g)).mono (fun _ _ h => h.elim), A2, T2, V2, NT, HO1.out.1.trans O2 (fun _ _ g => g)⟩
  have t0 := blk_cells T2 0
  have t1 := blk_cells T2 1
  have t2 := blk_cells T2 2
  simp only [List.getElem?_toArray, List.getElem?_cons_zero, List.getElem?_cons_succ] at t0 t1 t2
  rw [← hW2, ← hT]
  clear k0 k1 k6 c0 c1 c2 c3 K0 K1 C0 C1 C2 C3 O2 T2 V2 A2 NT hT hW2 HO1
  have HC : Hid (Calls Tryz.prog 67 #[.pointer (some ⟨R, 0, none⟩)] W2 fun x w' => x = .returned (.tuple #[]) ∧ Hid (CnP R (.slice (some ⟨g, k, none⟩) L cap) tl nx n o s W2 w')) := rcnt_any R _ tl nx n o s W2 HB.out.1 HB.out.2.1 HB.out.2.2.1 HB.out.2.2.2 H2.out.2.1
  go_wp2_with fail
  refine (show Calls Tryz.prog 67 _ _ _ from HC.out).mono ?_
  rintro x w3 ⟨rfl, g3⟩
  clear HC t0 t1 t2
  have hT2 := (g3.out.on.block T (Array.getElem?_eq_some_iff.1 H2.out.2.2.1).1 (by have := H2.out.2.2.2.2.1; have := HRN.out.1; omega)).trans H2.out.2.2.1
  have hV2 := (g3.out.on.block N (Array.getElem?_eq_some_iff.1 H2.out.2.2.2.1).1 (by have := HRN.out.1; omega)).trans H2.out.2.2.2.1
  have HV : Hid (w3.heap[N]? = some _) := hV2
  have t1 := blk_cells hT2 1
  have t2 := blk_cells hT2 2
  simp only [List.getElem?_toArray, List.getElem?_cons_zero, List.getElem?_cons_succ] at t1 t2
  have e0 := blk_cells hV2 0
  have e1 := blk_cells hV2 1
  have e2 := blk_cells hV2 2
  have e3 := blk_cells hV2 3
  have z0 := blk_froz hV2 0
  have z1 := blk_froz hV2 1
  have z2 := blk_froz hV2 2
  have z3 := blk_froz hV2 3
  simp only [List.getElem?_toArray, List.getElem?_cons_zero, List.getElem?_cons_succ] at e0 e1 e2 e3
  clear hT2 hV2
  go_wp2
  obtain ⟨q0, q1, q2, q3⟩ := set4 HV.out rfl (.int .i64 1) (.int .i64 tn) (.string ⟨#[]⟩) (.slice none 0 0)
  refine bodyPost_ret (results_vb rfl _ _ N q0 q1 q2 q3 rfl) rfl ?_
  exact ⟨rfl, g3.out.fin H2.out.1 (on4 w3 N _ _ _ _) HRN.out.2 HRN.out.1⟩
set_option maxRecDepth 100000 in
set_option maxHeartbeats 4000000 in
theorem rl_str (R : Nat) (v : Value) (tl : List Tok) (nx : Nat) (n o s : Int) (tk : Int) (tt : ByteArray) (tn ta : Int) (w : World) (ho : 0 ≤ o) (hs : 0 ≤ s) (hs1 : s ≤ 1024) (hx : nx ≤ 1000000) (ht : tl[nx]? = some ⟨3, tt, tn, ta⟩) (h : RrAt w R v tl (nx : Int) n o s 0 0) :
    Calls Tryz.prog 65 #[.pointer (some ⟨R, 0, none⟩)] w fun x w' => x = .returned (.tuple #[rV 2 0 tt (.slice none 0 0), .bool true]) ∧ Hid (CnP R v tl nx n o s w w') := by
  unfold rV
  have HB : Hid (0 ≤ o ∧ 0 ≤ s ∧ s ≤ 1024 ∧ nx ≤ 1000000) := ⟨ho, hs, hs1, hx⟩
  clear ho hs hs1 hx
  have hn : nx < tl.length := (List.getElem?_eq_some_iff.1 ht).1
  have hlt := h.lt
  obtain ⟨ao, cap, rfl, hcap, hq0⟩ := h.tks
  obtain ⟨g, k, rfl, _⟩ := hq0 nx _ ht
  clear hcap hq0
  obtain ⟨L, hL⟩ : ∃ L, L = tl.length := ⟨_, rfl⟩
  rw [← hL] at h ⊢
  have HL : Hid (L = tl.length) := hL
  have H0 : Hid (RrAt w R (.slice (some ⟨g, k, none⟩) L cap) tl (nx : Int) n o s 0 0) := h
  have HT0 : Hid (tl[nx]? = some ⟨3, tt, tn, ta⟩) := ht
  obtain ⟨k0, k1, _, _, _, _, k6⟩ := (h.only ((Only.refl (fun _ => False) w).alloc (.cells #[.int .i64 0, .int .i64 0, .string ⟨#[]⟩, .slice none 0 0] 75))).blk.cells
  have i1 : (nx : Int) < (L : Int) := by omega
  have i0 : (0 : Int) ≤ (nx : Int) := by omega
  have i6 : decide (L ≤ nx) = false := by simp; omega
  obtain ⟨N, hN⟩ : ∃ N, N = w.heap.size := ⟨_, rfl⟩
  have HRN : Hid (R < N ∧ w.heap.size ≤ N) := ⟨by omega, by omega⟩
  clear hL ht h hn hlt
  go_enter Tryz.func65, Tryz.ntmps65
  go_wp2
  go_quiet (fail)
  rw [← hN]
  obtain ⟨W1, hW1⟩ : ∃ W1, W1 = (w.alloc (.cells #[.int .i64 0, .int .i64 0, .string ⟨#[]⟩, .slice none 0 0] 75)).drewN nq := ⟨_, rfl⟩
  have O1 : Only (fun _ => False) w W1 := by rw [hW1]; exact ((Only.refl _ w).alloc _).drewN _
  have V1 : W1.heap[N]? = some (.cells #[.int .i64 0, .int .i64 0, .string ⟨#[]⟩, .slice none 0 0] 75) := by rw [hW1]; exact alloc_at _ _ _ hN
  rw [← hW1]
  clear k0 k1 k6 hW1
  have A1 := H0.out.only O1
  obtain ⟨k0, k1, _, _, _, _, k6⟩ := A1.blk.cells
  obtain ⟨_, _, hv, _, hq⟩ := A1.tks
  injection hv with hv1 hv2 hv3
  subst hv1 hv3
  obtain ⟨g', k', hgk, _, c0, c1, c2, c3⟩ := hq nx _ HT0.out
  injection hgk with hgk
  injection hgk with hg hk
  subst hg hk
  dsimp only at c0 c1 c2 c3
  have HO1 : Hid (Only (fun _ => False) w W1 ∧ RrAt W1 R (.slice (some ⟨g, k, none⟩) L cap) tl (nx : Int) n o s 0 0 ∧ W1.heap[N]? = some (.cells #[.int .i64 0, .int .i64 0, .string ⟨#[]⟩, .slice none 0 0] 75)) := ⟨O1, A1, V1⟩
  have K0 := fun x => alloc_cell W1 _ x _ k0
  have K1 := fun x => alloc_cell W1 _ x _ k1
  have C0 := fun x => alloc_cell W1 _ x _ c0
  have C1 := fun x => alloc_cell W1 _ x _ c1
  have C2 := fun x => alloc_cell W1 _ x _ c2
  have C3 := fun x => alloc_cell W1 _ x _ c3
  clear O1 A1 V1 hq H0 hv2 hN
  go_wp2
  go_region
  obtain ⟨T, hT⟩ : ∃ T, T = W1.heap.size := ⟨_, rfl⟩
  obtain ⟨W2, hW2⟩ : ∃ W2, W2 = (W1.alloc (.cells #[.int .i64 3, .string tt, .int .i64 tn, .int .i64 ta] 133)).drew := ⟨_, rfl⟩
  have O2 : Only (fun _ => False) W1 W2 := by rw [hW2]; exact ((Only.refl _ W1).alloc _).drew
  have T2 : W2.heap[T]? = some (.cells #[.int .i64 3, .string tt, .int .i64 tn, .int .i64 ta] 133) := by rw [hW2]; exact alloc_at _ _ _ hT
  have V2 : W2.heap[N]? = some (.cells #[.int .i64 0, .int .i64 0, .string ⟨#[]⟩, .slice none 0 0] 75) := (O2.block N (Array.getElem?_eq_some_iff.1 HO1.out.2.2).1 (fun g => g)).trans HO1.out.2.2
  have A2 := HO1.out.2.1.only O2
  have NT : N < T := by rw [hT]; exact (Array.getElem?_eq_some_iff.1 HO1.out.2.2).1
  have H2 : Hid (Only (fun b => b = R) w W2 ∧ RrAt W2 R (.slice (some ⟨g, k, none⟩) L cap) tl (nx : Int) n o s 0 0 ∧ W2.heap[T]? = some (.cells #[.int .i64 3, .string tt, .int .i64 tn, .int .i64 ta] 133) ∧ W2.heap[N]? = some (.cells #[.int .i64 0, .int .i64 0, .string ⟨#[]⟩, .slice none 0 0] 75) ∧ N < T ∧ Only (fun _ => False) w W2) := ⟨(HO1.out.1.trans O2 (fun _ _ g => g)).mono (fun _ _ h => h.elim), A2, T2, V2, NT, HO1.out.1.trans O2 (fun _ _ g => g)⟩
  have t0 := blk_cells T2 0
  have t1 := blk_cells T2 1
  have t2 := blk_cells T2 2
  simp only [List.getElem?_toArray, List.getElem?_cons_zero, List.getElem?_cons_succ] at t0 t1 t2
  rw [← hW2, ← hT]
  clear k0 k1 k6 c0 c1 c2 c3 K0 K1 C0 C1 C2 C3 O2 T2 V2 A2 NT hT hW2 HO1
  have HC : Hid (Calls Tryz.prog 67 #[.pointer (some ⟨R, 0, none⟩)] W2 fun x w' => x = .returned (.tuple #[]) ∧ Hid (CnP R (.slice (some ⟨g, k, none⟩) L cap) tl nx n o s W2 w')) := rcnt_any R _ tl nx n o s W2 HB.out.1 HB.out.2.1 HB.out.2.2.1 HB.out.2.2.2 H2.out.2.1
  go_wp2_with fail
  refine (show Calls Tryz.prog 67 _ _ _ from HC.out).mono ?_
  rintro x w3 ⟨rfl, g3⟩
  clear HC t0 t1 t2
  have hT2 := (g3.out.on.block T (Array.getElem?_eq_some_iff.1 H2.out.2.2.1).1 (by have := H2.out.2.2.2.2.1; have := HRN.out.1; omega)).trans H2.out.2.2.1
  have hV2 := (g3.out.on.block N (Array.getElem?_eq_some_iff.1 H2.out.2.2.2.1).1 (by have := HRN.out.1; omega)).trans H2.out.2.2.2.1
  have HV : Hid (w3.heap[N]? = some _) := hV2
  have t1 := blk_cells hT2 1
  have t2 := blk_cells hT2 2
  simp only [List.getElem?_toArray, List.getElem?_cons_zero, List.getElem?_cons_succ] at t1 t2
  have e0 := blk_cells hV2 0
  have e1 := blk_cells hV2 1
  have e2 := blk_cells hV2 2
  have e3 := blk_cells hV2 3
  have z0 := blk_froz hV2 0
  have z1 := blk_froz hV2 1
  have z2 := blk_froz hV2 2
  have z3 := blk_froz hV2 3
  simp only [List.getElem?_toArray, List.getElem?_cons_zero, List.getElem?_cons_succ] at e0 e1 e2 e3
  clear hT2 hV2
  go_wp2
  obtain ⟨q0, q1, q2, q3⟩ := set4 HV.out rfl (.int .i64 2) (.int .i64 0) (.string tt) (.slice none 0 0)
  refine bodyPost_ret (results_vb rfl _ _ N q0 q1 q2 q3 rfl) rfl ?_
  exact ⟨rfl, g3.out.fin H2.out.1 (on4 w3 N _ _ _ _) HRN.out.2 HRN.out.1⟩
set_option maxRecDepth 100000 in
set_option maxHeartbeats 4000000 in
theorem rl_yes (R : Nat) (v : Value) (tl : List Tok) (nx : Nat) (n o s : Int) (tk : Int) (tt : ByteArray) (tn ta : Int) (w : World) (ho : 0 ≤ o) (hs : 0 ≤ s) (hs1 : s ≤ 1024) (hx : nx ≤ 1000000) (i2 : (tk == 2) = false) (i3 : (tk == 3) = false) (ht : tl[nx]? = some ⟨tk, ⟨#[116]⟩, tn, ta⟩) (h : RrAt w R v tl (nx : Int) n o s 0 0) :
    Calls Tryz.prog 65 #[.pointer (some ⟨R, 0, none⟩)] w fun x w' => x = .returned (.tuple #[rV 3 1 ⟨#[]⟩ (.slice none 0 0), .bool true]) ∧ Hid (CnP R v tl nx n o s w w') := by
  unfold rV
  have HB : Hid (0 ≤ o ∧ 0 ≤ s ∧ s ≤ 1024 ∧ nx ≤ 1000000) := ⟨ho, hs, hs1, hx⟩
  clear ho hs hs1 hx
  have hn : nx < tl.length := (List.getElem?_eq_some_iff.1 ht).1
  have hlt := h.lt
  obtain ⟨ao, cap, rfl, hcap, hq0⟩ := h.tks
  obtain ⟨g, k, rfl, _⟩ := hq0 nx _ ht
  clear hcap hq0
  obtain ⟨L, hL⟩ : ∃ L, L = tl.length := ⟨_, rfl⟩
  rw [← hL] at h ⊢
  have HL : Hid (L = tl.length) := hL
  have H0 : Hid (RrAt w R (.slice (some ⟨g, k, none⟩) L cap) tl (nx : Int) n o s 0 0) := h
  have HT0 : Hid (tl[nx]? = some ⟨tk, ⟨#[116]⟩, tn, ta⟩) := ht
  obtain ⟨k0, k1, _, _, _, _, k6⟩ := (h.only ((Only.refl (fun _ => False) w).alloc (.cells #[.int .i64 0, .int .i64 0, .string ⟨#[]⟩, .slice none 0 0] 75))).blk.cells
  have i1 : (nx : Int) < (L : Int) := by omega
  have i0 : (0 : Int) ≤ (nx : Int) := by omega
  have i6 : decide (L ≤ nx) = false := by simp; omega
  obtain ⟨N, hN⟩ : ∃ N, N = w.heap.size := ⟨_, rfl⟩
  have HRN : Hid (R < N ∧ w.heap.size ≤ N) := ⟨by omega, by omega⟩
  clear hL ht h hn hlt
  go_enter Tryz.func65, Tryz.ntmps65
  go_wp2
  go_quiet (fail)
  rw [← hN]
  obtain ⟨W1, hW1⟩ : ∃ W1, W1 = (w.alloc (.cells #[.int .i64 0, .int .i64 0, .string ⟨#[]⟩, .slice none 0 0] 75)).drewN nq := ⟨_, rfl⟩
  have O1 : Only (fun _ => False) w W1 := by rw [hW1]; exact ((Only.refl _ w).alloc _).drewN _
  have V1 : W1.heap[N]? = some (.cells #[.int .i64 0, .int .i64 0, .string ⟨#[]⟩, .slice none 0 0] 75) := by rw [hW1]; exact alloc_at _ _ _ hN
  rw [← hW1]
  clear k0 k1 k6 hW1
  have A1 := H0.out.only O1
  obtain ⟨k0, k1, _, _, _, _, k6⟩ := A1.blk.cells
  obtain ⟨_, _, hv, _, hq⟩ := A1.tks
  injection hv with hv1 hv2 hv3
  subst hv1 hv3
  obtain ⟨g', k', hgk, _, c0, c1, c2, c3⟩ := hq nx _ HT0.out
  injection hgk with hgk
  injection hgk with hg hk
  subst hg hk
  dsimp only at c0 c1 c2 c3
  have HO1 : Hid (Only (fun _ => False) w W1 ∧ RrAt W1 R (.slice (some ⟨g, k, none⟩) L cap) tl (nx : Int) n o s 0 0 ∧ W1.heap[N]? = some (.cells #[.int .i64 0, .int .i64 0, .string ⟨#[]⟩, .slice none 0 0] 75)) := ⟨O1, A1, V1⟩
  have K0 := fun x => alloc_cell W1 _ x _ k0
  have K1 := fun x => alloc_cell W1 _ x _ k1
  have C0 := fun x => alloc_cell W1 _ x _ c0
  have C1 := fun x => alloc_cell W1 _ x _ c1
  have C2 := fun x => alloc_cell W1 _ x _ c2
  have C3 := fun x => alloc_cell W1 _ x _ c3
  clear O1 A1 V1 hq H0 hv2 hN
  go_wp2
  go_region
  obtain ⟨T, hT⟩ : ∃ T, T = W1.heap.size := ⟨_, rfl⟩
  obtain ⟨W2, hW2⟩ : ∃ W2, W2 = (W1.alloc (.cells #[.int .i64 tk, .string ⟨#[116]⟩, .int .i64 tn, .int .i64 ta] 133)).drew := ⟨_, rfl⟩
  have O2 : Only (fun _ => False) W1 W2 := by rw [hW2]; exact ((Only.refl _ W1).alloc _).drew
  have T2 : W2.heap[T]? = some (.cells #[.int .i64 tk, .string ⟨#[116]⟩, .int .i64 tn, .int .i64 ta] 133) := by rw [hW2]; exact alloc_at _ _ _ hT
  have V2 : W2.heap[N]? = some (.cells #[.int .i64 0, .int .i64 0, .string ⟨#[]⟩, .slice none 0 0] 75) := (O2.block N (Array.getElem?_eq_some_iff.1 HO1.out.2.2).1 (fun g => g)).trans HO1.out.2.2
  have A2 := HO1.out.2.1.only O2
  have NT : N < T := by rw [hT]; exact (Array.getElem?_eq_some_iff.1 HO1.out.2.2).1
  have H2 : Hid (Only (fun b => b = R) w W2 ∧ RrAt W2 R (.slice (some ⟨g, k, none⟩) L cap) tl (nx : Int) n o s 0 0 ∧ W2.heap[T]? = some (.cells #[.int .i64 tk, .string ⟨#[116]⟩, .int .i64 tn, .int .i64 ta] 133) ∧ W2.heap[N]? = some (.cells #[.int .i64 0, .int .i64 0, .string ⟨#[]⟩, .slice none 0 0] 75) ∧ N < T ∧ Only (fun _ => False) w W2) := ⟨(HO1.out.1.trans O2 (fun _ _ g => g)).mono (fun _ _ h => h.elim), A2, T2, V2, NT, HO1.out.1.trans O2 (fun _ _ g => g)⟩
  have t0 := blk_cells T2 0
  have t1 := blk_cells T2 1
  have t2 := blk_cells T2 2
  simp only [List.getElem?_toArray, List.getElem?_cons_zero, List.getElem?_cons_succ] at t0 t1 t2
  rw [← hW2, ← hT]
  clear k0 k1 k6 c0 c1 c2 c3 K0 K1 C0 C1 C2 C3 O2 T2 V2 A2 NT hT hW2 HO1
  have HC : Hid (Calls Tryz.prog 67 #[.pointer (some ⟨R, 0, none⟩)] W2 fun x w' => x = .returned (.tuple #[]) ∧ Hid (CnP R (.slice (some ⟨g, k, none⟩) L cap) tl nx n o s W2 w')) := rcnt_any R _ tl nx n o s W2 HB.out.1 HB.out.2.1 HB.out.2.2.1 HB.out.2.2.2 H2.out.2.1
  go_wp2_with fail
  refine (show Calls Tryz.prog 67 _ _ _ from HC.out).mono ?_
  rintro x w3 ⟨rfl, g3⟩
  clear HC t0 t1 t2
  have hT2 := (g3.out.on.block T (Array.getElem?_eq_some_iff.1 H2.out.2.2.1).1 (by have := H2.out.2.2.2.2.1; have := HRN.out.1; omega)).trans H2.out.2.2.1
  have hV2 := (g3.out.on.block N (Array.getElem?_eq_some_iff.1 H2.out.2.2.2.1).1 (by have := HRN.out.1; omega)).trans H2.out.2.2.2.1
  have HV : Hid (w3.heap[N]? = some _) := hV2
  have t1 := blk_cells hT2 1
  have t2 := blk_cells hT2 2
  simp only [List.getElem?_toArray, List.getElem?_cons_zero, List.getElem?_cons_succ] at t1 t2
  have e0 := blk_cells hV2 0
  have e1 := blk_cells hV2 1
  have e2 := blk_cells hV2 2
  have e3 := blk_cells hV2 3
  have z0 := blk_froz hV2 0
  have z1 := blk_froz hV2 1
  have z2 := blk_froz hV2 2
  have z3 := blk_froz hV2 3
  simp only [List.getElem?_toArray, List.getElem?_cons_zero, List.getElem?_cons_succ] at e0 e1 e2 e3
  clear hT2 hV2
  go_wp2
  obtain ⟨q0, q1, q2, q3⟩ := set4 HV.out rfl (.int .i64 3) (.int .i64 1) (.string ⟨#[]⟩) (.slice none 0 0)
  refine bodyPost_ret (results_vb rfl _ _ N q0 q1 q2 q3 rfl) rfl ?_
  exact ⟨rfl, g3.out.fin H2.out.1 (on4 w3 N _ _ _ _) HRN.out.2 HRN.out.1⟩
set_option maxRecDepth 100000 in
set_option maxHeartbeats 4000000 in
theorem rl_not (R : Nat) (v : Value) (tl : List Tok) (nx : Nat) (n o s : Int) (tk : Int) (tt : ByteArray) (tn ta : Int) (w : World) (ho : 0 ≤ o) (hs : 0 ≤ s) (hs1 : s ≤ 1024) (hx : nx ≤ 1000000) (i2 : (tk == 2) = false) (i3 : (tk == 3) = false) (ht : tl[nx]? = some ⟨tk, ⟨#[102]⟩, tn, ta⟩) (h : RrAt w R v tl (nx : Int) n o s 0 0) :
    Calls Tryz.prog 65 #[.pointer (some ⟨R, 0, none⟩)] w fun x w' => x = .returned (.tuple #[rV 3 0 ⟨#[]⟩ (.slice none 0 0), .bool true]) ∧ Hid (CnP R v tl nx n o s w w') := by
  unfold rV
  have HB : Hid (0 ≤ o ∧ 0 ≤ s ∧ s ≤ 1024 ∧ nx ≤ 1000000) := ⟨ho, hs, hs1, hx⟩
  clear ho hs hs1 hx
  have hn : nx < tl.length := (List.getElem?_eq_some_iff.1 ht).1
  have hlt := h.lt
  obtain ⟨ao, cap, rfl, hcap, hq0⟩ := h.tks
  obtain ⟨g, k, rfl, _⟩ := hq0 nx _ ht
  clear hcap hq0
  obtain ⟨L, hL⟩ : ∃ L, L = tl.length := ⟨_, rfl⟩
  rw [← hL] at h ⊢
  have HL : Hid (L = tl.length) := hL
  have H0 : Hid (RrAt w R (.slice (some ⟨g, k, none⟩) L cap) tl (nx : Int) n o s 0 0) := h
  have HT0 : Hid (tl[nx]? = some ⟨tk, ⟨#[102]⟩, tn, ta⟩) := ht
  obtain ⟨k0, k1, _, _, _, _, k6⟩ := (h.only ((Only.refl (fun _ => False) w).alloc (.cells #[.int .i64 0, .int .i64 0, .string ⟨#[]⟩, .slice none 0 0] 75))).blk.cells
  have i1 : (nx : Int) < (L : Int) := by omega
  have i0 : (0 : Int) ≤ (nx : Int) := by omega
  have i6 : decide (L ≤ nx) = false := by simp; omega
  obtain ⟨N, hN⟩ : ∃ N, N = w.heap.size := ⟨_, rfl⟩
  have HRN : Hid (R < N ∧ w.heap.size ≤ N) := ⟨by omega, by omega⟩
  clear hL ht h hn hlt
  go_enter Tryz.func65, Tryz.ntmps65
  go_wp2
  go_quiet (fail)
  rw [← hN]
  obtain ⟨W1, hW1⟩ : ∃ W1, W1 = (w.alloc (.cells #[.int .i64 0, .int .i64 0, .string ⟨#[]⟩, .slice none 0 0] 75)).drewN nq := ⟨_, rfl⟩
  have O1 : Only (fun _ => False) w W1 := by rw [hW1]; exact ((Only.refl _ w).alloc _).drewN _
  have V1 : W1.heap[N]? = some (.cells #[.int .i64 0, .int .i64 0, .string ⟨#[]⟩, .slice none 0 0] 75) := by rw [hW1]; exact alloc_at _ _ _ hN
  rw [← hW1]
  clear k0 k1 k6 hW1
  have A1 := H0.out.only O1
  obtain ⟨k0, k1, _, _, _, _, k6⟩ := A1.blk.cells
  obtain ⟨_, _, hv, _, hq⟩ := A1.tks
  injection hv with hv1 hv2 hv3
  subst hv1 hv3
  obtain ⟨g', k', hgk, _, c0, c1, c2, c3⟩ := hq nx _ HT0.out
  injection hgk with hgk
  injection hgk with hg hk
  subst hg hk
  dsimp only at c0 c1 c2 c3
  have HO1 : Hid (Only (fun _ => False) w W1 ∧ RrAt W1 R (.slice (some ⟨g, k, none⟩) L cap) tl (nx : Int) n o s 0 0 ∧ W1.heap[N]? = some (.cells #[.int .i64 0, .int .i64 0, .string ⟨#[]⟩, .slice none 0 0] 75)) := ⟨O1, A1, V1⟩
  have K0 := fun x => alloc_cell W1 _ x _ k0
  have K1 := fun x => alloc_cell W1 _ x _ k1
  have C0 := fun x => alloc_cell W1 _ x _ c0
  have C1 := fun x => alloc_cell W1 _ x _ c1
  have C2 := fun x => alloc_cell W1 _ x _ c2
  have C3 := fun x => alloc_cell W1 _ x _ c3
  clear O1 A1 V1 hq H0 hv2 hN
  go_wp2
  go_region
  obtain ⟨T, hT⟩ : ∃ T, T = W1.heap.size := ⟨_, rfl⟩
  obtain ⟨W2, hW2⟩ : ∃ W2, W2 = (W1.alloc (.cells #[.int .i64 tk, .string ⟨#[102]⟩, .int .i64 tn, .int .i64 ta] 133)).drew := ⟨_, rfl⟩
  have O2 : Only (fun _ => False) W1 W2 := by rw [hW2]; exact ((Only.refl _ W1).alloc _).drew
  have T2 : W2.heap[T]? = some (.cells #[.int .i64 tk, .string ⟨#[102]⟩, .int .i64 tn, .int .i64 ta] 133) := by rw [hW2]; exact alloc_at _ _ _ hT
  have V2 : W2.heap[N]? = some (.cells #[.int .i64 0, .int .i64 0, .string ⟨#[]⟩, .slice none 0 0] 75) := (O2.block N (Array.getElem?_eq_some_iff.1 HO1.out.2.2).1 (fun g => g)).trans HO1.out.2.2
  have A2 := HO1.out.2.1.only O2
  have NT : N < T := by rw [hT]; exact (Array.getElem?_eq_some_iff.1 HO1.out.2.2).1
  have H2 : Hid (Only (fun b => b = R) w W2 ∧ RrAt W2 R (.slice (some ⟨g, k, none⟩) L cap) tl (nx : Int) n o s 0 0 ∧ W2.heap[T]? = some (.cells #[.int .i64 tk, .string ⟨#[102]⟩, .int .i64 tn, .int .i64 ta] 133) ∧ W2.heap[N]? = some (.cells #[.int .i64 0, .int .i64 0, .string ⟨#[]⟩, .slice none 0 0] 75) ∧ N < T ∧ Only (fun _ => False) w W2) := ⟨(HO1.out.1.trans O2 (fun _ _ g => g)).mono (fun _ _ h => h.elim), A2, T2, V2, NT, HO1.out.1.trans O2 (fun _ _ g => g)⟩
  have t0 := blk_cells T2 0
  have t1 := blk_cells T2 1
  have t2 := blk_cells T2 2
  simp only [List.getElem?_toArray, List.getElem?_cons_zero, List.getElem?_cons_succ] at t0 t1 t2
  rw [← hW2, ← hT]
  clear k0 k1 k6 c0 c1 c2 c3 K0 K1 C0 C1 C2 C3 O2 T2 V2 A2 NT hT hW2 HO1
  have HC : Hid (Calls Tryz.prog 67 #[.pointer (some ⟨R, 0, none⟩)] W2 fun x w' => x = .returned (.tuple #[]) ∧ Hid (CnP R (.slice (some ⟨g, k, none⟩) L cap) tl nx n o s W2 w')) := rcnt_any R _ tl nx n o s W2 HB.out.1 HB.out.2.1 HB.out.2.2.1 HB.out.2.2.2 H2.out.2.1
  go_wp2_with fail
  refine (show Calls Tryz.prog 67 _ _ _ from HC.out).mono ?_
  rintro x w3 ⟨rfl, g3⟩
  clear HC t0 t1 t2
  have hT2 := (g3.out.on.block T (Array.getElem?_eq_some_iff.1 H2.out.2.2.1).1 (by have := H2.out.2.2.2.2.1; have := HRN.out.1; omega)).trans H2.out.2.2.1
  have hV2 := (g3.out.on.block N (Array.getElem?_eq_some_iff.1 H2.out.2.2.2.1).1 (by have := HRN.out.1; omega)).trans H2.out.2.2.2.1
  have HV : Hid (w3.heap[N]? = some _) := hV2
  have t1 := blk_cells hT2 1
  have t2 := blk_cells hT2 2
  simp only [List.getElem?_toArray, List.getElem?_cons_zero, List.getElem?_cons_succ] at t1 t2
  have e0 := blk_cells hV2 0
  have e1 := blk_cells hV2 1
  have e2 := blk_cells hV2 2
  have e3 := blk_cells hV2 3
  have z0 := blk_froz hV2 0
  have z1 := blk_froz hV2 1
  have z2 := blk_froz hV2 2
  have z3 := blk_froz hV2 3
  simp only [List.getElem?_toArray, List.getElem?_cons_zero, List.getElem?_cons_succ] at e0 e1 e2 e3
  clear hT2 hV2
  go_wp2
  obtain ⟨q0, q1, q2, q3⟩ := set4 HV.out rfl (.int .i64 3) (.int .i64 0) (.string ⟨#[]⟩) (.slice none 0 0)
  refine bodyPost_ret (results_vb rfl _ _ N q0 q1 q2 q3 rfl) rfl ?_
  exact ⟨rfl, g3.out.fin H2.out.1 (on4 w3 N _ _ _ _) HRN.out.2 HRN.out.1⟩
set_option maxRecDepth 100000 in
set_option maxHeartbeats 4000000 in
/-- no literal begins here -/
theorem rl_none (R : Nat) (v : Value) (tl : List Tok) (nx : Nat) (n o s : Int) (tk : Int) (tt : ByteArray) (tn ta : Int) (w : World) (i2 : (tk == 2) = false) (i3 : (tk == 3) = false) (j1 : (tt.toList == [116]) = false) (j2 : (tt.toList == [102]) = false) (j3 : (tt.toList == [91]) = false) (j4 : (tt.toList == [123]) = false) (ht : tl[nx]? = some ⟨tk, tt, tn, ta⟩) (h : RrAt w R v tl (nx : Int) n o s 0 0) :
    Calls Tryz.prog 65 #[.pointer (some ⟨R, 0, none⟩)] w fun x w' => x = .returned (.tuple #[rV 0 0 ⟨#[]⟩ (.slice none 0 0), .bool false]) ∧ Hid (RrAt w' R v tl (nx : Int) n o s 0 0 ∧ Only (fun _ => False) w w') := by
  unfold rV
  have hn : nx < tl.length := (List.getElem?_eq_some_iff.1 ht).1
  have hlt := h.lt
  obtain ⟨ao, cap, rfl, hcap, hq0⟩ := h.tks
  obtain ⟨g, k, rfl, _⟩ := hq0 nx _ ht
  clear hcap hq0
  obtain ⟨L, hL⟩ : ∃ L, L = tl.length := ⟨_, rfl⟩
  rw [← hL] at h ⊢
  have HL : Hid (L = tl.length) := hL
  have H0 : Hid (RrAt w R (.slice (some ⟨g, k, none⟩) L cap) tl (nx : Int) n o s 0 0) := h
  have HT0 : Hid (tl[nx]? = some ⟨tk, tt, tn, ta⟩) := ht
  obtain ⟨k0, k1, _, _, _, _, k6⟩ := (h.only ((Only.refl (fun _ => False) w).alloc (.cells #[.int .i64 0, .int .i64 0, .string ⟨#[]⟩, .slice none 0 0] 75))).blk.cells
  have i1 : (nx : Int) < (L : Int) := by omega
  have i0 : (0 : Int) ≤ (nx : Int) := by omega
  have i6 : decide (L ≤ nx) = false := by simp; omega
  obtain ⟨N, hN⟩ : ∃ N, N = w.heap.size := ⟨_, rfl⟩
  have HRN : Hid (R < N ∧ w.heap.size ≤ N) := ⟨by omega, by omega⟩
  clear hL ht h hn hlt
  go_enter Tryz.func65, Tryz.ntmps65
  go_wp2
  go_quiet (fail)
  rw [← hN]
  obtain ⟨W1, hW1⟩ : ∃ W1, W1 = (w.alloc (.cells #[.int .i64 0, .int .i64 0, .string ⟨#[]⟩, .slice none 0 0] 75)).drewN nq := ⟨_, rfl⟩
  have O1 : Only (fun _ => False) w W1 := by rw [hW1]; exact ((Only.refl _ w).alloc _).drewN _
  have V1 : W1.heap[N]? = some (.cells #[.int .i64 0, .int .i64 0, .string ⟨#[]⟩, .slice none 0 0] 75) := by rw [hW1]; exact alloc_at _ _ _ hN
  rw [← hW1]
  clear k0 k1 k6 hW1
  have A1 := H0.out.only O1
  obtain ⟨k0, k1, _, _, _, _, k6⟩ := A1.blk.cells
  obtain ⟨_, _, hv, _, hq⟩ := A1.tks
  injection hv with hv1 hv2 hv3
  subst hv1 hv3
  obtain ⟨g', k', hgk, _, c0, c1, c2, c3⟩ := hq nx _ HT0.out
  injection hgk with hgk
  injection hgk with hg hk
  subst hg hk
  dsimp only at c0 c1 c2 c3
  have HO1 : Hid (Only (fun _ => False) w W1 ∧ RrAt W1 R (.slice (some ⟨g, k, none⟩) L cap) tl (nx : Int) n o s 0 0 ∧ W1.heap[N]? = some (.cells #[.int .i64 0, .int .i64 0, .string ⟨#[]⟩, .slice none 0 0] 75)) := ⟨O1, A1, V1⟩
  have K0 := fun x => alloc_cell W1 _ x _ k0
  have K1 := fun x => alloc_cell W1 _ x _ k1
  have C0 := fun x => alloc_cell W1 _ x _ c0
  have C1 := fun x => alloc_cell W1 _ x _ c1
  have C2 := fun x => alloc_cell W1 _ x _ c2
  have C3 := fun x => alloc_cell W1 _ x _ c3
  clear O1 A1 V1 hq H0 hv2 hN
  go_wp2
  go_region
  obtain ⟨T, hT⟩ : ∃ T, T = W1.heap.size := ⟨_, rfl⟩
  obtain ⟨W2, hW2⟩ : ∃ W2, W2 = (W1.alloc (.cells #[.int .i64 tk, .string tt, .int .i64 tn, .int .i64 ta] 133)).drew := ⟨_, rfl⟩
  have O2 : Only (fun _ => False) W1 W2 := by rw [hW2]; exact ((Only.refl _ W1).alloc _).drew
  have T2 : W2.heap[T]? = some (.cells #[.int .i64 tk, .string tt, .int .i64 tn, .int .i64 ta] 133) := by rw [hW2]; exact alloc_at _ _ _ hT
  have V2 : W2.heap[N]? = some (.cells #[.int .i64 0, .int .i64 0, .string ⟨#[]⟩, .slice none 0 0] 75) := (O2.block N (Array.getElem?_eq_some_iff.1 HO1.out.2.2).1 (fun g => g)).trans HO1.out.2.2
  have A2 := HO1.out.2.1.only O2
  have NT : N < T := by rw [hT]; exact (Array.getElem?_eq_some_iff.1 HO1.out.2.2).1
  have H2 : Hid (Only (fun b => b = R) w W2 ∧ RrAt W2 R (.slice (some ⟨g, k, none⟩) L cap) tl (nx : Int) n o s 0 0 ∧ W2.heap[T]? = some (.cells #[.int .i64 tk, .string tt, .int .i64 tn, .int .i64 ta] 133) ∧ W2.heap[N]? = some (.cells #[.int .i64 0, .int .i64 0, .string ⟨#[]⟩, .slice none 0 0] 75) ∧ N < T ∧ Only (fun _ => False) w W2) := ⟨(HO1.out.1.trans O2 (fun _ _ g => g)).mono (fun _ _ h => h.elim), A2, T2, V2, NT, HO1.out.1.trans O2 (fun _ _ g => g)⟩
  have t0 := blk_cells T2 0
  have t1 := blk_cells T2 1
  have t2 := blk_cells T2 2
  simp only [List.getElem?_toArray, List.getElem?_cons_zero, List.getElem?_cons_succ] at t0 t1 t2
  rw [← hW2, ← hT]
  clear k0 k1 k6 c0 c1 c2 c3 K0 K1 C0 C1 C2 C3 O2 T2 V2 A2 NT hT hW2 HO1
  have hV2 := H2.out.2.2.2.1
  have e0 := blk_cells hV2 0
  have e1 := blk_cells hV2 1
  have e2 := blk_cells hV2 2
  have e3 := blk_cells hV2 3
  have z0 := blk_froz hV2 0
  have z1 := blk_froz hV2 1
  have z2 := blk_froz hV2 2
  have z3 := blk_froz hV2 3
  simp only [List.getElem?_toArray, List.getElem?_cons_zero, List.getElem?_cons_succ] at e0 e1 e2 e3
  clear hV2
  go_wp2
  obtain ⟨q0, q1, q2, q3⟩ := set4 H2.out.2.2.2.1 rfl (.int .i64 0) (.int .i64 0) (.string ⟨#[]⟩) (.slice none 0 0)
  refine bodyPost_ret (results_vb rfl _ _ N q0 q1 q2 q3 rfl) rfl ?_
  exact ⟨rfl, H2.out.2.1.other HRN.out.1 (on4 W2 N _ _ _ _), H2.out.2.2.2.2.2.trans (on4 W2 N _ _ _ _) (fun i hi e => by have := HRN.out.2; omega)⟩
end Go.Proofs.YtapehdolnljnoaaGreatDoor
namespace Go.Proofs.YtapehdolnljnoaaGreatDoor
open Go.RowKit
set_option linter.unusedSimpArgs false
set_option linter.unusedVariables false
/-- what the trees of many are -/
def TsC (d F : Nat) (i : Bool) : Prop := ∀ (v : Value) (l : List Tre) (w : World) (S : Nat → Prop), SqAt w S d i v l → l.length ≤ 4096 → (∀ x ∈ l, ∃ e, WfT e x) → Calls Tryz.prog F #[v] w fun e w' => ∃ ao cap, e = .returned (.slice ao l.length cap) ∧ Hid (VrAt w' w.heap.size d (.slice ao l.length cap) l ∧ Only (fun _ => False) w w')
/-- what the tree of one is -/
def TeC (d F : Nat) (i : Bool) : Prop := ∀ (v : Value) (t : Tre) (w : World) (S : Nat → Prop), TrAt w S d i t v → (∃ e, WfT e t) → Calls Tryz.prog F #[v] w fun e w' => ∃ lv, e = .returned (.agg #[.int .i64 (t.k : Int), .int .i64 (vn t), .string (vs t), lv]) ∧ Hid (NvAt w' w.heap.size d t lv ∧ Only (fun _ => False) w w')
theorem results_v {fn : Func} {u : Tmp} (h : fn.results = #[.cell u 75]) (tmps : Array Value) (w : World) (B : Nat) {x y z r : Value} (h0 : w.cell? ⟨B, 0, none⟩ = some x) (h1 : w.cell? ⟨B, 1, none⟩ = some y) (h2 : w.cell? ⟨B, 2, none⟩ = some z) (h3 : w.cell? ⟨B, 3, none⟩ = some r) (ha : tmps.getD u undef = .pointer (some ⟨B, 0, none⟩)) :
    (results fn tmps).run Tryz.prog w = .ok (.agg #[x, y, z, r]) w := by
  have ha' : tmps[u]?.getD undef = .pointer (some ⟨B, 0, none⟩) := by simpa using ha
  simp [results, h, ha', asAddr, go_sem, loadVar, isAgg, Tryz.underlying75, h0, h1, h2, h3]
def vO : Obj := .cells #[.int .i64 0, .int .i64 0, .string ⟨#[]⟩, .slice none 0 0] 75
theorem only4 {w : World} {B : Nat} (x0 x1 x2 x3 : Value) : Only (fun b => b = B) w ((((w.setCell ⟨B, 0, none⟩ x0).setCell ⟨B, 1, none⟩ x1).setCell ⟨B, 2, none⟩ x2).setCell ⟨B, 3, none⟩ x3) :=
  ((((Only.refl (fun b => b = B) w).setCell ⟨B, 0, none⟩ _ (fun _ => rfl)).setCell ⟨B, 1, none⟩ _ (fun _ => rfl)).setCell ⟨B, 2, none⟩ _ (fun _ => rfl)).setCell ⟨B, 3, none⟩ _ (fun _ => rfl)
set_option maxRecDepth 100000 in
theorem zero_Int (W : World) : (zeroValue 116).run Tryz.prog W = .ok (.agg #[.int .i64 0]) W := by rfl
set_option maxRecDepth 100000 in
theorem zero_Str (W : World) : (zeroValue 167).run Tryz.prog W = .ok (.agg #[.string ⟨#[]⟩]) W := by rfl
set_option maxRecDepth 100000 in
theorem zero_Bool (W : World) : (zeroValue 169).run Tryz.prog W = .ok (.agg #[.bool false]) W := by rfl
set_option maxRecDepth 100000 in
theorem zero_List (W : World) : (zeroValue 113).run Tryz.prog W = .ok (.agg #[.slice none 0 0]) W := by rfl
set_option maxRecDepth 100000 in
theorem zero_Quot (W : World) : (zeroValue 118).run Tryz.prog W = .ok (.agg #[.slice none 0 0]) W := by rfl
set_option maxRecDepth 100000 in
theorem zero_Push (W : World) : (zeroValue 109).run Tryz.prog W = .ok (.agg #[.nilIface]) W := by rfl
set_option maxRecDepth 100000 in
theorem zero_Call (W : World) : (zeroValue 59).run Tryz.prog W = .ok (.agg #[.string ⟨#[]⟩]) W := by rfl
set_option maxRecDepth 100000 in
theorem tree_int (n : Int) (w : World) : Calls Tryz.prog 72 #[.iface 116 (.agg #[.int .i64 n])] w fun e w' => e = .returned (.agg #[.int .i64 1, .int .i64 n, .string ⟨#[]⟩, .slice none 0 0]) ∧ Only (fun _ => False) w w' := by
  have hInt := as_hit 116 107 _ Tryz.underlying116 (by intro m h; cases h)
  have O0 : Hid (Only (fun _ => False) w w) := Only.refl _ _
  go_enter Tryz.func72, Tryz.ntmps72
  go_wp2
  refine bodyPost_ret (results_v rfl _ _ w.heap.size (x := _) (y := _) (z := _) (r := _) ?_ ?_ ?_ ?_ rfl) rfl ⟨rfl, ?_⟩
  · simp [go_sem]
  · simp [go_sem]
  · simp [go_sem]
  · simp [go_sem]
  · first
      | exact ((O0.out.alloc _).alloc _)
      | exact (((((O0.out.alloc _).alloc _).setCell _ _ (fun h => absurd h (by simp))).setCell _ _ (fun h => absurd h (by simp))).setCell _ _ (fun h => absurd h (by simp))).setCell _ _ (fun h => absurd h (by simp))
set_option maxRecDepth 100000 in
theorem tree_str (x : ByteArray) (w : World) : Calls Tryz.prog 72 #[.iface 167 (.agg #[.string x])] w fun e w' => e = .returned (.agg #[.int .i64 2, .int .i64 0, .string x, .slice none 0 0]) ∧ Only (fun _ => False) w w' := by
  have mInt := as_miss 167 116 107 _ Tryz.underlying116 (by intro m h; cases h) (by decide) _ zero_Int
  have hStr := as_hit 167 107 _ Tryz.underlying167 (by intro m h; cases h)
  have O0 : Hid (Only (fun _ => False) w w) := Only.refl _ _
  go_enter Tryz.func72, Tryz.ntmps72
  go_wp2
  refine bodyPost_ret (results_v rfl _ _ w.heap.size (x := _) (y := _) (z := _) (r := _) ?_ ?_ ?_ ?_ rfl) rfl ⟨rfl, ?_⟩
  · simp [go_sem]
  · simp [go_sem]
  · simp [go_sem]
  · simp [go_sem]
  · first
      | exact ((O0.out.alloc _).alloc _)
      | exact (((((O0.out.alloc _).alloc _).setCell _ _ (fun h => absurd h (by simp))).setCell _ _ (fun h => absurd h (by simp))).setCell _ _ (fun h => absurd h (by simp))).setCell _ _ (fun h => absurd h (by simp))
set_option maxRecDepth 100000 in
theorem tree_yes  (w : World) : Calls Tryz.prog 72 #[.iface 169 (.agg #[.bool true])] w fun e w' => e = .returned (.agg #[.int .i64 3, .int .i64 1, .string ⟨#[]⟩, .slice none 0 0]) ∧ Only (fun _ => False) w w' := by
  have mInt := as_miss 169 116 107 _ Tryz.underlying116 (by intro m h; cases h) (by decide) _ zero_Int
  have mStr := as_miss 169 167 107 _ Tryz.underlying167 (by intro m h; cases h) (by decide) _ zero_Str
  have hBool := as_hit 169 107 _ Tryz.underlying169 (by intro m h; cases h)
  have O0 : Hid (Only (fun _ => False) w w) := Only.refl _ _
  go_enter Tryz.func72, Tryz.ntmps72
  go_wp2
  refine bodyPost_ret (results_v rfl _ _ w.heap.size (x := _) (y := _) (z := _) (r := _) ?_ ?_ ?_ ?_ rfl) rfl ⟨rfl, ?_⟩
  · simp [go_sem]
  · simp [go_sem]
  · simp [go_sem]
  · simp [go_sem]
  · first
      | exact ((O0.out.alloc _).alloc _)
      | exact (((((O0.out.alloc _).alloc _).setCell _ _ (fun h => absurd h (by simp))).setCell _ _ (fun h => absurd h (by simp))).setCell _ _ (fun h => absurd h (by simp))).setCell _ _ (fun h => absurd h (by simp))
set_option maxRecDepth 100000 in
theorem tree_no  (w : World) : Calls Tryz.prog 72 #[.iface 169 (.agg #[.bool false])] w fun e w' => e = .returned (.agg #[.int .i64 3, .int .i64 0, .string ⟨#[]⟩, .slice none 0 0]) ∧ Only (fun _ => False) w w' := by
  have mInt := as_miss 169 116 107 _ Tryz.underlying116 (by intro m h; cases h) (by decide) _ zero_Int
  have mStr := as_miss 169 167 107 _ Tryz.underlying167 (by intro m h; cases h) (by decide) _ zero_Str
  have hBool := as_hit 169 107 _ Tryz.underlying169 (by intro m h; cases h)
  have O0 : Hid (Only (fun _ => False) w w) := Only.refl _ _
  go_enter Tryz.func72, Tryz.ntmps72
  go_wp2
  refine bodyPost_ret (results_v rfl _ _ w.heap.size (x := _) (y := _) (z := _) (r := _) ?_ ?_ ?_ ?_ rfl) rfl ⟨rfl, ?_⟩
  · simp [go_sem]
  · simp [go_sem]
  · simp [go_sem]
  · simp [go_sem]
  · first
      | exact ((O0.out.alloc _).alloc _)
      | exact (((((O0.out.alloc _).alloc _).setCell _ _ (fun h => absurd h (by simp))).setCell _ _ (fun h => absurd h (by simp))).setCell _ _ (fun h => absurd h (by simp))).setCell _ _ (fun h => absurd h (by simp))
set_option maxRecDepth 100000 in
theorem tree_call (x : ByteArray) (w : World) : Calls Tryz.prog 36 #[.iface 59 (.agg #[.string x])] w fun e w' => e = .returned (.agg #[.int .i64 7, .int .i64 0, .string x, .slice none 0 0]) ∧ Only (fun _ => False) w w' := by
  have mPush := as_miss 59 109 54 _ Tryz.underlying109 (by intro m h; cases h) (by decide) _ zero_Push
  have hCall := as_hit 59 54 _ Tryz.underlying59 (by intro m h; cases h)
  have O0 : Hid (Only (fun _ => False) w w) := Only.refl _ _
  go_enter Tryz.func36, Tryz.ntmps36
  go_wp2
  refine bodyPost_ret (results_v rfl _ _ w.heap.size (x := _) (y := _) (z := _) (r := _) ?_ ?_ ?_ ?_ rfl) rfl ⟨rfl, ?_⟩
  · simp [go_sem]
  · simp [go_sem]
  · simp [go_sem]
  · simp [go_sem]
  · first
      | exact ((O0.out.alloc _).alloc _)
      | exact (((((O0.out.alloc _).alloc _).setCell _ _ (fun h => absurd h (by simp))).setCell _ _ (fun h => absurd h (by simp))).setCell _ _ (fun h => absurd h (by simp))).setCell _ _ (fun h => absurd h (by simp))
set_option maxRecDepth 100000 in
theorem tree_list (d : Nat) (l : List Tre) (ao : Option Addr) (cap : Nat) (w : World) (S : Nat → Prop) (HT : TsC d 102 false) (h : SqAt w S d false (.slice ao l.length cap) l) (hl : l.length ≤ 4096) (hw : ∀ x ∈ l, ∃ e, WfT e x) : Calls Tryz.prog 72 #[.iface 113 (.agg #[.slice ao l.length cap])] w fun e w' => ∃ ao' cap', e = .returned (.agg #[.int .i64 4, .int .i64 0, .string ⟨#[]⟩, .slice ao' l.length cap']) ∧ Hid (VrAt w' w.heap.size d (.slice ao' l.length cap') l ∧ Only (fun _ => False) w w') := by
  have HC : Hid (∀ w1, Only (fun _ => False) w w1 → Calls Tryz.prog 102 #[.slice ao l.length cap] w1 fun e w' => ∃ ao cap, e = .returned (.slice ao l.length cap) ∧ Hid (VrAt w' w1.heap.size d (.slice ao l.length cap) l ∧ Only (fun _ => False) w1 w')) := fun w1 o1 => HT _ _ _ S (h.step (fun _ g => g) (fun a u _ hc => o1.cell hc (fun g => g)) (Nat.le_refl _)) hl hw
  have mInt := as_miss 113 116 107 _ Tryz.underlying116 (by intro m h; cases h) (by decide) _ zero_Int
  have mStr := as_miss 113 167 107 _ Tryz.underlying167 (by intro m h; cases h) (by decide) _ zero_Str
  have mBool := as_miss 113 169 107 _ Tryz.underlying169 (by intro m h; cases h) (by decide) _ zero_Bool
  have hList := as_hit 113 107 _ Tryz.underlying113 (by intro m h; cases h)
  have O0 : Hid (Only (fun _ => False) w w) := Only.refl _ _
  clear HT h hl hw
  obtain ⟨L, hL⟩ : ∃ L, L = l.length := ⟨_, rfl⟩
  have HL : Hid (L = l.length) := hL
  rw [← hL] at HC
  rw [← hL]
  clear hL
  go_enter Tryz.func72, Tryz.ntmps72
  go_wp2_with fail
  refine (show Calls Tryz.prog 102 _ _ _ from HC.out _ ((O0.out.alloc _).alloc _)).mono ?_
  rintro e w1 ⟨ao', cap', rfl, g1⟩
  have R3 : w1.heap[w.heap.size]? = some (.cells #[.int .i64 0, .int .i64 0, .string ⟨#[]⟩, .slice none 0 0] 75) := (g1.out.2.block w.heap.size (by simp; omega) (fun h => h)).trans ((((Only.refl (fun _ => False) (w.alloc (.cells #[.int .i64 0, .int .i64 0, .string ⟨#[]⟩, .slice none 0 0] 75))).alloc _).block w.heap.size (by simp) (fun h => h)).trans (alloc_at _ _ _ rfl))
  have G1 : Hid (VrAt w1 (w.heap.size + 1) d (.slice ao' L cap') l ∧ Only (fun _ => False) w w1) := by
    obtain ⟨us, SS, ho, ht, hS⟩ := g1.out.1
    have e1 : L = l.length := HL.out
    refine ⟨⟨us, SS, ⟨ho.1, ?_⟩, ht, fun b hb => ⟨by have := (hS b hb).1; simp at this; omega, (hS b hb).2⟩⟩, ((O0.out.alloc _).alloc _).trans g1.out.2 (fun _ _ g => g)⟩
    rcases ho.2 with g | ⟨g, cc, cur, h1, h2, h3⟩
    · exact .inl g
    · exact .inr ⟨g, cc, cur, h1, by simp at h2; omega, h3⟩
  clear g1 HC O0
  obtain ⟨B, hBe⟩ : ∃ B, B = w.heap.size := ⟨_, rfl⟩
  have HE : Hid (B = w.heap.size) := hBe
  rw [← hBe] at R3 ⊢
  have c0 := blk_cells R3 0
  have c1 := blk_cells R3 1
  have c2 := blk_cells R3 2
  have c3 := blk_cells R3 3
  have z0 := blk_froz R3 0
  have z1 := blk_froz R3 1
  have z2 := blk_froz R3 2
  have z3 := blk_froz R3 3
  have HR3 : Hid (w1.heap[B]? = some (.cells #[.int .i64 0, .int .i64 0, .string ⟨#[]⟩, .slice none 0 0] 75)) := R3
  simp only [List.getElem?_toArray, List.getElem?_cons_zero, List.getElem?_cons_succ] at c0 c1 c2 c3
  clear R3 hBe
  go_wp2
  obtain ⟨p0, p1, p2, p3⟩ := set4 HR3.out rfl (.int .i64 4) (.int .i64 0) (.string ⟨#[]⟩) (.slice ao' L cap')
  have e1 : L = l.length := HL.out
  have hBe : B = w.heap.size := HE.out
  have OB := @only4 w1 B (.int .i64 4) (.int .i64 0) (.string ⟨#[]⟩) (.slice ao' L cap')
  refine bodyPost_ret (results_v rfl _ _ B p0 p1 p2 p3 rfl) rfl ⟨ao', cap', rfl, ?_, G1.out.2.trans OB (fun b h e => by omega)⟩
  obtain ⟨us, SS, ho, ht, hS⟩ := G1.out.1.only OB (fun b h e => by omega)
  refine ⟨us, SS, ⟨ho.1, ?_⟩, ht, fun b hb => ⟨by have := (hS b hb).1; omega, (hS b hb).2⟩⟩
  rcases ho.2 with g | ⟨g, cc, cur, h1, h2, h3⟩
  · exact .inl g
  · exact .inr ⟨g, cc, cur, h1, by omega, h3⟩
set_option maxRecDepth 100000 in
theorem tree_quot (d : Nat) (l : List Tre) (ao : Option Addr) (cap : Nat) (w : World) (S : Nat → Prop) (HT : TsC d 15 true) (h : SqAt w S d true (.slice ao l.length cap) l) (hl : l.length ≤ 4096) (hw : ∀ x ∈ l, ∃ e, WfT e x) : Calls Tryz.prog 72 #[.iface 118 (.agg #[.slice ao l.length cap])] w fun e w' => ∃ ao' cap', e = .returned (.agg #[.int .i64 5, .int .i64 0, .string ⟨#[]⟩, .slice ao' l.length cap']) ∧ Hid (VrAt w' w.heap.size d (.slice ao' l.length cap') l ∧ Only (fun _ => False) w w') := by
  have HC : Hid (∀ w1, Only (fun _ => False) w w1 → Calls Tryz.prog 15 #[.slice ao l.length cap] w1 fun e w' => ∃ ao cap, e = .returned (.slice ao l.length cap) ∧ Hid (VrAt w' w1.heap.size d (.slice ao l.length cap) l ∧ Only (fun _ => False) w1 w')) := fun w1 o1 => HT _ _ _ S (h.step (fun _ g => g) (fun a u _ hc => o1.cell hc (fun g => g)) (Nat.le_refl _)) hl hw
  have mInt := as_miss 118 116 107 _ Tryz.underlying116 (by intro m h; cases h) (by decide) _ zero_Int
  have mStr := as_miss 118 167 107 _ Tryz.underlying167 (by intro m h; cases h) (by decide) _ zero_Str
  have mBool := as_miss 118 169 107 _ Tryz.underlying169 (by intro m h; cases h) (by decide) _ zero_Bool
  have mList := as_miss 118 113 107 _ Tryz.underlying113 (by intro m h; cases h) (by decide) _ zero_List
  have hQuot := as_hit 118 107 _ Tryz.underlying118 (by intro m h; cases h)
  have O0 : Hid (Only (fun _ => False) w w) := Only.refl _ _
  clear HT h hl hw
  obtain ⟨L, hL⟩ : ∃ L, L = l.length := ⟨_, rfl⟩
  have HL : Hid (L = l.length) := hL
  rw [← hL] at HC
  rw [← hL]
  clear hL
  go_enter Tryz.func72, Tryz.ntmps72
  go_wp2_with fail
  refine (show Calls Tryz.prog 15 _ _ _ from HC.out _ ((O0.out.alloc _).alloc _)).mono ?_
  rintro e w1 ⟨ao', cap', rfl, g1⟩
  have R3 : w1.heap[w.heap.size]? = some (.cells #[.int .i64 0, .int .i64 0, .string ⟨#[]⟩, .slice none 0 0] 75) := (g1.out.2.block w.heap.size (by simp; omega) (fun h => h)).trans ((((Only.refl (fun _ => False) (w.alloc (.cells #[.int .i64 0, .int .i64 0, .string ⟨#[]⟩, .slice none 0 0] 75))).alloc _).block w.heap.size (by simp) (fun h => h)).trans (alloc_at _ _ _ rfl))
  have G1 : Hid (VrAt w1 (w.heap.size + 1) d (.slice ao' L cap') l ∧ Only (fun _ => False) w w1) := by
    obtain ⟨us, SS, ho, ht, hS⟩ := g1.out.1
    have e1 : L = l.length := HL.out
    refine ⟨⟨us, SS, ⟨ho.1, ?_⟩, ht, fun b hb => ⟨by have := (hS b hb).1; simp at this; omega, (hS b hb).2⟩⟩, ((O0.out.alloc _).alloc _).trans g1.out.2 (fun _ _ g => g)⟩
    rcases ho.2 with g | ⟨g, cc, cur, h1, h2, h3⟩
    · exact .inl g
    · exact .inr ⟨g, cc, cur, h1, by simp at h2; omega, h3⟩
  clear g1 HC O0
  obtain ⟨B, hBe⟩ : ∃ B, B = w.heap.size := ⟨_, rfl⟩
  have HE : Hid (B = w.heap.size) := hBe
  rw [← hBe] at R3 ⊢
  have c0 := blk_cells R3 0
  have c1 := blk_cells R3 1
  have c2 := blk_cells R3 2
  have c3 := blk_cells R3 3
  have z0 := blk_froz R3 0
  have z1 := blk_froz R3 1
  have z2 := blk_froz R3 2
  have z3 := blk_froz R3 3
  have HR3 : Hid (w1.heap[B]? = some (.cells #[.int .i64 0, .int .i64 0, .string ⟨#[]⟩, .slice none 0 0] 75)) := R3
  simp only [List.getElem?_toArray, List.getElem?_cons_zero, List.getElem?_cons_succ] at c0 c1 c2 c3
  clear R3 hBe
  go_wp2
  obtain ⟨p0, p1, p2, p3⟩ := set4 HR3.out rfl (.int .i64 5) (.int .i64 0) (.string ⟨#[]⟩) (.slice ao' L cap')
  have e1 : L = l.length := HL.out
  have hBe : B = w.heap.size := HE.out
  have OB := @only4 w1 B (.int .i64 5) (.int .i64 0) (.string ⟨#[]⟩) (.slice ao' L cap')
  refine bodyPost_ret (results_v rfl _ _ B p0 p1 p2 p3 rfl) rfl ⟨ao', cap', rfl, ?_, G1.out.2.trans OB (fun b h e => by omega)⟩
  obtain ⟨us, SS, ho, ht, hS⟩ := G1.out.1.only OB (fun b h e => by omega)
  refine ⟨us, SS, ⟨ho.1, ?_⟩, ht, fun b hb => ⟨by have := (hS b hb).1; omega, (hS b hb).2⟩⟩
  rcases ho.2 with g | ⟨g, cc, cur, h1, h2, h3⟩
  · exact .inl g
  · exact .inr ⟨g, cc, cur, h1, by omega, h3⟩
theorem tree_of (d : Nat) (H1 : TsC d 102 false) (H2 : TsC d 15 true) : TeC (d + 1) 72 false := by
  intro v t w S h hw
  obtain ⟨k, n, s, l⟩ := t
  rcases h with ⟨h1, h2, h3⟩ | ⟨h1, h2, h3⟩ | ⟨h1, h2, h3⟩ | ⟨h1, ao, cap, hv, hc, hl⟩
  · dsimp only at h1 h2 h3
    subst h1 h3
    exact (tree_int n w).mono fun e w' g => ⟨_, g.1, nv_nil h2, g.2⟩
  · dsimp only at h1 h2 h3
    subst h1 h3
    exact (tree_str s w).mono fun e w' g => ⟨_, g.1, nv_nil h2, g.2⟩
  · dsimp only at h1 h2 h3
    subst h1 h3
    by_cases hn : n = 0
    · subst hn
      exact (tree_no w).mono fun e w' g => ⟨_, g.1, nv_nil h2, g.2⟩
    · have e1 : (n != 0) = true := by simp [hn]
      have e2 : vn ⟨3, n, s, l⟩ = 1 := by simp [vn, hn]
      rw [e1, e2]
      exact (tree_yes w).mono fun e w' g => ⟨_, g.1, nv_nil h2, g.2⟩
  · dsimp only at h1 hv hc hl
    obtain ⟨e, hw⟩ := hw
    cases e with
    | zero => exact hw.elim
    | succ e =>
      obtain ⟨hw1, hw2⟩ := hw
      dsimp only at hw1 hw2
      rcases h1 with h1 | h1
      · subst h1
        rw [if_pos rfl] at hv
        subst hv
        exact (tree_list d l ao cap w S H1 ⟨ao, cap, rfl, hc, hl⟩ hw1 (fun x hx => ⟨e, hw2 x hx⟩)).mono fun e w' g => by
          obtain ⟨ao', cap', he, g⟩ := g
          exact ⟨_, he, g.out.1.tree rfl, g.out.2⟩
      · subst h1
        rw [if_neg (by omega)] at hv
        subst hv
        exact (tree_quot d l ao cap w S H2 ⟨ao, cap, rfl, hc, hl⟩ hw1 (fun x hx => ⟨e, hw2 x hx⟩)).mono fun e w' g => by
          obtain ⟨ao', cap', he, g⟩ := g
          exact ⟨_, he, g.out.1.tree rfl, g.out.2⟩
set_option maxRecDepth 100000 in
theorem itree_push (u : Value) (hu : ∃ T y, u = .iface T y) (x0 x1 : Int) (x2 : ByteArray) (Q : Value → World → Prop) (w : World)
    (HC0 : ∀ w1, w.heap.size < w1.heap.size → Only (fun _ => False) w w1 → Calls Tryz.prog 72 #[u] w1 fun e w' => ∃ lv, e = .returned (.agg #[.int .i64 x0, .int .i64 x1, .string x2, lv]) ∧ (∃ ao n cap, lv = .slice ao n cap) ∧ Hid ((∀ w2, Only (fun b => b = w.heap.size) w' w2 → Q lv w2) ∧ Only (fun _ => False) w1 w')) :
    Calls Tryz.prog 36 #[.iface 109 (.agg #[u])] w fun e w' => ∃ lv, e = .returned (.agg #[.int .i64 x0, .int .i64 x1, .string x2, lv]) ∧ Hid (Q lv w' ∧ Only (fun _ => False) w w') := by
  have HC : Hid (∀ w1, w.heap.size < w1.heap.size → Only (fun _ => False) w w1 → Calls Tryz.prog 72 #[u] w1 fun e w' => ∃ lv, e = .returned (.agg #[.int .i64 x0, .int .i64 x1, .string x2, lv]) ∧ (∃ ao n cap, lv = .slice ao n cap) ∧ Hid ((∀ w2, Only (fun b => b = w.heap.size) w' w2 → Q lv w2) ∧ Only (fun _ => False) w1 w')) := HC0
  obtain ⟨T, y, rfl⟩ := hu
  have hPush := as_hit 109 54 _ Tryz.underlying109 (by intro m h; cases h)
  have O0 : Hid (Only (fun _ => False) w w) := Only.refl _ _
  clear HC0
  go_enter Tryz.func36, Tryz.ntmps36
  go_wp2_with fail
  refine (show Calls Tryz.prog 72 _ _ _ from HC.out _ (by simp; omega) ((O0.out.alloc _).alloc _)).mono ?_
  rintro e w1 ⟨lv, rfl, ⟨ao, nn, cap, rfl⟩, g1⟩
  have R3 : w1.heap[w.heap.size]? = some (.cells #[.int .i64 0, .int .i64 0, .string ⟨#[]⟩, .slice none 0 0] 75) := (g1.out.2.block w.heap.size (by simp; omega) (fun h => h)).trans ((((Only.refl (fun _ => False) (w.alloc (.cells #[.int .i64 0, .int .i64 0, .string ⟨#[]⟩, .slice none 0 0] 75))).alloc _).block w.heap.size (by simp) (fun h => h)).trans (alloc_at _ _ _ rfl))
  have G1 : Hid ((∀ w2, Only (fun b => b = w.heap.size) w1 w2 → Q (.slice ao nn cap) w2) ∧ Only (fun _ => False) w w1) := ⟨g1.out.1, ((O0.out.alloc _).alloc _).trans g1.out.2 (fun _ _ g => g)⟩
  clear g1 HC O0
  obtain ⟨B, hBe⟩ : ∃ B, B = w.heap.size := ⟨_, rfl⟩
  have HE : Hid (B = w.heap.size) := hBe
  rw [← hBe] at R3 ⊢
  have c0 := blk_cells R3 0
  have c1 := blk_cells R3 1
  have c2 := blk_cells R3 2
  have c3 := blk_cells R3 3
  have z0 := blk_froz R3 0
  have z1 := blk_froz R3 1
  have z2 := blk_froz R3 2
  have z3 := blk_froz R3 3
  have HR3 : Hid (w1.heap[B]? = some (.cells #[.int .i64 0, .int .i64 0, .string ⟨#[]⟩, .slice none 0 0] 75)) := R3
  simp only [List.getElem?_toArray, List.getElem?_cons_zero, List.getElem?_cons_succ] at c0 c1 c2 c3
  clear R3 hBe
  go_wp2
  obtain ⟨p0, p1, p2, p3⟩ := set4 HR3.out rfl (.int .i64 x0) (.int .i64 x1) (.string x2) (.slice ao nn cap)
  have hBe : B = w.heap.size := HE.out
  have OB := @only4 w1 B (.int .i64 x0) (.int .i64 x1) (.string x2) (.slice ao nn cap)
  refine bodyPost_ret (results_v rfl _ _ B p0 p1 p2 p3 rfl) rfl ⟨_, rfl, G1.out.1 _ (by rw [← hBe]; exact OB), G1.out.2.trans OB (fun b h e => by omega)⟩
theorem itree_of (d : Nat) (H : TeC d 72 false) : TeC (d + 1) 36 true := by
  intro v t w S h hw
  rcases h with ⟨h1, h2, h3⟩ | ⟨h1, u, h3, h4⟩
  · obtain ⟨k, n, s, l⟩ := t
    dsimp only at h1 h2 h3
    subst h1 h3
    exact (tree_call s w).mono fun e w' g => ⟨_, g.1, nv_nil h2, g.2⟩
  · subst h3
    refine (itree_push u h4.form (t.k : Int) (vn t) (vs t) (fun lv w' => NvAt w' w.heap.size (d + 1) t lv) w fun w1 hlt o1 => ?_).mono fun e w' g => g
    have h5 : TrAt w1 S d false t u := h4.step (fun _ g => g) (fun a u _ hc => o1.cell hc (fun g => g)) (Nat.le_refl _)
    refine (H u t w1 S h5 hw).mono fun e w' g => ?_
    obtain ⟨lv, he, g⟩ := g
    obtain ⟨ao, cap, hf⟩ := g.out.1.form
    exact ⟨lv, he, ⟨ao, _, cap, hf⟩, fun w2 o2 => ((g.out.1.only o2 (fun b hb e => by omega)).lower (by omega)).deep (by omega), g.out.2⟩
end Go.Proofs.YtapehdolnljnoaaGreatDoor
namespace Go.Proofs.YtapehdolnljnoaaGreatDoor
open Go.RowKit
set_option linter.unusedSimpArgs false
set_option linter.unusedVariables false
set_option maxRecDepth 100000 in
theorem v_info : ∃ i z, Tryz.prog.info? 75 = some i ∧ i.zero = some z ∧ i.size = 4 ∧ i.bytes = 56 ∧ z.cells.size = 4 := ⟨_, _, rfl, rfl, rfl, rfl, rfl⟩
set_option maxRecDepth 100000 in
set_option maxHeartbeats 4000000 in
theorem trees_of (d : Nat) (H : TeC d 72 false) : TsC d 102 false := by
  intro v l w S hq hl hw
  obtain ⟨av, cv, rfl, hcv, hel⟩ := hq
  have HE : Hid (∀ (j : Nat) (x : Tre), l[j]? = some x → ∃ g k u, av = some ⟨g, k, none⟩ ∧ w.cell? ⟨g, k + j, none⟩ = some u ∧ ∀ w1, Only (fun _ => False) w w1 → Calls Tryz.prog 72 #[u] w1 fun e w' => ∃ lv, e = .returned (.agg #[.int .i64 (x.k : Int), .int .i64 (vn x), .string (vs x), lv]) ∧ Hid (NvAt w' w1.heap.size d x lv ∧ Only (fun _ => False) w1 w')) := by
    intro j x hx
    obtain ⟨g, k, u, ha, hg, hc, ht⟩ := hel j x hx
    exact ⟨g, k, u, ha, hc, fun w1 o1 => H u x w1 S (ht.step (fun _ g => g) (fun a u _ hc => o1.cell hc (fun g => g)) (Nat.le_refl _)) (hw x (List.mem_of_getElem? hx))⟩
  have HLB : Hid (l.length ≤ 4096) := hl
  clear hcv hel hl hw H
  obtain ⟨N, hN⟩ : ∃ N, N = l.length := ⟨_, rfl⟩
  have HNN : Hid (N = l.length) := hN
  rw [← hN]
  clear hN
  go_enter Tryz.func102, Tryz.ntmps102
  go_wp2
  go_loopw [3, 4] (fun r3 r4 wr => ∃ (i : Nat) (ao : Option Addr) (cap : Nat), r3 = .slice ao i cap ∧ r4 = .int .i64 (i : Int) ∧ i ≤ N ∧ Hid (VrAt wr w.heap.size d (.slice ao i cap) (l.take i) ∧ Only (fun _ => False) w wr)) (fun _ r4 _ => N - uOf r4)
  case atStart => exact ⟨0, none, 0, rfl, rfl, Nat.zero_le _, vr_nil _ _ _, Only.refl _ _⟩
  case round =>
    obtain ⟨i, ao, cap, rfl, rfl, hi, HI⟩ := hrel
    obtain ⟨w1, rfl⟩ : ∃ w1, w1 = wr := ⟨_, rfl⟩
    have hNl : N = l.length := HNN.out
    have hN4 : l.length ≤ 4096 := HLB.out
    by_cases hiN : i < N
    · obtain ⟨x, hx⟩ : ∃ x, l[i]? = some x := ⟨l[i]'(by omega), List.getElem?_eq_getElem (by omega)⟩
      obtain ⟨g, k, u, rfl, hc, hcall⟩ := HE.out i x hx
      have hc1 : w1.cell? ⟨g, k + i, none⟩ = some u := HI.out.2.cell hc (fun g => g)
      have HC : Hid (Calls Tryz.prog 72 #[u] w1 fun e w' => ∃ lv, e = .returned (.agg #[.int .i64 (x.k : Int), .int .i64 (vn x), .string (vs x), lv]) ∧ Hid (NvAt w' w1.heap.size d x lv ∧ Only (fun _ => False) w1 w')) := hcall w1 HI.out.2
      have HX : Hid (l.take i ++ [x] = l.take (i + 1) ∧ (l.take i).length = i) := by
        have hil : i < l.length := by omega
        refine ⟨?_, by simp; omega⟩
        rw [List.take_add_one, hx]
        rfl
      have HB : Hid (i < N ∧ N ≤ 4096) := ⟨hiN, by omega⟩
      have i1 : (i : Int) < (N : Int) := by omega
      have i0 : (0 : Int) ≤ (i : Int) := by omega
      clear hc hcall HE hNl hN4 hx
      obtain ⟨x0, hx0⟩ : ∃ x0, x0 = (x.k : Int) := ⟨_, rfl⟩
      obtain ⟨x1, hx1⟩ : ∃ x1, x1 = vn x := ⟨_, rfl⟩
      obtain ⟨x2, hx2⟩ : ∃ x2, x2 = vs x := ⟨_, rfl⟩
      have HXX : Hid (x0 = (x.k : Int) ∧ x1 = vn x ∧ x2 = vs x) := ⟨hx0, hx1, hx2⟩
      rw [← hx0, ← hx1, ← hx2] at HC
      clear hx0 hx1 hx2
      go_wp2_with fail
      refine (show Calls Tryz.prog 72 _ _ _ from HC.out).mono ?_
      rintro e w2 ⟨lv, rfl, g2⟩
      obtain ⟨al, cl, hlv⟩ := g2.out.1.form
      have W4 : VrAt (w2.alloc (.cells #[.int .i64 x0, .int .i64 x1, .string x2, lv] 75)) w.heap.size d (.slice ao i cap) (l.take i) := (HI.out.1.only g2.out.2 (fun _ _ h => h)).only ((Only.refl (fun _ => False) w2).alloc _) (fun _ _ h => h)
      have N4 : NvAt (w2.alloc (.cells #[.int .i64 x0, .int .i64 x1, .string x2, lv] 75)) w1.heap.size d x lv := g2.out.1.only ((Only.refl (fun _ => False) w2).alloc _) (fun _ _ h => h)
      have O4 : Only (fun _ => False) w (w2.alloc (.cells #[.int .i64 x0, .int .i64 x1, .string x2, lv] 75)) := (HI.out.2.trans g2.out.2 (fun _ _ g => g)).alloc _
      have hlt : ∀ k, (Value.slice ao i cap).ownBlock = some k → k < w1.heap.size := fun k hk => by
        obtain ⟨us, S', hr, _⟩ := HI.out.1
        exact (hr.lt k hk).2
      have hsz1 : w.heap.size ≤ w1.heap.size := HI.out.2.size
      have hsz2 : w1.heap.size ≤ w2.heap.size := g2.out.2.size
      obtain ⟨us, SS, hown, htr, hSS⟩ := W4
      rw [HX.out.2] at hown
      have HOW : Hid ((w2.alloc (.cells #[.int .i64 x0, .int .i64 x1, .string x2, lv] 75)).ownsRow w.heap.size 75 4 (.slice ao i cap) i us) := hown
      have HAL : Hid (_ ∧ _ ∧ NvAt (w2.alloc (.cells #[.int .i64 x0, .int .i64 x1, .string x2, lv] 75)) w1.heap.size d x lv ∧ Only (fun _ => False) w (w2.alloc (.cells #[.int .i64 x0, .int .i64 x1, .string x2, lv] 75)) ∧ w.heap.size ≤ w1.heap.size ∧ (∀ k, (Value.slice ao i cap).ownBlock = some k → k < w1.heap.size)) := ⟨htr, hSS, N4, O4, hsz1, hlt⟩
      subst hlv
      obtain ⟨i0', z0, hi', hz0, hz1, hz2, hz3⟩ := v_info
      obtain ⟨xl, hxl⟩ : ∃ xl, xl = x.l.length := ⟨_, rfl⟩
      rw [← hxl] at HOW HAL
      rw [← hxl]
      clear N4 O4 hown htr hSS hlt g2 HI HC hxl
      go_wp2_with (at_builtin; refine wpList_append_own_at _ rfl _ _ 33 rfl w.heap.size 75 i0' z0 4 56 Tryz.underlying33 hi' hz0 hz1 hz2 hz3 (by decide) _ i us rfl HOW.out ⟨w2.heap.size, 0, none⟩ 1 1 [.int .i64 x0, .int .i64 x1, .string x2, .slice al xl cl] rfl rfl ?c1 ?c2 ?c3 ?c4 ?c5 ?_)
      case c1 =>
        intro j u hj
        rcases j with _ | _ | _ | _ | j <;> simp at hj <;> subst hj <;> simp [Addr.add]
      case c2 =>
        intro u hu
        simp only [List.mem_cons, List.not_mem_nil, or_false] at hu
        rcases hu with rfl | rfl | rfl | rfl <;> rfl
      case c3 => have := HB.out; unfold maxLen; omega
      case c4 => have := HB.out; omega
      case c5 => simp; omega
      intro v' w4 hown' hgrow _ hat
      obtain ⟨a1, a2, a3, a4, a5, a6⟩ := HAL.out
      obtain ⟨e0, e1, e2⟩ := HXX.out
      have W5 : VrAt w4 w.heap.size d v' (l.take i ++ [x]) := VrAt.snoc hgrow (by rw [HX.out.2]; exact HOW.out) a1 a2 a3 a5 a6 (by rw [HX.out.2, ← e0, ← e1, ← e2]; exact hown') (by simpa using hat)
      rw [HX.out.1] at W5
      have og : Only (fun k => (Value.slice ao i cap).ownBlock = some k) (w2.alloc (.cells #[.int .i64 x0, .int .i64 x1, .string x2, .slice al xl cl] 75)) w4 := (Only.refl _ _).grown hgrow (fun k e _ => e)
      have O5 : Only (fun _ => False) w w4 := a4.trans og (fun k hk e => by have := (HOW.out.lt k e).1; omega)
      obtain ⟨ao', cap', hv'⟩ := W5.form
      have hlen : (l.take (i + 1)).length = i + 1 := by have : N = l.length := HNN.out; have := HB.out; simp; omega
      rw [hlen] at hv'
      subst hv'
      have HK5 : Hid (VrAt w4 w.heap.size d (.slice ao' (i + 1) cap') (l.take (i + 1)) ∧ Only (fun _ => False) w w4) := ⟨W5, O5⟩
      clear W5 O5 og HAL HOW hown' hgrow hat a1 a2 a3 a4 a5 a6 hi' hz0 hz1 hz2 hz3 hsz1 hsz2 e0 e1 e2 HXX hlen
      have hi4 : i ≤ 4096 := by have := HB.out; omega
      go_wp2
      go_roundw
      case rel => exact ⟨i + 1, ao', cap', rfl, by go_num, by omega, HK5⟩
      case measure => simp only [uOf]; have := HB.out; omega
    · obtain rfl : i = N := by omega
      have i1 : ¬ (i : Int) < (i : Int) := by omega
      have HK : Hid (VrAt w1 w.heap.size d (.slice ao i cap) l ∧ Only (fun _ => False) w w1) := by
        have := HI.out
        rw [hNl, List.take_length, ← hNl] at this
        exact this
      clear HI hNl hN4
      go_wp2
      go_ret
      exact ⟨ao, cap, rfl, HK⟩
set_option maxRecDepth 100000 in
set_option maxHeartbeats 4000000 in
theorem itrees_of (d : Nat) (H : TeC d 36 true) : TsC d 15 true := by
  intro v l w S hq hl hw
  obtain ⟨av, cv, rfl, hcv, hel⟩ := hq
  have HE : Hid (∀ (j : Nat) (x : Tre), l[j]? = some x → ∃ g k u, av = some ⟨g, k, none⟩ ∧ w.cell? ⟨g, k + j, none⟩ = some u ∧ ∀ w1, Only (fun _ => False) w w1 → Calls Tryz.prog 36 #[u] w1 fun e w' => ∃ lv, e = .returned (.agg #[.int .i64 (x.k : Int), .int .i64 (vn x), .string (vs x), lv]) ∧ Hid (NvAt w' w1.heap.size d x lv ∧ Only (fun _ => False) w1 w')) := by
    intro j x hx
    obtain ⟨g, k, u, ha, hg, hc, ht⟩ := hel j x hx
    exact ⟨g, k, u, ha, hc, fun w1 o1 => H u x w1 S (ht.step (fun _ g => g) (fun a u _ hc => o1.cell hc (fun g => g)) (Nat.le_refl _)) (hw x (List.mem_of_getElem? hx))⟩
  have HLB : Hid (l.length ≤ 4096) := hl
  clear hcv hel hl hw H
  obtain ⟨N, hN⟩ : ∃ N, N = l.length := ⟨_, rfl⟩
  have HNN : Hid (N = l.length) := hN
  rw [← hN]
  clear hN
  go_enter Tryz.func15, Tryz.ntmps15
  go_wp2
  go_loopw [3, 4] (fun r3 r4 wr => ∃ (i : Nat) (ao : Option Addr) (cap : Nat), r3 = .slice ao i cap ∧ r4 = .int .i64 (i : Int) ∧ i ≤ N ∧ Hid (VrAt wr w.heap.size d (.slice ao i cap) (l.take i) ∧ Only (fun _ => False) w wr)) (fun _ r4 _ => N - uOf r4)
  case atStart => exact ⟨0, none, 0, rfl, rfl, Nat.zero_le _, vr_nil _ _ _, Only.refl _ _⟩
  case round =>
    obtain ⟨i, ao, cap, rfl, rfl, hi, HI⟩ := hrel
    obtain ⟨w1, rfl⟩ : ∃ w1, w1 = wr := ⟨_, rfl⟩
    have hNl : N = l.length := HNN.out
    have hN4 : l.length ≤ 4096 := HLB.out
    by_cases hiN : i < N
    · obtain ⟨x, hx⟩ : ∃ x, l[i]? = some x := ⟨l[i]'(by omega), List.getElem?_eq_getElem (by omega)⟩
      obtain ⟨g, k, u, rfl, hc, hcall⟩ := HE.out i x hx
      have hc1 : w1.cell? ⟨g, k + i, none⟩ = some u := HI.out.2.cell hc (fun g => g)
      have HC : Hid (Calls Tryz.prog 36 #[u] w1 fun e w' => ∃ lv, e = .returned (.agg #[.int .i64 (x.k : Int), .int .i64 (vn x), .string (vs x), lv]) ∧ Hid (NvAt w' w1.heap.size d x lv ∧ Only (fun _ => False) w1 w')) := hcall w1 HI.out.2
      have HX : Hid (l.take i ++ [x] = l.take (i + 1) ∧ (l.take i).length = i) := by
        have hil : i < l.length := by omega
        refine ⟨?_, by simp; omega⟩
        rw [List.take_add_one, hx]
        rfl
      have HB : Hid (i < N ∧ N ≤ 4096) := ⟨hiN, by omega⟩
      have i1 : (i : Int) < (N : Int) := by omega
      have i0 : (0 : Int) ≤ (i : Int) := by omega
      clear hc hcall HE hNl hN4 hx
      obtain ⟨x0, hx0⟩ : ∃ x0, x0 = (x.k : Int) := ⟨_, rfl⟩
      obtain ⟨x1, hx1⟩ : ∃ x1, x1 = vn x := ⟨_, rfl⟩
      obtain ⟨x2, hx2⟩ : ∃ x2, x2 = vs x := ⟨_, rfl⟩
      have HXX : Hid (x0 = (x.k : Int) ∧ x1 = vn x ∧ x2 = vs x) := ⟨hx0, hx1, hx2⟩
      rw [← hx0, ← hx1, ← hx2] at HC
      clear hx0 hx1 hx2
      go_wp2_with fail
      refine (show Calls Tryz.prog 36 _ _ _ from HC.out).mono ?_
      rintro e w2 ⟨lv, rfl, g2⟩
      obtain ⟨al, cl, hlv⟩ := g2.out.1.form
      have W4 : VrAt (w2.alloc (.cells #[.int .i64 x0, .int .i64 x1, .string x2, lv] 75)) w.heap.size d (.slice ao i cap) (l.take i) := (HI.out.1.only g2.out.2 (fun _ _ h => h)).only ((Only.refl (fun _ => False) w2).alloc _) (fun _ _ h => h)
      have N4 : NvAt (w2.alloc (.cells #[.int .i64 x0, .int .i64 x1, .string x2, lv] 75)) w1.heap.size d x lv := g2.out.1.only ((Only.refl (fun _ => False) w2).alloc _) (fun _ _ h => h)
      have O4 : Only (fun _ => False) w (w2.alloc (.cells #[.int .i64 x0, .int .i64 x1, .string x2, lv] 75)) := (HI.out.2.trans g2.out.2 (fun _ _ g => g)).alloc _
      have hlt : ∀ k, (Value.slice ao i cap).ownBlock = some k → k < w1.heap.size := fun k hk => by
        obtain ⟨us, S', hr, _⟩ := HI.out.1
        exact (hr.lt k hk).2
      have hsz1 : w.heap.size ≤ w1.heap.size := HI.out.2.size
      have hsz2 : w1.heap.size ≤ w2.heap.size := g2.out.2.size
      obtain ⟨us, SS, hown, htr, hSS⟩ := W4
      rw [HX.out.2] at hown
      have HOW : Hid ((w2.alloc (.cells #[.int .i64 x0, .int .i64 x1, .string x2, lv] 75)).ownsRow w.heap.size 75 4 (.slice ao i cap) i us) := hown
      have HAL : Hid (_ ∧ _ ∧ NvAt (w2.alloc (.cells #[.int .i64 x0, .int .i64 x1, .string x2, lv] 75)) w1.heap.size d x lv ∧ Only (fun _ => False) w (w2.alloc (.cells #[.int .i64 x0, .int .i64 x1, .string x2, lv] 75)) ∧ w.heap.size ≤ w1.heap.size ∧ (∀ k, (Value.slice ao i cap).ownBlock = some k → k < w1.heap.size)) := ⟨htr, hSS, N4, O4, hsz1, hlt⟩
      subst hlv
      obtain ⟨i0', z0, hi', hz0, hz1, hz2, hz3⟩ := v_info
      obtain ⟨xl, hxl⟩ : ∃ xl, xl = x.l.length := ⟨_, rfl⟩
      rw [← hxl] at HOW HAL
      rw [← hxl]
      clear N4 O4 hown htr hSS hlt g2 HI HC hxl
      go_wp2_with (at_builtin; refine wpList_append_own_at _ rfl _ _ 33 rfl w.heap.size 75 i0' z0 4 56 Tryz.underlying33 hi' hz0 hz1 hz2 hz3 (by decide) _ i us rfl HOW.out ⟨w2.heap.size, 0, none⟩ 1 1 [.int .i64 x0, .int .i64 x1, .string x2, .slice al xl cl] rfl rfl ?c1 ?c2 ?c3 ?c4 ?c5 ?_)
      case c1 =>
        intro j u hj
        rcases j with _ | _ | _ | _ | j <;> simp at hj <;> subst hj <;> simp [Addr.add]
      case c2 =>
        intro u hu
        simp only [List.mem_cons, List.not_mem_nil, or_false] at hu
        rcases hu with rfl | rfl | rfl | rfl <;> rfl
      case c3 => have := HB.out; unfold maxLen; omega
      case c4 => have := HB.out; omega
      case c5 => simp; omega
      intro v' w4 hown' hgrow _ hat
      obtain ⟨a1, a2, a3, a4, a5, a6⟩ := HAL.out
      obtain ⟨e0, e1, e2⟩ := HXX.out
      have W5 : VrAt w4 w.heap.size d v' (l.take i ++ [x]) := VrAt.snoc hgrow (by rw [HX.out.2]; exact HOW.out) a1 a2 a3 a5 a6 (by rw [HX.out.2, ← e0, ← e1, ← e2]; exact hown') (by simpa using hat)
      rw [HX.out.1] at W5
      have og : Only (fun k => (Value.slice ao i cap).ownBlock = some k) (w2.alloc (.cells #[.int .i64 x0, .int .i64 x1, .string x2, .slice al xl cl] 75)) w4 := (Only.refl _ _).grown hgrow (fun k e _ => e)
      have O5 : Only (fun _ => False) w w4 := a4.trans og (fun k hk e => by have := (HOW.out.lt k e).1; omega)
      obtain ⟨ao', cap', hv'⟩ := W5.form
      have hlen : (l.take (i + 1)).length = i + 1 := by have : N = l.length := HNN.out; have := HB.out; simp; omega
      rw [hlen] at hv'
      subst hv'
      have HK5 : Hid (VrAt w4 w.heap.size d (.slice ao' (i + 1) cap') (l.take (i + 1)) ∧ Only (fun _ => False) w w4) := ⟨W5, O5⟩
      clear W5 O5 og HAL HOW hown' hgrow hat a1 a2 a3 a4 a5 a6 hi' hz0 hz1 hz2 hz3 hsz1 hsz2 e0 e1 e2 HXX hlen
      have hi4 : i ≤ 4096 := by have := HB.out; omega
      go_wp2
      go_roundw
      case rel => exact ⟨i + 1, ao', cap', rfl, by go_num, by omega, HK5⟩
      case measure => simp only [uOf]; have := HB.out; omega
    · obtain rfl : i = N := by omega
      have i1 : ¬ (i : Int) < (i : Int) := by omega
      have HK : Hid (VrAt w1 w.heap.size d (.slice ao i cap) l ∧ Only (fun _ => False) w w1) := by
        have := HI.out
        rw [hNl, List.take_length, ← hNl] at this
        exact this
      clear HI hNl hN4
      go_wp2
      go_ret
      exact ⟨ao, cap, rfl, HK⟩
theorem trees_any : ∀ (d d' : Nat), d' < d → TeC d' 72 false ∧ TeC d' 36 true
  | 0, d', h => by omega
  | d + 1, d', h => by
    have ih := trees_any d
    by_cases hd : d' < d
    · exact ih d' hd
    · obtain rfl : d' = d := by omega
      cases d' with
      | zero => exact ⟨fun v t w S h => h.elim, fun v t w S h => h.elim⟩
      | succ e => exact ⟨tree_of e (trees_of e (ih e (by omega)).1) (itrees_of e (ih e (by omega)).2), itree_of e (ih e (by omega)).1⟩
theorem itrees_any (d : Nat) : TsC d 15 true := itrees_of d (trees_any (d + 1) d (by omega)).2
end Go.Proofs.YtapehdolnljnoaaGreatDoor
