/- The document's reader: literals that hold no others. -/
import Derived.Test.YtfecmpebnianpaaGreatDoorGas
import Derived.Test.YtfecmpebnianpaaGreatDoorGaf
import Derived.Test.YtfecmpebnianpaaGreatDoorGaj
namespace Go.Proofs.YtfecmpebnianpaaGreatDoor
open Go.RowKit
set_option linter.unusedSimpArgs false
set_option linter.unusedVariables false
/-- the document's tree as a value -/
def rV (k n : Int) (s : ByteArray) (lv : Value) : Value := .agg #[.int .i64 k, .int .i64 n, .string s, lv]
/-- what count comes to -/
def CnP (R : Nat) (v : Value) (tl : List Tok) (nx : Nat) (n o s : Int) (w w' : World) : Prop :=
  (¬ (o ≠ 0 ∧ s = 1024) ∧ RrW R v tl ((nx + 1 : Nat) : Int) n o (if o = 0 then s else s + 1) 0 0 w w') ∨ ((o ≠ 0 ∧ s = 1024) ∧ RrF R v tl n (atR tl nx n) 11 w w')
theorem rcnt_any (R : Nat) (v : Value) (tl : List Tok) (nx : Nat) (n o s : Int) (w : World) (ho : 0 ≤ o) (hs : 0 ≤ s) (hs1 : s ≤ 1024) (hx : nx ≤ 1000000) (h : RrAt w R v tl (nx : Int) n o s 0 0) :
    Calls Tryz.prog 79 #[.pointer (some ⟨R, 0, none⟩)] w fun x w' => x = .returned (.tuple #[]) ∧ Hid (CnP R v tl nx n o s w w') := by
  by_cases h0 : o = 0
  · subst h0
    exact (rcount_out R v tl nx n s 0 0 w hx h).mono fun x w' g => ⟨g.1, .inl ⟨by simp, by simpa using g.2.out⟩⟩
  · by_cases h1 : s = 1024
    · subst h1
      refine (rcount_over R v tl nx n o 1024 0 0 w (by omega) (by omega) (by omega) hx h).mono fun x w' g => ⟨g.1, .inr ⟨⟨h0, rfl⟩, nx + 1, o, 1024 + 1, ?_, g.2.out.2⟩⟩
      have := g.2.out.1
      simpa using this
    · exact (rcount_in R v tl nx n o s 0 0 w (by omega) hs (by omega) hx h).mono fun x w' g => ⟨g.1, .inl ⟨fun g => h1 g.2, by rw [if_neg h0]; exact g.2.out⟩⟩
theorem RrAt.other {w w' : World} {R N : Nat} {v : Value} {tl : List Tok} {nx n o s fa e : Int} (h : RrAt w R v tl nx n o s fa e) (hN : R < N) (oo : Only (fun b => b = N) w w') : RrAt w' R v tl nx n o s fa e :=
  ⟨(oo.block R (Array.getElem?_eq_some_iff.1 h.blk).1 (by omega)).trans h.blk, h.tks.onlyR (fun b hb e => by omega) oo⟩
/-- steps ahead of a call on the reader, and behind it in a block of one's own -/
theorem only_fin {w W1 w2 w3 : World} {R N : Nat} (o1 : Only (fun b => b = R) w W1) (o2 : Only (fun b => b = R) W1 w2) (o3 : Only (fun b => b = N) w2 w3) (hN : w.heap.size ≤ N) : Only (fun b => b = R) w w3 :=
  (o1.trans o2 (fun _ _ g => g)).trans o3 (fun i hi g => by omega)
theorem RrW.fin {R N : Nat} {v : Value} {tl : List Tok} {nx n o s fa e : Int} {w W1 w2 w3 : World} (h : RrW R v tl nx n o s fa e W1 w2) (o1 : Only (fun b => b = R) w W1) (o3 : Only (fun b => b = N) w2 w3) (hN : w.heap.size ≤ N) (hR : R < N) : RrW R v tl nx n o s fa e w w3 :=
  ⟨h.1.other hR o3, only_fin o1 h.2 o3 hN⟩
theorem RrF.fin {R N : Nat} {v : Value} {tl : List Tok} {n a e : Int} {w W1 w2 w3 : World} (h : RrF R v tl n a e W1 w2) (o1 : Only (fun b => b = R) w W1) (o3 : Only (fun b => b = N) w2 w3) (hN : w.heap.size ≤ N) (hR : R < N) : RrF R v tl n a e w w3 := by
  obtain ⟨nx, o, s, h1, h2⟩ := h
  exact ⟨nx, o, s, h1.other hR o3, only_fin o1 h2 o3 hN⟩
theorem CnP.on {R : Nat} {v : Value} {tl : List Tok} {nx : Nat} {n o s : Int} {w w' : World} (h : CnP R v tl nx n o s w w') : Only (fun b => b = R) w w' := by
  rcases h with ⟨_, h⟩ | ⟨_, _, _, _, _, h⟩
  · exact h.2
  · exact h
theorem CnP.fin {R N : Nat} {v : Value} {tl : List Tok} {nx : Nat} {n o s : Int} {w W1 w2 w3 : World} (h : CnP R v tl nx n o s W1 w2) (o1 : Only (fun b => b = R) w W1) (o3 : Only (fun b => b = N) w2 w3) (hN : w.heap.size ≤ N) (hR : R < N) : CnP R v tl nx n o s w w3 := by
  rcases h with ⟨h0, h⟩ | ⟨h0, h⟩
  · exact .inl ⟨h0, h.fin o1 o3 hN hR⟩
  · exact .inr ⟨h0, h.fin o1 o3 hN hR⟩
theorem results_vb {fn : Func} {t u : Tmp} (h : fn.results = #[.cell u 100, .tmp t]) (tmps : Array Value) (w : World) (B : Nat) {x y z r : Value} (h0 : w.cell? ⟨B, 0, none⟩ = some x) (h1 : w.cell? ⟨B, 1, none⟩ = some y) (h2 : w.cell? ⟨B, 2, none⟩ = some z) (h3 : w.cell? ⟨B, 3, none⟩ = some r) (ha : tmps.getD u undef = .pointer (some ⟨B, 0, none⟩)) :
    (results fn tmps).run Tryz.prog w = .ok (.tuple #[.agg #[x, y, z, r], tmps.getD t undef]) w := by
  have ha' : tmps[u]?.getD undef = .pointer (some ⟨B, 0, none⟩) := by simpa using ha
  simp [results, h, ha', asAddr, go_sem, loadVar, isAgg, Tryz.underlying100, h0, h1, h2, h3]
theorem on4 (w : World) (N : Nat) (x y z r : Value) : Only (fun b => b = N) w ((((w.setCell ⟨N, 0, none⟩ x).setCell ⟨N, 1, none⟩ y).setCell ⟨N, 2, none⟩ z).setCell ⟨N, 3, none⟩ r) :=
  onlyR_set (onlyR_set (onlyR_set (onlyR_set (Only.refl _ w))))
set_option maxRecDepth 100000 in
set_option maxHeartbeats 2000000 in
/-- nothing is left -/
theorem rl_nil (R : Nat) (v : Value) (tl : List Tok) (nx : Nat) (n o s : Int) (w : World) (hn : tl.length ≤ nx) (h : RrAt w R v tl (nx : Int) n o s 0 0) :
    Calls Tryz.prog 77 #[.pointer (some ⟨R, 0, none⟩)] w fun x w' => x = .returned (.tuple #[rV 0 0 ⟨#[]⟩ (.slice none 0 0), .bool false]) ∧ Hid (RrAt w' R v tl (nx : Int) n o s 0 0 ∧ Only (fun _ => False) w w') := by
  unfold rV
  have H0 : Hid (RrAt w R v tl (nx : Int) n o s 0 0) := h
  obtain ⟨k0, k1, _, _, _, _, k6⟩ := (h.only ((Only.refl (fun _ => False) w).alloc (.cells #[.int .i64 0, .int .i64 0, .string ⟨#[]⟩, .slice none 0 0] 100))).blk.cells
  obtain ⟨ao, cap, rfl, hcap, hq⟩ := h.tks
  obtain ⟨L, hL⟩ : ∃ L, L = tl.length := ⟨_, rfl⟩
  rw [← hL] at k0 H0 ⊢
  have i6 : decide (L ≤ nx) = true := by simp; omega
  have i2 : (L : Int) ≤ (nx : Int) := by omega
  obtain ⟨N, hN⟩ : ∃ N, N = w.heap.size := ⟨_, rfl⟩
  have hRN : R < N := by rw [hN]; exact h.lt
  have HRN : Hid (R < N ∧ w.heap.size ≤ N) := ⟨hRN, by omega⟩
  clear hq hcap hL hn h hRN
  go_enter Tryz.func77, Tryz.ntmps77
  go_wp2
  go_quiet (fail)
  rw [← hN]
  obtain ⟨W1, hW1⟩ : ∃ W1, W1 = (w.alloc (.cells #[.int .i64 0, .int .i64 0, .string ⟨#[]⟩, .slice none 0 0] 100)).drewN nq := ⟨_, rfl⟩
  have O1 : Only (fun _ => False) w W1 := by rw [hW1]; exact ((Only.refl _ w).alloc _).drewN _
  have hV2 : W1.heap[N]? = some (.cells #[.int .i64 0, .int .i64 0, .string ⟨#[]⟩, .slice none 0 0] 100) := by rw [hW1]; exact alloc_at _ _ _ hN
  have HO1 : Hid (Only (fun _ => False) w W1 ∧ RrAt W1 R (.slice ao L cap) tl (nx : Int) n o s 0 0 ∧ W1.heap[N]? = some (.cells #[.int .i64 0, .int .i64 0, .string ⟨#[]⟩, .slice none 0 0] 100)) := ⟨O1, H0.out.only O1, hV2⟩
  rw [← hW1]
  have e0 := blk_cells hV2 0
  have e1 := blk_cells hV2 1
  have e2 := blk_cells hV2 2
  have e3 := blk_cells hV2 3
  have z0 := blk_froz hV2 0
  have z1 := blk_froz hV2 1
  have z2 := blk_froz hV2 2
  have z3 := blk_froz hV2 3
  simp only [List.getElem?_toArray, List.getElem?_cons_zero, List.getElem?_cons_succ] at e0 e1 e2 e3
  clear k0 k1 k6 hW1 O1 hV2 hN H0
  go_wp2
  obtain ⟨q0, q1, q2, q3⟩ := set4 HO1.out.2.2 rfl (.int .i64 0) (.int .i64 0) (.string ⟨#[]⟩) (.slice none 0 0)
  refine bodyPost_ret (results_vb rfl _ _ N q0 q1 q2 q3 rfl) rfl ?_
  exact ⟨rfl, HO1.out.2.1.other HRN.out.1 (on4 W1 N _ _ _ _), HO1.out.1.trans (on4 W1 N _ _ _ _) (fun i hi e => by have := HRN.out.2; omega)⟩
set_option maxRecDepth 100000 in
set_option maxHeartbeats 4000000 in
theorem rl_num (R : Nat) (v : Value) (tl : List Tok) (nx : Nat) (n o s : Int) (tk : Int) (tt : ByteArray) (tn ta : Int) (w : World) (ho : 0 ≤ o) (hs : 0 ≤ s) (hs1 : s ≤ 1024) (hx : nx ≤ 1000000) (ht : tl[nx]? = some ⟨2, tt, tn, ta⟩) (h : RrAt w R v tl (nx : Int) n o s 0 0) :
    Calls Tryz.prog 77 #[.pointer (some ⟨R, 0, none⟩)] w fun x w' => x = .returned (.tuple #[rV 1 tn ⟨#[]⟩ (.slice none 0 0), .bool true]) ∧ Hid (CnP R v tl nx n o s w w') := by
  unfold rV
  have HB : Hid (0 ≤ o ∧ 0 ≤ s ∧ s ≤ 1024 ∧ nx ≤ 1000000) := ⟨ho, hs, hs1, hx⟩
  clear ho hs hs1 hx
  have hn : nx < tl.length := (List.getElem?_eq_some_iff.1 ht).1
  have hlt := h.lt
  obtain ⟨ao, cap, rfl, hcap, hq0⟩ := h.tks
  obtain ⟨g, k, rfl, _⟩ := hq0 nx _ ht
  clear hcap hq0
  obtain ⟨L, hL⟩ : ∃ L, L = tl.length := ⟨_, rfl⟩
  rw [← hL] at h ⊢
  have HL : Hid (L = tl.length) := hL
  have H0 : Hid (RrAt w R (.slice (some ⟨g, k, none⟩) L cap) tl (nx : Int) n o s 0 0) := h
  have HT0 : Hid (tl[nx]? = some ⟨2, tt, tn, ta⟩) := ht
  obtain ⟨k0, k1, _, _, _, _, k6⟩ := (h.only ((Only.refl (fun _ => False) w).alloc (.cells #[.int .i64 0, .int .i64 0, .string ⟨#[]⟩, .slice none 0 0] 100))).blk.cells
  have i1 : (nx : Int) < (L : Int) := by omega
  have i0 : (0 : Int) ≤ (nx : Int) := by omega
  have i6 : decide (L ≤ nx) = false := by simp; omega
  obtain ⟨N, hN⟩ : ∃ N, N = w.heap.size := ⟨_, rfl⟩
  have HRN : Hid (R < N ∧ w.heap.size ≤ N) := ⟨by omega, by omega⟩
  clear hL ht h hn hlt
  go_enter Tryz.func77, Tryz.ntmps77
  go_wp2
  go_quiet (fail)
  rw [← hN]
  obtain ⟨W1, hW1⟩ : ∃ W1, W1 = (w.alloc (.cells #[.int .i64 0, .int .i64 0, .string ⟨#[]⟩, .slice none 0 0] 100)).drewN nq := ⟨_, rfl⟩
  have O1 : Only (fun _ => False) w W1 := by rw [hW1]; exact ((Only.refl _ w).alloc _).drewN _
  have V1 : W1.heap[N]? = some (.cells #[.int .i64 0, .int .i64 0, .string ⟨#[]⟩, .slice none 0 0] 100) := by rw [hW1]; exact alloc_at _ _ _ hN
  rw [← hW1]
  clear k0 k1 k6 hW1
  have A1 := H0.out.only O1
  obtain ⟨k0, k1, _, _, _, _, k6⟩ := A1.blk.cells
  obtain ⟨_, _, hv, _, hq⟩ := A1.tks
  injection hv with hv1 hv2 hv3
  subst hv1 hv3
  obtain ⟨g', k', hgk, _, c0, c1, c2, c3⟩ := hq nx _ HT0.out
  injection hgk with hgk
  injection hgk with hg hk
  subst hg hk
  dsimp only at c0 c1 c2 c3
  have HO1 : Hid (Only (fun _ => False) w W1 ∧ RrAt W1 R (.slice (some ⟨g, k, none⟩) L cap) tl (nx : Int) n o s 0 0 ∧ W1.heap[N]? = some (.cells #[.int .i64 0, .int .i64 0, .string ⟨#[]⟩, .slice none 0 0] 100)) := ⟨O1, A1, V1⟩
  have K0 := fun x => alloc_cell W1 _ x _ k0
  have K1 := fun x => alloc_cell W1 _ x _ k1
  have C0 := fun x => alloc_cell W1 _ x _ c0
  have C1 := fun x => alloc_cell W1 _ x _ c1
  have C2 := fun x => alloc_cell W1 _ x _ c2
  have C3 := fun x => alloc_cell W1 _ x _ c3
  clear O1 A1 V1 hq H0 hv2 hN
  go_wp2
  go_region
  obtain ⟨T, hT⟩ : ∃ T, T = W1.heap.size := ⟨_, rfl⟩
  obtain ⟨W2, hW2⟩ : ∃ W2, W2 = (W1.alloc (.cells #[.int .i64 2, .string tt, .int .i64 tn, .int .i64 ta] 152)).drew := ⟨_, rfl⟩
  have O2 : Only (fun _ => False) W1 W2 := by rw [hW2]; exact ((Only.refl _ W1).alloc _).drew
  have T2 : W2.heap[T]? = some (.cells #[.int .i64 2, .string tt, .int .i64 tn, .int .i64 ta] 152) := by rw [hW2]; exact alloc_at _ _ _ hT
  have V2 : W2.heap[N]? = some (.cells #[.int .i64 0, .int .i64 0, .string ⟨#[]⟩, .slice none 0 0] 100) := (O2.block N (Array.getElem?_eq_some_iff.1 HO1.out.2.2).1 (fun g => g)).trans HO1.out.2.2
  have A2 := HO1.out.2.1.only O2
  have NT : N < T := by rw [hT]; exact (Array.getElem?_eq_some_iff.1 HO1.out.2.2).1
  have H2 : Hid (Only (fun b => b = R) w W2 ∧ RrAt W2 R (.slice (some ⟨g, k, none⟩) L cap) tl (nx : Int) n o s 0 0 ∧ W2.heap[T]? = some (.cells #[.int .i64 2, .string tt, .int .i64 tn, .int .i64 ta] 152) ∧ W2.heap[N]? = some (.cells #[.int .i64 0, .int .i64 0, .string ⟨#[]⟩, .slice none 0 0] 100) ∧ N < T ∧ Only (fun _ => False) w W2) := ⟨(HO1.out.1.trans O2 (fun _ _ g => g)).mono (fun _ _ h => h.elim), A2, T2, V2, NT, HO1.out.1.trans O2 (fun _ _ g => g)⟩
  have t0 := blk_cells T2 0
  have t1 := blk_cells T2 1
  have t2 := blk_cells T2 2
  simp only [List.getElem?_toArray, List.getElem?_cons_zero, List.getElem?_cons_succ] at t0 t1 t2
  rw [← hW2, ← hT]
  clear k0 k1 k6 c0 c1 c2 c3 K0 K1 C0 C1 C2 C3 O2 T2 V2 A2 NT hT hW2 HO1
  have HC : Hid (Calls Tryz.prog 79 #[.pointer (some ⟨R, 0, none⟩)] W2 fun x w' => x = .returned (.tuple #[]) ∧ Hid (CnP R (.slice (some ⟨g, k, none⟩) L cap) tl nx n o s W2 w')) := rcnt_any R _ tl nx n o s W2 HB.out.1 HB.out.2.1 HB.out.2.2.1 HB.out.2.2.2 H2.out.2.1
  go_wp2_with fail
  refine (show Calls Tryz.prog 79 _ _ _ from HC.out).mono ?_
  rintro x w3 ⟨rfl, g3⟩
  clear HC t0 t1 t2
  have hT2 := (g3.out.on.block T (Array.getElem?_eq_some_iff.1 H2.out.2.2.1).1 (by have := H2.out.2.2.2.2.1; have := HRN.out.1; omega)).trans H2.out.2.2.1
  have hV2 := (g3.out.on.block N (Array.getElem?_eq_some_iff.1 H2.out.2.2.2.1).1 (by have := HRN.out.1; omega)).trans H2.out.2.2.2.1
  have HV : Hid (w3.heap[N]? = some _) := hV2
  have t1 := blk_cells hT2 1
  have t2 := blk_cells hT2 2
  simp only [List.getElem?_toArray, List.getElem?_cons_zero, List.getElem?_cons_succ] at t1 t2
  have e0 := blk_cells hV2 0
  have e1 := blk_cells hV2 1
  have e2 := blk_cells hV2 2
  have e3 := blk_cells hV2 3
  have z0 := blk_froz hV2 0
  have z1 := blk_froz hV2 1
  have z2 := blk_froz hV2 2
  have z3 := blk_froz hV2 3
  simp only [List.getElem?_toArray, List.getElem?_cons_zero, List.getElem?_cons_succ] at e0 e1 e2 e3
  clear hT2 hV2
  go_wp2
  obtain ⟨q0, q1, q2, q3⟩ := set4 HV.out rfl (.int .i64 1) (.int .i64 tn) (.string ⟨#[]⟩) (.slice none 0 0)
  refine bodyPost_ret (results_vb rfl _ _ N q0 q1 q2 q3 rfl) rfl ?_
  exact ⟨rfl, g3.out.fin H2.out.1 (on4 w3 N _ _ _ _) HRN.out.2 HRN.out.1⟩
set_option maxRecDepth 100000 in
set_option maxHeartbeats 4000000 in
theorem rl_str (R : Nat) (v : Value) (tl : List Tok) (nx : Nat) (n o s : Int) (tk : Int) (tt : ByteArray) (tn ta : Int) (w : World) (ho : 0 ≤ o) (hs : 0 ≤ s) (hs1 : s ≤ 1024) (hx : nx ≤ 1000000) (ht : tl[nx]? = some ⟨3, tt, tn, ta⟩) (h : RrAt w R v tl (nx : Int) n o s 0 0) :
    Calls Tryz.prog 77 #[.pointer (some ⟨R, 0, none⟩)] w fun x w' => x = .returned (.tuple #[rV 2 0 tt (.slice none 0 0), .bool true]) ∧ Hid (CnP R v tl nx n o s w w') := by
  unfold rV
  have HB : Hid (0 ≤ o ∧ 0 ≤ s ∧ s ≤ 1024 ∧ nx ≤ 1000000) := ⟨ho, hs, hs1, hx⟩
  clear ho hs hs1 hx
  have hn : nx < tl.length := (List.getElem?_eq_some_iff.1 ht).1
  have hlt := h.lt
  obtain ⟨ao, cap, rfl, hcap, hq0⟩ := h.tks
  obtain ⟨g, k, rfl, _⟩ := hq0 nx _ ht
  clear hcap hq0
  obtain ⟨L, hL⟩ : ∃ L, L = tl.length := ⟨_, rfl⟩
  rw [← hL] at h ⊢
  have HL : Hid (L = tl.length) := hL
  have H0 : Hid (RrAt w R (.slice (some ⟨g, k, none⟩) L cap) tl (nx : Int) n o s 0 0) := h
  have HT0 : Hid (tl[nx]? = some ⟨3, tt, tn, ta⟩) := ht
  obtain ⟨k0, k1, _, _, _, _, k6⟩ := (h.only ((Only.refl (fun _ => False) w).alloc (.cells #[.int .i64 0, .int .i64 0, .string ⟨#[]⟩, .slice none 0 0] 100))).blk.cells
  have i1 : (nx : Int) < (L : Int) := by omega
  have i0 : (0 : Int) ≤ (nx : Int) := by omega
  have i6 : decide (L ≤ nx) = false := by simp; omega
  obtain ⟨N, hN⟩ : ∃ N, N = w.heap.size := ⟨_, rfl⟩
  have HRN : Hid (R < N ∧ w.heap.size ≤ N) := ⟨by omega, by omega⟩
  clear hL ht h hn hlt
  go_enter Tryz.func77, Tryz.ntmps77
  go_wp2
  go_quiet (fail)
  rw [← hN]
  obtain ⟨W1, hW1⟩ : ∃ W1, W1 = (w.alloc (.cells #[.int .i64 0, .int .i64 0, .string ⟨#[]⟩, .slice none 0 0] 100)).drewN nq := ⟨_, rfl⟩
  have O1 : Only (fun _ => False) w W1 := by rw [hW1]; exact ((Only.refl _ w).alloc _).drewN _
  have V1 : W1.heap[N]? = some (.cells #[.int .i64 0, .int .i64 0, .string ⟨#[]⟩, .slice none 0 0] 100) := by rw [hW1]; exact alloc_at _ _ _ hN
  rw [← hW1]
  clear k0 k1 k6 hW1
  have A1 := H0.out.only O1
  obtain ⟨k0, k1, _, _, _, _, k6⟩ := A1.blk.cells
  obtain ⟨_, _, hv, _, hq⟩ := A1.tks
  injection hv with hv1 hv2 hv3
  subst hv1 hv3
  obtain ⟨g', k', hgk, _, c0, c1, c2, c3⟩ := hq nx _ HT0.out
  injection hgk with hgk
  injection hgk with hg hk
  subst hg hk
  dsimp only at c0 c1 c2 c3
  have HO1 : Hid (Only (fun _ => False) w W1 ∧ RrAt W1 R (.slice (some ⟨g, k, none⟩) L cap) tl (nx : Int) n o s 0 0 ∧ W1.heap[N]? = some (.cells #[.int .i64 0, .int .i64 0, .string ⟨#[]⟩, .slice none 0 0] 100)) := ⟨O1, A1, V1⟩
  have K0 := fun x => alloc_cell W1 _ x _ k0
  have K1 := fun x => alloc_cell W1 _ x _ k1
  have C0 := fun x => alloc_cell W1 _ x _ c0
  have C1 := fun x => alloc_cell W1 _ x _ c1
  have C2 := fun x => alloc_cell W1 _ x _ c2
  have C3 := fun x => alloc_cell W1 _ x _ c3
  clear O1 A1 V1 hq H0 hv2 hN
  go_wp2
  go_region
  obtain ⟨T, hT⟩ : ∃ T, T = W1.heap.size := ⟨_, rfl⟩
  obtain ⟨W2, hW2⟩ : ∃ W2, W2 = (W1.alloc (.cells #[.int .i64 3, .string tt, .int .i64 tn, .int .i64 ta] 152)).drew := ⟨_, rfl⟩
  have O2 : Only (fun _ => False) W1 W2 := by rw [hW2]; exact ((Only.refl _ W1).alloc _).drew
  have T2 : W2.heap[T]? = some (.cells #[.int .i64 3, .string tt, .int .i64 tn, .int .i64 ta] 152) := by rw [hW2]; exact alloc_at _ _ _ hT
  have V2 : W2.heap[N]? = some (.cells #[.int .i64 0, .int .i64 0, .string ⟨#[]⟩, .slice none 0 0] 100) := (O2.block N (Array.getElem?_eq_some_iff.1 HO1.out.2.2).1 (fun g => g)).trans HO1.out.2.2
  have A2 := HO1.out.2.1.only O2
  have NT : N < T := by rw [hT]; exact (Array.getElem?_eq_some_iff.1 HO1.out.2.2).1
  have H2 : Hid (Only (fun b => b = R) w W2 ∧ RrAt W2 R (.slice (some ⟨g, k, none⟩) L cap) tl (nx : Int) n o s 0 0 ∧ W2.heap[T]? = some (.cells #[.int .i64 3, .string tt, .int .i64 tn, .int .i64 ta] 152) ∧ W2.heap[N]? = some (.cells #[.int .i64 0, .int .i64 0, .string ⟨#[]⟩, .slice none 0 0] 100) ∧ N < T ∧ Only (fun _ => False) w W2) := ⟨(HO1.out.1.trans O2 (fun _ _ g => g)).mono (fun _ _ h => h.elim), A2, T2, V2, NT, HO1.out.1.trans O2 (fun _ _ g => g)⟩
  have t0 := blk_cells T2 0
  have t1 := blk_cells T2 1
  have t2 := blk_cells T2 2
  simp only [List.getElem?_toArray, List.getElem?_cons_zero, List.getElem?_cons_succ] at t0 t1 t2
  rw [← hW2, ← hT]
  clear k0 k1 k6 c0 c1 c2 c3 K0 K1 C0 C1 C2 C3 O2 T2 V2 A2 NT hT hW2 HO1
  have HC : Hid (Calls Tryz.prog 79 #[.pointer (some ⟨R, 0, none⟩)] W2 fun x w' => x = .returned (.tuple #[]) ∧ Hid (CnP R (.slice (some ⟨g, k, none⟩) L cap) tl nx n o s W2 w')) := rcnt_any R _ tl nx n o s W2 HB.out.1 HB.out.2.1 HB.out.2.2.1 HB.out.2.2.2 H2.out.2.1
  go_wp2_with fail
  refine (show Calls Tryz.prog 79 _ _ _ from HC.out).mono ?_
  rintro x w3 ⟨rfl, g3⟩
  clear HC t0 t1 t2
  have hT2 := (g3.out.on.block T (Array.getElem?_eq_some_iff.1 H2.out.2.2.1).1 (by have := H2.out.2.2.2.2.1; have := HRN.out.1; omega)).trans H2.out.2.2.1
  have hV2 := (g3.out.on.block N (Array.getElem?_eq_some_iff.1 H2.out.2.2.2.1).1 (by have := HRN.out.1; omega)).trans H2.out.2.2.2.1
  have HV : Hid (w3.heap[N]? = some _) := hV2
  have t1 := blk_cells hT2 1
  have t2 := blk_cells hT2 2
  simp only [List.getElem?_toArray, List.getElem?_cons_zero, List.getElem?_cons_succ] at t1 t2
  have e0 := blk_cells hV2 0
  have e1 := blk_cells hV2 1
  have e2 := blk_cells hV2 2
  have e3 := blk_cells hV2 3
  have z0 := blk_froz hV2 0
  have z1 := blk_froz hV2 1
  have z2 := blk_froz hV2 2
  have z3 := blk_froz hV2 3
  simp only [List.getElem?_toArray, List.getElem?_cons_zero, List.getElem?_cons_succ] at e0 e1 e2 e3
  clear hT2 hV2
  go_wp2
  obtain ⟨q0, q1, q2, q3⟩ := set4 HV.out rfl (.int .i64 2) (.int .i64 0) (.string tt) (.slice none 0 0)
  refine bodyPost_ret (results_vb rfl _ _ N q0 q1 q2 q3 rfl) rfl ?_
  exact ⟨rfl, g3.out.fin H2.out.1 (on4 w3 N _ _ _ _) HRN.out.2 HRN.out.1⟩
set_option maxRecDepth 100000 in
set_option maxHeartbeats 4000000 in
theorem rl_yes (R : Nat) (v : Value) (tl : List Tok) (nx : Nat) (n o s : Int) (tk : Int) (tt : ByteArray) (tn ta : Int) (w : World) (ho : 0 ≤ o) (hs : 0 ≤ s) (hs1 : s ≤ 1024) (hx : nx ≤ 1000000) (i2 : (tk == 2) = false) (i3 : (tk == 3) = false) (ht : tl[nx]? = some ⟨tk, ⟨#[116]⟩, tn, ta⟩) (h : RrAt w R v tl (nx : Int) n o s 0 0) :
    Calls Tryz.prog 77 #[.pointer (some ⟨R, 0, none⟩)] w fun x w' => x = .returned (.tuple #[rV 3 1 ⟨#[]⟩ (.slice none 0 0), .bool true]) ∧ Hid (CnP R v tl nx n o s w w') := by
  unfold rV
  have HB : Hid (0 ≤ o ∧ 0 ≤ s ∧ s ≤ 1024 ∧ nx ≤ 1000000) := ⟨ho, hs, hs1, hx⟩
  clear ho hs hs1 hx
  have hn : nx < tl.length := (List.getElem?_eq_some_iff.1 ht).1
  have hlt := h.lt
  obtain ⟨ao, cap, rfl, hcap, hq0⟩ := h.tks
  obtain ⟨g, k, rfl, _⟩ := hq0 nx _ ht
  clear hcap hq0
  obtain ⟨L, hL⟩ : ∃ L, L = tl.length := ⟨_, rfl⟩
  rw [← hL] at h ⊢
  have HL : Hid (L = tl.length) := hL
  have H0 : Hid (RrAt w R (.slice (some ⟨g, k, none⟩) L cap) tl (nx : Int) n o s 0 0) := h
  have HT0 : Hid (tl[nx]? = some ⟨tk, ⟨#[116]⟩, tn, ta⟩) := ht
  obtain ⟨k0, k1, _, _, _, _, k6⟩ := (h.only ((Only.refl (fun _ => False) w).alloc (.cells #[.int .i64 0, .int .i64 0, .string ⟨#[]⟩, .slice none 0 0] 100))).blk.cells
  have i1 : (nx : Int) < (L : Int) := by omega
  have i0 : (0 : Int) ≤ (nx : Int) := by omega
  have i6 : decide (L ≤ nx) = false := by simp; omega
  obtain ⟨N, hN⟩ : ∃ N, N = w.heap.size := ⟨_, rfl⟩
  have HRN : Hid (R < N ∧ w.heap.size ≤ N) := ⟨by omega, by omega⟩
  clear hL ht h hn hlt
  go_enter Tryz.func77, Tryz.ntmps77
  go_wp2
  go_quiet (fail)
  rw [← hN]
  obtain ⟨W1, hW1⟩ : ∃ W1, W1 = (w.alloc (.cells #[.int .i64 0, .int .i64 0, .string ⟨#[]⟩, .slice none 0 0] 100)).drewN nq := ⟨_, rfl⟩
  have O1 : Only (fun _ => False) w W1 := by rw [hW1]; exact ((Only.refl _ w).alloc _).drewN _
  have V1 : W1.heap[N]? = some (.cells #[.int .i64 0, .int .i64 0, .string ⟨#[]⟩, .slice none 0 0] 100) := by rw [hW1]; exact alloc_at _ _ _ hN
  rw [← hW1]
  clear k0 k1 k6 hW1
  have A1 := H0.out.only O1
  obtain ⟨k0, k1, _, _, _, _, k6⟩ := A1.blk.cells
  obtain ⟨_, _, hv, _, hq⟩ := A1.tks
  injection hv with hv1 hv2 hv3
  subst hv1 hv3
  obtain ⟨g', k', hgk, _, c0, c1, c2, c3⟩ := hq nx _ HT0.out
  injection hgk with hgk
  injection hgk with hg hk
  subst hg hk
  dsimp only at c0 c1 c2 c3
  have HO1 : Hid (Only (fun _ => False) w W1 ∧ RrAt W1 R (.slice (some ⟨g, k, none⟩) L cap) tl (nx : Int) n o s 0 0 ∧ W1.heap[N]? = some (.cells #[.int .i64 0, .int .i64 0, .string ⟨#[]⟩, .slice none 0 0] 100)) := ⟨O1, A1, V1⟩
  have K0 := fun x => alloc_cell W1 _ x _ k0
  have K1 := fun x => alloc_cell W1 _ x _ k1
  have C0 := fun x => alloc_cell W1 _ x _ c0
  have C1 := fun x => alloc_cell W1 _ x _ c1
  have C2 := fun x => alloc_cell W1 _ x _ c2
  have C3 := fun x => alloc_cell W1 _ x _ c3
  clear O1 A1 V1 hq H0 hv2 hN
  go_wp2
  go_region
  obtain ⟨T, hT⟩ : ∃ T, T = W1.heap.size := ⟨_, rfl⟩
  obtain ⟨W2, hW2⟩ : ∃ W2, W2 = (W1.alloc (.cells #[.int .i64 tk, .string ⟨#[116]⟩, .int .i64 tn, .int .i64 ta] 152)).drew := ⟨_, rfl⟩
  have O2 : Only (fun _ => False) W1 W2 := by rw [hW2]; exact ((Only.refl _ W1).alloc _).drew
  have T2 : W2.heap[T]? = some (.cells #[.int .i64 tk, .string ⟨#[116]⟩, .int .i64 tn, .int .i64 ta] 152) := by rw [hW2]; exact alloc_at _ _ _ hT
  have V2 : W2.heap[N]? = some (.cells #[.int .i64 0, .int .i64 0, .string ⟨#[]⟩, .slice none 0 0] 100) := (O2.block N (Array.getElem?_eq_some_iff.1 HO1.out.2.2).1 (fun g => g)).trans HO1.out.2.2
  have A2 := HO1.out.2.1.only O2
  have NT : N < T := by rw [hT]; exact (Array.getElem?_eq_some_iff.1 HO1.out.2.2).1
  have H2 : Hid (Only (fun b => b = R) w W2 ∧ RrAt W2 R (.slice (some ⟨g, k, none⟩) L cap) tl (nx : Int) n o s 0 0 ∧ W2.heap[T]? = some (.cells #[.int .i64 tk, .string ⟨#[116]⟩, .int .i64 tn, .int .i64 ta] 152) ∧ W2.heap[N]? = some (.cells #[.int .i64 0, .int .i64 0, .string ⟨#[]⟩, .slice none 0 0] 100) ∧ N < T ∧ Only (fun _ => False) w W2) := ⟨(HO1.out.1.trans O2 (fun _ _ g => g)).mono (fun _ _ h => h.elim), A2, T2, V2, NT, HO1.out.1.trans O2 (fun _ _ g => g)⟩
  have t0 := blk_cells T2 0
  have t1 := blk_cells T2 1
  have t2 := blk_cells T2 2
  simp only [List.getElem?_toArray, List.getElem?_cons_zero, List.getElem?_cons_succ] at t0 t1 t2
  rw [← hW2, ← hT]
  clear k0 k1 k6 c0 c1 c2 c3 K0 K1 C0 C1 C2 C3 O2 T2 V2 A2 NT hT hW2 HO1
  have HC : Hid (Calls Tryz.prog 79 #[.pointer (some ⟨R, 0, none⟩)] W2 fun x w' => x = .returned (.tuple #[]) ∧ Hid (CnP R (.slice (some ⟨g, k, none⟩) L cap) tl nx n o s W2 w')) := rcnt_any R _ tl nx n o s W2 HB.out.1 HB.out.2.1 HB.out.2.2.1 HB.out.2.2.2 H2.out.2.1
  go_wp2_with fail
  refine (show Calls Tryz.prog 79 _ _ _ from HC.out).mono ?_
  rintro x w3 ⟨rfl, g3⟩
  clear HC t0 t1 t2
  have hT2 := (g3.out.on.block T (Array.getElem?_eq_some_iff.1 H2.out.2.2.1).1 (by have := H2.out.2.2.2.2.1; have := HRN.out.1; omega)).trans H2.out.2.2.1
  have hV2 := (g3.out.on.block N (Array.getElem?_eq_some_iff.1 H2.out.2.2.2.1).1 (by have := HRN.out.1; omega)).trans H2.out.2.2.2.1
  have HV : Hid (w3.heap[N]? = some _) := hV2
  have t1 := blk_cells hT2 1
  have t2 := blk_cells hT2 2
  simp only [List.getElem?_toArray, List.getElem?_cons_zero, List.getElem?_cons_succ] at t1 t2
  have e0 := blk_cells hV2 0
  have e1 := blk_cells hV2 1
  have e2 := blk_cells hV2 2
  have e3 := blk_cells hV2 3
  have z0 := blk_froz hV2 0
  have z1 := blk_froz hV2 1
  have z2 := blk_froz hV2 2
  have z3 := blk_froz hV2 3
  simp only [List.getElem?_toArray, List.getElem?_cons_zero, List.getElem?_cons_succ] at e0 e1 e2 e3
  clear hT2 hV2
  go_wp2
  obtain ⟨q0, q1, q2, q3⟩ := set4 HV.out rfl (.int .i64 3) (.int .i64 1) (.string ⟨#[]⟩) (.slice none 0 0)
  refine bodyPost_ret (results_vb rfl _ _ N q0 q1 q2 q3 rfl) rfl ?_
  exact ⟨rfl, g3.out.fin H2.out.1 (on4 w3 N _ _ _ _) HRN.out.2 HRN.out.1⟩
set_option maxRecDepth 100000 in
set_option maxHeartbeats 4000000 in
theorem rl_not (R : Nat) (v : Value) (tl : List Tok) (nx : Nat) (n o s : Int) (tk : Int) (tt : ByteArray) (tn ta : Int) (w : World) (ho : 0 ≤ o) (hs : 0 ≤ s) (hs1 : s ≤ 1024) (hx : nx ≤ 1000000) (i2 : (tk == 2) = false) (i3 : (tk == 3) = false) (ht : tl[nx]? = some ⟨tk, ⟨#[102]⟩, tn, ta⟩) (h : RrAt w R v tl (nx : Int) n o s 0 0) :
    Calls Tryz.prog 77 #[.pointer (some ⟨R, 0, none⟩)] w fun x w' => x = .returned (.tuple #[rV 3 0 ⟨#[]⟩ (.slice none 0 0), .bool true]) ∧ Hid (CnP R v tl nx n o s w w') := by
  unfold rV
  have HB : Hid (0 ≤ o ∧ 0 ≤ s ∧ s ≤ 1024 ∧ nx ≤ 1000000) := ⟨ho, hs, hs1, hx⟩
  clear ho hs hs1 hx
  have hn : nx < tl.length := (List.getElem?_eq_some_iff.1 ht).1
  have hlt := h.lt
  obtain ⟨ao, cap, rfl, hcap, hq0⟩ := h.tks
  obtain ⟨g, k, rfl, _⟩ := hq0 nx _ ht
  clear hcap hq0
  obtain ⟨L, hL⟩ : ∃ L, L = tl.length := ⟨_, rfl⟩
  rw [← hL] at h ⊢
  have HL : Hid (L = tl.length) := hL
  have H0 : Hid (RrAt w R (.slice (some ⟨g, k, none⟩) L cap) tl (nx : Int) n o s 0 0) := h
  have HT0 : Hid (tl[nx]? = some ⟨tk, ⟨#[102]⟩, tn, ta⟩) := ht
  obtain ⟨k0, k1, _, _, _, _, k6⟩ := (h.only ((Only.refl (fun _ => False) w).alloc (.cells #[.int .i64 0, .int .i64 0, .string ⟨#[]⟩, .slice none 0 0] 100))).blk.cells
  have i1 : (nx : Int) < (L : Int) := by omega
  have i0 : (0 : Int) ≤ (nx : Int) := by omega
  have i6 : decide (L ≤ nx) = false := by simp; omega
  obtain ⟨N, hN⟩ : ∃ N, N = w.heap.size := ⟨_, rfl⟩
  have HRN : Hid (R < N ∧ w.heap.size ≤ N) := ⟨by omega, by omega⟩
  clear hL ht h hn hlt
  go_enter Tryz.func77, Tryz.ntmps77
  go_wp2
  go_quiet (fail)
  rw [← hN]
  obtain ⟨W1, hW1⟩ : ∃ W1, W1 = (w.alloc (.cells #[.int .i64 0, .int .i64 0, .string ⟨#[]⟩, .slice none 0 0] 100)).drewN nq := ⟨_, rfl⟩
  have O1 : Only (fun _ => False) w W1 := by rw [hW1]; exact ((Only.refl _ w).alloc _).drewN _
  have V1 : W1.heap[N]? = some (.cells #[.int .i64 0, .int .i64 0, .string ⟨#[]⟩, .slice none 0 0] 100) := by rw [hW1]; exact alloc_at _ _ _ hN
  rw [← hW1]
  clear k0 k1 k6 hW1
  have A1 := H0.out.only O1
  obtain ⟨k0, k1, _, _, _, _, k6⟩ := A1.blk.cells
  obtain ⟨_, _, hv, _, hq⟩ := A1.tks
  injection hv with hv1 hv2 hv3
  subst hv1 hv3
  obtain ⟨g', k', hgk, _, c0, c1, c2, c3⟩ := hq nx _ HT0.out
  injection hgk with hgk
  injection hgk with hg hk
  subst hg hk
  dsimp only at c0 c1 c2 c3
  have HO1 : Hid (Only (fun _ => False) w W1 ∧ RrAt W1 R (.slice (some ⟨g, k, none⟩) L cap) tl (nx : Int) n o s 0 0 ∧ W1.heap[N]? = some (.cells #[.int .i64 0, .int .i64 0, .string ⟨#[]⟩, .slice none 0 0] 100)) := ⟨O1, A1, V1⟩
  have K0 := fun x => alloc_cell W1 _ x _ k0
  have K1 := fun x => alloc_cell W1 _ x _ k1
  have C0 := fun x => alloc_cell W1 _ x _ c0
  have C1 := fun x => alloc_cell W1 _ x _ c1
  have C2 := fun x => alloc_cell W1 _ x _ c2
  have C3 := fun x => alloc_cell W1 _ x _ c3
  clear O1 A1 V1 hq H0 hv2 hN
  go_wp2
  go_region
  obtain ⟨T, hT⟩ : ∃ T, T = W1.heap.size := ⟨_, rfl⟩
  obtain ⟨W2, hW2⟩ : ∃ W2, W2 = (W1.alloc (.cells #[.int .i64 tk, .string ⟨#[102]⟩, .int .i64 tn, .int .i64 ta] 152)).drew := ⟨_, rfl⟩
  have O2 : Only (fun _ => False) W1 W2 := by rw [hW2]; exact ((Only.refl _ W1).alloc _).drew
  have T2 : W2.heap[T]? = some (.cells #[.int .i64 tk, .string ⟨#[102]⟩, .int .i64 tn, .int .i64 ta] 152) := by rw [hW2]; exact alloc_at _ _ _ hT
  have V2 : W2.heap[N]? = some (.cells #[.int .i64 0, .int .i64 0, .string ⟨#[]⟩, .slice none 0 0] 100) := (O2.block N (Array.getElem?_eq_some_iff.1 HO1.out.2.2).1 (fun g => g)).trans HO1.out.2.2
  have A2 := HO1.out.2.1.only O2
  have NT : N < T := by rw [hT]; exact (Array.getElem?_eq_some_iff.1 HO1.out.2.2).1
  have H2 : Hid (Only (fun b => b = R) w W2 ∧ RrAt W2 R (.slice (some ⟨g, k, none⟩) L cap) tl (nx : Int) n o s 0 0 ∧ W2.heap[T]? = some (.cells #[.int .i64 tk, .string ⟨#[102]⟩, .int .i64 tn, .int .i64 ta] 152) ∧ W2.heap[N]? = some (.cells #[.int .i64 0, .int .i64 0, .string ⟨#[]⟩, .slice none 0 0] 100) ∧ N < T ∧ Only (fun _ => False) w W2) := ⟨(HO1.out.1.trans O2 (fun _ _ g => g)).mono (fun _ _ h => h.elim), A2, T2, V2, NT, HO1.out.1.trans O2 (fun _ _ g => g)⟩
  have t0 := blk_cells T2 0
  have t1 := blk_cells T2 1
  have t2 := blk_cells T2 2
  simp only [List.getElem?_toArray, List.getElem?_cons_zero, List.getElem?_cons_succ] at t0 t1 t2
  rw [← hW2, ← hT]
  clear k0 k1 k6 c0 c1 c2 c3 K0 K1 C0 C1 C2 C3 O2 T2 V2 A2 NT hT hW2 HO1
  have HC : Hid (Calls Tryz.prog 79 #[.pointer (some ⟨R, 0, none⟩)] W2 fun x w' => x = .returned (.tuple #[]) ∧ Hid (CnP R (.slice (some ⟨g, k, none⟩) L cap) tl nx n o s W2 w')) := rcnt_any R _ tl nx n o s W2 HB.out.1 HB.out.2.1 HB.out.2.2.1 HB.out.2.2.2 H2.out.2.1
  go_wp2_with fail
  refine (show Calls Tryz.prog 79 _ _ _ from HC.out).mono ?_
  rintro x w3 ⟨rfl, g3⟩
  clear HC t0 t1 t2
  have hT2 := (g3.out.on.block T (Array.getElem?_eq_some_iff.1 H2.out.2.2.1).1 (by have := H2.out.2.2.2.2.1; have := HRN.out.1; omega)).trans H2.out.2.2.1
  have hV2 := (g3.out.on.block N (Array.getElem?_eq_some_iff.1 H2.out.2.2.2.1).1 (by have := HRN.out.1; omega)).trans H2.out.2.2.2.1
  have HV : Hid (w3.heap[N]? = some _) := hV2
  have t1 := blk_cells hT2 1
  have t2 := blk_cells hT2 2
  simp only [List.getElem?_toArray, List.getElem?_cons_zero, List.getElem?_cons_succ] at t1 t2
  have e0 := blk_cells hV2 0
  have e1 := blk_cells hV2 1
  have e2 := blk_cells hV2 2
  have e3 := blk_cells hV2 3
  have z0 := blk_froz hV2 0
  have z1 := blk_froz hV2 1
  have z2 := blk_froz hV2 2
  have z3 := blk_froz hV2 3
  simp only [List.getElem?_toArray, List.getElem?_cons_zero, List.getElem?_cons_succ] at e0 e1 e2 e3
  clear hT2 hV2
  go_wp2
  obtain ⟨q0, q1, q2, q3⟩ := set4 HV.out rfl (.int .i64 3) (.int .i64 0) (.string ⟨#[]⟩) (.slice none 0 0)
  refine bodyPost_ret (results_vb rfl _ _ N q0 q1 q2 q3 rfl) rfl ?_
  exact ⟨rfl, g3.out.fin H2.out.1 (on4 w3 N _ _ _ _) HRN.out.2 HRN.out.1⟩
set_option maxRecDepth 100000 in
set_option maxHeartbeats 4000000 in
/-- no literal begins here -/
theorem rl_none (R : Nat) (v : Value) (tl : List Tok) (nx : Nat) (n o s : Int) (tk : Int) (tt : ByteArray) (tn ta : Int) (w : World) (i2 : (tk == 2) = false) (i3 : (tk == 3) = false) (j1 : (tt.toList == [116]) = false) (j2 : (tt.toList == [102]) = false) (j3 : (tt.toList == [91]) = false) (j4 : (tt.toList == [123]) = false) (ht : tl[nx]? = some ⟨tk, tt, tn, ta⟩) (h : RrAt w R v tl (nx : Int) n o s 0 0) :
    Calls Tryz.prog 77 #[.pointer (some ⟨R, 0, none⟩)] w fun x w' => x = .returned (.tuple #[rV 0 0 ⟨#[]⟩ (.slice none 0 0), .bool false]) ∧ Hid (RrAt w' R v tl (nx : Int) n o s 0 0 ∧ Only (fun _ => False) w w') := by
  unfold rV
  have hn : nx < tl.length := (List.getElem?_eq_some_iff.1 ht).1
  have hlt := h.lt
  obtain ⟨ao, cap, rfl, hcap, hq0⟩ := h.tks
  obtain ⟨g, k, rfl, _⟩ := hq0 nx _ ht
  clear hcap hq0
  obtain ⟨L, hL⟩ : ∃ L, L = tl.length := ⟨_, rfl⟩
  rw [← hL] at h ⊢
  have HL : Hid (L = tl.length) := hL
  have H0 : Hid (RrAt w R (.slice (some ⟨g, k, none⟩) L cap) tl (nx : Int) n o s 0 0) := h
  have HT0 : Hid (tl[nx]? = some ⟨tk, tt, tn, ta⟩) := ht
  obtain ⟨k0, k1, _, _, _, _, k6⟩ := (h.only ((Only.refl (fun _ => False) w).alloc (.cells #[.int .i64 0, .int .i64 0, .string ⟨#[]⟩, .slice none 0 0] 100))).blk.cells
  have i1 : (nx : Int) < (L : Int) := by omega
  have i0 : (0 : Int) ≤ (nx : Int) := by omega
  have i6 : decide (L ≤ nx) = false := by simp; omega
  obtain ⟨N, hN⟩ : ∃ N, N = w.heap.size := ⟨_, rfl⟩
  have HRN : Hid (R < N ∧ w.heap.size ≤ N) := ⟨by omega, by omega⟩
  clear hL ht h hn hlt
  go_enter Tryz.func77, Tryz.ntmps77
  go_wp2
  go_quiet (fail)
  rw [← hN]
  obtain ⟨W1, hW1⟩ : ∃ W1, W1 = (w.alloc (.cells #[.int .i64 0, .int .i64 0, .string ⟨#[]⟩, .slice none 0 0] 100)).drewN nq := ⟨_, rfl⟩
  have O1 : Only (fun _ => False) w W1 := by rw [hW1]; exact ((Only.refl _ w).alloc _).drewN _
  have V1 : W1.heap[N]? = some (.cells #[.int .i64 0, .int .i64 0, .string ⟨#[]⟩, .slice none 0 0] 100) := by rw [hW1]; exact alloc_at _ _ _ hN
  rw [← hW1]
  clear k0 k1 k6 hW1
  have A1 := H0.out.only O1
  obtain ⟨k0, k1, _, _, _, _, k6⟩ := A1.blk.cells
  obtain ⟨_, _, hv, _, hq⟩ := A1.tks
  injection hv with hv1 hv2 hv3
  subst hv1 hv3
  obtain ⟨g', k', hgk, _, c0, c1, c2, c3⟩ := hq nx _ HT0.out
  injection hgk with hgk
  injection hgk with hg hk
  subst hg hk
  dsimp only at c0 c1 c2 c3
  have HO1 : Hid (Only (fun _ => False) w W1 ∧ RrAt W1 R (.slice (some ⟨g, k, none⟩) L cap) tl (nx : Int) n o s 0 0 ∧ W1.heap[N]? = some (.cells #[.int .i64 0, .int .i64 0, .string ⟨#[]⟩, .slice none 0 0] 100)) := ⟨O1, A1, V1⟩
  have K0 := fun x => alloc_cell W1 _ x _ k0
  have K1 := fun x => alloc_cell W1 _ x _ k1
  have C0 := fun x => alloc_cell W1 _ x _ c0
  have C1 := fun x => alloc_cell W1 _ x _ c1
  have C2 := fun x => alloc_cell W1 _ x _ c2
  have C3 := fun x => alloc_cell W1 _ x _ c3
  clear O1 A1 V1 hq H0 hv2 hN
  go_wp2
  go_region
  obtain ⟨T, hT⟩ : ∃ T, T = W1.heap.size := ⟨_, rfl⟩
  obtain ⟨W2, hW2⟩ : ∃ W2, W2 = (W1.alloc (.cells #[.int .i64 tk, .string tt, .int .i64 tn, .int .i64 ta] 152)).drew := ⟨_, rfl⟩
  have O2 : Only (fun _ => False) W1 W2 := by rw [hW2]; exact ((Only.refl _ W1).alloc _).drew
  have T2 : W2.heap[T]? = some (.cells #[.int .i64 tk, .string tt, .int .i64 tn, .int .i64 ta] 152) := by rw [hW2]; exact alloc_at _ _ _ hT
  have V2 : W2.heap[N]? = some (.cells #[.int .i64 0, .int .i64 0, .string ⟨#[]⟩, .slice none 0 0] 100) := (O2.block N (Array.getElem?_eq_some_iff.1 HO1.out.2.2).1 (fun g => g)).trans HO1.out.2.2
  have A2 := HO1.out.2.1.only O2
  have NT : N < T := by rw [hT]; exact (Array.getElem?_eq_some_iff.1 HO1.out.2.2).1
  have H2 : Hid (Only (fun b => b = R) w W2 ∧ RrAt W2 R (.slice (some ⟨g, k, none⟩) L cap) tl (nx : Int) n o s 0 0 ∧ W2.heap[T]? = some (.cells #[.int .i64 tk, .string tt, .int .i64 tn, .int .i64 ta] 152) ∧ W2.heap[N]? = some (.cells #[.int .i64 0, .int .i64 0, .string ⟨#[]⟩, .slice none 0 0] 100) ∧ N < T ∧ Only (fun _ => False) w W2) := ⟨(HO1.out.1.trans O2 (fun _ _ g => g)).mono (fun _ _ h => h.elim), A2, T2, V2, NT, HO1.out.1.trans O2 (fun _ _ g => g)⟩
  have t0 := blk_cells T2 0
  have t1 := blk_cells T2 1
  have t2 := blk_cells T2 2
  simp only [List.getElem?_toArray, List.getElem?_cons_zero, List.getElem?_cons_succ] at t0 t1 t2
  rw [← hW2, ← hT]
  clear k0 k1 k6 c0 c1 c2 c3 K0 K1 C0 C1 C2 C3 O2 T2 V2 A2 NT hT hW2 HO1
  have hV2 := H2.out.2.2.2.1
  have e0 := blk_cells hV2 0
  have e1 := blk_cells hV2 1
  have e2 := blk_cells hV2 2
  have e3 := blk_cells hV2 3
  have z0 := blk_froz hV2 0
  have z1 := blk_froz hV2 1
  have z2 := blk_froz hV2 2
  have z3 := blk_froz hV2 3
  simp only [List.getElem?_toArray, List.getElem?_cons_zero, List.getElem?_cons_succ] at e0 e1 e2 e3
  clear hV2
  go_wp2
  obtain ⟨q0, q1, q2, q3⟩ := set4 H2.out.2.2.2.1 rfl (.int .i64 0) (.int .i64 0) (.string ⟨#[]⟩) (.slice none 0 0)
  refine bodyPost_ret (results_vb rfl _ _ N q0 q1 q2 q3 rfl) rfl ?_
  exact ⟨rfl, H2.out.2.1.other HRN.out.1 (on4 W2 N _ _ _ _), H2.out.2.2.2.2.2.trans (on4 W2 N _ _ _ _) (fun i hi e => by have := HRN.out.2; omega)⟩
end Go.Proofs.YtfecmpebnianpaaGreatDoor
