/- The document's reader: lists. The document's reader: literals and items as wholes. -/
import Derived.Test.YtfecmpebnianpaaGreatDoorGau
namespace Go.Proofs.YtfecmpebnianpaaGreatDoor
open Go.RowKit
set_option linter.unusedSimpArgs false
set_option linter.unusedVariables false
/-- parts as a list -/
def brL (Z : Except (Int × Int) (List Tre × List Tok × Int)) : Except (Int × Int) (List Tre × List Tok × Int) := match Z with
  | .error e => .error e
  | .ok (l, r', z') => .ok ([⟨4, 0, ⟨#[]⟩, l⟩], r', z')
set_option maxRecDepth 100000 in
set_option maxHeartbeats 40000000 in
theorem rl_list (f R : Nat) (v9 : Value) (tl : List Tok) (nx : Nat) (n oo ss : Int) (tk : Int) (tn ta : Int) (w0 : World) (htl : tl.length ≤ 4096) (ho : 0 ≤ oo) (ho1 : oo ≤ 32) (hs : 0 ≤ ss) (hs1 : ss ≤ 1024) (hf : 3 * (tl.length - nx) + 1 ≤ f + 1) (HP : ∀ g, g < f → RpC R v9 tl n g 0 77) (i2 : (tk == 2) = false) (i3 : (tk == 3) = false) (ht : tl[nx]? = some ⟨tk, ⟨#[123]⟩, tn, ta⟩) (h : RrAt w0 R v9 tl (nx : Int) n oo ss 0 0) :
    Calls Tryz.prog 77 #[.pointer (some ⟨R, 0, none⟩)] w0 (rlP R v9 tl n (f + 1) 0 nx oo ss w0) := by
  have hnx : nx < tl.length := (List.getElem?_eq_some_iff.1 ht).1
  obtain ⟨Z, hZ⟩ : ∃ Z, Z = brZ n f 2 tl nx oo ss := ⟨_, rfl⟩
  have HQ : Hid (prs n (f + 1) 0 (tl.drop nx) oo (zIn oo ss) = brL Z) := by
    rw [hZ]
    exact (prs_list i2 i3 ht).trans (by unfold brL; rfl)
  have HZ : Hid (Z = brZ n f 2 tl nx oo ss) := hZ
  have HNM : Hid (nmR tl nx = false) := nm_br (.inr (.inl rfl)) ht
  obtain ⟨v, hv0⟩ : ∃ v, v = v9 := ⟨_, rfl⟩
  have HV0 : Hid (v = v9) := hv0
  rw [← hv0] at HP ⊢
  have HPP : Hid (∀ g, g < f → RpC R v tl n g 0 77) := HP
  have HE0 : Hid (∀ w1, RrAt w1 R v tl (nx : Int) n oo ss 0 0 → Calls Tryz.prog 73 #[.pointer (some ⟨R, 0, none⟩)] w1 fun x w' => x = .returned (.tuple #[]) ∧ Hid (EnP R v tl nx n oo ss w1 w')) := fun w1 h1 => rent_any R v tl nx n oo ss w1 ho ho1 hs hs1 (by omega) h1
  have HTL : Hid (tl.length ≤ 4096) := htl
  have HBB : Hid (0 ≤ oo ∧ oo ≤ 32 ∧ 0 ≤ zIn oo ss ∧ zIn oo ss ≤ 1024 ∧ 3 * (tl.length - nx) + 1 ≤ f + 1 ∧ nx < tl.length) := ⟨ho, ho1, (zIn_le hs hs1).1, (zIn_le hs hs1).2, hf, hnx⟩
  clear hv0 htl ho ho1 hs hs1 hf HP hnx hZ
  have hn : nx < tl.length := (List.getElem?_eq_some_iff.1 ht).1
  have hlt := h.lt
  obtain ⟨ao, cap, rfl, hcap, hq0⟩ := h.tks
  obtain ⟨g, k, rfl, _⟩ := hq0 nx _ ht
  clear hcap hq0
  obtain ⟨L, hL⟩ : ∃ L, L = tl.length := ⟨_, rfl⟩
  rw [← hL] at h
  have HL : Hid (L = tl.length) := hL
  have H0 : Hid (RrAt w0 R (.slice (some ⟨g, k, none⟩) L cap) tl (nx : Int) n oo ss 0 0) := h
  have HT0 : Hid (tl[nx]? = some ⟨tk, ⟨#[123]⟩, tn, ta⟩) := ht
  obtain ⟨k0, k1, _, _, _, _, k6⟩ := (h.only ((Only.refl (fun _ => False) w0).alloc (.cells #[.int .i64 0, .int .i64 0, .string ⟨#[]⟩, .slice none 0 0] 100))).blk.cells
  have i1 : (nx : Int) < (L : Int) := by omega
  have i0 : (0 : Int) ≤ (nx : Int) := by omega
  have i6 : decide (L ≤ nx) = false := by simp; omega
  obtain ⟨N, hN⟩ : ∃ N, N = w0.heap.size := ⟨_, rfl⟩
  have HRN : Hid (R < N ∧ w0.heap.size ≤ N) := ⟨by omega, by omega⟩
  clear hL ht h hn hlt
  go_enter Tryz.func77, Tryz.ntmps77
  go_wp2
  go_quiet (fail)
  rw [← hN]
  obtain ⟨W1, hW1⟩ : ∃ W1, W1 = (w0.alloc (.cells #[.int .i64 0, .int .i64 0, .string ⟨#[]⟩, .slice none 0 0] 100)).drewN nq := ⟨_, rfl⟩
  have O1 : Only (fun _ => False) w0 W1 := by rw [hW1]; exact ((Only.refl _ w0).alloc _).drewN _
  have V1 : W1.heap[N]? = some (.cells #[.int .i64 0, .int .i64 0, .string ⟨#[]⟩, .slice none 0 0] 100) := by rw [hW1]; exact alloc_at _ _ _ hN
  rw [← hW1]
  clear k0 k1 k6 hW1
  have A1 := H0.out.only O1
  obtain ⟨k0, k1, _, _, _, _, k6⟩ := A1.blk.cells
  obtain ⟨_, _, hv, _, hq⟩ := A1.tks
  injection hv with hv1 hv2 hv3
  subst hv1 hv3
  obtain ⟨g', k', hgk, _, c0, c1, c2, c3⟩ := hq nx _ HT0.out
  injection hgk with hgk
  injection hgk with hg hk
  subst hg hk
  dsimp only at c0 c1 c2 c3
  have HO1 : Hid (Only (fun _ => False) w0 W1 ∧ RrAt W1 R (.slice (some ⟨g, k, none⟩) L cap) tl (nx : Int) n oo ss 0 0 ∧ W1.heap[N]? = some (.cells #[.int .i64 0, .int .i64 0, .string ⟨#[]⟩, .slice none 0 0] 100)) := ⟨O1, A1, V1⟩
  have K0 := fun x => alloc_cell W1 _ x _ k0
  have K1 := fun x => alloc_cell W1 _ x _ k1
  have C0 := fun x => alloc_cell W1 _ x _ c0
  have C1 := fun x => alloc_cell W1 _ x _ c1
  have C2 := fun x => alloc_cell W1 _ x _ c2
  have C3 := fun x => alloc_cell W1 _ x _ c3
  clear O1 A1 V1 hq H0 hv2 hN
  go_wp2
  go_region
  obtain ⟨T, hT⟩ : ∃ T, T = W1.heap.size := ⟨_, rfl⟩
  obtain ⟨W2, hW2⟩ : ∃ W2, W2 = (W1.alloc (.cells #[.int .i64 tk, .string ⟨#[123]⟩, .int .i64 tn, .int .i64 ta] 152)).drew := ⟨_, rfl⟩
  have O2 : Only (fun _ => False) W1 W2 := by rw [hW2]; exact ((Only.refl _ W1).alloc _).drew
  have T2 : W2.heap[T]? = some (.cells #[.int .i64 tk, .string ⟨#[123]⟩, .int .i64 tn, .int .i64 ta] 152) := by rw [hW2]; exact alloc_at _ _ _ hT
  have V2 : W2.heap[N]? = some (.cells #[.int .i64 0, .int .i64 0, .string ⟨#[]⟩, .slice none 0 0] 100) := (O2.block N (Array.getElem?_eq_some_iff.1 HO1.out.2.2).1 (fun g => g)).trans HO1.out.2.2
  have A2 := HO1.out.2.1.only O2
  have NT : N < T := by rw [hT]; exact (Array.getElem?_eq_some_iff.1 HO1.out.2.2).1
  have H2 : Hid (Only (fun b => b = R) w0 W2 ∧ RrAt W2 R (.slice (some ⟨g, k, none⟩) L cap) tl (nx : Int) n oo ss 0 0 ∧ W2.heap[T]? = some (.cells #[.int .i64 tk, .string ⟨#[123]⟩, .int .i64 tn, .int .i64 ta] 152) ∧ W2.heap[N]? = some (.cells #[.int .i64 0, .int .i64 0, .string ⟨#[]⟩, .slice none 0 0] 100) ∧ N < T ∧ Only (fun _ => False) w0 W2) := ⟨(HO1.out.1.trans O2 (fun _ _ g => g)).mono (fun _ _ h => h.elim), A2, T2, V2, NT, HO1.out.1.trans O2 (fun _ _ g => g)⟩
  have t0 := blk_cells T2 0
  have t1 := blk_cells T2 1
  have t2 := blk_cells T2 2
  simp only [List.getElem?_toArray, List.getElem?_cons_zero, List.getElem?_cons_succ] at t0 t1 t2
  rw [← hW2, ← hT]
  clear k0 k1 k6 c0 c1 c2 c3 K0 K1 C0 C1 C2 C3 O2 T2 V2 A2 NT hT hW2 HO1
  have hv0 : v = .slice (some ⟨g, k, none⟩) L cap := HV0.out.trans (by rw [show L = _ from HL.out])
  have HE2 : Hid _ := HE0.out W2 (by rw [hv0]; exact H2.out.2.1)
  clear HE0 hv0 HV0
  go_wp2_with fail
  refine (show Calls Tryz.prog 73 _ _ _ from HE2.out).mono ?_
  rintro x w ⟨rfl, g3⟩
  have hV3 := (g3.out.on.block N (Array.getElem?_eq_some_iff.1 H2.out.2.2.2.1).1 (by have := HRN.out.1; omega)).trans H2.out.2.2.2.1
  have HVN : Hid (w.heap[N]? = some (.cells #[.int .i64 0, .int .i64 0, .string ⟨#[]⟩, .slice none 0 0] 100)) := hV3
  have HOW0 : Hid (Only (fun b => b = R) w0 w) := H2.out.1.trans g3.out.on (fun _ _ g => g)
  clear HE2 t0 t1 t2 hV3
  rcases g3.out with ⟨hc, hr⟩ | ⟨hc, hr⟩
  · obtain ⟨m, hm⟩ : ∃ m, m = 0 := ⟨_, rfl⟩
    obtain ⟨o, hoo⟩ : ∃ o, o = oo + 1 := ⟨_, rfl⟩
    have HOO : Hid (o = oo + 1) := hoo
    have HM : Hid (min m 1 = 0) := by show min m 1 = 0; omega
    have HS : Hid ((⟨#[125]⟩ : ByteArray) = shB m) := by rw [hm]; rfl
    have HO : Hid (1 ≤ o ∧ o ≤ 32) := by have := HBB.out; show 1 ≤ o ∧ o ≤ 32; omega
    obtain ⟨B, hB⟩ : ∃ B, B = w.heap.size := ⟨_, rfl⟩
    have HBW : Hid (w.heap.size ≤ B) := by show w.heap.size ≤ B; omega
    have HR : Hid (R < w.heap.size) := hr.1.lt
    have HST : Hid (Z = pre [] (prs n f (m + 2) (tl.drop (nx + 1)) o (zIn oo ss + 1)) ∧ RrAt w R v tl ((nx + 1 : Nat) : Int) n o (zIn oo ss + 1) 0 0 ∧ zIn oo ss + 1 ≤ 1024 ∧ B = w.heap.size) := by
      refine ⟨?_, by rw [hoo]; exact hr.1, by have := HBB.out; omega, hB⟩
      rw [pre_nil, hm, hoo, show Z = _ from HZ.out]
      unfold brZ
      rw [if_neg hc]
    clear hc hr hm hoo hB g3 HZ
    go_wp2
    go_loopw [5] (fun r5 wr => (∃ (g nx' : Nat) (z' : Int) (acc : List Tre) (ao : Option Addr) (cap : Nat), r5 = .slice ao acc.length cap ∧ Hid (Z = pre acc (prs n g (m + 2) (tl.drop nx') o z') ∧ 3 * (tl.length - nx') + 3 ≤ g ∧ g ≤ f ∧ nx' ≤ tl.length ∧ 0 ≤ z' ∧ (z' ≤ 1024 ∧ acc.length + (tl.length - nx') ≤ 4096) ∧ VrAt wr B f (.slice ao acc.length cap) acc ∧ RrAt wr R v tl (nx' : Int) n o z' 0 0 ∧ Only (fun b => b = R) w wr ∧ B ≤ wr.heap.size)) ∨ (∃ (ao : Option Addr) (L cap : Nat), r5 = .slice ao L cap ∧ Hid (∃ a e, Z = .error (a, e) ∧ e ≠ 0 ∧ RrF R v tl n a e w wr))) (fun _ wr => rrM R tl.length wr)
    case atStart => exact .inl ⟨f, nx + 1, zIn oo ss + 1, [], none, 0, rfl, HST.out.1, by have := HBB.out; omega, Nat.le_refl _, by have := HBB.out; omega, by have := HBB.out; omega, ⟨HST.out.2.2.1, by have : tl.length ≤ 4096 := HTL.out; simp; omega⟩, vr_nil _ _ _, HST.out.2.1, Only.refl _ _, by have : B = w.heap.size := HST.out.2.2.2; omega⟩
    case round =>
      clear HST
      rcases hrel with ⟨g, nx', z', acc, ao, cap, rfl, HI⟩ | ⟨ao, L, cap, rfl, HF⟩
      · obtain ⟨w1, rfl⟩ : ∃ w1, w1 = wr := ⟨_, rfl⟩
        obtain ⟨g0, rfl⟩ : ∃ g0, g = g0 + 1 := ⟨g - 1, by have := HI.out.2.1; omega⟩
        obtain ⟨La, hLa⟩ : ∃ L, L = acc.length := ⟨_, rfl⟩
        have HLa : Hid (La = acc.length) := hLa
        rw [← hLa] at HI ⊢
        clear hLa
        have KM : Hid (rrM R tl.length w1 = tl.length - nx' + 2) := rrM_ok HI.out.2.2.2.2.2.2.2.1
        cases hb : isR tl nx' (⟨#[125]⟩ : ByteArray) with
        | true =>
          have HE : Hid (Z = .ok (acc, tl.drop (nx' + 1), z')) := by
            show Z = _
            rw [HI.out.1]
            exact up_shut hb HS.out
          have HC : Hid (Calls Tryz.prog 104 #[.pointer (some ⟨R, 0, none⟩), .string (⟨#[125]⟩ : ByteArray)] w1 fun x w' => x = .returned (.bool false) ∧ Hid (RrW R v tl ((nx' + 1 : Nat) : Int) n (o - 1) z' 0 0 w1 w')) := rmore_shut R v tl nx' n o z' 0 (⟨#[125]⟩ : ByteArray) w1 (by have := HO.out; omega) (by have := HO.out; omega) (by have := HI.out.2.2.2.1; have := HTL.out; omega) hb HI.out.2.2.2.2.2.2.2.1
          have HLT : Hid (nx' + 1 ≤ tl.length) := isR_lt hb
          have HZB : Hid (0 ≤ z' ∧ z' ≤ 1024) := ⟨HI.out.2.2.2.2.1, HI.out.2.2.2.2.2.1.1⟩
          have HK : Hid (VrAt w1 B f (.slice ao La cap) acc ∧ Only (fun b => b = R) w w1) := ⟨HI.out.2.2.2.2.2.2.1, HI.out.2.2.2.2.2.2.2.2.1⟩
          clear HI hb
          go_wp2_with fail
          refine (show Calls Tryz.prog 104 _ _ _ from HC.out).mono ?_
          rintro x w2 ⟨rfl, g2⟩
          clear HC
          have hV2 := (g2.out.2.block N (Nat.lt_of_lt_of_le (Array.getElem?_eq_some_iff.1 HVN.out).1 HK.out.2.size) (by have := HRN.out.1; omega)).trans ((HK.out.2.block N (Array.getElem?_eq_some_iff.1 HVN.out).1 (by have := HRN.out.1; omega)).trans HVN.out)
          have HV : Hid (w2.heap[N]? = some _) := hV2
          have e0 := blk_cells hV2 0
          have e1 := blk_cells hV2 1
          have e2 := blk_cells hV2 2
          have e3 := blk_cells hV2 3
          have z0 := blk_froz hV2 0
          have z1 := blk_froz hV2 1
          have z2 := blk_froz hV2 2
          have z3 := blk_froz hV2 3
          simp only [List.getElem?_toArray, List.getElem?_cons_zero, List.getElem?_cons_succ] at e0 e1 e2 e3
          clear hV2
          go_wp2
          obtain ⟨q0, q1, q2, q3⟩ := set4 HV.out rfl (.int .i64 4) (.int .i64 0) (.string ⟨#[]⟩) (.slice ao La cap)
          refine bodyPost_ret (results_vb rfl _ _ N q0 q1 q2 q3 rfl) rfl ?_
          unfold rlP
          rw [HQ.out, show Z = _ from HE.out]
          unfold brL
          dsimp only
          have hoo : o - 1 = oo := by have : o = oo + 1 := HOO.out; omega
          have g2' := g2.out
          rw [hoo] at g2'
          refine ⟨_, ao, La, cap, nx' + 1, z', rfl, rfl, rfl, HLT.out, ?_, fun _ => rfl, HZB.out.1, HZB.out.2, g2'.fin (HOW0.out.trans HK.out.2 (fun _ _ g => g)) (on4 w2 N _ _ _ _) HRN.out.2 HRN.out.1⟩
          have hNB : N < B := by have : w.heap.size ≤ B := HBW.out; have := (Array.getElem?_eq_some_iff.1 HVN.out).1; omega
          exact (((HK.out.1.only g2.out.2 (fun b hb e => by have := HRN.out.1; omega)).tree rfl).only (on4 w2 N _ _ _ _) (fun b hb e => by omega)).lower (Nat.le_trans HOW0.out.size HBW.out)
        | false =>
          have HE : Hid (Z = pre acc (match prs n g0 0 (tl.drop nx') o z' with
              | .error e => .error e
              | .ok (l1, r1, z1) => pre l1 (prs n g0 (m + 2) r1 o z1))) := by
            show Z = _
            rw [HI.out.1]
            exact congrArg (pre acc) (up_go hb HS.out HM.out (by have := HI.out.2.1; omega))
          have HC : Hid (Calls Tryz.prog 104 #[.pointer (some ⟨R, 0, none⟩), .string (⟨#[125]⟩ : ByteArray)] w1 fun x w' => x = .returned (.bool true) ∧ Only (fun _ => False) w1 w') := rmore_go R v tl nx' n o z' 0 (⟨#[125]⟩ : ByteArray) w1 hb HI.out.2.2.2.2.2.2.2.1
          have HG : Hid (g0 + 1 ≤ f ∧ 3 * (tl.length - nx') + 3 ≤ g0 + 1 ∧ nx' ≤ tl.length ∧ 0 ≤ z' ∧ z' ≤ 1024 ∧ La + (tl.length - nx') ≤ 4096) := ⟨HI.out.2.2.1, HI.out.2.1, HI.out.2.2.2.1, HI.out.2.2.2.2.1, HI.out.2.2.2.2.2.1.1, HI.out.2.2.2.2.2.1.2⟩
          have HP2 : Hid (∀ w2, Only (fun _ => False) w1 w2 → Calls Tryz.prog 77 #[.pointer (some ⟨R, 0, none⟩)] w2 (rlP R v tl n g0 0 nx' o z' w2)) := fun w2 o2 => by
            have := HG.out
            exact HPP.out g0 (by omega) nx' o z' w2 (by omega) (by omega) (by have := HO.out; omega) (by have := HO.out; omega) (by omega) (by omega) (HI.out.2.2.2.2.2.2.2.1.only o2)
          have HK0 : Hid (VrAt w1 B f (.slice ao La cap) acc ∧ RrAt w1 R v tl (nx' : Int) n o z' 0 0 ∧ Only (fun b => b = R) w w1 ∧ B ≤ w1.heap.size) := ⟨HI.out.2.2.2.2.2.2.1, HI.out.2.2.2.2.2.2.2.1, HI.out.2.2.2.2.2.2.2.2.1, HI.out.2.2.2.2.2.2.2.2.2⟩
          clear HI hb
          go_wp2_with fail
          refine (show Calls Tryz.prog 104 _ _ _ from HC.out).mono ?_
          rintro x w2 ⟨rfl, o2⟩
          have HP3 : Hid _ := HP2.out w2 o2
          have HK : Hid (VrAt w2 B f (.slice ao La cap) acc ∧ RrAt w2 R v tl (nx' : Int) n o z' 0 0 ∧ Only (fun b => b = R) w w2 ∧ B ≤ w2.heap.size) := ⟨HK0.out.1.only o2 (fun _ _ h => h), HK0.out.2.1.only o2, HK0.out.2.2.1.trans (o2.mono (bs' := fun b => b = R) (fun _ _ h => h.elim)) (fun _ _ g => g), Nat.le_trans HK0.out.2.2.2 o2.size⟩
          clear HC HP2 HK0 o2
          go_wp2_with fail
          refine (show Calls Tryz.prog 77 _ _ _ from HP3.out).mono ?_
          intro x w3 hx
          clear HP3
          have hz : zIn o z' = z' := if_neg (by have := HO.out; omega)
          unfold rlP at hx
          rw [hz] at hx
          clear hz
          have hRl : R < w.heap.size := HR.out
          have hBl : w.heap.size ≤ B := HBW.out
          cases hp : prs n g0 0 (tl.drop nx') o z' with
          | ok p =>
            obtain ⟨l1, q1, z1⟩ := p
            rw [hp] at hx HE
            dsimp only at hx
            obtain ⟨t, al, Ll, cl, nx1, s1, rfl, rfl, hx⟩ := hx
            have HPK := prs_ok n _ _ _ _ _ _ _ _ hp (by have := HG.out; omega)
            have s1e : s1 = z1 := hx.out.2.2.2.1 (by have := HO.out; omega)
            subst s1e
            have HE2 : Hid (Z = pre (acc ++ [t]) (prs n g0 (m + 2) (tl.drop nx1) o s1)) := by
              show Z = _
              rw [show Z = _ from HE.out]
              dsimp only
              rw [pre_app, hx.out.1]
            have HN1 : Hid (nx' < nx1 ∧ nx1 ≤ tl.length ∧ 0 ≤ s1 ∧ s1 ≤ 1024) := by
              have h1 := hx.out.1
              have h2 := hx.out.2.1
              have h3 := HPK.1
              rw [h1, List.length_drop, List.length_drop] at h3
              have := HG.out
              have := HPK.2.1
              have := HPK.2.2.1
              exact ⟨by omega, h2, by omega, by omega⟩
            unfold rV
            obtain ⟨x0, hx0⟩ : ∃ x0, x0 = (t.k : Int) := ⟨_, rfl⟩
            obtain ⟨x1, hx1⟩ : ∃ x1, x1 = vn t := ⟨_, rfl⟩
            obtain ⟨x2, hx2⟩ : ∃ x2, x2 = vs t := ⟨_, rfl⟩
            have HXX : Hid (x0 = (t.k : Int) ∧ x1 = vn t ∧ x2 = vs t) := ⟨hx0, hx1, hx2⟩
            rw [← hx0, ← hx1, ← hx2]
            clear hx0 hx1 hx2 HPK hp HE
            have oR : Only (fun b => b = R) w2 w3 := hx.out.2.2.2.2.2.2.2
            have oA : Only (fun _ => False) w3 ((w3.alloc (.cells #[.int .i64 x0, .int .i64 x1, .string x2, .slice al Ll cl] 100)).alloc (.cells #[.int .i64 x0, .int .i64 x1, .string x2, .slice al Ll cl] 100)) := ((Only.refl _ w3).alloc _).alloc _
            have hsz1 : B ≤ w2.heap.size := HK.out.2.2.2
            have V4 := (HK.out.1.only oR (fun b hb e => by omega)).only oA (fun _ _ h => h)
            have N4 : NvAt ((w3.alloc (.cells #[.int .i64 x0, .int .i64 x1, .string x2, .slice al Ll cl] 100)).alloc (.cells #[.int .i64 x0, .int .i64 x1, .string x2, .slice al Ll cl] 100)) w2.heap.size f t (.slice al Ll cl) := (hx.out.2.2.1.deep (by have := HG.out; omega)).only oA (fun _ _ h => h)
            have R4 : RrAt ((w3.alloc (.cells #[.int .i64 x0, .int .i64 x1, .string x2, .slice al Ll cl] 100)).alloc (.cells #[.int .i64 x0, .int .i64 x1, .string x2, .slice al Ll cl] 100)) R v tl (nx1 : Int) n o s1 0 0 := hx.out.2.2.2.2.2.2.1.only oA
            have O4 : Only (fun b => b = R) w ((w3.alloc (.cells #[.int .i64 x0, .int .i64 x1, .string x2, .slice al Ll cl] 100)).alloc (.cells #[.int .i64 x0, .int .i64 x1, .string x2, .slice al Ll cl] 100)) := (HK.out.2.2.1.trans oR (fun _ _ g => g)).trans (oA.mono (bs' := fun b => b = R) (fun _ _ h => h.elim)) (fun _ _ g => g)
            have hlt : ∀ k, (Value.slice ao La cap).ownBlock = some k → k < w2.heap.size := fun k hk => by
              obtain ⟨us, S', hr, _⟩ := HK.out.1
              exact (hr.lt k hk).2
            obtain ⟨us, SS, hown, htr, hSS⟩ := V4
            rw [← show La = _ from HLa.out] at hown
            have HOW : Hid (((w3.alloc (.cells #[.int .i64 x0, .int .i64 x1, .string x2, .slice al Ll cl] 100)).alloc (.cells #[.int .i64 x0, .int .i64 x1, .string x2, .slice al Ll cl] 100)).ownsRow B 100 4 (.slice ao La cap) La us) := hown
            have HAL : Hid (_ ∧ _ ∧ NvAt ((w3.alloc (.cells #[.int .i64 x0, .int .i64 x1, .string x2, .slice al Ll cl] 100)).alloc (.cells #[.int .i64 x0, .int .i64 x1, .string x2, .slice al Ll cl] 100)) w2.heap.size f t (.slice al Ll cl) ∧ RrAt ((w3.alloc (.cells #[.int .i64 x0, .int .i64 x1, .string x2, .slice al Ll cl] 100)).alloc (.cells #[.int .i64 x0, .int .i64 x1, .string x2, .slice al Ll cl] 100)) R v tl (nx1 : Int) n o s1 0 0 ∧ Only (fun b => b = R) w ((w3.alloc (.cells #[.int .i64 x0, .int .i64 x1, .string x2, .slice al Ll cl] 100)).alloc (.cells #[.int .i64 x0, .int .i64 x1, .string x2, .slice al Ll cl] 100)) ∧ B ≤ w2.heap.size ∧ (∀ k, (Value.slice ao La cap).ownBlock = some k → k < w2.heap.size)) := ⟨htr, hSS, N4, R4, O4, hsz1, hlt⟩
            have HLB : Hid (La < 4096) := by have := HG.out; have := HN1.out; show La < 4096; omega
            have HSZ : Hid (B ≤ w3.heap.size) := Nat.le_trans hsz1 oR.size
            clear N4 R4 O4 hown htr hSS hlt hx oR hsz1 HK hRl hBl oA
            obtain ⟨i0', z0, hi', hz0, hz1, hz2, hz3⟩ := v_info
            go_wp2_with (at_builtin; refine wpList_append_own_at _ rfl _ _ 69 rfl B 100 i0' z0 4 56 Tryz.underlying69 hi' hz0 hz1 hz2 hz3 (by decide) _ La us rfl HOW.out ⟨w3.heap.size + 1, 0, none⟩ 1 1 [.int .i64 x0, .int .i64 x1, .string x2, .slice al Ll cl] rfl rfl ?c1 ?c2 ?c3 ?c4 ?c5 ?_)
            case c1 =>
              intro j u hj
              rcases j with _ | _ | _ | _ | j <;> simp at hj <;> subst hj <;> simp [Addr.add]
            case c2 =>
              intro u hu
              simp only [List.mem_cons, List.not_mem_nil, or_false] at hu
              rcases hu with rfl | rfl | rfl | rfl <;> rfl
            case c3 => have := HLB.out; unfold maxLen; omega
            case c4 => have := HLB.out; omega
            case c5 => have := HSZ.out; simp; omega
            intro v' w6 hown' hgrow _ hat
            clear hi' hz0 hz1 hz2 hz3
            obtain ⟨a1, a2, a3, a4, a5, a6, a7⟩ := HAL.out
            obtain ⟨e0, e1, e2⟩ := HXX.out
            have W5 : VrAt w6 B f v' (acc ++ [t]) := VrAt.snoc hgrow (by rw [← show La = _ from HLa.out]; exact HOW.out) a1 a2 a3 a6 a7 (by rw [← show La = _ from HLa.out, ← e0, ← e1, ← e2]; exact hown') (by simpa using hat)
            have og : Only (fun k => (Value.slice ao La cap).ownBlock = some k) _ w6 := (Only.refl _ _).grown hgrow (fun k e _ => e)
            have hB : w.heap.size ≤ B := HBW.out
            have hRl : R < w.heap.size := HR.out
            have R5 : RrAt w6 R v tl (nx1 : Int) n o s1 0 0 := a4.keep (fun b hb e => by have := (HOW.out.lt b e).1; omega) og
            have O5 : Only (fun b => b = R) w w6 := a5.trans og (fun k hk e => by have := (HOW.out.lt k e).1; omega)
            obtain ⟨ao', cap', hv'⟩ := W5.form
            subst hv'
            have HK5 : Hid (Z = pre (acc ++ [t]) (prs n g0 (m + 2) (tl.drop nx1) o s1) ∧ 3 * (tl.length - nx1) + 3 ≤ g0 ∧ g0 ≤ f ∧ nx1 ≤ tl.length ∧ 0 ≤ s1 ∧ (s1 ≤ 1024 ∧ (acc ++ [t]).length + (tl.length - nx1) ≤ 4096) ∧ VrAt w6 B f (.slice ao' (acc ++ [t]).length cap') (acc ++ [t]) ∧ RrAt w6 R v tl (nx1 : Int) n o s1 0 0 ∧ Only (fun b => b = R) w w6 ∧ B ≤ w6.heap.size) := by
              have b1 := HN1.out
              have b2 := HG.out
              have b3 : La = acc.length := HLa.out
              exact ⟨HE2.out, by omega, by omega, by omega, by omega, ⟨by omega, by simp only [List.length_append, List.length_cons, List.length_nil]; omega⟩, W5, R5, O5, by have h1 := og.size; have h2 := HSZ.out; simp at h1; omega⟩
            clear W5 O5 R5 og HAL HOW hown' hgrow hat a1 a2 a3 a4 a5 a6 a7 e0 e1 e2 HXX hB hRl
            obtain ⟨Lb, hLb⟩ : ∃ L, L = (acc ++ [t]).length := ⟨_, rfl⟩
            rw [← hLb]
            go_wp2
            go_roundw
            case rel => exact .inl ⟨g0, nx1, s1, acc ++ [t], ao', cap', by rw [hLb], HK5⟩
            case measure =>
              rw [rrM_ok HK5.out.2.2.2.2.2.2.2.1, show rrM _ _ _ = _ from KM.out]
              have := HN1.out
              omega
          | error p =>
            obtain ⟨a, er⟩ := p
            rw [hp] at hx HE
            dsimp only at hx
            obtain ⟨x0, x1, x2, al, Ll, cl, b, rfl, hx⟩ := hx
            have HE2 : Hid (Z = .error (a, er)) := by
              show Z = _
              rw [show Z = _ from HE.out]
              rfl
            have HLB : Hid (La ≤ 4096) := by have := HG.out; show La ≤ 4096; omega
            unfold rV
            clear hp HE
            cases b with
            | true =>
              have hf : RrF R v tl n a er w2 w3 := by
                rcases hx.out.2 with ⟨_, _, h⟩ | ⟨h, _⟩
                · exact h
                · simp at h
              obtain ⟨nf, of, sf, hf1, oR⟩ := hf
              have oA : Only (fun _ => False) w3 ((w3.alloc (.cells #[.int .i64 x0, .int .i64 x1, .string x2, .slice al Ll cl] 100)).alloc (.cells #[.int .i64 x0, .int .i64 x1, .string x2, .slice al Ll cl] 100)) := ((Only.refl _ w3).alloc _).alloc _
              have V4 := (HK.out.1.only oR (fun b hb e => by have := HK.out.2.2.2; omega)).only oA (fun _ _ h => h)
              have HRF : Hid (∃ a e, Z = .error (a, e) ∧ e ≠ 0 ∧ RrF R v tl n a e w ((w3.alloc (.cells #[.int .i64 x0, .int .i64 x1, .string x2, .slice al Ll cl] 100)).alloc (.cells #[.int .i64 x0, .int .i64 x1, .string x2, .slice al Ll cl] 100))) := ⟨a, er, HE2.out, hx.out.1, nf, of, sf, hf1.only oA, (HK.out.2.2.1.trans oR (fun _ _ g => g)).trans (oA.mono (bs' := fun b => b = R) (fun _ _ h => h.elim)) (fun _ _ g => g)⟩
              obtain ⟨us, SS, hown, htr, hSS⟩ := V4
              rw [← show La = _ from HLa.out] at hown
              have HOW : Hid (((w3.alloc (.cells #[.int .i64 x0, .int .i64 x1, .string x2, .slice al Ll cl] 100)).alloc (.cells #[.int .i64 x0, .int .i64 x1, .string x2, .slice al Ll cl] 100)).ownsRow B 100 4 (.slice ao La cap) La us) := hown
              have HSZ : Hid (B ≤ w3.heap.size) := Nat.le_trans HK.out.2.2.2 oR.size
              clear hown htr hSS hx oR HK hRl hBl oA hf1
              obtain ⟨i0', z0, hi', hz0, hz1, hz2, hz3⟩ := v_info
              go_wp2_with (at_builtin; refine wpList_append_own_at _ rfl _ _ 69 rfl B 100 i0' z0 4 56 Tryz.underlying69 hi' hz0 hz1 hz2 hz3 (by decide) _ La us rfl HOW.out ⟨w3.heap.size + 1, 0, none⟩ 1 1 [.int .i64 x0, .int .i64 x1, .string x2, .slice al Ll cl] rfl rfl ?c1 ?c2 ?c3 ?c4 ?c5 ?_)
              case c1 =>
                intro j u hj
                rcases j with _ | _ | _ | _ | j <;> simp at hj <;> subst hj <;> simp [Addr.add]
              case c2 =>
                intro u hu
                simp only [List.mem_cons, List.not_mem_nil, or_false] at hu
                rcases hu with rfl | rfl | rfl | rfl <;> rfl
              case c3 => have := HLB.out; unfold maxLen; omega
              case c4 => have := HLB.out; omega
              case c5 => have := HSZ.out; simp; omega
              intro v' w6 hown' hgrow _ hat
              clear hi' hz0 hz1 hz2 hz3
              obtain ⟨ao', cap', hv'⟩ := own_form hown'
              subst hv'
              have HF6 : Hid (∃ a e, Z = .error (a, e) ∧ e ≠ 0 ∧ RrF R v tl n a e w w6) := by
                obtain ⟨a, e, h1, h2, nf, of, sf, h3, h4⟩ := HRF.out
                have og : Only (fun k => (Value.slice ao La cap).ownBlock = some k) _ w6 := (Only.refl _ _).grown hgrow (fun k e _ => e)
                have hB : w.heap.size ≤ B := HBW.out
                have hR : R < w.heap.size := HR.out
                exact ⟨a, e, h1, h2, nf, of, sf, h3.keep (fun b hb e => by have := (HOW.out.lt b e).1; omega) og, h4.trans og (fun k hk e => by have := (HOW.out.lt k e).1; omega)⟩
              clear hown' hgrow hat HRF HOW
              go_wp2
              go_roundw
              case rel => exact .inr ⟨ao', La + 1, cap', rfl, HF6⟩
              case measure =>
                obtain ⟨a, e, h1, h2, nf, of, sf, h3, h4⟩ := HF6.out
                rw [rrM_bad h2 h3, show rrM _ _ _ = _ from KM.out]
                omega
            | false =>
              have hf : a = atR tl nx' n ∧ er = 9 ∧ RrAt w3 R v tl (nx' : Int) n o z' 0 0 ∧ Only (fun _ => False) w2 w3 := by
                rcases hx.out.2 with ⟨h, _⟩ | ⟨_, h⟩
                · simp at h
                · exact h
              obtain ⟨ha, he9, hf1, oF⟩ := hf
              have oA : Only (fun _ => False) w3 (w3.alloc (.cells #[.int .i64 x0, .int .i64 x1, .string x2, .slice al Ll cl] 100)) := (Only.refl _ w3).alloc _
              have A4 := hf1.only oA
              have HT : Hid (Calls Tryz.prog 53 #[.pointer (some ⟨R, 0, none⟩)] (w3.alloc (.cells #[.int .i64 x0, .int .i64 x1, .string x2, .slice al Ll cl] 100)) fun x w' => x = .returned (.int .i64 a) ∧ Only (fun _ => False) (w3.alloc (.cells #[.int .i64 x0, .int .i64 x1, .string x2, .slice al Ll cl] 100)) w') := by
                rw [ha]
                exact rat_any R v tl nx' n o z' 0 0 _ A4
              have HFL : Hid (∀ w4, Only (fun _ => False) (w3.alloc (.cells #[.int .i64 x0, .int .i64 x1, .string x2, .slice al Ll cl] 100)) w4 → Calls Tryz.prog 52 #[.pointer (some ⟨R, 0, none⟩), .int .i64 a, .int .i64 9] w4 fun x w' => x = .returned (.tuple #[]) ∧ Hid (RrAt w' R v tl (nx' : Int) n o z' a 9 ∧ Only (fun b => b = R) (w3.alloc (.cells #[.int .i64 x0, .int .i64 x1, .string x2, .slice al Ll cl] 100)) w')) := fun w4 o4 => (rfail_ok R v tl nx' n o z' 0 a 9 w4 (A4.only o4)).mono fun x w' g => ⟨g.1, g.2.out.1, (o4.mono (bs' := fun b => b = R) (fun _ _ h => h.elim)).trans g.2.out.2 (fun _ _ g => g)⟩
              have HV3 : Hid ((w3.alloc (.cells #[.int .i64 x0, .int .i64 x1, .string x2, .slice al Ll cl] 100)).heap[w3.heap.size]? = some (.cells #[.int .i64 x0, .int .i64 x1, .string x2, .slice al Ll cl] 100)) := alloc_at _ _ _ rfl
              have HZ2 : Hid (R < w3.heap.size ∧ Only (fun _ => False) w2 (w3.alloc (.cells #[.int .i64 x0, .int .i64 x1, .string x2, .slice al Ll cl] 100)) ∧ er = 9) := ⟨Nat.lt_of_lt_of_le hRl (Nat.le_trans hBl (Nat.le_trans HK.out.2.2.2 oF.size)), oF.trans oA (fun _ _ g => g), he9⟩
              clear ha he9 A4 hf1 hx
              go_wp2_with fail
              refine (show Calls Tryz.prog 53 _ _ _ from HT.out).mono ?_
              rintro x w4 ⟨rfl, o4⟩
              have HFM : Hid _ := HFL.out w4 o4
              clear HT HFL o4
              go_wp2_with fail
              refine (show Calls Tryz.prog 52 _ _ _ from HFM.out).mono ?_
              rintro x w5 ⟨rfl, g5⟩
              have hV5 := (g5.out.2.block w3.heap.size (Array.getElem?_eq_some_iff.1 HV3.out).1 (by have := HZ2.out.1; omega)).trans HV3.out
              have d0 := blk_cells hV5 0
              have d1 := blk_cells hV5 1
              have d2 := blk_cells hV5 2
              have d3 := blk_cells hV5 3
              simp only [List.getElem?_toArray, List.getElem?_cons_zero, List.getElem?_cons_succ] at d0 d1 d2 d3
              have oB : Only (fun _ => False) w5 (w5.alloc (.cells #[.int .i64 x0, .int .i64 x1, .string x2, .slice al Ll cl] 100)) := (Only.refl _ w5).alloc _
              have V4 := ((HK.out.1.only HZ2.out.2.1 (fun _ _ h => h)).only g5.out.2 (fun b hb e => by omega)).only oB (fun _ _ h => h)
              have oW : Only (fun b => b = R) w (w5.alloc (.cells #[.int .i64 x0, .int .i64 x1, .string x2, .slice al Ll cl] 100)) := ((HK.out.2.2.1.trans (HZ2.out.2.1.mono (bs' := fun b => b = R) (fun _ _ h => h.elim)) (fun _ _ g => g)).trans g5.out.2 (fun _ _ g => g)).trans (oB.mono (bs' := fun b => b = R) (fun _ _ h => h.elim)) (fun _ _ g => g)
              have HRF : Hid (∃ a e, Z = .error (a, e) ∧ e ≠ 0 ∧ RrF R v tl n a e w (w5.alloc (.cells #[.int .i64 x0, .int .i64 x1, .string x2, .slice al Ll cl] 100))) := ⟨a, er, HE2.out, by rw [HZ2.out.2.2]; decide, nx', o, z', by rw [HZ2.out.2.2]; exact g5.out.1.only oB, oW⟩
              obtain ⟨us, SS, hown, htr, hSS⟩ := V4
              rw [← show La = _ from HLa.out] at hown
              have HOW : Hid ((w5.alloc (.cells #[.int .i64 x0, .int .i64 x1, .string x2, .slice al Ll cl] 100)).ownsRow B 100 4 (.slice ao La cap) La us) := hown
              have HSZ : Hid (B ≤ w5.heap.size) := Nat.le_trans HK.out.2.2.2 (Nat.le_trans HZ2.out.2.1.size g5.out.2.size)
              clear hown htr hSS HK hRl hBl oA hV5 oB oW HFM HV3 HZ2 g5 oF
              obtain ⟨i0', z0, hi', hz0, hz1, hz2, hz3⟩ := v_info
              go_wp2_with (at_builtin; refine wpList_append_own_at _ rfl _ _ 69 rfl B 100 i0' z0 4 56 Tryz.underlying69 hi' hz0 hz1 hz2 hz3 (by decide) _ La us rfl HOW.out ⟨w5.heap.size, 0, none⟩ 1 1 [.int .i64 x0, .int .i64 x1, .string x2, .slice al Ll cl] rfl rfl ?c1 ?c2 ?c3 ?c4 ?c5 ?_)
              case c1 =>
                intro j u hj
                rcases j with _ | _ | _ | _ | j <;> simp at hj <;> subst hj <;> simp [Addr.add]
              case c2 =>
                intro u hu
                simp only [List.mem_cons, List.not_mem_nil, or_false] at hu
                rcases hu with rfl | rfl | rfl | rfl <;> rfl
              case c3 => have := HLB.out; unfold maxLen; omega
              case c4 => have := HLB.out; omega
              case c5 => have := HSZ.out; simp; omega
              intro v' w6 hown' hgrow _ hat
              clear hi' hz0 hz1 hz2 hz3
              obtain ⟨ao', cap', hv'⟩ := own_form hown'
              subst hv'
              have HF6 : Hid (∃ a e, Z = .error (a, e) ∧ e ≠ 0 ∧ RrF R v tl n a e w w6) := by
                obtain ⟨a, e, h1, h2, nf, of, sf, h3, h4⟩ := HRF.out
                have og : Only (fun k => (Value.slice ao La cap).ownBlock = some k) _ w6 := (Only.refl _ _).grown hgrow (fun k e _ => e)
                have hB : w.heap.size ≤ B := HBW.out
                have hR : R < w.heap.size := HR.out
                exact ⟨a, e, h1, h2, nf, of, sf, h3.keep (fun b hb e => by have := (HOW.out.lt b e).1; omega) og, h4.trans og (fun k hk e => by have := (HOW.out.lt k e).1; omega)⟩
              clear hown' hgrow hat HRF HOW
              go_wp2
              go_roundw
              case rel => exact .inr ⟨ao', La + 1, cap', rfl, HF6⟩
              case measure =>
                obtain ⟨a, e, h1, h2, nf, of, sf, h3, h4⟩ := HF6.out
                rw [rrM_bad h2 h3, show rrM _ _ _ = _ from KM.out]
                omega
      · obtain ⟨w1, rfl⟩ : ∃ w1, w1 = wr := ⟨_, rfl⟩
        have HC : Hid (Calls Tryz.prog 104 #[.pointer (some ⟨R, 0, none⟩), .string (⟨#[125]⟩ : ByteArray)] w1 fun x w' => x = .returned (.bool false) ∧ w' = w1) := by
          obtain ⟨a, e, h1, h2, nf, of, sf, h3, h4⟩ := HF.out
          exact rmore_no R v tl nf n of sf a e (⟨#[125]⟩ : ByteArray) w1 h2 h3
        go_wp2_with fail
        refine (show Calls Tryz.prog 104 _ _ _ from HC.out).mono ?_
        rintro x w2 ⟨rfl, rfl⟩
        clear HC
        have hV2 : w2.heap[N]? = some (.cells #[.int .i64 0, .int .i64 0, .string ⟨#[]⟩, .slice none 0 0] 100) := by
          obtain ⟨a, e, h1, h2, nf, of, sf, h3, h4⟩ := HF.out
          exact (h4.block N (Array.getElem?_eq_some_iff.1 HVN.out).1 (by have := HRN.out.1; omega)).trans HVN.out
        have HV : Hid (w2.heap[N]? = some _) := hV2
        have e0 := blk_cells hV2 0
        have e1 := blk_cells hV2 1
        have e2 := blk_cells hV2 2
        have e3 := blk_cells hV2 3
        have z0 := blk_froz hV2 0
        have z1 := blk_froz hV2 1
        have z2 := blk_froz hV2 2
        have z3 := blk_froz hV2 3
        simp only [List.getElem?_toArray, List.getElem?_cons_zero, List.getElem?_cons_succ] at e0 e1 e2 e3
        clear hV2
        go_wp2
        obtain ⟨q0, q1, q2, q3⟩ := set4 HV.out rfl (.int .i64 4) (.int .i64 0) (.string ⟨#[]⟩) (.slice ao L cap)
        refine bodyPost_ret (results_vb rfl _ _ N q0 q1 q2 q3 rfl) rfl ?_
        obtain ⟨a, e, h1, h2, h3⟩ := HF.out
        unfold rlP
        rw [HQ.out, h1]
        unfold brL
        dsimp only
        exact ⟨4, 0, ⟨#[]⟩, ao, L, cap, true, rfl, h2, .inl ⟨rfl, fun _ => HNM.out, h3.fin HOW0.out (on4 w2 N _ _ _ _) HRN.out.2 HRN.out.1⟩⟩
  · have HF : Hid (∃ a e, Z = .error (a, e) ∧ e ≠ 0 ∧ RrF R v tl n a e w w) := by
      obtain ⟨nf, of, sf, h1, h2⟩ := hr
      refine ⟨_, 11, ?_, by decide, nf, of, sf, h1, Only.refl _ _⟩
      rw [show Z = _ from HZ.out]
      unfold brZ
      rw [if_pos hc]
    have HC : Hid (Calls Tryz.prog 104 #[.pointer (some ⟨R, 0, none⟩), .string (⟨#[125]⟩ : ByteArray)] w fun x w' => x = .returned (.bool false) ∧ w' = w) := by
      obtain ⟨a, e, h1, h2, nf, of, sf, h3, h4⟩ := HF.out
      exact rmore_no R v tl nf n of sf a e _ w h2 h3
    clear hc hr g3 HZ HPP
    go_wp2
    go_loopw [5] (fun r5 wr => r5 = .slice none 0 0 ∧ wr = w) (fun _ _ => 1)
    case atStart => exact ⟨rfl, rfl⟩
    case round =>
      obtain ⟨rfl, rfl⟩ := hrel
      go_wp2_with fail
      refine (show Calls Tryz.prog 104 _ _ _ from HC.out).mono ?_
      rintro x w2 ⟨rfl, rfl⟩
      clear HC
      have hV2 := HVN.out
      have HV : Hid (w2.heap[N]? = some _) := hV2
      have e0 := blk_cells hV2 0
      have e1 := blk_cells hV2 1
      have e2 := blk_cells hV2 2
      have e3 := blk_cells hV2 3
      have z0 := blk_froz hV2 0
      have z1 := blk_froz hV2 1
      have z2 := blk_froz hV2 2
      have z3 := blk_froz hV2 3
      simp only [List.getElem?_toArray, List.getElem?_cons_zero, List.getElem?_cons_succ] at e0 e1 e2 e3
      clear hV2
      go_wp2
      obtain ⟨q0, q1, q2, q3⟩ := set4 HV.out rfl (.int .i64 4) (.int .i64 0) (.string ⟨#[]⟩) (.slice none 0 0)
      refine bodyPost_ret (results_vb rfl _ _ N q0 q1 q2 q3 rfl) rfl ?_
      obtain ⟨a, e, h1, h2, h3⟩ := HF.out
      unfold rlP
      rw [HQ.out, h1]
      unfold brL
      dsimp only
      exact ⟨4, 0, ⟨#[]⟩, none, 0, 0, true, rfl, h2, .inl ⟨rfl, fun _ => HNM.out, h3.fin HOW0.out (on4 w2 N _ _ _ _) HRN.out.2 HRN.out.1⟩⟩
end Go.Proofs.YtfecmpebnianpaaGreatDoor
namespace Go.Proofs.YtfecmpebnianpaaGreatDoor
open Go.RowKit
set_option linter.unusedSimpArgs false
set_option linter.unusedVariables false
theorem cn_z {o s : Int} : (o ≠ 0 ∧ s = 1024) ↔ zIn o s = 1024 := by
  unfold zIn
  by_cases h : o = 0
  · simp [h]
  · simp [h]
theorem rlP_leaf {R : Nat} {v : Value} {tl : List Tok} {n : Int} {f m nx : Nat} {o s : Int} {w w' : World} {t : Tre} (hs : 0 ≤ s) (hs1 : s ≤ 1024) (hn : nx < tl.length) (hq : prs n (f + 1) m (tl.drop nx) o (zIn o s) = if zIn o s = 1024 then .error (atR tl nx n, 11) else .ok ([t], tl.drop (nx + 1), zIn o s + 1)) (hl : t.l = []) (hm : m = 0 → nmR tl nx = false) (g : CnP R v tl nx n o s w w') :
    rlP R v tl n (f + 1) m nx o s w (.returned (.tuple #[rV (t.k : Int) (vn t) (vs t) (.slice none 0 0), .bool true])) w' := by
  unfold rlP
  rw [hq]
  rcases g with ⟨hc, g⟩ | ⟨hc, g⟩
  · rw [if_neg (fun e => hc (cn_z.2 e))]
    refine ⟨t, none, 0, 0, nx + 1, _, rfl, rfl, rfl, hn, nv_nil hl, fun h0 => ?_, ?_, ?_, g⟩
    · rw [if_neg h0]; unfold zIn; rw [if_neg h0]
    · split <;> omega
    · split
      · omega
      · rename_i h0
        have : s ≠ 1024 := fun e => hc ⟨h0, e⟩
        omega
  · rw [if_pos (cn_z.1 hc)]
    exact ⟨_, _, _, none, 0, 0, true, rfl, by decide, .inl ⟨rfl, hm, g⟩⟩
theorem rl_of (R : Nat) (v : Value) (tl : List Tok) (n : Int) (f : Nat) (htl : tl.length ≤ 4096) (HI : RiC R v tl n f 3) (HP : ∀ g, g < f → RpC R v tl n g 0 77) : RpC R v tl n (f + 1) 0 77 := by
  intro nx o s w hx hf ho ho1 hs hs1 h
  cases ht : tl[nx]? with
  | none =>
    refine (rl_nil R v tl nx n o s w (by simpa using ht) h).mono fun x w' g => ?_
    unfold rlP
    rw [drop_none ht]
    have ha : atR tl nx n = n := by unfold atR; rw [ht]
    exact ⟨0, 0, ⟨#[]⟩, none, 0, 0, false, g.1, by decide, .inr ⟨rfl, ha.symm, rfl, g.2.out.1, g.2.out.2⟩⟩
  | some t =>
    have hn : nx < tl.length := (List.getElem?_eq_some_iff.1 ht).1
    obtain ⟨tk, tt, tn, ta⟩ := t
    have ha : atR tl nx n = ta := by unfold atR; rw [ht]
    have hd := drop_some ht
    by_cases k2 : tk = 2
    · subst k2
      refine (rl_num R v tl nx n o s 2 tt tn ta w ho hs hs1 (by omega) ht h).mono fun x w' g => ?_
      rw [g.1]
      refine rlP_leaf (t := ⟨1, tn, ⟨#[]⟩, []⟩) hs hs1 hn ?_ rfl (fun _ => by unfold nmR; rw [ht]; rfl) g.2.out
      rw [hd, ha]
      conv =>
        lhs
        unfold prs
      dsimp only
      rw [if_pos rfl]
    · by_cases k3 : tk = 3
      · subst k3
        refine (rl_str R v tl nx n o s 3 tt tn ta w ho hs hs1 (by omega) ht h).mono fun x w' g => ?_
        rw [g.1]
        refine rlP_leaf (t := ⟨2, 0, tt, []⟩) hs hs1 hn ?_ rfl (fun _ => by unfold nmR; rw [ht]; rfl) g.2.out
        rw [hd, ha]
        conv =>
          lhs
          unfold prs
        dsimp only
        rw [if_neg (by omega), if_pos rfl]
      · have i2 : (tk == 2) = false := by simp [k2]
        have i3 : (tk == 3) = false := by simp [k3]
        by_cases c1 : tt.toList = [116]
        · obtain rfl := str_of c1
          refine (rl_yes R v tl nx n o s tk ⟨#[116]⟩ tn ta w ho hs hs1 (by omega) i2 i3 ht h).mono fun x w' g => ?_
          rw [g.1]
          refine rlP_leaf (t := ⟨3, 1, ⟨#[]⟩, []⟩) hs hs1 hn ?_ rfl (fun _ => nm_br (.inr (.inr (.inl rfl))) ht) g.2.out
          rw [hd, ha]
          conv =>
            lhs
            unfold prs
          dsimp only
          rw [if_neg k2, if_neg k3, if_pos c1]
        · by_cases c2 : tt.toList = [102]
          · obtain rfl := str_of c2
            refine (rl_not R v tl nx n o s tk ⟨#[102]⟩ tn ta w ho hs hs1 (by omega) i2 i3 ht h).mono fun x w' g => ?_
            rw [g.1]
            refine rlP_leaf (t := ⟨3, 0, ⟨#[]⟩, []⟩) hs hs1 hn ?_ rfl (fun _ => nm_br (.inr (.inr (.inr rfl))) ht) g.2.out
            rw [hd, ha]
            conv =>
              lhs
              unfold prs
            dsimp only
            rw [if_neg k2, if_neg k3, if_neg c1, if_pos c2]
          · by_cases c3 : tt.toList = [91]
            · obtain rfl := str_of c3
              exact rl_quot f R v tl nx n o s tk tn ta w htl ho ho1 hs hs1 (by omega) HI i2 i3 ht h
            · by_cases c4 : tt.toList = [123]
              · obtain rfl := str_of c4
                exact rl_list f R v tl nx n o s tk tn ta w htl ho ho1 hs hs1 (by omega) HP i2 i3 ht h
              · refine (rl_none R v tl nx n o s tk tt tn ta w i2 i3 (by simp [c1]) (by simp [c2]) (by simp [c3]) (by simp [c4]) ht h).mono fun x w' g => ?_
                unfold rlP
                have hq : prs n (f + 1) 0 (tl.drop nx) o (zIn o s) = .error (ta, 9) := by
                  rw [hd]
                  conv =>
                    lhs
                    unfold prs
                  dsimp only
                  rw [if_neg k2, if_neg k3, if_neg c1, if_neg c2, if_neg c3, if_neg c4]
                rw [hq]
                exact ⟨0, 0, ⟨#[]⟩, none, 0, 0, false, g.1, by decide, .inr ⟨rfl, ha.symm, rfl, g.2.out.1, g.2.out.2⟩⟩
theorem prs_item {n : Int} {f : Nat} {tl : List Tok} {nx : Nat} {o z : Int} (h : nmR tl nx = false) : prs n (f + 2) 1 (tl.drop nx) o z = prs n (f + 1) 0 (tl.drop nx) o z := by
  unfold nmR at h
  cases ht : tl[nx]? with
  | none => rw [drop_none ht]; rfl
  | some t =>
    rw [ht] at h
    dsimp only at h
    rw [drop_some ht]
    conv =>
      lhs
      unfold prs
    dsimp only
    rw [if_neg (by simp [h])]
theorem prs_name {n : Int} {f : Nat} {tl : List Tok} {nx : Nat} {o z : Int} {t : Tok} (ht : tl[nx]? = some t) (h : nmR tl nx = true) : prs n (f + 1) 1 (tl.drop nx) o z = (if z = 1024 then .error (atR tl nx n, 11) else .ok ([⟨7, 0, t.t, []⟩], tl.drop (nx + 1), z + 1)) ∧ prs n (f + 1) 0 (tl.drop nx) o z = .error (atR tl nx n, 9) := by
  unfold nmR at h
  rw [ht] at h
  dsimp only at h
  have ha : atR tl nx n = t.a := by unfold atR; rw [ht]
  rw [drop_some ht, ha]
  refine ⟨?_, ?_⟩
  · conv =>
      lhs
      unfold prs
    dsimp only
    rw [if_pos h]
  · simp only [nmB, Bool.and_eq_true, beq_iff_eq, Bool.not_eq_true'] at h
    have hr := h.2
    simp only [resB, Bool.or_eq_false_iff, beq_eq_false_iff_ne] at hr
    conv =>
      lhs
      unfold prs
    dsimp only
    rw [if_neg (by omega), if_neg (by omega), if_neg (by simp_all), if_neg (by simp_all), if_neg (by simp_all), if_neg (by simp_all)]
theorem RrW.more {R : Nat} {v : Value} {tl : List Tok} {nx n o s fa e : Int} {w w' w2 : World} (h : RrW R v tl nx n o s fa e w w') (oo : Only (fun _ => False) w' w2) : RrW R v tl nx n o s fa e w w2 := ⟨h.1.only oo, h.2.trans (oo.mono (bs' := fun b => b = R) (fun _ _ h => h.elim)) (fun _ _ g => g)⟩
theorem RrF.more {R : Nat} {v : Value} {tl : List Tok} {n a e : Int} {w w' w2 : World} (h : RrF R v tl n a e w w') (oo : Only (fun _ => False) w' w2) : RrF R v tl n a e w w2 := by
  obtain ⟨nx, o, s, h1, h2⟩ := h
  exact ⟨nx, o, s, h1.only oo, h2.trans (oo.mono (bs' := fun b => b = R) (fun _ _ h => h.elim)) (fun _ _ g => g)⟩
set_option maxRecDepth 100000 in
set_option maxHeartbeats 8000000 in
theorem rit_of (R : Nat) (v : Value) (tl : List Tok) (n : Int) (f : Nat) (htl : tl.length ≤ 4096) (HP : RpC R v tl n (f + 1) 0 77) : RpC R v tl n (f + 2) 1 51 := by
  intro nx o s w hx hf ho ho1 hs hs1 h
  have HL : Hid (Calls Tryz.prog 77 #[.pointer (some ⟨R, 0, none⟩)] (w.alloc (.cells #[.int .i64 0, .int .i64 0, .string ⟨#[]⟩, .slice none 0 0] 100)) (rlP R v tl n (f + 1) 0 nx o s (w.alloc (.cells #[.int .i64 0, .int .i64 0, .string ⟨#[]⟩, .slice none 0 0] 100)))) := HP nx o s _ hx (by omega) ho ho1 hs hs1 (h.only ((Only.refl (fun _ => False) w).alloc _))
  obtain ⟨N, hN⟩ : ∃ N, N = w.heap.size := ⟨_, rfl⟩
  have HRN : Hid (R < N ∧ w.heap.size ≤ N) := ⟨by rw [hN]; exact h.lt, by omega⟩
  have HVN : Hid ((w.alloc (.cells #[.int .i64 0, .int .i64 0, .string ⟨#[]⟩, .slice none 0 0] 100)).heap[N]? = some (.cells #[.int .i64 0, .int .i64 0, .string ⟨#[]⟩, .slice none 0 0] 100)) := alloc_at _ _ _ hN
  have HO1 : Hid (Only (fun b => b = R) w (w.alloc (.cells #[.int .i64 0, .int .i64 0, .string ⟨#[]⟩, .slice none 0 0] 100)) ∧ Only (fun _ => False) w (w.alloc (.cells #[.int .i64 0, .int .i64 0, .string ⟨#[]⟩, .slice none 0 0] 100))) := ⟨(Only.refl (fun b => b = R) w).alloc _, (Only.refl _ w).alloc _⟩
  have HBB : Hid (0 ≤ o ∧ 0 ≤ s ∧ s ≤ 1024 ∧ nx ≤ 1000000) := ⟨ho, hs, hs1, by omega⟩
  clear HP hx hf ho ho1 hs hs1 h
  go_enter Tryz.func51, Tryz.ntmps51
  go_wp2_with fail
  refine (show Calls Tryz.prog 77 _ _ _ from HL.out).mono ?_
  intro x w1 hx
  rw [← hN]
  clear HL hN
  obtain ⟨W0, hW0⟩ : ∃ W0, W0 = w.alloc (.cells #[.int .i64 0, .int .i64 0, .string ⟨#[]⟩, .slice none 0 0] 100) := ⟨_, rfl⟩
  rw [← hW0] at hx HVN HO1
  clear hW0
  unfold rlP at hx
  cases hp : prs n (f + 1) 0 (tl.drop nx) o (zIn o s) with
  | ok p =>
    obtain ⟨l, q1, zq⟩ := p
    rw [hp] at hx
    dsimp only at hx
    obtain ⟨t, al, Ll, cl, nx1, s1, rfl, rfl, hx⟩ := hx
    have hnm : nmR tl nx = false := by
      cases hb : nmR tl nx with
      | false => rfl
      | true =>
        cases ht : tl[nx]? with
        | none => unfold nmR at hb; rw [ht] at hb; simp at hb
        | some t' =>
          have := (prs_name (n := n) (f := f) (o := o) (z := zIn o s) ht hb).2
          rw [this] at hp
          simp at hp
    have HQ : Hid (prs n (f + 2) 1 (tl.drop nx) o (zIn o s) = .ok ([t], q1, zq)) := (prs_item hnm).trans hp
    unfold rV
    obtain ⟨x0, hx0⟩ : ∃ x0, x0 = (t.k : Int) := ⟨_, rfl⟩
    obtain ⟨x1, hx1⟩ : ∃ x1, x1 = vn t := ⟨_, rfl⟩
    obtain ⟨x2, hx2⟩ : ∃ x2, x2 = vs t := ⟨_, rfl⟩
    have HXX : Hid (x0 = (t.k : Int) ∧ x1 = vn t ∧ x2 = vs t) := ⟨hx0, hx1, hx2⟩
    rw [← hx0, ← hx1, ← hx2]
    have oA : Only (fun _ => False) w1 (w1.alloc (.cells #[.int .i64 x0, .int .i64 x1, .string x2, .slice al Ll cl] 100)) := (Only.refl _ w1).alloc _
    have hV2 := (oA.block N (Nat.lt_of_lt_of_le (Array.getElem?_eq_some_iff.1 HVN.out).1 hx.out.2.2.2.2.2.2.2.size) (fun g => g)).trans ((hx.out.2.2.2.2.2.2.2.block N (Array.getElem?_eq_some_iff.1 HVN.out).1 (by have := HRN.out.1; omega)).trans HVN.out)
    have HV : Hid ((w1.alloc (.cells #[.int .i64 x0, .int .i64 x1, .string x2, .slice al Ll cl] 100)).heap[N]? = some _) := hV2
    have HF : Hid (q1 = tl.drop nx1 ∧ nx1 ≤ tl.length ∧ NvAt (w1.alloc (.cells #[.int .i64 x0, .int .i64 x1, .string x2, .slice al Ll cl] 100)) W0.heap.size (f + 1) t (.slice al Ll cl) ∧ (o ≠ 0 → s1 = zq) ∧ 0 ≤ s1 ∧ s1 ≤ 1024 ∧ RrW R v tl (nx1 : Int) n o s1 0 0 W0 (w1.alloc (.cells #[.int .i64 x0, .int .i64 x1, .string x2, .slice al Ll cl] 100)) ∧ N < W0.heap.size) := ⟨hx.out.1, hx.out.2.1, hx.out.2.2.1.only oA (fun _ _ h => h), hx.out.2.2.2.1, hx.out.2.2.2.2.1, hx.out.2.2.2.2.2.1, hx.out.2.2.2.2.2.2.more oA, (Array.getElem?_eq_some_iff.1 HVN.out).1⟩
    have e0 := blk_cells hV2 0
    have e1 := blk_cells hV2 1
    have e2 := blk_cells hV2 2
    have e3 := blk_cells hV2 3
    have z0 := blk_froz hV2 0
    have z1 := blk_froz hV2 1
    have z2 := blk_froz hV2 2
    have z3 := blk_froz hV2 3
    simp only [List.getElem?_toArray, List.getElem?_cons_zero, List.getElem?_cons_succ] at e0 e1 e2 e3
    clear hV2 hx oA hp hnm hx0 hx1 hx2
    go_wp2
    obtain ⟨q0, q1', q2, q3⟩ := set4 HV.out rfl (.int .i64 x0) (.int .i64 x1) (.string x2) (.slice al Ll cl)
    refine bodyPost_ret (results_vb rfl _ _ N q0 q1' q2 q3 rfl) rfl ?_
    unfold rlP
    rw [HQ.out]
    dsimp only
    obtain ⟨y0, y1, y2⟩ := HXX.out
    refine ⟨t, al, Ll, cl, nx1, s1, rfl, by unfold rV; rw [← y0, ← y1, ← y2]; rfl, HF.out.1, HF.out.2.1, ?_, HF.out.2.2.2.1, HF.out.2.2.2.2.1, HF.out.2.2.2.2.2.1, HF.out.2.2.2.2.2.2.1.fin HO1.out.1 (on4 _ N _ _ _ _) HRN.out.2 HRN.out.1⟩
    exact ((HF.out.2.2.1.only (on4 _ N _ _ _ _) (fun b hb e => by have := HF.out.2.2.2.2.2.2.2; omega)).lower HO1.out.1.size).deep (by omega)
  | error p =>
    obtain ⟨a, er⟩ := p
    rw [hp] at hx
    dsimp only at hx
    obtain ⟨x0, x1, x2, al, Ll, cl, b, rfl, hx⟩ := hx
    unfold rV
    have oA : Only (fun _ => False) w1 (w1.alloc (.cells #[.int .i64 x0, .int .i64 x1, .string x2, .slice al Ll cl] 100)) := (Only.refl _ w1).alloc _
    cases b with
    | true =>
      have hf : nmR tl nx = false ∧ RrF R v tl n a er W0 w1 := by
        rcases hx.out.2 with ⟨_, h1, h2⟩ | ⟨h, _⟩
        · exact ⟨h1 rfl, h2⟩
        · simp at h
      have HQ : Hid (prs n (f + 2) 1 (tl.drop nx) o (zIn o s) = .error (a, er)) := (prs_item hf.1).trans hp
      have oR : Only (fun b => b = R) W0 w1 := by
        obtain ⟨_, _, _, _, h⟩ := hf.2
        exact h
      have hV2 := (oA.block N (Nat.lt_of_lt_of_le (Array.getElem?_eq_some_iff.1 HVN.out).1 oR.size) (fun g => g)).trans ((oR.block N (Array.getElem?_eq_some_iff.1 HVN.out).1 (by have := HRN.out.1; omega)).trans HVN.out)
      have HV : Hid ((w1.alloc (.cells #[.int .i64 x0, .int .i64 x1, .string x2, .slice al Ll cl] 100)).heap[N]? = some _) := hV2
      have HF : Hid (er ≠ 0 ∧ RrF R v tl n a er W0 (w1.alloc (.cells #[.int .i64 x0, .int .i64 x1, .string x2, .slice al Ll cl] 100))) := ⟨hx.out.1, hf.2.more oA⟩
      have e0 := blk_cells hV2 0
      have e1 := blk_cells hV2 1
      have e2 := blk_cells hV2 2
      have e3 := blk_cells hV2 3
      have z0 := blk_froz hV2 0
      have z1 := blk_froz hV2 1
      have z2 := blk_froz hV2 2
      have z3 := blk_froz hV2 3
      simp only [List.getElem?_toArray, List.getElem?_cons_zero, List.getElem?_cons_succ] at e0 e1 e2 e3
      clear hV2 hx oA hp hf oR
      go_wp2
      obtain ⟨q0, q1', q2, q3⟩ := set4 HV.out rfl (.int .i64 x0) (.int .i64 x1) (.string x2) (.slice al Ll cl)
      refine bodyPost_ret (results_vb rfl _ _ N q0 q1' q2 q3 rfl) rfl ?_
      unfold rlP
      rw [HQ.out]
      dsimp only
      exact ⟨x0, x1, x2, al, Ll, cl, true, rfl, HF.out.1, .inl ⟨rfl, fun h => by simp at h, HF.out.2.fin HO1.out.1 (on4 _ N _ _ _ _) HRN.out.2 HRN.out.1⟩⟩
    | false =>
      have hf : a = atR tl nx n ∧ er = 9 ∧ RrAt w1 R v tl (nx : Int) n o s 0 0 ∧ Only (fun _ => False) W0 w1 := by
        rcases hx.out.2 with ⟨h, _⟩ | ⟨_, h⟩
        · simp at h
        · exact h
      obtain ⟨ha, he9, hr, oF⟩ := hf
      have A4 := hr.only oA
      have HNM : Hid (Calls Tryz.prog 78 #[.pointer (some ⟨R, 0, none⟩)] (w1.alloc (.cells #[.int .i64 x0, .int .i64 x1, .string x2, .slice al Ll cl] 100)) fun x w' => x = .returned (.bool (nmR tl nx)) ∧ Only (fun _ => False) (w1.alloc (.cells #[.int .i64 x0, .int .i64 x1, .string x2, .slice al Ll cl] 100)) w') := rname_any R v tl nx n o s 0 _ A4
      have H4 : Hid (RrAt (w1.alloc (.cells #[.int .i64 x0, .int .i64 x1, .string x2, .slice al Ll cl] 100)) R v tl (nx : Int) n o s 0 0 ∧ Only (fun _ => False) W0 (w1.alloc (.cells #[.int .i64 x0, .int .i64 x1, .string x2, .slice al Ll cl] 100)) ∧ a = atR tl nx n ∧ er = 9) := ⟨A4, oF.trans oA (fun _ _ g => g), ha, he9⟩
      have HPQ : Hid (prs n (f + 1) 0 (tl.drop nx) o (zIn o s) = .error (a, er)) := hp
      clear hx oA hp ha he9 hr oF A4
      cases hb : nmR tl nx with
      | false =>
        rw [hb] at HNM
        have HQ : Hid (prs n (f + 2) 1 (tl.drop nx) o (zIn o s) = .error (a, er)) := (prs_item hb).trans HPQ.out
        go_wp2_with fail
        refine (show Calls Tryz.prog 78 _ _ _ from HNM.out).mono ?_
        rintro x w3 ⟨rfl, o3⟩
        have oW : Only (fun _ => False) W0 w3 := H4.out.2.1.trans o3 (fun _ _ g => g)
        have hV2 := (oW.block N (Array.getElem?_eq_some_iff.1 HVN.out).1 (fun g => g)).trans HVN.out
        have HV : Hid (w3.heap[N]? = some _) := hV2
        have HF : Hid (RrAt w3 R v tl (nx : Int) n o s 0 0 ∧ Only (fun _ => False) w w3) := ⟨H4.out.1.only o3, HO1.out.2.trans oW (fun _ _ g => g)⟩
        have e0 := blk_cells hV2 0
        have e1 := blk_cells hV2 1
        have e2 := blk_cells hV2 2
        have e3 := blk_cells hV2 3
        have z0 := blk_froz hV2 0
        have z1 := blk_froz hV2 1
        have z2 := blk_froz hV2 2
        have z3 := blk_froz hV2 3
        simp only [List.getElem?_toArray, List.getElem?_cons_zero, List.getElem?_cons_succ] at e0 e1 e2 e3
        clear hV2 oW o3 HNM hb
        go_wp2
        obtain ⟨q0, q1', q2, q3⟩ := set4 HV.out rfl (.int .i64 0) (.int .i64 0) (.string ⟨#[]⟩) (.slice none 0 0)
        refine bodyPost_ret (results_vb rfl _ _ N q0 q1' q2 q3 rfl) rfl ?_
        unfold rlP
        rw [HQ.out]
        dsimp only
        exact ⟨0, 0, ⟨#[]⟩, none, 0, 0, false, rfl, by rw [H4.out.2.2.2]; decide, .inr ⟨rfl, H4.out.2.2.1, H4.out.2.2.2, HF.out.1.other HRN.out.1 (on4 w3 N _ _ _ _), HF.out.2.trans (on4 w3 N _ _ _ _) (fun i hi e => by have := HRN.out.2; omega)⟩⟩
      | true =>
        rw [hb] at HNM
        have HB : Hid (nmR tl nx = true) := hb
        clear hb
        go_wp2_with fail
        refine (show Calls Tryz.prog 78 _ _ _ from HNM.out).mono ?_
        rintro x w3 ⟨rfl, o3⟩
        have HF : Hid (RrAt w3 R v tl (nx : Int) n o s 0 0 ∧ Only (fun _ => False) W0 w3) := ⟨H4.out.1.only o3, H4.out.2.1.trans o3 (fun _ _ g => g)⟩
        clear o3 HNM H4 HPQ
        cases ht : tl[nx]? with
        | none => exact absurd HB.out (by unfold nmR; rw [ht]; simp)
        | some t' =>
          have HQ : Hid (prs n (f + 2) 1 (tl.drop nx) o (zIn o s) = (if zIn o s = 1024 then .error (atR tl nx n, 11) else .ok ([⟨7, 0, t'.t, []⟩], tl.drop (nx + 1), zIn o s + 1))) := (prs_name (f := f + 1) ht HB.out).1
          have hn : nx < tl.length := (List.getElem?_eq_some_iff.1 ht).1
          have HN : Hid (nx < tl.length) := hn
          obtain ⟨k0, k1, _, _, _, _, k6⟩ := HF.out.1.blk.cells
          obtain ⟨ao, cap, hv, hcap, hq⟩ := HF.out.1.tks
          obtain ⟨g, k, rfl, _, c0, c1, c2, c3⟩ := hq nx _ ht
          rw [hv] at k0
          obtain ⟨L, hL⟩ : ∃ L, L = tl.length := ⟨_, rfl⟩
          rw [← hL] at k0
          have i1 : (nx : Int) < (L : Int) := by omega
          have i0 : (0 : Int) ≤ (nx : Int) := by omega
          obtain ⟨ty, hty⟩ : ∃ ty, ty = t'.t := ⟨_, rfl⟩
          rw [← hty] at c1 HQ
          clear hv hcap hq hL hn c0 c2 c3 ht hty
          go_wp2
          go_quiet (fail)
          obtain ⟨W5, hW5⟩ : ∃ W5, W5 = w3.drewN nq := ⟨_, rfl⟩
          have o5 : Only (fun _ => False) w3 W5 := by rw [hW5]; exact (Only.refl _ w3).drewN _
          have HC : Hid (Calls Tryz.prog 79 #[.pointer (some ⟨R, 0, none⟩)] W5 fun x w' => x = .returned (.tuple #[]) ∧ Hid (CnP R v tl nx n o s W5 w')) := rcnt_any R v tl nx n o s W5 HBB.out.1 HBB.out.2.1 HBB.out.2.2.1 HBB.out.2.2.2 (HF.out.1.only o5)
          have H5 : Hid (Only (fun _ => False) W0 W5) := HF.out.2.trans o5 (fun _ _ g => g)
          rw [← hW5]
          clear k0 k1 k6 c1 i1 i0 o5 hW5 HF
          go_wp2_with fail
          refine (show Calls Tryz.prog 79 _ _ _ from HC.out).mono ?_
          rintro x w6 ⟨rfl, g6⟩
          have hV2 := (g6.out.on.block N (Nat.lt_of_lt_of_le (Array.getElem?_eq_some_iff.1 HVN.out).1 H5.out.size) (by have := HRN.out.1; omega)).trans ((H5.out.block N (Array.getElem?_eq_some_iff.1 HVN.out).1 (fun g => g)).trans HVN.out)
          have HV : Hid (w6.heap[N]? = some _) := hV2
          have e0 := blk_cells hV2 0
          have e1 := blk_cells hV2 1
          have e2 := blk_cells hV2 2
          have e3 := blk_cells hV2 3
          have z0 := blk_froz hV2 0
          have z1 := blk_froz hV2 1
          have z2 := blk_froz hV2 2
          have z3 := blk_froz hV2 3
          simp only [List.getElem?_toArray, List.getElem?_cons_zero, List.getElem?_cons_succ] at e0 e1 e2 e3
          clear hV2 HC
          go_wp2
          obtain ⟨q0, q1', q2, q3⟩ := set4 HV.out rfl (.int .i64 7) (.int .i64 0) (.string ty) (.slice none 0 0)
          refine bodyPost_ret (results_vb rfl _ _ N q0 q1' q2 q3 rfl) rfl ?_
          exact rlP_leaf (t := ⟨7, 0, ty, []⟩) HBB.out.2.1 HBB.out.2.2.1 HN.out HQ.out rfl (fun h => by simp at h) (g6.out.fin (HO1.out.1.trans (H5.out.mono (bs' := fun b => b = R) (fun _ _ h => h.elim)) (fun _ _ g => g)) (on4 w6 N _ _ _ _) HRN.out.2 HRN.out.1)
/-- all parts, whatever the bound -/
theorem rparts (R : Nat) (v : Value) (tl : List Tok) (n : Int) (htl : tl.length ≤ 4096) : ∀ (f f' : Nat), f' < f → RpC R v tl n f' 0 77 ∧ RpC R v tl n f' 1 51 ∧ RiC R v tl n f' 3 ∧ RiC R v tl n f' 4
  | 0, f', h => by omega
  | f + 1, f', h => by
    have ih := rparts R v tl n htl f
    have h3 : ∀ m, m = 1 ∨ m = 2 → RiC R v tl n f' (m + 2) := fun m hm => ri_of R v tl n f' m hm htl (fun g hg => (ih g (by omega)).2.1)
    refine ⟨?_, ?_, h3 1 (.inl rfl), h3 2 (.inr rfl)⟩
    · cases f' with
      | zero => intro nx o s w _ hf; omega
      | succ f' => exact rl_of R v tl n f' htl (ih f' (by omega)).2.2.1 (fun g hg => (ih g (by omega)).1)
    · match f' with
      | 0 => intro nx o s w _ hf; omega
      | 1 => intro nx o s w _ hf; omega
      | f' + 2 => exact rit_of R v tl n f' htl (ih (f' + 1) (by omega)).1
end Go.Proofs.YtfecmpebnianpaaGreatDoor
