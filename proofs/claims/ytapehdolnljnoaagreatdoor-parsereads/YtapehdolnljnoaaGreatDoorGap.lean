/- The document's Parse: the walk. Trees that are the same: Same, SameAll. Forms that are the same: SameDef, SameForms. The document's Items. -/
import Derived.Test.YtapehdolnljnoaaGreatDoorGao
import Derived.Test.YtapehdolnljnoaaGreatDoorGam
namespace Go.Proofs.YtapehdolnljnoaaGreatDoor
open Go.RowKit
set_option linter.unusedSimpArgs false
set_option linter.unusedVariables false
theorem preD_step {d : Bool} {n : Int} {F g : Nat} {tl : List Tok} {nx : Nat} {acc : List Fm} (h : nx < tl.length) : preD acc (alD d n F (g + 1) (tl.drop nx)) = (match fmD d n F tl nx with
    | .error e => .error e
    | .ok (fm, q, _) => preD (acc ++ [fm]) (alD d n F g q)) := by
  rw [alD_step h]
  cases fmD d n F tl nx with
  | error e => rfl
  | ok p =>
    obtain ⟨fm, q, z⟩ := p
    dsimp only
    cases alD d n F g q with
    | error e => rfl
    | ok l => simp [preD]
/-- what Parse answers -/
def pdZ (Z : Except (Int × Int) (List Fm)) : List Fm × Int × Int := match Z with
  | .error (a, e) => ([], a, e)
  | .ok l => (l, 0, 0)
def parD (d : Bool) (s : ByteArray) : List Fm × Int × Int :=
  if (tokR s).2.2 = 0 then pdZ (alD d (s.size : Int) 12400 ((tokR s).1.length + 1) (tokR s).1)
  else ([], ((tokR s).2.1 : Int), (tokR s).2.2)
def pdQ (B : Nat) (w : World) (Z : List Fm × Int × Int) (x : Ending) (w' : World) : Prop := ∃ ao cap, x = .returned (.tuple #[.slice ao Z.1.length cap, .int .i64 Z.2.1, .int .i64 Z.2.2]) ∧ Hid (VfAt w' B 12401 (.slice ao Z.1.length cap) Z.1 ∧ Only (fun _ => False) w w')
theorem vf_lower {w : World} {B C d : Nat} {v : Value} {l : List Fm} (h : VfAt w B d v l) (hC : C ≤ B) : VfAt w C d v l := by
  obtain ⟨us, S, ho, ht, hS⟩ := h
  exact ⟨us, S, ⟨ho.1, by
    rcases ho.2 with h | ⟨g, cap, cur, h1, h2, h3⟩
    · exact .inl h
    · exact .inr ⟨g, cap, cur, h1, by omega, h3⟩⟩, ht, fun b hb => ⟨by have := (hS b hb).1; omega, (hS b hb).2⟩⟩
set_option maxRecDepth 100000 in
set_option maxHeartbeats 40000000 in
theorem rparse_any (dfs : Bool) (s : ByteArray) (w : World) : Calls Tryz.prog 9 #[.string s, .bool dfs] w (pdQ w.heap.size w (parD dfs s)) := by
  have HT : Hid (Calls Tryz.prog 25 #[.string s] w fun e w' => ∃ v, e = .returned (.tuple #[v, .int .i64 ((tokR s).2.1 : Nat), .int .i64 (tokR s).2.2]) ∧ Hid (ToksAt w' w.heap.size v (tokR s).1 ∧ Below w.heap.size w w')) := rTokens_any s w
  by_cases h0 : (tokR s).2.2 = 0
  · rw [h0] at HT
    obtain ⟨tl, htl⟩ : ∃ tl, tl = (tokR s).1 := ⟨_, rfl⟩
    obtain ⟨n, hn⟩ : ∃ n : Int, n = (s.size : Int) := ⟨_, rfl⟩
    have HTL : Hid (tl.length ≤ 4096 ∧ s.size ≤ 65536) := ⟨by rw [htl]; exact tokR_len s, tokR_size h0⟩
    obtain ⟨Z, hZ⟩ : ∃ Z, Z = alD dfs n 12400 (tl.length + 1) tl := ⟨_, rfl⟩
    have HPD : Hid (parD dfs s = pdZ Z) := by
      show parD dfs s = _
      unfold parD
      rw [if_pos h0, hZ, htl, hn]
    have HZ : Hid (Z = alD dfs n 12400 (tl.length + 1) tl) := hZ
    obtain ⟨pl, hpl⟩ : ∃ p : Int, p = ((tokR s).2.1 : Nat) := ⟨_, rfl⟩
    rw [← htl, ← hpl] at HT
    have HN : Hid (n = (s.size : Int)) := hn
    obtain ⟨PD, hPD⟩ : ∃ P, P = parD dfs s := ⟨_, rfl⟩
    rw [← hPD] at HPD ⊢
    clear h0 htl hZ hpl hn hPD
    go_enter Tryz.func9, Tryz.ntmps9
    go_wp2_with fail
    refine (show Calls Tryz.prog 25 _ _ _ from HT.out).mono ?_
    rintro x w1 ⟨v, rfl, g1⟩
    clear HT
    obtain ⟨ao0, cap0, hv⟩ := g1.out.1.1
    have HV : Hid (v = .slice ao0 tl.length cap0) := hv
    obtain ⟨L, hL⟩ : ∃ L, L = tl.length := ⟨_, rfl⟩
    have HL : Hid (L = tl.length) := hL
    rw [← hL] at hv
    have hs6 : s.size ≤ 65536 := HTL.out.2
    obtain ⟨R, hR⟩ : ∃ R, R = w1.heap.size := ⟨_, rfl⟩
    obtain ⟨W0, hW0⟩ : ∃ W0, W0 = w1.alloc (.cells #[.slice ao0 L cap0, .int .i64 0, .int .i64 (s.size : Int), .int .i64 0, .int .i64 0, .int .i64 0, .int .i64 0] 70) := ⟨_, rfl⟩
    have oA : Only (fun _ => False) w1 W0 := by rw [hW0]; exact (Only.refl _ w1).alloc _
    have A0 : RrAt W0 R v tl ((0 : Nat) : Int) n 0 0 0 0 := by
      rw [hR]
      refine rr_start g1.out.1 oA ?_
      rw [hW0, hv, show n = _ from HN.out]
      exact alloc_at _ _ _ rfl
    have H0 : Hid (RrAt W0 R v tl ((0 : Nat) : Int) n 0 0 0 0 ∧ Only (fun _ => False) w W0 ∧ w.heap.size ≤ R) := ⟨A0, (below_only g1.out.2).trans oA (fun _ _ g => g), by rw [hR]; exact g1.out.2.size⟩
    obtain ⟨B, hB⟩ : ∃ B, B = W0.heap.size := ⟨_, rfl⟩
    have HRB : Hid (R < B ∧ W0.heap.size ≤ B) := ⟨by rw [hB]; exact A0.lt, by omega⟩
    have HBE : Hid (B = W0.heap.size) := hB
    have hv2 := hv
    subst hv2
    clear hL g1 oA A0 hB
    go_wp2
    rw [← hR, ← hW0]
    clear hR hW0
    go_loopw [11] (fun r wr => (∃ (g nx : Nat) (s' : Int) (acc : List Fm) (ao : Option Addr) (cap : Nat), r = .slice ao acc.length cap ∧ Hid (Z = preD acc (alD dfs n 12400 g (tl.drop nx)) ∧ tl.length - nx < g ∧ nx ≤ tl.length ∧ (0 ≤ s' ∧ s' ≤ 1024) ∧ acc.length + (tl.length - nx) ≤ 4096 ∧ VfAt wr B 12401 (.slice ao acc.length cap) acc ∧ RrAt wr R (.slice ao0 L cap0) tl (nx : Int) n 0 s' 0 0 ∧ Only (fun b => b = R) W0 wr ∧ B ≤ wr.heap.size)) ∨ (∃ (ao : Option Addr) (L' cap : Nat), r = .slice ao L' cap ∧ Hid (∃ a e, Z = .error (a, e) ∧ e ≠ 0 ∧ RrF R (.slice ao0 L cap0) tl n a e W0 wr))) (fun _ wr => rrM R tl.length wr)
    case atStart => exact .inl ⟨tl.length + 1, 0, 0, [], none, 0, rfl, by show Z = _; rw [preD_nil, List.drop_zero]; exact HZ.out, by omega, by omega, by omega, by have := HTL.out.1; simp; omega, vf_nil _ _ _, H0.out.1, Only.refl _ _, by have : B = W0.heap.size := HBE.out; omega⟩
    case round =>
      clear HZ
      obtain ⟨v, hv⟩ : ∃ v : Value, v = .slice ao0 L cap0 := ⟨_, rfl⟩
      have HVV : Hid (v = .slice ao0 L cap0) := hv
      rw [← hv] at hrel H0
      clear hv
      rcases hrel with ⟨g, nx, s', acc, ao, cap, rfl, HI⟩ | ⟨ao, L', cap, rfl, HF⟩
      · obtain ⟨w2, rfl⟩ : ∃ w2, w2 = wr := ⟨_, rfl⟩
        obtain ⟨g0, rfl⟩ : ∃ g0, g = g0 + 1 := ⟨g - 1, by have := HI.out.2.1; omega⟩
        obtain ⟨La, hLa⟩ : ∃ L, L = acc.length := ⟨_, rfl⟩
        have HLa : Hid (La = acc.length) := hLa
        rw [← hLa] at HI ⊢
        clear hLa
        have KM : Hid (rrM R tl.length w2 = tl.length - nx + 2) := rrM_ok HI.out.2.2.2.2.2.2.1
        obtain ⟨_, k1, _, _, _, _, k6⟩ := HI.out.2.2.2.2.2.2.1.blk.cells
        have hLt : L = tl.length := HL.out
        by_cases hx : nx < tl.length
        · have i1 : (nx : Int) < (L : Int) := by omega
          have i3 : nx < L := by omega
          have HX : Hid (nx < tl.length) := hx
          have HLB : Hid (acc.length ≤ 4096) := by have := HI.out.2.2.2.2.1; have : La = acc.length := HLa.out; show acc.length ≤ 4096; omega
          clear hLt hx
          cases dfs with
          | false =>
            have HFE : Hid (∀ p, prs n 12400 1 (tl.drop nx) 0 0 = .error p → Z = .error p) := fun p hp => by
              rw [HI.out.1, preD_step HX.out]
              unfold fmD
              rw [if_neg (by simp), hp]
            have HFO : Hid (∀ t q z, prs n 12400 1 (tl.drop nx) 0 0 = .ok ([t], q, z) → Z = preD (acc ++ [itF [t]]) (alD false n 12400 g0 q)) := fun t q z hp => by
              rw [HI.out.1, preD_step HX.out]
              unfold fmD
              rw [if_neg (by simp), hp]
            have HG : Hid (tl.length - nx < g0 + 1 ∧ nx ≤ tl.length ∧ La + (tl.length - nx) ≤ 4096) := ⟨HI.out.2.1, HI.out.2.2.1, HI.out.2.2.2.2.1⟩
            have HK : Hid (VfAt w2 B 12401 (.slice ao La cap) acc ∧ RrAt w2 R v tl (nx : Int) n 0 s' 0 0 ∧ Only (fun b => b = R) W0 w2 ∧ B ≤ w2.heap.size) := ⟨HI.out.2.2.2.2.2.1, HI.out.2.2.2.2.2.2.1, HI.out.2.2.2.2.2.2.2.1, HI.out.2.2.2.2.2.2.2.2⟩
            have HP2 : Hid (Calls Tryz.prog 28 #[.pointer (some ⟨R, 0, none⟩)] w2 (rlP R v tl n 12400 1 nx 0 s' w2)) := (rparts R v tl n HTL.out.1 12401 12400 (by omega)).2.1 nx 0 s' w2 (by have := HX.out; omega) (by have := HTL.out.1; omega) (by omega) (by omega) HI.out.2.2.2.1.1 HI.out.2.2.2.1.2 HK.out.2.1
            clear HI
            go_wp2_with fail
            refine (show Calls Tryz.prog 28 _ _ _ from HP2.out).mono ?_
            intro x w3 hx
            clear HP2
            unfold rlP at hx
            rw [show zIn 0 s' = 0 from if_pos rfl] at hx
            cases hp : prs n 12400 1 (tl.drop nx) 0 0 with
            | ok p =>
              obtain ⟨l1, q1, z1⟩ := p
              rw [hp] at hx
              dsimp only at hx
              obtain ⟨t, al, Ll, cl, nx1, s1, rfl, rfl, hx⟩ := hx
              have HE2 : Hid (Z = preD (acc ++ [itF [t]]) (alD false n 12400 g0 (tl.drop nx1))) := by
                have := HFO.out t q1 z1 hp
                rw [hx.out.1] at this
                exact this
              have HN1 : Hid (nx < nx1 ∧ nx1 ≤ tl.length ∧ 0 ≤ s1 ∧ s1 ≤ 1024) := by
                have h3 := (prs_ok n _ _ _ _ _ _ _ _ hp (by omega)).1
                rw [hx.out.1, List.length_drop, List.length_drop] at h3
                exact ⟨by omega, hx.out.2.1, hx.out.2.2.2.2.1, hx.out.2.2.2.2.2.1⟩
              unfold rV
              obtain ⟨x0, hx0⟩ : ∃ x0, x0 = (t.k : Int) := ⟨_, rfl⟩
              obtain ⟨x1, hx1⟩ : ∃ x1, x1 = vn t := ⟨_, rfl⟩
              obtain ⟨x2, hx2⟩ : ∃ x2, x2 = vs t := ⟨_, rfl⟩
              have HXX : Hid (x0 = (t.k : Int) ∧ x1 = vn t ∧ x2 = vs t) := ⟨hx0, hx1, hx2⟩
              rw [← hx0, ← hx1, ← hx2]
              have oR : Only (fun b => b = R) w2 w3 := hx.out.2.2.2.2.2.2.2
              have oA : Only (fun _ => False) w3 (w3.alloc (.cells #[.int .i64 x0, .int .i64 x1, .string x2, .slice al Ll cl] 75)) := (Only.refl _ w3).alloc _
              have HV3 : Hid (VfAt (w3.alloc (.cells #[.int .i64 x0, .int .i64 x1, .string x2, .slice al Ll cl] 75)) B 12401 (.slice ao La cap) acc) := (HK.out.1.only oR (fun b hb e => by have := HRB.out.1; omega)).only oA (fun _ _ h => h)
              have HNV : Hid (NvAt (w3.alloc (.cells #[.int .i64 x0, .int .i64 x1, .string x2, .slice al Ll cl] 75)) w2.heap.size 12401 t (.slice al Ll cl)) := (hx.out.2.2.1.deep (by omega)).only oA (fun _ _ h => h)
              have HRS : Hid (RrAt (w3.alloc (.cells #[.int .i64 x0, .int .i64 x1, .string x2, .slice al Ll cl] 75)) R v tl (nx1 : Int) n 0 s1 0 0 ∧ Only (fun b => b = R) W0 (w3.alloc (.cells #[.int .i64 x0, .int .i64 x1, .string x2, .slice al Ll cl] 75))) := ⟨hx.out.2.2.2.2.2.2.1.only oA, (HK.out.2.2.1.trans oR (fun _ _ g => g)).trans (oA.mono (bs' := fun b => b = R) (fun _ _ h => h.elim)) (fun _ _ g => g)⟩
              have HCB : Hid (B ≤ w2.heap.size ∧ ∀ k, (Value.slice ao La cap).ownBlock = some k → k < w2.heap.size) := ⟨HK.out.2.2.2, fun k hk => by
                obtain ⟨us, S', hr, _⟩ := HK.out.1
                exact (hr.lt k hk).2⟩
              have HSZ : Hid (B ≤ (w3.alloc (.cells #[.int .i64 x0, .int .i64 x1, .string x2, .slice al Ll cl] 75)).heap.size) := Nat.le_trans HK.out.2.2.2 (Nat.le_trans oR.size oA.size)
              clear hx oR oA HK hp hx0 hx1 hx2 HFE HFO
              obtain ⟨v', w6, hr, hf, oo6⟩ := app_rf (fm := itF [t]) (bl := .slice none 0 0) (il := .slice al Ll cl) HV3.out (nv_nil rfl) HNV.out HCB.out.1 HCB.out.2 HSZ.out HLB.out
              obtain ⟨ao2, cap2, hv2⟩ := hf.form
              have hlen : (acc ++ [itF [t]]).length = La + 1 := by have : La = acc.length := HLa.out; simp; omega
              subst hv2
              have HK5 : Hid (Z = preD (acc ++ [itF [t]]) (alD false n 12400 g0 (tl.drop nx1)) ∧ tl.length - nx1 < g0 ∧ nx1 ≤ tl.length ∧ (0 ≤ s1 ∧ s1 ≤ 1024) ∧ (acc ++ [itF [t]]).length + (tl.length - nx1) ≤ 4096 ∧ VfAt w6 B 12401 (.slice ao2 (acc ++ [itF [t]]).length cap2) (acc ++ [itF [t]]) ∧ RrAt w6 R v tl (nx1 : Int) n 0 s1 0 0 ∧ Only (fun b => b = R) W0 w6 ∧ B ≤ w6.heap.size) := by
                have b1 := HN1.out
                have b2 := HG.out
                have b3 : La = acc.length := HLa.out
                have hRB : R < B ∧ W0.heap.size ≤ B := HRB.out
                have hB6 : B ≤ w6.heap.size := Nat.le_trans HSZ.out oo6.size
                exact ⟨HE2.out, by omega, by omega, by omega, by rw [hlen]; omega, hf, HRS.out.1.keep (fun b hb e => by omega) oo6, HRS.out.2.trans oo6 (fun k hk e => by omega), hB6⟩
              rw [hlen] at hr
              have hr2 : ∀ ty, (Builtin.append_ #[27, 27] ty #[.slice ao La cap, .slice (some ⟨w3.heap.size + 1, 0, none⟩) 1 1]).run Tryz.prog ((w3.alloc (.cells #[.int .i64 x0, .int .i64 x1, .string x2, .slice al Ll cl] 75)).alloc (.cells #[.bool false, .string ⟨#[]⟩, .int .i64 0, .int .i64 0, .slice none 0 0, .int .i64 x0, .int .i64 x1, .string x2, .slice al Ll cl] 77)) = .ok (.slice ao2 (La + 1) cap2) w6 := fun ty => by
                have := hr ty
                obtain ⟨y0, y1, y2⟩ := HXX.out
                simp only [itF, List.headD_cons] at this
                rw [← y0, ← y1, ← y2] at this
                simpa using this
              have HLN : Hid ((acc ++ [itF [t]]).length = La + 1) := hlen
              clear oo6 HRS HV3 hr hf hlen
              go_wp2_with (at_builtin; refine wpList_append_run (by rfl) _ _ 27 (by rfl) _ _ (.slice ao2 (La + 1) cap2) (by rfl) (by rfl) hr2 ?_)
              clear hr2
              go_wp2
              go_roundw
              case rel => exact .inl ⟨g0, nx1, s1, acc ++ [itF [t]], ao2, cap2, by rw [HLN.out], by rw [← show v = _ from HVV.out]; exact HK5⟩
              case measure =>
                rw [rrM_ok HK5.out.2.2.2.2.2.2.1, show rrM _ _ _ = _ from KM.out]
                have := HN1.out
                omega
            | error p =>
              obtain ⟨a, er⟩ := p
              rw [hp] at hx
              dsimp only at hx
              obtain ⟨x0, x1, x2, al, Ll, cl, b, rfl, hx⟩ := hx
              have HE2 : Hid (Z = .error (a, er)) := HFE.out _ hp
              unfold rV
              cases b with
              | true =>
                have hf : RrF R v tl n a er w2 w3 := by
                  rcases hx.out.2 with ⟨_, _, h⟩ | ⟨h, _⟩
                  · exact h
                  · simp at h
                obtain ⟨nf, of, sf, hf1, oR⟩ := hf
                have oA : Only (fun _ => False) w3 (w3.alloc (.cells #[.int .i64 x0, .int .i64 x1, .string x2, .slice al Ll cl] 75)) := (Only.refl _ w3).alloc _
                have HV3 : Hid (VfAt (w3.alloc (.cells #[.int .i64 x0, .int .i64 x1, .string x2, .slice al Ll cl] 75)) B 12401 (.slice ao La cap) acc) := (HK.out.1.only oR (fun b hb e => by have := HRB.out.1; omega)).only oA (fun _ _ h => h)
                have HRF : Hid (∃ a e, Z = .error (a, e) ∧ e ≠ 0 ∧ RrF R v tl n a e W0 (w3.alloc (.cells #[.int .i64 x0, .int .i64 x1, .string x2, .slice al Ll cl] 75))) := ⟨a, er, HE2.out, hx.out.1, nf, of, sf, hf1.only oA, (HK.out.2.2.1.trans oR (fun _ _ g => g)).trans (oA.mono (bs' := fun b => b = R) (fun _ _ h => h.elim)) (fun _ _ g => g)⟩
                have HSZ : Hid (B ≤ (w3.alloc (.cells #[.int .i64 x0, .int .i64 x1, .string x2, .slice al Ll cl] 75)).heap.size) := Nat.le_trans HK.out.2.2.2 (Nat.le_trans oR.size oA.size)
                clear hx oR oA HK hp hf1 HFE HFO
                obtain ⟨v', w6, hr, ⟨ao2, cap2, hv2⟩, oo6⟩ := app_raw HV3.out false ⟨#[]⟩ 0 0 none 0 0 x0 x1 x2 al Ll cl HSZ.out HLB.out
                rw [← show La = _ from HLa.out] at hv2
                subst hv2
                have HF6 : Hid (∃ a e, Z = .error (a, e) ∧ e ≠ 0 ∧ RrF R v tl n a e W0 w6) := by
                  obtain ⟨a, e, h1, h2, nf, of, sf, h3, h4⟩ := HRF.out
                  have hRB : R < B ∧ W0.heap.size ≤ B := HRB.out
                  exact ⟨a, e, h1, h2, nf, of, sf, h3.keep (fun b hb e => by omega) oo6, h4.trans oo6 (fun k hk e => by omega)⟩
                have hr2 : ∀ ty, (Builtin.append_ #[27, 27] ty #[.slice ao La cap, .slice (some ⟨w3.heap.size + 1, 0, none⟩) 1 1]).run Tryz.prog ((w3.alloc (.cells #[.int .i64 x0, .int .i64 x1, .string x2, .slice al Ll cl] 75)).alloc (.cells #[.bool false, .string ⟨#[]⟩, .int .i64 0, .int .i64 0, .slice none 0 0, .int .i64 x0, .int .i64 x1, .string x2, .slice al Ll cl] 77)) = .ok (.slice ao2 (La + 1) cap2) w6 := fun ty => by
                  have := hr ty
                  simpa using this
                clear oo6 HRF HV3 hr
                go_wp2_with (at_builtin; refine wpList_append_run (by rfl) _ _ 27 (by rfl) _ _ (.slice ao2 (La + 1) cap2) (by rfl) (by rfl) hr2 ?_)
                clear hr2
                go_wp2
                go_roundw
                case rel => exact .inr ⟨ao2, La + 1, cap2, rfl, by rw [← show v = _ from HVV.out]; exact HF6⟩
                case measure =>
                  obtain ⟨a, e, h1, h2, nf, of, sf, h3, h4⟩ := HF6.out
                  rw [rrM_bad h2 h3, show rrM _ _ _ = _ from KM.out]
                  omega
              | false =>
                have hf : a = atR tl nx n ∧ er = 9 ∧ RrAt w3 R v tl (nx : Int) n 0 s' 0 0 ∧ Only (fun _ => False) w2 w3 := by
                  rcases hx.out.2 with ⟨h, _⟩ | ⟨_, h⟩
                  · simp at h
                  · exact h
                obtain ⟨ha, he9, hf1, oF⟩ := hf
                have oA : Only (fun _ => False) w3 (w3.alloc (.cells #[.int .i64 x0, .int .i64 x1, .string x2, .slice al Ll cl] 75)) := (Only.refl _ w3).alloc _
                have A4 := hf1.only oA
                have HT2 : Hid (Calls Tryz.prog 30 #[.pointer (some ⟨R, 0, none⟩)] (w3.alloc (.cells #[.int .i64 x0, .int .i64 x1, .string x2, .slice al Ll cl] 75)) fun x w' => x = .returned (.int .i64 a) ∧ Only (fun _ => False) (w3.alloc (.cells #[.int .i64 x0, .int .i64 x1, .string x2, .slice al Ll cl] 75)) w') := by
                  rw [ha]
                  exact rat_any R v tl nx n 0 s' 0 0 _ A4
                have HFL : Hid (∀ w4, Only (fun _ => False) (w3.alloc (.cells #[.int .i64 x0, .int .i64 x1, .string x2, .slice al Ll cl] 75)) w4 → Calls Tryz.prog 29 #[.pointer (some ⟨R, 0, none⟩), .int .i64 a, .int .i64 9] w4 fun x w' => x = .returned (.tuple #[]) ∧ Hid (RrAt w' R v tl (nx : Int) n 0 s' a 9 ∧ Only (fun b => b = R) (w3.alloc (.cells #[.int .i64 x0, .int .i64 x1, .string x2, .slice al Ll cl] 75)) w')) := fun w4 o4 => (rfail_ok R v tl nx n 0 s' 0 a 9 w4 (A4.only o4)).mono fun x w' g => ⟨g.1, g.2.out.1, (o4.mono (bs' := fun b => b = R) (fun _ _ h => h.elim)).trans g.2.out.2 (fun _ _ g => g)⟩
                have HVB : Hid ((w3.alloc (.cells #[.int .i64 x0, .int .i64 x1, .string x2, .slice al Ll cl] 75)).heap[w3.heap.size]? = some (.cells #[.int .i64 x0, .int .i64 x1, .string x2, .slice al Ll cl] 75)) := alloc_at _ _ _ rfl
                have HZ2 : Hid (R < w3.heap.size ∧ Only (fun _ => False) w2 (w3.alloc (.cells #[.int .i64 x0, .int .i64 x1, .string x2, .slice al Ll cl] 75)) ∧ er = 9) := ⟨hf1.lt, oF.trans oA (fun _ _ g => g), he9⟩
                clear ha he9 A4 hf1 hx oA oF hp HFE HFO
                go_wp2_with fail
                refine (show Calls Tryz.prog 30 _ _ _ from HT2.out).mono ?_
                rintro x w4 ⟨rfl, o4⟩
                have HFM : Hid _ := HFL.out w4 o4
                clear HT2 HFL o4
                go_wp2_with fail
                refine (show Calls Tryz.prog 29 _ _ _ from HFM.out).mono ?_
                rintro x w5 ⟨rfl, g5⟩
                have hV5 := (g5.out.2.block w3.heap.size (Array.getElem?_eq_some_iff.1 HVB.out).1 (by have := HZ2.out.1; omega)).trans HVB.out
                have d0 := blk_cells hV5 0
                have d1 := blk_cells hV5 1
                have d2 := blk_cells hV5 2
                have d3 := blk_cells hV5 3
                simp only [List.getElem?_toArray, List.getElem?_cons_zero, List.getElem?_cons_succ] at d0 d1 d2 d3
                have HV3 : Hid (VfAt w5 B 12401 (.slice ao La cap) acc) := (HK.out.1.only HZ2.out.2.1 (fun _ _ h => h)).only g5.out.2 (fun b hb e => by have := HRB.out.1; omega)
                have HRF : Hid (∃ a e, Z = .error (a, e) ∧ e ≠ 0 ∧ RrF R v tl n a e W0 w5) := ⟨a, er, HE2.out, by rw [HZ2.out.2.2]; decide, nx, 0, s', by rw [HZ2.out.2.2]; exact g5.out.1, (HK.out.2.2.1.trans (HZ2.out.2.1.mono (bs' := fun b => b = R) (fun _ _ h => h.elim)) (fun _ _ g => g)).trans g5.out.2 (fun _ _ g => g)⟩
                have HSZ : Hid (B ≤ w5.heap.size) := Nat.le_trans HK.out.2.2.2 (Nat.le_trans HZ2.out.2.1.size g5.out.2.size)
                clear hV5 HFM HVB HZ2 g5 HK
                obtain ⟨v', w6, hr, ⟨ao2, cap2, hv2⟩, oo6⟩ := app_raw HV3.out false ⟨#[]⟩ 0 0 none 0 0 x0 x1 x2 al Ll cl HSZ.out HLB.out
                rw [← show La = _ from HLa.out] at hv2
                subst hv2
                have HF6 : Hid (∃ a e, Z = .error (a, e) ∧ e ≠ 0 ∧ RrF R v tl n a e W0 w6) := by
                  obtain ⟨a, e, h1, h2, nf, of, sf, h3, h4⟩ := HRF.out
                  have hRB : R < B ∧ W0.heap.size ≤ B := HRB.out
                  exact ⟨a, e, h1, h2, nf, of, sf, h3.keep (fun b hb e => by omega) oo6, h4.trans oo6 (fun k hk e => by omega)⟩
                have hr2 : ∀ ty, (Builtin.append_ #[27, 27] ty #[.slice ao La cap, .slice (some ⟨w5.heap.size, 0, none⟩) 1 1]).run Tryz.prog (w5.alloc (.cells #[.bool false, .string ⟨#[]⟩, .int .i64 0, .int .i64 0, .slice none 0 0, .int .i64 x0, .int .i64 x1, .string x2, .slice al Ll cl] 77)) = .ok (.slice ao2 (La + 1) cap2) w6 := fun ty => by
                  have := hr ty
                  simpa using this
                clear oo6 HRF HV3 hr
                go_wp2_with (at_builtin; refine wpList_append_run (by rfl) _ _ 27 (by rfl) _ _ (.slice ao2 (La + 1) cap2) (by rfl) (by rfl) hr2 ?_)
                clear hr2
                go_wp2
                go_roundw
                case rel => exact .inr ⟨ao2, La + 1, cap2, rfl, by rw [← show v = _ from HVV.out]; exact HF6⟩
                case measure =>
                  obtain ⟨a, e, h1, h2, nf, of, sf, h3, h4⟩ := HF6.out
                  rw [rrM_bad h2 h3, show rrM _ _ _ = _ from KM.out]
                  omega
          | true =>
            have HC : Hid (Calls Tryz.prog 26 #[.pointer (some ⟨R, 0, none⟩), .string ⟨#[58]⟩] w2 fun x w' => x = .returned (.bool (isR tl nx ⟨#[58]⟩)) ∧ Only (fun _ => False) w2 w') := ris_any R v tl nx n 0 s' 0 _ w2 HI.out.2.2.2.2.2.2.1
            cases hb : isR tl nx ⟨#[58]⟩ with
            | false =>
              rw [hb] at HC
              have HFE : Hid (∀ p, prs n 12400 1 (tl.drop nx) 0 0 = .error p → Z = .error p) := fun p hp => by
                rw [HI.out.1, preD_step HX.out]
                unfold fmD
                rw [if_neg (by simp [hb]), hp]
              have HFO : Hid (∀ t q z, prs n 12400 1 (tl.drop nx) 0 0 = .ok ([t], q, z) → Z = preD (acc ++ [itF [t]]) (alD true n 12400 g0 q)) := fun t q z hp => by
                rw [HI.out.1, preD_step HX.out]
                unfold fmD
                rw [if_neg (by simp [hb]), hp]
              have HG : Hid (tl.length - nx < g0 + 1 ∧ nx ≤ tl.length ∧ La + (tl.length - nx) ≤ 4096) := ⟨HI.out.2.1, HI.out.2.2.1, HI.out.2.2.2.2.1⟩
              have HKa : Hid (VfAt w2 B 12401 (.slice ao La cap) acc ∧ RrAt w2 R v tl (nx : Int) n 0 s' 0 0 ∧ Only (fun b => b = R) W0 w2 ∧ B ≤ w2.heap.size ∧ 0 ≤ s' ∧ s' ≤ 1024) := ⟨HI.out.2.2.2.2.2.1, HI.out.2.2.2.2.2.2.1, HI.out.2.2.2.2.2.2.2.1, HI.out.2.2.2.2.2.2.2.2, HI.out.2.2.2.1.1, HI.out.2.2.2.1.2⟩
              clear HI hb
              go_wp2_with fail
              refine (show Calls Tryz.prog 26 _ _ _ from HC.out).mono ?_
              rintro x w2a ⟨rfl, o2⟩
              have HK : Hid (VfAt w2a B 12401 (.slice ao La cap) acc ∧ RrAt w2a R v tl (nx : Int) n 0 s' 0 0 ∧ Only (fun b => b = R) W0 w2a ∧ B ≤ w2a.heap.size) := ⟨HKa.out.1.only o2 (fun _ _ h => h), HKa.out.2.1.only o2, HKa.out.2.2.1.trans (o2.mono (bs' := fun b => b = R) (fun _ _ h => h.elim)) (fun _ _ g => g), Nat.le_trans HKa.out.2.2.2.1 o2.size⟩
              have HP2 : Hid (Calls Tryz.prog 28 #[.pointer (some ⟨R, 0, none⟩)] w2a (rlP R v tl n 12400 1 nx 0 s' w2a)) := (rparts R v tl n HTL.out.1 12401 12400 (by omega)).2.1 nx 0 s' w2a (by have := HX.out; omega) (by have := HTL.out.1; omega) (by omega) (by omega) HKa.out.2.2.2.2.1 HKa.out.2.2.2.2.2 HK.out.2.1
              clear HKa HC o2 k1 k6
              go_wp2_with fail
              refine (show Calls Tryz.prog 28 _ _ _ from HP2.out).mono ?_
              intro x w3 hx
              clear HP2
              unfold rlP at hx
              rw [show zIn 0 s' = 0 from if_pos rfl] at hx
              cases hp : prs n 12400 1 (tl.drop nx) 0 0 with
              | ok p =>
                obtain ⟨l1, q1, z1⟩ := p
                rw [hp] at hx
                dsimp only at hx
                obtain ⟨t, al, Ll, cl, nx1, s1, rfl, rfl, hx⟩ := hx
                have HE2 : Hid (Z = preD (acc ++ [itF [t]]) (alD true n 12400 g0 (tl.drop nx1))) := by
                  have := HFO.out t q1 z1 hp
                  rw [hx.out.1] at this
                  exact this
                have HN1 : Hid (nx < nx1 ∧ nx1 ≤ tl.length ∧ 0 ≤ s1 ∧ s1 ≤ 1024) := by
                  have h3 := (prs_ok n _ _ _ _ _ _ _ _ hp (by omega)).1
                  rw [hx.out.1, List.length_drop, List.length_drop] at h3
                  exact ⟨by omega, hx.out.2.1, hx.out.2.2.2.2.1, hx.out.2.2.2.2.2.1⟩
                unfold rV
                obtain ⟨x0, hx0⟩ : ∃ x0, x0 = (t.k : Int) := ⟨_, rfl⟩
                obtain ⟨x1, hx1⟩ : ∃ x1, x1 = vn t := ⟨_, rfl⟩
                obtain ⟨x2, hx2⟩ : ∃ x2, x2 = vs t := ⟨_, rfl⟩
                have HXX : Hid (x0 = (t.k : Int) ∧ x1 = vn t ∧ x2 = vs t) := ⟨hx0, hx1, hx2⟩
                rw [← hx0, ← hx1, ← hx2]
                have oR : Only (fun b => b = R) w2a w3 := hx.out.2.2.2.2.2.2.2
                have oA : Only (fun _ => False) w3 (w3.alloc (.cells #[.int .i64 x0, .int .i64 x1, .string x2, .slice al Ll cl] 75)) := (Only.refl _ w3).alloc _
                have HV3 : Hid (VfAt (w3.alloc (.cells #[.int .i64 x0, .int .i64 x1, .string x2, .slice al Ll cl] 75)) B 12401 (.slice ao La cap) acc) := (HK.out.1.only oR (fun b hb e => by have := HRB.out.1; omega)).only oA (fun _ _ h => h)
                have HNV : Hid (NvAt (w3.alloc (.cells #[.int .i64 x0, .int .i64 x1, .string x2, .slice al Ll cl] 75)) w2a.heap.size 12401 t (.slice al Ll cl)) := (hx.out.2.2.1.deep (by omega)).only oA (fun _ _ h => h)
                have HRS : Hid (RrAt (w3.alloc (.cells #[.int .i64 x0, .int .i64 x1, .string x2, .slice al Ll cl] 75)) R v tl (nx1 : Int) n 0 s1 0 0 ∧ Only (fun b => b = R) W0 (w3.alloc (.cells #[.int .i64 x0, .int .i64 x1, .string x2, .slice al Ll cl] 75))) := ⟨hx.out.2.2.2.2.2.2.1.only oA, (HK.out.2.2.1.trans oR (fun _ _ g => g)).trans (oA.mono (bs' := fun b => b = R) (fun _ _ h => h.elim)) (fun _ _ g => g)⟩
                have HCB : Hid (B ≤ w2a.heap.size ∧ ∀ k, (Value.slice ao La cap).ownBlock = some k → k < w2a.heap.size) := ⟨HK.out.2.2.2, fun k hk => by
                  obtain ⟨us, S', hr, _⟩ := HK.out.1
                  exact (hr.lt k hk).2⟩
                have HSZ : Hid (B ≤ (w3.alloc (.cells #[.int .i64 x0, .int .i64 x1, .string x2, .slice al Ll cl] 75)).heap.size) := Nat.le_trans HK.out.2.2.2 (Nat.le_trans oR.size oA.size)
                clear hx oR oA HK hp hx0 hx1 hx2 HFE HFO
                obtain ⟨v', w6, hr, hf, oo6⟩ := app_rf (fm := itF [t]) (bl := .slice none 0 0) (il := .slice al Ll cl) HV3.out (nv_nil rfl) HNV.out HCB.out.1 HCB.out.2 HSZ.out HLB.out
                obtain ⟨ao2, cap2, hv2⟩ := hf.form
                have hlen : (acc ++ [itF [t]]).length = La + 1 := by have : La = acc.length := HLa.out; simp; omega
                subst hv2
                have HK5 : Hid (Z = preD (acc ++ [itF [t]]) (alD true n 12400 g0 (tl.drop nx1)) ∧ tl.length - nx1 < g0 ∧ nx1 ≤ tl.length ∧ (0 ≤ s1 ∧ s1 ≤ 1024) ∧ (acc ++ [itF [t]]).length + (tl.length - nx1) ≤ 4096 ∧ VfAt w6 B 12401 (.slice ao2 (acc ++ [itF [t]]).length cap2) (acc ++ [itF [t]]) ∧ RrAt w6 R v tl (nx1 : Int) n 0 s1 0 0 ∧ Only (fun b => b = R) W0 w6 ∧ B ≤ w6.heap.size) := by
                  have b1 := HN1.out
                  have b2 := HG.out
                  have b3 : La = acc.length := HLa.out
                  have hRB : R < B ∧ W0.heap.size ≤ B := HRB.out
                  have hB6 : B ≤ w6.heap.size := Nat.le_trans HSZ.out oo6.size
                  exact ⟨HE2.out, by omega, by omega, by omega, by rw [hlen]; omega, hf, HRS.out.1.keep (fun b hb e => by omega) oo6, HRS.out.2.trans oo6 (fun k hk e => by omega), hB6⟩
                rw [hlen] at hr
                have hr2 : ∀ ty, (Builtin.append_ #[27, 27] ty #[.slice ao La cap, .slice (some ⟨w3.heap.size + 1, 0, none⟩) 1 1]).run Tryz.prog ((w3.alloc (.cells #[.int .i64 x0, .int .i64 x1, .string x2, .slice al Ll cl] 75)).alloc (.cells #[.bool false, .string ⟨#[]⟩, .int .i64 0, .int .i64 0, .slice none 0 0, .int .i64 x0, .int .i64 x1, .string x2, .slice al Ll cl] 77)) = .ok (.slice ao2 (La + 1) cap2) w6 := fun ty => by
                  have := hr ty
                  obtain ⟨y0, y1, y2⟩ := HXX.out
                  simp only [itF, List.headD_cons] at this
                  rw [← y0, ← y1, ← y2] at this
                  simpa using this
                have HLN : Hid ((acc ++ [itF [t]]).length = La + 1) := hlen
                clear oo6 HRS HV3 hr hf hlen
                go_wp2_with (at_builtin; refine wpList_append_run (by rfl) _ _ 27 (by rfl) _ _ (.slice ao2 (La + 1) cap2) (by rfl) (by rfl) hr2 ?_)
                clear hr2
                go_wp2
                go_roundw
                case rel => exact .inl ⟨g0, nx1, s1, acc ++ [itF [t]], ao2, cap2, by rw [HLN.out], by rw [← show v = _ from HVV.out]; exact HK5⟩
                case measure =>
                  rw [rrM_ok HK5.out.2.2.2.2.2.2.1, show rrM _ _ _ = _ from KM.out]
                  have := HN1.out
                  omega
              | error p =>
                obtain ⟨a, er⟩ := p
                rw [hp] at hx
                dsimp only at hx
                obtain ⟨x0, x1, x2, al, Ll, cl, b, rfl, hx⟩ := hx
                have HE2 : Hid (Z = .error (a, er)) := HFE.out _ hp
                unfold rV
                cases b with
                | true =>
                  have hf : RrF R v tl n a er w2a w3 := by
                    rcases hx.out.2 with ⟨_, _, h⟩ | ⟨h, _⟩
                    · exact h
                    · simp at h
                  obtain ⟨nf, of, sf, hf1, oR⟩ := hf
                  have oA : Only (fun _ => False) w3 (w3.alloc (.cells #[.int .i64 x0, .int .i64 x1, .string x2, .slice al Ll cl] 75)) := (Only.refl _ w3).alloc _
                  have HV3 : Hid (VfAt (w3.alloc (.cells #[.int .i64 x0, .int .i64 x1, .string x2, .slice al Ll cl] 75)) B 12401 (.slice ao La cap) acc) := (HK.out.1.only oR (fun b hb e => by have := HRB.out.1; omega)).only oA (fun _ _ h => h)
                  have HRF : Hid (∃ a e, Z = .error (a, e) ∧ e ≠ 0 ∧ RrF R v tl n a e W0 (w3.alloc (.cells #[.int .i64 x0, .int .i64 x1, .string x2, .slice al Ll cl] 75))) := ⟨a, er, HE2.out, hx.out.1, nf, of, sf, hf1.only oA, (HK.out.2.2.1.trans oR (fun _ _ g => g)).trans (oA.mono (bs' := fun b => b = R) (fun _ _ h => h.elim)) (fun _ _ g => g)⟩
                  have HSZ : Hid (B ≤ (w3.alloc (.cells #[.int .i64 x0, .int .i64 x1, .string x2, .slice al Ll cl] 75)).heap.size) := Nat.le_trans HK.out.2.2.2 (Nat.le_trans oR.size oA.size)
                  clear hx oR oA HK hp hf1 HFE HFO
                  obtain ⟨v', w6, hr, ⟨ao2, cap2, hv2⟩, oo6⟩ := app_raw HV3.out false ⟨#[]⟩ 0 0 none 0 0 x0 x1 x2 al Ll cl HSZ.out HLB.out
                  rw [← show La = _ from HLa.out] at hv2
                  subst hv2
                  have HF6 : Hid (∃ a e, Z = .error (a, e) ∧ e ≠ 0 ∧ RrF R v tl n a e W0 w6) := by
                    obtain ⟨a, e, h1, h2, nf, of, sf, h3, h4⟩ := HRF.out
                    have hRB : R < B ∧ W0.heap.size ≤ B := HRB.out
                    exact ⟨a, e, h1, h2, nf, of, sf, h3.keep (fun b hb e => by omega) oo6, h4.trans oo6 (fun k hk e => by omega)⟩
                  have hr2 : ∀ ty, (Builtin.append_ #[27, 27] ty #[.slice ao La cap, .slice (some ⟨w3.heap.size + 1, 0, none⟩) 1 1]).run Tryz.prog ((w3.alloc (.cells #[.int .i64 x0, .int .i64 x1, .string x2, .slice al Ll cl] 75)).alloc (.cells #[.bool false, .string ⟨#[]⟩, .int .i64 0, .int .i64 0, .slice none 0 0, .int .i64 x0, .int .i64 x1, .string x2, .slice al Ll cl] 77)) = .ok (.slice ao2 (La + 1) cap2) w6 := fun ty => by
                    have := hr ty
                    simpa using this
                  clear oo6 HRF HV3 hr
                  go_wp2_with (at_builtin; refine wpList_append_run (by rfl) _ _ 27 (by rfl) _ _ (.slice ao2 (La + 1) cap2) (by rfl) (by rfl) hr2 ?_)
                  clear hr2
                  go_wp2
                  go_roundw
                  case rel => exact .inr ⟨ao2, La + 1, cap2, rfl, by rw [← show v = _ from HVV.out]; exact HF6⟩
                  case measure =>
                    obtain ⟨a, e, h1, h2, nf, of, sf, h3, h4⟩ := HF6.out
                    rw [rrM_bad h2 h3, show rrM _ _ _ = _ from KM.out]
                    omega
                | false =>
                  have hf : a = atR tl nx n ∧ er = 9 ∧ RrAt w3 R v tl (nx : Int) n 0 s' 0 0 ∧ Only (fun _ => False) w2a w3 := by
                    rcases hx.out.2 with ⟨h, _⟩ | ⟨_, h⟩
                    · simp at h
                    · exact h
                  obtain ⟨ha, he9, hf1, oF⟩ := hf
                  have oA : Only (fun _ => False) w3 (w3.alloc (.cells #[.int .i64 x0, .int .i64 x1, .string x2, .slice al Ll cl] 75)) := (Only.refl _ w3).alloc _
                  have A4 := hf1.only oA
                  have HT2 : Hid (Calls Tryz.prog 30 #[.pointer (some ⟨R, 0, none⟩)] (w3.alloc (.cells #[.int .i64 x0, .int .i64 x1, .string x2, .slice al Ll cl] 75)) fun x w' => x = .returned (.int .i64 a) ∧ Only (fun _ => False) (w3.alloc (.cells #[.int .i64 x0, .int .i64 x1, .string x2, .slice al Ll cl] 75)) w') := by
                    rw [ha]
                    exact rat_any R v tl nx n 0 s' 0 0 _ A4
                  have HFL : Hid (∀ w4, Only (fun _ => False) (w3.alloc (.cells #[.int .i64 x0, .int .i64 x1, .string x2, .slice al Ll cl] 75)) w4 → Calls Tryz.prog 29 #[.pointer (some ⟨R, 0, none⟩), .int .i64 a, .int .i64 9] w4 fun x w' => x = .returned (.tuple #[]) ∧ Hid (RrAt w' R v tl (nx : Int) n 0 s' a 9 ∧ Only (fun b => b = R) (w3.alloc (.cells #[.int .i64 x0, .int .i64 x1, .string x2, .slice al Ll cl] 75)) w')) := fun w4 o4 => (rfail_ok R v tl nx n 0 s' 0 a 9 w4 (A4.only o4)).mono fun x w' g => ⟨g.1, g.2.out.1, (o4.mono (bs' := fun b => b = R) (fun _ _ h => h.elim)).trans g.2.out.2 (fun _ _ g => g)⟩
                  have HVB : Hid ((w3.alloc (.cells #[.int .i64 x0, .int .i64 x1, .string x2, .slice al Ll cl] 75)).heap[w3.heap.size]? = some (.cells #[.int .i64 x0, .int .i64 x1, .string x2, .slice al Ll cl] 75)) := alloc_at _ _ _ rfl
                  have HZ2 : Hid (R < w3.heap.size ∧ Only (fun _ => False) w2a (w3.alloc (.cells #[.int .i64 x0, .int .i64 x1, .string x2, .slice al Ll cl] 75)) ∧ er = 9) := ⟨hf1.lt, oF.trans oA (fun _ _ g => g), he9⟩
                  clear ha he9 A4 hf1 hx oA oF hp HFE HFO
                  go_wp2_with fail
                  refine (show Calls Tryz.prog 30 _ _ _ from HT2.out).mono ?_
                  rintro x w4 ⟨rfl, o4⟩
                  have HFM : Hid _ := HFL.out w4 o4
                  clear HT2 HFL o4
                  go_wp2_with fail
                  refine (show Calls Tryz.prog 29 _ _ _ from HFM.out).mono ?_
                  rintro x w5 ⟨rfl, g5⟩
                  have hV5 := (g5.out.2.block w3.heap.size (Array.getElem?_eq_some_iff.1 HVB.out).1 (by have := HZ2.out.1; omega)).trans HVB.out
                  have d0 := blk_cells hV5 0
                  have d1 := blk_cells hV5 1
                  have d2 := blk_cells hV5 2
                  have d3 := blk_cells hV5 3
                  simp only [List.getElem?_toArray, List.getElem?_cons_zero, List.getElem?_cons_succ] at d0 d1 d2 d3
                  have HV3 : Hid (VfAt w5 B 12401 (.slice ao La cap) acc) := (HK.out.1.only HZ2.out.2.1 (fun _ _ h => h)).only g5.out.2 (fun b hb e => by have := HRB.out.1; omega)
                  have HRF : Hid (∃ a e, Z = .error (a, e) ∧ e ≠ 0 ∧ RrF R v tl n a e W0 w5) := ⟨a, er, HE2.out, by rw [HZ2.out.2.2]; decide, nx, 0, s', by rw [HZ2.out.2.2]; exact g5.out.1, (HK.out.2.2.1.trans (HZ2.out.2.1.mono (bs' := fun b => b = R) (fun _ _ h => h.elim)) (fun _ _ g => g)).trans g5.out.2 (fun _ _ g => g)⟩
                  have HSZ : Hid (B ≤ w5.heap.size) := Nat.le_trans HK.out.2.2.2 (Nat.le_trans HZ2.out.2.1.size g5.out.2.size)
                  clear hV5 HFM HVB HZ2 g5 HK
                  obtain ⟨v', w6, hr, ⟨ao2, cap2, hv2⟩, oo6⟩ := app_raw HV3.out false ⟨#[]⟩ 0 0 none 0 0 x0 x1 x2 al Ll cl HSZ.out HLB.out
                  rw [← show La = _ from HLa.out] at hv2
                  subst hv2
                  have HF6 : Hid (∃ a e, Z = .error (a, e) ∧ e ≠ 0 ∧ RrF R v tl n a e W0 w6) := by
                    obtain ⟨a, e, h1, h2, nf, of, sf, h3, h4⟩ := HRF.out
                    have hRB : R < B ∧ W0.heap.size ≤ B := HRB.out
                    exact ⟨a, e, h1, h2, nf, of, sf, h3.keep (fun b hb e => by omega) oo6, h4.trans oo6 (fun k hk e => by omega)⟩
                  have hr2 : ∀ ty, (Builtin.append_ #[27, 27] ty #[.slice ao La cap, .slice (some ⟨w5.heap.size, 0, none⟩) 1 1]).run Tryz.prog (w5.alloc (.cells #[.bool false, .string ⟨#[]⟩, .int .i64 0, .int .i64 0, .slice none 0 0, .int .i64 x0, .int .i64 x1, .string x2, .slice al Ll cl] 77)) = .ok (.slice ao2 (La + 1) cap2) w6 := fun ty => by
                    have := hr ty
                    simpa using this
                  clear oo6 HRF HV3 hr
                  go_wp2_with (at_builtin; refine wpList_append_run (by rfl) _ _ 27 (by rfl) _ _ (.slice ao2 (La + 1) cap2) (by rfl) (by rfl) hr2 ?_)
                  clear hr2
                  go_wp2
                  go_roundw
                  case rel => exact .inr ⟨ao2, La + 1, cap2, rfl, by rw [← show v = _ from HVV.out]; exact HF6⟩
                  case measure =>
                    obtain ⟨a, e, h1, h2, nf, of, sf, h3, h4⟩ := HF6.out
                    rw [rrM_bad h2 h3, show rrM _ _ _ = _ from KM.out]
                    omega
            | true =>
              rw [hb] at HC
              have ht := List.getElem?_eq_getElem HX.out
              obtain ⟨Y, hY⟩ : ∃ Y, Y = dfR n 12400 (tl.drop nx) 0 0 := ⟨_, rfl⟩
              have HFE : Hid (∀ p, Y = .error p → Z = .error p) := fun p hp => by
                rw [HI.out.1, preD_step HX.out]
                unfold fmD
                rw [if_pos (by simp [hb]), ← hY, hp]
              have HFO : Hid (∀ fm q z, Y = .ok (fm, q, z) → Z = preD (acc ++ [fm]) (alD true n 12400 g0 q) ∧ (tl.drop nx).length > q.length) := fun fm q z hp => by
                refine ⟨?_, dfR_len (n := n) (f := 12400) (o := 0) (z := 0) (by omega) (hY.symm.trans hp)⟩
                rw [HI.out.1, preD_step HX.out]
                unfold fmD
                rw [if_pos (by simp [hb]), ← hY, hp]
              have HG : Hid (tl.length - nx < g0 + 1 ∧ nx ≤ tl.length ∧ La + (tl.length - nx) ≤ 4096) := ⟨HI.out.2.1, HI.out.2.2.1, HI.out.2.2.2.2.1⟩
              have HKa : Hid (VfAt w2 B 12401 (.slice ao La cap) acc ∧ RrAt w2 R v tl (nx : Int) n 0 s' 0 0 ∧ Only (fun b => b = R) W0 w2 ∧ B ≤ w2.heap.size ∧ 0 ≤ s' ∧ s' ≤ 1024) := ⟨HI.out.2.2.2.2.2.1, HI.out.2.2.2.2.2.2.1, HI.out.2.2.2.2.2.2.2.1, HI.out.2.2.2.2.2.2.2.2, HI.out.2.2.2.1.1, HI.out.2.2.2.1.2⟩
              have HDF : Hid (∀ w1, RrAt w1 R v tl (nx : Int) n 0 s' 0 0 → Calls Tryz.prog 27 #[.pointer (some ⟨R, 0, none⟩)] w1 (rdP R v tl n 12400 w1 Y)) := fun w1 h1 => by
                rw [hY]
                exact rdef_any R v tl nx n s' 12400 _ w1 HTL.out.1 HKa.out.2.2.2.2.1 HKa.out.2.2.2.2.2 (by have := HTL.out.1; omega) ht h1
              clear HI hb ht hY
              go_wp2_with fail
              refine (show Calls Tryz.prog 26 _ _ _ from HC.out).mono ?_
              rintro x w2a ⟨rfl, o2⟩
              have HK : Hid (VfAt w2a B 12401 (.slice ao La cap) acc ∧ RrAt w2a R v tl (nx : Int) n 0 s' 0 0 ∧ Only (fun b => b = R) W0 w2a ∧ B ≤ w2a.heap.size) := ⟨HKa.out.1.only o2 (fun _ _ h => h), HKa.out.2.1.only o2, HKa.out.2.2.1.trans (o2.mono (bs' := fun b => b = R) (fun _ _ h => h.elim)) (fun _ _ g => g), Nat.le_trans HKa.out.2.2.2.1 o2.size⟩
              have HD2 : Hid _ := HDF.out w2a HK.out.2.1
              clear HKa HC o2 k1 k6 HDF
              go_wp2_with fail
              refine (show Calls Tryz.prog 27 _ _ _ from HD2.out).mono ?_
              intro x w3 hx
              clear HD2
              unfold rdP at hx
              cases hp : Y with
              | ok p =>
                obtain ⟨fm, q1, z1⟩ := p
                rw [hp] at hx
                dsimp only at hx
                obtain ⟨al, Ll, cl, nx1, s1, rfl, hx⟩ := hx
                have HE2 : Hid (Z = preD (acc ++ [fm]) (alD true n 12400 g0 (tl.drop nx1))) := by
                  have := (HFO.out fm q1 z1 hp).1
                  rw [hx.out.2.2.1] at this
                  exact this
                have HN1 : Hid (nx < nx1 ∧ nx1 ≤ tl.length ∧ 0 ≤ s1 ∧ s1 ≤ 1024) := by
                  have h3 := (HFO.out fm q1 z1 hp).2
                  rw [hx.out.2.2.1, List.length_drop, List.length_drop] at h3
                  exact ⟨by omega, hx.out.2.2.2.1, hx.out.2.2.2.2.2.1, hx.out.2.2.2.2.2.2.1⟩
                obtain ⟨f1, hf1⟩ : ∃ x, x = fm.nm := ⟨_, rfl⟩
                obtain ⟨f2, hf2⟩ : ∃ x, x = (fm.i : Int) := ⟨_, rfl⟩
                obtain ⟨f3, hf3⟩ : ∃ x, x = (fm.j : Int) := ⟨_, rfl⟩
                have HXX : Hid ((f1 = fm.nm ∧ f2 = (fm.i : Int) ∧ f3 = (fm.j : Int)) ∧ fm.d = true ∧ fm.it = noT) := ⟨⟨hf1, hf2, hf3⟩, hx.out.1, hx.out.2.1⟩
                rw [← hf1, ← hf2, ← hf3]
                have oR : Only (fun b => b = R) w2a w3 := hx.out.2.2.2.2.2.2.2.2
                have HV3 : Hid (VfAt w3 B 12401 (.slice ao La cap) acc) := HK.out.1.only oR (fun b hb e => by have := HRB.out.1; omega)
                have HNV : Hid (NvAt w3 w2a.heap.size 12401 (bdT fm) (.slice al Ll cl)) := hx.out.2.2.2.2.1
                have HNI : Hid (NvAt w3 w2a.heap.size 12401 fm.it (.slice none 0 0)) := by rw [HXX.out.2.2]; exact nv_nil rfl
                have HRS : Hid (RrAt w3 R v tl (nx1 : Int) n 0 s1 0 0 ∧ Only (fun b => b = R) W0 w3) := ⟨hx.out.2.2.2.2.2.2.2.1, HK.out.2.2.1.trans oR (fun _ _ g => g)⟩
                have HCB : Hid (B ≤ w2a.heap.size ∧ ∀ k, (Value.slice ao La cap).ownBlock = some k → k < w2a.heap.size) := ⟨HK.out.2.2.2, fun k hk => by
                  obtain ⟨us, S', hr, _⟩ := HK.out.1
                  exact (hr.lt k hk).2⟩
                have HSZ : Hid (B ≤ w3.heap.size) := Nat.le_trans HK.out.2.2.2 oR.size
                clear hx oR HK hp hf1 hf2 hf3 HFE HFO
                obtain ⟨v', w6, hr, hf, oo6⟩ := app_rf (fm := fm) (bl := .slice al Ll cl) (il := .slice none 0 0) HV3.out HNV.out HNI.out HCB.out.1 HCB.out.2 HSZ.out HLB.out
                obtain ⟨ao2, cap2, hv2⟩ := hf.form
                have hlen : (acc ++ [fm]).length = La + 1 := by have : La = acc.length := HLa.out; simp; omega
                subst hv2
                have HK5 : Hid (Z = preD (acc ++ [fm]) (alD true n 12400 g0 (tl.drop nx1)) ∧ tl.length - nx1 < g0 ∧ nx1 ≤ tl.length ∧ (0 ≤ s1 ∧ s1 ≤ 1024) ∧ (acc ++ [fm]).length + (tl.length - nx1) ≤ 4096 ∧ VfAt w6 B 12401 (.slice ao2 (acc ++ [fm]).length cap2) (acc ++ [fm]) ∧ RrAt w6 R v tl (nx1 : Int) n 0 s1 0 0 ∧ Only (fun b => b = R) W0 w6 ∧ B ≤ w6.heap.size) := by
                  have b1 := HN1.out
                  have b2 := HG.out
                  have b3 : La = acc.length := HLa.out
                  have hRB : R < B ∧ W0.heap.size ≤ B := HRB.out
                  have hB6 : B ≤ w6.heap.size := Nat.le_trans HSZ.out oo6.size
                  exact ⟨HE2.out, by omega, by omega, by omega, by rw [hlen]; omega, hf, HRS.out.1.keep (fun b hb e => by omega) oo6, HRS.out.2.trans oo6 (fun k hk e => by omega), hB6⟩
                rw [hlen] at hr
                have hr2 : ∀ ty, (Builtin.append_ #[27, 27] ty #[.slice ao La cap, .slice (some ⟨w3.heap.size, 0, none⟩) 1 1]).run Tryz.prog (w3.alloc (.cells #[.bool true, .string f1, .int .i64 f2, .int .i64 f3, .slice al Ll cl, .int .i64 0, .int .i64 0, .string ⟨#[]⟩, .slice none 0 0] 77)) = .ok (.slice ao2 (La + 1) cap2) w6 := fun ty => by
                  have := hr ty
                  obtain ⟨⟨y0, y1, y2⟩, y3, y4⟩ := HXX.out
                  rw [y3, y4, ← y0, ← y1, ← y2, show vn noT = 0 from rfl, show vs noT = ⟨#[]⟩ from rfl, show (noT.k : Int) = 0 from rfl] at this
                  simpa using this
                have HLN : Hid ((acc ++ [fm]).length = La + 1) := hlen
                clear oo6 HRS HV3 hr hf hlen
                go_wp2_with (at_builtin; refine wpList_append_run (by rfl) _ _ 27 (by rfl) _ _ (.slice ao2 (La + 1) cap2) (by rfl) (by rfl) hr2 ?_)
                clear hr2
                go_wp2
                go_roundw
                case rel => exact .inl ⟨g0, nx1, s1, acc ++ [fm], ao2, cap2, by rw [HLN.out], by rw [← show v = _ from HVV.out]; exact HK5⟩
                case measure =>
                  rw [rrM_ok HK5.out.2.2.2.2.2.2.1, show rrM _ _ _ = _ from KM.out]
                  have := HN1.out
                  omega
              | error p =>
                obtain ⟨a, er⟩ := p
                rw [hp] at hx
                dsimp only at hx
                obtain ⟨f1, f2, f3, al, Ll, cl, rfl, hx⟩ := hx
                obtain ⟨hne, nf, of, sf, hf1, oR⟩ := hx.out
                have HV3 : Hid (VfAt w3 B 12401 (.slice ao La cap) acc) := HK.out.1.only oR (fun b hb e => by have := HRB.out.1; omega)
                have HRF : Hid (∃ a e, Z = .error (a, e) ∧ e ≠ 0 ∧ RrF R v tl n a e W0 w3) := ⟨a, er, HFE.out _ hp, hne, nf, of, sf, hf1, HK.out.2.2.1.trans oR (fun _ _ g => g)⟩
                have HSZ : Hid (B ≤ w3.heap.size) := Nat.le_trans HK.out.2.2.2 oR.size
                clear hx oR HK hp hf1 HFE HFO hne
                obtain ⟨v', w6, hr, ⟨ao2, cap2, hv2⟩, oo6⟩ := app_raw HV3.out true f1 f2 f3 al Ll cl 0 0 ⟨#[]⟩ none 0 0 HSZ.out HLB.out
                rw [← show La = _ from HLa.out] at hv2
                subst hv2
                have HF6 : Hid (∃ a e, Z = .error (a, e) ∧ e ≠ 0 ∧ RrF R v tl n a e W0 w6) := by
                  obtain ⟨a, e, h1, h2, nf, of, sf, h3, h4⟩ := HRF.out
                  have hRB : R < B ∧ W0.heap.size ≤ B := HRB.out
                  exact ⟨a, e, h1, h2, nf, of, sf, h3.keep (fun b hb e => by omega) oo6, h4.trans oo6 (fun k hk e => by omega)⟩
                have hr2 : ∀ ty, (Builtin.append_ #[27, 27] ty #[.slice ao La cap, .slice (some ⟨w3.heap.size, 0, none⟩) 1 1]).run Tryz.prog (w3.alloc (.cells #[.bool true, .string f1, .int .i64 f2, .int .i64 f3, .slice al Ll cl, .int .i64 0, .int .i64 0, .string ⟨#[]⟩, .slice none 0 0] 77)) = .ok (.slice ao2 (La + 1) cap2) w6 := fun ty => by
                  have := hr ty
                  simpa using this
                clear oo6 HRF HV3 hr
                go_wp2_with (at_builtin; refine wpList_append_run (by rfl) _ _ 27 (by rfl) _ _ (.slice ao2 (La + 1) cap2) (by rfl) (by rfl) hr2 ?_)
                clear hr2
                go_wp2
                go_roundw
                case rel => exact .inr ⟨ao2, La + 1, cap2, rfl, by rw [← show v = _ from HVV.out]; exact HF6⟩
                case measure =>
                  obtain ⟨a, e, h1, h2, nf, of, sf, h3, h4⟩ := HF6.out
                  rw [rrM_bad h2 h3, show rrM _ _ _ = _ from KM.out]
                  omega
        · have i1 : ¬ (nx : Int) < (L : Int) := by omega
          have i3 : ¬ nx < L := by omega
          have HE : Hid (Z = .ok acc) := by
            show Z = _
            rw [HI.out.1, alD_nil hx]
            simp [preD]
          have HK : Hid (VfAt w2 B 12401 (.slice ao La cap) acc ∧ Only (fun b => b = R) W0 w2) := ⟨HI.out.2.2.2.2.2.1, HI.out.2.2.2.2.2.2.2.1⟩
          clear hLt hx HI
          go_wp2
          go_ret3
          have hpd : PD = (acc, 0, 0) := HPD.out.trans (by rw [show Z = _ from HE.out]; rfl)
          have e1 : La = acc.length := HLa.out
          refine ⟨ao, cap, ?_, ?_, ?_⟩
          · rw [hpd]
            dsimp only
            rw [← e1]
            rfl
          · rw [hpd]
            dsimp only
            rw [← e1]
            obtain ⟨us, S, ho, ht, hS⟩ := HK.out.1
            have hle : w.heap.size ≤ B := by have h1 := H0.out.2.1.size; have : B = W0.heap.size := HBE.out; omega
            have := HK.out.1
            exact vf_lower this hle
          · exact H0.out.2.1.trans HK.out.2 (fun k hk e => by have := H0.out.2.2; omega)
      · obtain ⟨w2, rfl⟩ : ∃ w2, w2 = wr := ⟨_, rfl⟩
        obtain ⟨a, e, hz, he, nf, of, sf, hr, oR⟩ := HF.out
        obtain ⟨_, k1, _, _, _, k5, k6⟩ := hr.blk.cells
        have he2 : (e == 0) = false := by simp [he]
        have HK : Hid (Z = .error (a, e) ∧ Only (fun b => b = R) W0 w2) := ⟨hz, oR⟩
        clear hz hr oR HF
        go_wp2
        go_quiet (fail)
        go_wp2
        go_ret3
        have hpd : PD = ([], a, e) := HPD.out.trans (by rw [HK.out.1]; rfl)
        refine ⟨none, 0, ?_, ?_, ?_⟩
        · rw [hpd]
          rfl
        · rw [hpd]
          exact vf_nil _ _ _
        · exact (H0.out.2.1.trans HK.out.2 (fun k hk e => by have := H0.out.2.2; omega)).trans ((Only.refl (fun _ => False) w2).drewN _) (fun _ _ g => g)
  · have HPD : Hid (parD dfs s = ([], ((tokR s).2.1 : Int), (tokR s).2.2)) := by
      show parD dfs s = _
      unfold parD
      rw [if_neg h0]
    obtain ⟨e0, he0⟩ : ∃ e, e = (tokR s).2.2 := ⟨_, rfl⟩
    obtain ⟨pl, hpl⟩ : ∃ p : Int, p = ((tokR s).2.1 : Nat) := ⟨_, rfl⟩
    rw [← he0] at HT HPD h0
    rw [← hpl] at HT HPD
    obtain ⟨PD, hPD⟩ : ∃ P, P = parD dfs s := ⟨_, rfl⟩
    rw [← hPD] at HPD ⊢
    have he2 : (e0 == 0) = false := by simp [h0]
    clear he0 hpl hPD
    go_enter Tryz.func9, Tryz.ntmps9
    go_wp2_with fail
    refine (show Calls Tryz.prog 25 _ _ _ from HT.out).mono ?_
    rintro x w1 ⟨v, rfl, g1⟩
    have O1 : Hid (Only (fun _ => False) w w1) := below_only g1.out.2
    clear HT g1
    go_wp2
    go_ret3
    rw [show PD = _ from HPD.out]
    exact ⟨none, 0, rfl, vf_nil _ _ _, O1.out⟩
end Go.Proofs.YtapehdolnljnoaaGreatDoor
namespace Go.Proofs.YtapehdolnljnoaaGreatDoor
open Go.RowKit
set_option linter.unusedSimpArgs false
set_option linter.unusedVariables false
/-- the parts of one tree, twice -/
def SaC (d : Nat) : Prop := ∀ (t : Tre) (la lb : Value) (w : World) (S S' : Nat → Prop), VtAt w S d t la → VtAt w S' d t lb → (∃ e, WfT e t) → Calls Tryz.prog 14 #[la, lb] w fun e w' => e = .returned (.bool true) ∧ Only (fun _ => False) w w'
/-- one tree, twice -/
def SmC (d : Nat) : Prop := ∀ (t : Tre) (la lb : Value) (w : World) (S S' : Nat → Prop), VtAt w S d t la → VtAt w S' d t lb → (∃ e, WfT e t) → Calls Tryz.prog 34 #[.agg #[.int .i64 (t.k : Int), .int .i64 (vn t), .string (vs t), la], .agg #[.int .i64 (t.k : Int), .int .i64 (vn t), .string (vs t), lb]] w fun e w' => e = .returned (.bool true) ∧ Only (fun _ => False) w w'
theorem VtAt.form {w : World} {S : Nat → Prop} {d : Nat} {t : Tre} {lv : Value} (h : VtAt w S d t lv) : ∃ ao cap, lv = .slice ao t.l.length cap := by
  cases d with
  | zero => exact h.elim
  | succ d => obtain ⟨ao, cap, hv, _⟩ := h; exact ⟨ao, cap, hv⟩
set_option maxRecDepth 100000 in
set_option maxHeartbeats 4000000 in
theorem same_walk (x0 x1 : Int) (x2 : ByteArray) (a1 a2 : Option Addr) (L c1 c2 : Nat) (w : World) (HC0 : ∀ w1, Only (fun _ => False) w w1 → Calls Tryz.prog 14 #[.slice a1 L c1, .slice a2 L c2] w1 fun e w' => e = .returned (.bool true) ∧ Only (fun _ => False) w1 w') :
    Calls Tryz.prog 34 #[.agg #[.int .i64 x0, .int .i64 x1, .string x2, .slice a1 L c1], .agg #[.int .i64 x0, .int .i64 x1, .string x2, .slice a2 L c2]] w fun e w' => e = .returned (.bool true) ∧ Only (fun _ => False) w w' := by
  have HC : Hid (∀ w1, Only (fun _ => False) w w1 → Calls Tryz.prog 14 #[.slice a1 L c1, .slice a2 L c2] w1 fun e w' => e = .returned (.bool true) ∧ Only (fun _ => False) w1 w') := HC0
  have O0 : Hid (Only (fun _ => False) w w) := Only.refl _ _
  clear HC0
  go_enter Tryz.func34, Tryz.ntmps34
  go_wp2_with fail
  all_goals
    refine (show Calls Tryz.prog 14 _ _ _ from HC.out _ ((O0.out.alloc _).alloc _)).mono ?_
    rintro e w1 ⟨rfl, o1⟩
    have O1 : Hid (Only (fun _ => False) w w1) := ((O0.out.alloc _).alloc _).trans o1 (fun _ _ g => g)
    clear HC o1
    go_wp2
    go_ret
    exact ⟨rfl, O1.out⟩
theorem same_of (d : Nat) (H : SaC d) : SmC d := by
  intro t la lb w S S' h1 h2 hw
  obtain ⟨a1, c1, rfl⟩ := h1.form
  obtain ⟨a2, c2, rfl⟩ := h2.form
  exact same_walk _ _ _ a1 a2 t.l.length c1 c2 w fun w1 o1 => H t _ _ w1 S S' (h1.step (fun _ g => g) (fun a u _ hc => o1.cell hc (fun g => g)) (Nat.le_refl _)) (h2.step (fun _ g => g) (fun a u _ hc => o1.cell hc (fun g => g)) (Nat.le_refl _)) hw
set_option maxRecDepth 100000 in
set_option maxHeartbeats 40000000 in
theorem sameall_of (d : Nat) (H : SmC d) : SaC (d + 1) := by
  intro t la lb w S S' h1 h2 hw
  obtain ⟨aa, ca, rfl, hca, ha⟩ := h1
  obtain ⟨ab, cb, rfl, hcb, hb⟩ := h2
  obtain ⟨e, hw⟩ := hw
  cases e with
  | zero => exact hw.elim
  | succ e =>
    have HE : Hid (∀ (j : Nat) (x : Tre), t.l[j]? = some x → ∃ g k lx g' k' lx', aa = some ⟨g, k, none⟩ ∧ ab = some ⟨g', k', none⟩ ∧ (w.cell? ⟨g, k + j * 4, none⟩ = some (.int .i64 (x.k : Int)) ∧ w.cell? ⟨g, k + j * 4 + 1, none⟩ = some (.int .i64 (vn x)) ∧ w.cell? ⟨g, k + j * 4 + 2, none⟩ = some (.string (vs x)) ∧ w.cell? ⟨g, k + j * 4 + 3, none⟩ = some lx) ∧ (w.cell? ⟨g', k' + j * 4, none⟩ = some (.int .i64 (x.k : Int)) ∧ w.cell? ⟨g', k' + j * 4 + 1, none⟩ = some (.int .i64 (vn x)) ∧ w.cell? ⟨g', k' + j * 4 + 2, none⟩ = some (.string (vs x)) ∧ w.cell? ⟨g', k' + j * 4 + 3, none⟩ = some lx') ∧ ∀ w1, Only (fun _ => False) w w1 → Calls Tryz.prog 34 #[.agg #[.int .i64 (x.k : Int), .int .i64 (vn x), .string (vs x), lx], .agg #[.int .i64 (x.k : Int), .int .i64 (vn x), .string (vs x), lx']] w1 fun e w' => e = .returned (.bool true) ∧ Only (fun _ => False) w1 w') := by
      intro j x hx
      obtain ⟨g, k, lx, p1, p2, p3, p4⟩ := ha j x hx
      obtain ⟨g', k', lx', q1, q2, q3, q4⟩ := hb j x hx
      exact ⟨g, k, lx, g', k', lx', p1, q1, p3, q3, fun w1 o1 => H x lx lx' w1 S S' (p4.step (fun _ g => g) (fun a u _ hc => o1.cell hc (fun g => g)) (Nat.le_refl _)) (q4.step (fun _ g => g) (fun a u _ hc => o1.cell hc (fun g => g)) (Nat.le_refl _)) ⟨e, hw.2 x (List.mem_of_getElem? hx)⟩⟩
    have HLB : Hid (t.l.length ≤ 4096) := hw.1
    clear ha hb hw H hca hcb
    obtain ⟨N, hN⟩ : ∃ N, N = t.l.length := ⟨_, rfl⟩
    have HNN : Hid (N = t.l.length) := hN
    rw [← hN]
    clear hN
    go_enter Tryz.func14, Tryz.ntmps14
    go_wp2
    go_loopw [5] (fun r5 wr => ∃ i : Nat, r5 = .int .i64 (i : Int) ∧ i ≤ N ∧ Hid (Only (fun _ => False) w wr)) (fun r5 _ => N - uOf r5)
    case atStart => exact ⟨0, rfl, Nat.zero_le _, Only.refl _ _⟩
    case round =>
      obtain ⟨i, rfl, hi, HI⟩ := hrel
      obtain ⟨w1, rfl⟩ : ∃ w1, w1 = wr := ⟨_, rfl⟩
      have hNl : N = t.l.length := HNN.out
      have hN4 : t.l.length ≤ 4096 := HLB.out
      by_cases hiN : i < N
      · obtain ⟨x, hx⟩ : ∃ x, t.l[i]? = some x := ⟨t.l[i]'(by omega), List.getElem?_eq_getElem (by omega)⟩
        obtain ⟨g, k, lx, g', k', lx', rfl, rfl, ⟨h0, h1, h2, h3⟩, ⟨h4, h5, h6, h7⟩, hcall⟩ := HE.out i x hx
        have o1 := HI.out
        have HS : Hid (∀ w', Only (fun _ => False) w1 w' → (w'.cell? ⟨g, k + i * 4, none⟩ = some (.int .i64 (x.k : Int)) ∧ w'.cell? ⟨g, k + i * 4 + 1, none⟩ = some (.int .i64 (vn x)) ∧ w'.cell? ⟨g, k + i * 4 + 2, none⟩ = some (.string (vs x)) ∧ w'.cell? ⟨g, k + i * 4 + 3, none⟩ = some lx) ∧ (w'.cell? ⟨g', k' + i * 4, none⟩ = some (.int .i64 (x.k : Int)) ∧ w'.cell? ⟨g', k' + i * 4 + 1, none⟩ = some (.int .i64 (vn x)) ∧ w'.cell? ⟨g', k' + i * 4 + 2, none⟩ = some (.string (vs x)) ∧ w'.cell? ⟨g', k' + i * 4 + 3, none⟩ = some lx')) := fun w' o => by
          have oo := o1.trans o (fun _ _ g => g)
          exact ⟨⟨oo.cell h0 (fun g => g), oo.cell h1 (fun g => g), oo.cell h2 (fun g => g), oo.cell h3 (fun g => g)⟩, ⟨oo.cell h4 (fun g => g), oo.cell h5 (fun g => g), oo.cell h6 (fun g => g), oo.cell h7 (fun g => g)⟩⟩
        have HCC : Hid (∀ w1, Only (fun _ => False) w w1 → Calls Tryz.prog 34 #[.agg #[.int .i64 (x.k : Int), .int .i64 (vn x), .string (vs x), lx], .agg #[.int .i64 (x.k : Int), .int .i64 (vn x), .string (vs x), lx']] w1 fun e w' => e = .returned (.bool true) ∧ Only (fun _ => False) w1 w') := hcall
        obtain ⟨⟨c0, c1, c2, c3⟩, ⟨c4, c5, c6, c7⟩⟩ := HS.out w1 (Only.refl _ _)
        have HB : Hid (i < N ∧ N ≤ 4096) := ⟨hiN, by omega⟩
        have i1 : (i : Int) < (N : Int) := by omega
        have i0 : (0 : Int) ≤ (i : Int) := by omega
        have hi4 : i ≤ 4096 := by omega
        obtain ⟨x0, hx0⟩ : ∃ x0, x0 = (x.k : Int) := ⟨_, rfl⟩
        obtain ⟨x1, hx1⟩ : ∃ x1, x1 = vn x := ⟨_, rfl⟩
        obtain ⟨x2, hx2⟩ : ∃ x2, x2 = vs x := ⟨_, rfl⟩
        rw [← hx0, ← hx1, ← hx2] at HCC HS
        rw [← hx0] at c0 c4
        rw [← hx1] at c1 c5
        rw [← hx2] at c2 c6
        clear hx0 hx1 hx2 HE h0 h1 h2 h3 h4 h5 h6 h7 hcall o1 hx hNl hN4 hi hiN
        go_wp2_with fail
        have OR : Hid (Only (fun _ => False) w1 w1) := Only.refl _ _
        go_region_held3 (fun w' => (w'.cell? ⟨g, k + i * 4, none⟩ = some (.int .i64 x0) ∧ w'.cell? ⟨g, k + i * 4 + 1, none⟩ = some (.int .i64 x1) ∧ w'.cell? ⟨g, k + i * 4 + 2, none⟩ = some (.string x2) ∧ w'.cell? ⟨g, k + i * 4 + 3, none⟩ = some lx) ∧ (w'.cell? ⟨g', k' + i * 4, none⟩ = some (.int .i64 x0) ∧ w'.cell? ⟨g', k' + i * 4 + 1, none⟩ = some (.int .i64 x1) ∧ w'.cell? ⟨g', k' + i * 4 + 2, none⟩ = some (.string x2) ∧ w'.cell? ⟨g', k' + i * 4 + 3, none⟩ = some lx'))
          (first
            | with_reducible exact HS.out _ OR.out.drew
            | with_reducible exact HS.out _ O2.out)
          (first | (go_at_call 34; refine (show Calls Tryz.prog 34 _ _ _ from HCC.out _ HI.out.drew).mono ?_; rintro ex w2 ⟨rfl, o2⟩; have O2 : Hid (Only (fun _ => False) w1 w2) := OR.out.drew.trans o2 (fun _ _ g => g)))
        have HK : Hid (Only (fun _ => False) w w2) := HI.out.trans O2.out (fun _ _ g => g)
        clear HI O2 OR HS HCC c0 c1 c2 c3 c4 c5 c6 c7 o2
        go_wp2
        go_roundw
        case rel => exact ⟨i + 1, by go_num, by have := HB.out; omega, HK⟩
        case measure => simp only [uOf]; have := HB.out; omega
      · obtain rfl : i = N := by omega
        have i1 : ¬ (i : Int) < (i : Int) := by omega
        clear HE hNl hN4 hi hiN
        go_wp2
        go_ret
        exact ⟨rfl, HI.out⟩
theorem sameT_any : ∀ (d : Nat), SaC d ∧ SmC d
  | 0 => ⟨fun t la lb w S S' h => h.elim, fun t la lb w S S' h => h.elim⟩
  | d + 1 => ⟨sameall_of d (sameT_any d).2, same_of (d + 1) (sameall_of d (sameT_any d).2)⟩
end Go.Proofs.YtapehdolnljnoaaGreatDoor
namespace Go.Proofs.YtapehdolnljnoaaGreatDoor
open Go.RowKit
set_option linter.unusedSimpArgs false
set_option linter.unusedVariables false
set_option maxRecDepth 100000 in
set_option maxHeartbeats 4000000 in
theorem samedef_walk (nm : ByteArray) (x y : Int) (a1 a2 : Option Addr) (L c1 c2 : Nat) (w : World) (HC0 : ∀ w1, Only (fun _ => False) w w1 → Calls Tryz.prog 14 #[.slice a1 L c1, .slice a2 L c2] w1 fun e w' => e = .returned (.bool true) ∧ Only (fun _ => False) w1 w') :
    Calls Tryz.prog 33 #[.agg #[.string nm, .int .i64 x, .int .i64 y, .slice a1 L c1], .agg #[.string nm, .int .i64 x, .int .i64 y, .slice a2 L c2]] w fun e w' => e = .returned (.bool true) ∧ Only (fun _ => False) w w' := by
  have HC : Hid (∀ w1, Only (fun _ => False) w w1 → Calls Tryz.prog 14 #[.slice a1 L c1, .slice a2 L c2] w1 fun e w' => e = .returned (.bool true) ∧ Only (fun _ => False) w1 w') := HC0
  have O0 : Hid (Only (fun _ => False) w w) := Only.refl _ _
  clear HC0
  go_enter Tryz.func33, Tryz.ntmps33
  go_wp2_with fail
  refine (show Calls Tryz.prog 14 _ _ _ from HC.out _ ((O0.out.alloc _).alloc _)).mono ?_
  rintro e w1 ⟨rfl, o1⟩
  have O1 : Hid (Only (fun _ => False) w w1) := ((O0.out.alloc _).alloc _).trans o1 (fun _ _ g => g)
  clear HC o1
  go_wp2
  go_ret
  exact ⟨rfl, O1.out⟩
/-- a slice of the document's forms that can be read -/
def VfQ (w : World) (S : Nat → Prop) (d : Nat) (v : Value) (l : List Fm) : Prop :=
  ∃ ao cap, v = .slice ao l.length cap ∧ ∀ (j : Nat) (fm : Fm), l[j]? = some fm → ∃ g k bl il, ao = some ⟨g, k, none⟩ ∧ (∀ i u, (fC fm bl il)[i]? = some u → w.cell? ⟨g, k + j * 9 + i, none⟩ = some u) ∧ VtAt w S d (bdT fm) bl ∧ VtAt w S d fm.it il
theorem VfAt.read {w : World} {B d : Nat} {v : Value} {l : List Fm} (h : VfAt w B d v l) : ∃ S, VfQ w S d v l := by
  obtain ⟨us, S, ho, ht, hS⟩ := h
  refine ⟨S, ?_⟩
  rcases ho.2 with ⟨rfl, h2⟩ | ⟨g, cap, cur, hv, hB, hg, hn, hcm, hcs, htk⟩
  · have : l = [] := List.eq_nil_of_length_eq_zero h2
    subst this
    exact ⟨none, 0, rfl, fun j fm hj => by simp at hj⟩
  · refine ⟨some ⟨g, 0, none⟩, cap, hv, fun j fm hj => ?_⟩
    obtain ⟨bl, il, h0, h1, h2⟩ := ht j fm hj
    refine ⟨g, 0, bl, il, rfl, fun i u hu => ?_, h1, h2⟩
    have := ho.cells (g := g) (by rw [hv]; rfl) _ u (h0 i u hu)
    rw [addr_ad] at this
    rw [Nat.zero_add]
    exact this
theorem VfQ.only {w w' : World} {S : Nat → Prop} {d : Nat} {v : Value} {l : List Fm} (h : VfQ w S d v l) (o : Only (fun _ => False) w w') : VfQ w' S d v l := by
  obtain ⟨ao, cap, hv, hl⟩ := h
  refine ⟨ao, cap, hv, fun j fm hj => ?_⟩
  obtain ⟨g, k, bl, il, ha, h0, h1, h2⟩ := hl j fm hj
  exact ⟨g, k, bl, il, ha, fun i u hu => o.cell (h0 i u hu) (fun g => g), h1.step (fun _ g => g) (fun a u _ hc => o.cell hc (fun g => g)) (Nat.le_refl _), h2.step (fun _ g => g) (fun a u _ hc => o.cell hc (fun g => g)) (Nat.le_refl _)⟩
set_option maxRecDepth 100000 in
set_option maxHeartbeats 40000000 in
theorem sameforms_any (d : Nat) (l : List Fm) (va vb : Value) (w : World) (S S' : Nat → Prop) (h1 : VfQ w S d va l) (h2 : VfQ w S' d vb l) (hl : l.length ≤ 8192) (hw : ∀ fm ∈ l, (∃ e, WfT e (bdT fm)) ∧ ∃ e, WfT e fm.it) : Calls Tryz.prog 12 #[va, vb] w fun e w' => e = .returned (.bool true) ∧ Only (fun _ => False) w w' := by
  obtain ⟨aa, ca, rfl, ha⟩ := h1
  obtain ⟨ab, cb, rfl, hb⟩ := h2
  have HE : Hid (∀ (j : Nat) (fm : Fm), l[j]? = some fm → ∃ g k g' k' a1 c1 a2 c2 b1 e1 b2 e2, aa = some ⟨g, k, none⟩ ∧ ab = some ⟨g', k', none⟩ ∧ (∀ i u, (fC fm (.slice a1 fm.b.length c1) (.slice a2 fm.it.l.length c2))[i]? = some u → w.cell? ⟨g, k + j * 9 + i, none⟩ = some u) ∧ (∀ i u, (fC fm (.slice b1 fm.b.length e1) (.slice b2 fm.it.l.length e2))[i]? = some u → w.cell? ⟨g', k' + j * 9 + i, none⟩ = some u) ∧ (∀ w1, Only (fun _ => False) w w1 → Calls Tryz.prog 33 #[.agg #[.string fm.nm, .int .i64 (fm.i : Int), .int .i64 (fm.j : Int), .slice a1 fm.b.length c1], .agg #[.string fm.nm, .int .i64 (fm.i : Int), .int .i64 (fm.j : Int), .slice b1 fm.b.length e1]] w1 fun e w' => e = .returned (.bool true) ∧ Only (fun _ => False) w1 w') ∧ (∀ w1, Only (fun _ => False) w w1 → Calls Tryz.prog 34 #[.agg #[.int .i64 (fm.it.k : Int), .int .i64 (vn fm.it), .string (vs fm.it), .slice a2 fm.it.l.length c2], .agg #[.int .i64 (fm.it.k : Int), .int .i64 (vn fm.it), .string (vs fm.it), .slice b2 fm.it.l.length e2]] w1 fun e w' => e = .returned (.bool true) ∧ Only (fun _ => False) w1 w')) := by
    intro j fm hx
    obtain ⟨g, k, bl, il, p1, p2, p3, p4⟩ := ha j fm hx
    obtain ⟨g', k', bl', il', q1, q2, q3, q4⟩ := hb j fm hx
    obtain ⟨w1, w2⟩ := hw fm (List.mem_of_getElem? hx)
    obtain ⟨a1, c1, rfl⟩ := p3.form
    obtain ⟨a2, c2, rfl⟩ := p4.form
    obtain ⟨b1, e1, rfl⟩ := q3.form
    obtain ⟨b2, e2, rfl⟩ := q4.form
    refine ⟨g, k, g', k', a1, c1, a2, c2, b1, e1, b2, e2, p1, q1, p2, q2, fun w1' o1 => samedef_walk _ _ _ a1 b1 _ c1 e1 w1' fun w3 o3 => ?_, fun w1' o1 => ?_⟩
    · have oo := o1.trans o3 (fun _ _ g => g)
      exact (sameT_any d).1 (bdT fm) _ _ w3 S S' (p3.step (fun _ g => g) (fun a u _ hc => oo.cell hc (fun g => g)) (Nat.le_refl _)) (q3.step (fun _ g => g) (fun a u _ hc => oo.cell hc (fun g => g)) (Nat.le_refl _)) w1
    · exact (sameT_any d).2 fm.it _ _ w1' S S' (p4.step (fun _ g => g) (fun a u _ hc => o1.cell hc (fun g => g)) (Nat.le_refl _)) (q4.step (fun _ g => g) (fun a u _ hc => o1.cell hc (fun g => g)) (Nat.le_refl _)) w2
  have HLB : Hid (l.length ≤ 8192) := hl
  clear ha hb hw
  obtain ⟨N, hN⟩ : ∃ N, N = l.length := ⟨_, rfl⟩
  have HNN : Hid (N = l.length) := hN
  rw [← hN]
  clear hN hl
  go_enter Tryz.func12, Tryz.ntmps12
  go_wp2
  go_loopw [5] (fun r5 wr => ∃ i : Nat, r5 = .int .i64 (i : Int) ∧ i ≤ N ∧ Hid (Only (fun _ => False) w wr)) (fun r5 _ => N - uOf r5)
  case atStart => exact ⟨0, rfl, Nat.zero_le _, Only.refl _ _⟩
  case round =>
    obtain ⟨i, rfl, hi, HI⟩ := hrel
    obtain ⟨w1, rfl⟩ : ∃ w1, w1 = wr := ⟨_, rfl⟩
    have hNl : N = l.length := HNN.out
    have hN4 : l.length ≤ 8192 := HLB.out
    by_cases hiN : i < N
    · obtain ⟨fm, hx⟩ : ∃ x, l[i]? = some x := ⟨l[i]'(by omega), List.getElem?_eq_getElem (by omega)⟩
      obtain ⟨g, k, g', k', a1, c1, a2, c2, b1, e1, b2, e2, rfl, rfl, hA, hB, hD, hI⟩ := HE.out i fm hx
      have HB : Hid (i < N ∧ N ≤ 8192) := ⟨hiN, by omega⟩
      have i1 : (i : Int) < (N : Int) := by omega
      have i0 : (0 : Int) ≤ (i : Int) := by omega
      have hi4 : i ≤ 8192 := by omega
      obtain ⟨fd, hfd⟩ : ∃ fd, fd = fm.d := ⟨_, rfl⟩
      obtain ⟨fn, hfn⟩ : ∃ fn, fn = fm.nm := ⟨_, rfl⟩
      obtain ⟨fi, hfi⟩ : ∃ fi : Int, fi = fm.i := ⟨_, rfl⟩
      obtain ⟨fj, hfj⟩ : ∃ fj : Int, fj = fm.j := ⟨_, rfl⟩
      obtain ⟨x0, hx0⟩ : ∃ x0, x0 = (fm.it.k : Int) := ⟨_, rfl⟩
      obtain ⟨x1, hx1⟩ : ∃ x1, x1 = vn fm.it := ⟨_, rfl⟩
      obtain ⟨x2, hx2⟩ : ∃ x2, x2 = vs fm.it := ⟨_, rfl⟩
      obtain ⟨bL, hbL⟩ : ∃ bL, bL = fm.b.length := ⟨_, rfl⟩
      obtain ⟨xl, hxl⟩ : ∃ xl, xl = fm.it.l.length := ⟨_, rfl⟩
      unfold fC at hA hB
      rw [← hfd, ← hfn, ← hfi, ← hfj, ← hx0, ← hx1, ← hx2, ← hbL, ← hxl] at hA hB
      rw [← hfn, ← hfi, ← hfj, ← hbL] at hD
      rw [← hx0, ← hx1, ← hx2, ← hxl] at hI
      have HS : Hid (∀ w', Only (fun _ => False) w1 w' → w'.cell? ⟨g, k + i * 9, none⟩ = some (.bool fd) ∧ w'.cell? ⟨g, k + i * 9 + 1, none⟩ = some (.string fn) ∧ w'.cell? ⟨g, k + i * 9 + 2, none⟩ = some (.int .i64 fi) ∧ w'.cell? ⟨g, k + i * 9 + 3, none⟩ = some (.int .i64 fj) ∧ w'.cell? ⟨g, k + i * 9 + 4, none⟩ = some (.slice a1 bL c1) ∧ w'.cell? ⟨g, k + i * 9 + 5, none⟩ = some (.int .i64 x0) ∧ w'.cell? ⟨g, k + i * 9 + 6, none⟩ = some (.int .i64 x1) ∧ w'.cell? ⟨g, k + i * 9 + 7, none⟩ = some (.string x2) ∧ w'.cell? ⟨g, k + i * 9 + 8, none⟩ = some (.slice a2 xl c2) ∧ w'.cell? ⟨g', k' + i * 9, none⟩ = some (.bool fd) ∧ w'.cell? ⟨g', k' + i * 9 + 1, none⟩ = some (.string fn) ∧ w'.cell? ⟨g', k' + i * 9 + 2, none⟩ = some (.int .i64 fi) ∧ w'.cell? ⟨g', k' + i * 9 + 3, none⟩ = some (.int .i64 fj) ∧ w'.cell? ⟨g', k' + i * 9 + 4, none⟩ = some (.slice b1 bL e1) ∧ w'.cell? ⟨g', k' + i * 9 + 5, none⟩ = some (.int .i64 x0) ∧ w'.cell? ⟨g', k' + i * 9 + 6, none⟩ = some (.int .i64 x1) ∧ w'.cell? ⟨g', k' + i * 9 + 7, none⟩ = some (.string x2) ∧ w'.cell? ⟨g', k' + i * 9 + 8, none⟩ = some (.slice b2 xl e2)) := fun w' o => by
        have oo := HI.out.trans o (fun _ _ g => g)
        have ca := fun i u hu => oo.cell (hA i u hu) (fun g => g)
        have cb := fun i u hu => oo.cell (hB i u hu) (fun g => g)
        exact ⟨ca 0 _ rfl, ca 1 _ rfl, ca 2 _ rfl, ca 3 _ rfl, ca 4 _ rfl, ca 5 _ rfl, ca 6 _ rfl, ca 7 _ rfl, ca 8 _ rfl, cb 0 _ rfl, cb 1 _ rfl, cb 2 _ rfl, cb 3 _ rfl, cb 4 _ rfl, cb 5 _ rfl, cb 6 _ rfl, cb 7 _ rfl, cb 8 _ rfl⟩
      have HD : Hid (∀ w1, Only (fun _ => False) w w1 → Calls Tryz.prog 33 #[.agg #[.string fn, .int .i64 fi, .int .i64 fj, .slice a1 bL c1], .agg #[.string fn, .int .i64 fi, .int .i64 fj, .slice b1 bL e1]] w1 fun e w' => e = .returned (.bool true) ∧ Only (fun _ => False) w1 w') := hD
      have HIt : Hid (∀ w1, Only (fun _ => False) w w1 → Calls Tryz.prog 34 #[.agg #[.int .i64 x0, .int .i64 x1, .string x2, .slice a2 xl c2], .agg #[.int .i64 x0, .int .i64 x1, .string x2, .slice b2 xl e2]] w1 fun e w' => e = .returned (.bool true) ∧ Only (fun _ => False) w1 w') := hI
      have OR : Hid (Only (fun _ => False) w1 w1) := Only.refl _ _
      clear hfd hfn hfi hfj hx0 hx1 hx2 hbL hxl hA hB hD hI HE hx hNl hN4 hi hiN
      go_wp2_with fail
      go_region_held3 (fun w' => w'.cell? ⟨g, k + i * 9, none⟩ = some (.bool fd) ∧ w'.cell? ⟨g, k + i * 9 + 1, none⟩ = some (.string fn) ∧ w'.cell? ⟨g, k + i * 9 + 2, none⟩ = some (.int .i64 fi) ∧ w'.cell? ⟨g, k + i * 9 + 3, none⟩ = some (.int .i64 fj) ∧ w'.cell? ⟨g, k + i * 9 + 4, none⟩ = some (.slice a1 bL c1) ∧ w'.cell? ⟨g, k + i * 9 + 5, none⟩ = some (.int .i64 x0) ∧ w'.cell? ⟨g, k + i * 9 + 6, none⟩ = some (.int .i64 x1) ∧ w'.cell? ⟨g, k + i * 9 + 7, none⟩ = some (.string x2) ∧ w'.cell? ⟨g, k + i * 9 + 8, none⟩ = some (.slice a2 xl c2) ∧ w'.cell? ⟨g', k' + i * 9, none⟩ = some (.bool fd) ∧ w'.cell? ⟨g', k' + i * 9 + 1, none⟩ = some (.string fn) ∧ w'.cell? ⟨g', k' + i * 9 + 2, none⟩ = some (.int .i64 fi) ∧ w'.cell? ⟨g', k' + i * 9 + 3, none⟩ = some (.int .i64 fj) ∧ w'.cell? ⟨g', k' + i * 9 + 4, none⟩ = some (.slice b1 bL e1) ∧ w'.cell? ⟨g', k' + i * 9 + 5, none⟩ = some (.int .i64 x0) ∧ w'.cell? ⟨g', k' + i * 9 + 6, none⟩ = some (.int .i64 x1) ∧ w'.cell? ⟨g', k' + i * 9 + 7, none⟩ = some (.string x2) ∧ w'.cell? ⟨g', k' + i * 9 + 8, none⟩ = some (.slice b2 xl e2))
        (first
          | with_reducible exact HS.out _ OR.out.drew
          | with_reducible exact HS.out _ O2.out
          | with_reducible exact HS.out _ O3.out)
        (first
          | (go_at_call 33; refine (show Calls Tryz.prog 33 _ _ _ from HD.out _ HI.out.drew).mono ?_; rintro ex w2 ⟨rfl, o2⟩; have O2 : Hid (Only (fun _ => False) w1 w2) := OR.out.drew.trans o2 (fun _ _ g => g))
          | (go_at_call 34; refine (show Calls Tryz.prog 34 _ _ _ from HIt.out _ (HI.out.trans O2.out (fun _ _ g => g))).mono ?_; rintro ex w3 ⟨rfl, o3⟩; have O3 : Hid (Only (fun _ => False) w1 w3) := O2.out.trans o3 (fun _ _ g => g)))
      have HK : Hid (Only (fun _ => False) w w3) := HI.out.trans O3.out (fun _ _ g => g)
      clear HI O2 O3 OR HS HD HIt o2 o3
      go_wp2
      go_roundw
      case rel => exact ⟨i + 1, by go_num, by have := HB.out; omega, HK⟩
      case measure => simp only [uOf]; have := HB.out; omega
    · obtain rfl : i = N := by omega
      have i1 : ¬ (i : Int) < (i : Int) := by omega
      clear HE hNl hN4 hi hiN
      go_wp2
      go_ret
      exact ⟨rfl, HI.out⟩
end Go.Proofs.YtapehdolnljnoaaGreatDoor
namespace Go.Proofs.YtapehdolnljnoaaGreatDoor
open Go.RowKit
set_option linter.unusedSimpArgs false
set_option linter.unusedVariables false
/-- a row of trees made since C, whose parts lie ahead of C -/
def VrX (w : World) (B C d : Nat) (v : Value) (l : List Tre) : Prop :=
  ∃ us S, w.ownsRow C 75 4 v l.length us ∧ (∀ (j : Nat) (x : Tre), l[j]? = some x → ∃ lx, (us[j * 4]? = some (.int .i64 (x.k : Int)) ∧ us[j * 4 + 1]? = some (.int .i64 (vn x)) ∧ us[j * 4 + 2]? = some (.string (vs x)) ∧ us[j * 4 + 3]? = some lx) ∧ VtAt w S d x lx) ∧ (∀ b, S b → B ≤ b ∧ b < C) ∧ C ≤ w.heap.size
theorem VrX.at_ {w : World} {B C d : Nat} {v : Value} {l : List Tre} (h : VrX w B C d v l) (hB : B ≤ C) : VrAt w B d v l := by
  obtain ⟨us, S, ho, ht, hS, hC⟩ := h
  refine ⟨us, S, ⟨ho.1, ?_⟩, ht, fun b hb => ⟨(hS b hb).1, by have := (hS b hb).2; omega, fun e => by have := (ho.lt b e).1; have := (hS b hb).2; omega⟩⟩
  rcases ho.2 with h | ⟨g, cap, cur, h1, h2, h3⟩
  · exact .inl h
  · exact .inr ⟨g, cap, cur, h1, by omega, h3⟩
theorem VrX.snoc {w w' : World} {B C d : Nat} {v v' : Value} {l : List Tre} {t : Tre} {lv : Value} {us : List Value} {S S1 : Nat → Prop} (hg : w.grownBy w' v.ownBlock) (ho : w.ownsRow C 75 4 v l.length us) (ht : ∀ (j : Nat) (x : Tre), l[j]? = some x → ∃ lx, (us[j * 4]? = some (.int .i64 (x.k : Int)) ∧ us[j * 4 + 1]? = some (.int .i64 (vn x)) ∧ us[j * 4 + 2]? = some (.string (vs x)) ∧ us[j * 4 + 3]? = some lx) ∧ VtAt w S d x lx) (hS : ∀ b, S b → B ≤ b ∧ b < C) (hC : C ≤ w.heap.size) (t1 : VtAt w S1 d t lv) (s1 : ∀ b, S1 b → B ≤ b ∧ b < C) (ho' : w'.ownsRow C 75 4 v' (l.length + 1) (us ++ [.int .i64 (t.k : Int), .int .i64 (vn t), .string (vs t), lv])) : VrX w' B C d v' (l ++ [t]) := by
  have oo : Only (fun k => v.ownBlock = some k) w w' := (Only.refl _ w).grown hg (fun k e _ => e)
  have a1 : ∀ b, S b → ¬ v.ownBlock = some b := fun b h e => by have := (ho.lt b e).1; have := (hS b h).2; omega
  have a2 : ∀ b, S1 b → ¬ v.ownBlock = some b := fun b h e => by have := (ho.lt b e).1; have := (s1 b h).2; omega
  have hl : us.length = l.length * 4 := ho.1
  refine ⟨_, fun b => S b ∨ S1 b, by simpa using ho', fun j x hx => ?_, fun b hb => ?_, Nat.le_trans hC oo.size⟩
  · by_cases hj : j < l.length
    · rw [List.getElem?_append_left hj] at hx
      obtain ⟨lx, ⟨h0, h1, h2, h3⟩, h6⟩ := ht j x hx
      have ap : ∀ i u, us[i]? = some u → (us ++ [.int .i64 (t.k : Int), .int .i64 (vn t), .string (vs t), lv])[i]? = some u := fun i u hu => by
        rw [List.getElem?_append_left (List.getElem?_eq_some_iff.1 hu).1]; exact hu
      exact ⟨lx, ⟨ap _ _ h0, ap _ _ h1, ap _ _ h2, ap _ _ h3⟩, h6.step (fun _ g => .inl g) (fun a y hs hc => oo.cell hc (a1 _ hs)) (Nat.le_refl _)⟩
    · have hj2 : j < (l ++ [t]).length := (List.getElem?_eq_some_iff.1 hx).1
      have hj3 : j = l.length := by simp at hj2; omega
      subst hj3
      simp at hx
      subst hx
      have ap : ∀ i, (us ++ [.int .i64 (t.k : Int), .int .i64 (vn t), .string (vs t), lv])[l.length * 4 + i]? = ([.int .i64 (t.k : Int), .int .i64 (vn t), .string (vs t), lv] : List Value)[i]? := fun i => by
        rw [List.getElem?_append_right (by omega)]
        congr 1
        omega
      exact ⟨lv, ⟨ap 0, ap 1, ap 2, ap 3⟩, t1.step (fun _ g => .inr g) (fun a y hs hc => oo.cell hc (a2 _ hs)) (Nat.le_refl _)⟩
  · rcases hb with h | h
    · exact hS b h
    · exact s1 b h
/-- the items of forms in memory -/
theorem VfAt.item {w : World} {B d : Nat} {ao : Option Addr} {L cap : Nat} {l : List Fm} (h : VfAt w B d (.slice ao L cap) l) : ∃ S : Nat → Prop, (∀ b, S b → B ≤ b ∧ b < w.heap.size) ∧ ∀ (j : Nat) (fm : Fm), l[j]? = some fm → ∃ g il, ao = some ⟨g, 0, none⟩ ∧ (w.cell? ⟨g, j * 9 + 5, none⟩ = some (.int .i64 (fm.it.k : Int)) ∧ w.cell? ⟨g, j * 9 + 6, none⟩ = some (.int .i64 (vn fm.it)) ∧ w.cell? ⟨g, j * 9 + 7, none⟩ = some (.string (vs fm.it)) ∧ w.cell? ⟨g, j * 9 + 8, none⟩ = some il) ∧ VtAt w S d fm.it il := by
  obtain ⟨us, S, ho, ht, hS⟩ := h
  refine ⟨S, fun b hb => ⟨(hS b hb).1, (hS b hb).2.1⟩, fun j fm hj => ?_⟩
  obtain ⟨bl, il, hc, h1, h2⟩ := ht j fm hj
  rcases ho.2 with ⟨hv, h0⟩ | ⟨g, cap', cur, hv, _⟩
  · have := (List.getElem?_eq_some_iff.1 hj).1
    omega
  · injection hv with e1 e2 e3
    have cc : ∀ i u, us[i]? = some u → w.cell? ⟨g, i, none⟩ = some u := fun i u hu => by
      have := ho.cells (g := g) (by rw [e1]; rfl) i u hu
      rwa [addr_ad] at this
    exact ⟨g, il, e1, ⟨cc _ _ (hc 5 _ rfl), cc _ _ (hc 6 _ rfl), cc _ _ (hc 7 _ rfl), cc _ _ (hc 8 _ rfl)⟩, h2⟩
theorem parD_false (s : ByteArray) : parI s = ((parD false s).1.map Fm.it, (parD false s).2.1, (parD false s).2.2) := by
  unfold parI parD
  split
  · have := alD_false (s.size : Int) 12400 ((tokR s).1.length + 1) (tokR s).1
    cases h : alD false (s.size : Int) 12400 ((tokR s).1.length + 1) (tokR s).1 with
    | error p =>
      obtain ⟨a, e⟩ := p
      rw [h] at this
      dsimp only at this
      rw [this]
      rfl
    | ok l =>
      rw [h] at this
      dsimp only at this
      rw [this.1]
      rfl
  · rfl
theorem parD_true (s : ByteArray) : parD true s = parR s := by
  unfold parR parD
  rw [alD_true]
  split
  · cases alR (s.size : Int) 12400 ((tokR s).1.length + 1) (tokR s).1 with
    | error p => rfl
    | ok l => rfl
  · rfl
theorem alD_len (d : Bool) (n : Int) (F : Nat) : ∀ (g : Nat) (q : List Tok) (l : List Fm), alD d n F g q = .ok l → l.length ≤ q.length
  | 0, _, _, h => by simp [alD] at h
  | g + 1, [], l, h => by simp only [alD, Except.ok.injEq] at h; subst h; exact Nat.le_refl _
  | g + 1, t :: r, l, h => by
    unfold alD at h
    split at h
    · simp at h
    · rename_i fm q z hf
      split at h
      · simp at h
      · rename_i l' ha
        simp only [Except.ok.injEq] at h
        subst h
        have ih := alD_len d n F g q l' ha
        have hq : q.length < (t :: r).length := by
          split at hf
          · exact dfR_len (by omega) hf
          · split at hf
            · simp at hf
            · rename_i hp
              simp only [Except.ok.injEq, Prod.mk.injEq] at hf
              obtain ⟨_, rfl, _⟩ := hf
              exact (prs_ok _ _ _ _ _ _ _ _ _ hp (by omega)).1
        simp only [List.length_cons] at hq ⊢
        omega
theorem parD_len (d : Bool) (s : ByteArray) : (parD d s).1.length ≤ 4096 := by
  unfold parD
  split
  · unfold pdZ
    split
    · exact Nat.zero_le _
    · rename_i h
      exact Nat.le_trans (alD_len _ _ _ _ _ _ h) (tokR_len s)
  · exact Nat.zero_le _
set_option maxRecDepth 100000 in
set_option maxHeartbeats 8000000 in
theorem ritems_any (s : ByteArray) (w : World) : Calls Tryz.prog 11 #[.string s] w fun x w' => ∃ ao cap, x = .returned (.tuple #[.slice ao (parI s).1.length cap, .int .i64 (parI s).2.1, .int .i64 (parI s).2.2]) ∧ Hid (VrAt w' w.heap.size 12401 (.slice ao (parI s).1.length cap) (parI s).1 ∧ Only (fun _ => False) w w') := by
  have HP : Hid (Calls Tryz.prog 9 #[.string s, .bool false] w (pdQ w.heap.size w (parD false s))) := rparse_any false s w
  have hlen := parD_len false s
  rw [parD_false s]
  obtain ⟨⟨l, pa, pe⟩, hPD⟩ : ∃ P, P = parD false s := ⟨_, rfl⟩
  rw [← hPD] at HP hlen ⊢
  clear hPD
  dsimp only at hlen ⊢
  unfold pdQ at HP
  dsimp only at HP
  obtain ⟨N, hN⟩ : ∃ N, N = l.length := ⟨_, rfl⟩
  have HNN : Hid (N = l.length ∧ N ≤ 4096) := ⟨hN, by omega⟩
  have hm : (l.map Fm.it).length = N := by rw [List.length_map]; exact hN.symm
  rw [hm]
  rw [← hN] at HP
  clear hlen hN hm
  go_enter Tryz.func11, Tryz.ntmps11
  go_wp2_with fail
  refine (show Calls Tryz.prog 9 _ _ _ from HP.out).mono ?_
  rintro x w1 ⟨ao0, cap0, rfl, g1⟩
  obtain ⟨S, hS, hel⟩ := g1.out.1.item
  have HE : Hid ((∀ b, S b → w.heap.size ≤ b ∧ b < w1.heap.size) ∧ ∀ (j : Nat) (fm : Fm), l[j]? = some fm → ∃ g il, ao0 = some ⟨g, 0, none⟩ ∧ (w1.cell? ⟨g, j * 9 + 5, none⟩ = some (.int .i64 (fm.it.k : Int)) ∧ w1.cell? ⟨g, j * 9 + 6, none⟩ = some (.int .i64 (vn fm.it)) ∧ w1.cell? ⟨g, j * 9 + 7, none⟩ = some (.string (vs fm.it)) ∧ w1.cell? ⟨g, j * 9 + 8, none⟩ = some il) ∧ VtAt w1 S 12401 fm.it il) := ⟨hS, hel⟩
  have O1 : Hid (Only (fun _ => False) w w1) := g1.out.2
  obtain ⟨C, hC⟩ : ∃ C, C = w1.heap.size := ⟨_, rfl⟩
  have HC : Hid (C = w1.heap.size) := hC
  clear HP g1 hS hel hC
  go_wp2
  go_loopw [8, 9] (fun r8 r9 wr => ∃ (i : Nat) (ao : Option Addr) (cap : Nat), r8 = .slice ao i cap ∧ r9 = .int .i64 (i : Int) ∧ i ≤ N ∧ Hid (VrX wr w.heap.size C 12401 (.slice ao i cap) ((l.map Fm.it).take i) ∧ Only (fun _ => False) w1 wr)) (fun _ r9 _ => N - uOf r9)
  case atStart => exact ⟨0, none, 0, rfl, rfl, Nat.zero_le _, ⟨[], fun _ => False, ⟨rfl, .inl ⟨rfl, rfl⟩⟩, fun j x h => by simp at h, fun b h => h.elim, by have : C = w1.heap.size := HC.out; omega⟩, Only.refl _ _⟩
  case round =>
    obtain ⟨i, ao, cap, rfl, rfl, hi, HI⟩ := hrel
    obtain ⟨w2, rfl⟩ : ∃ w2, w2 = wr := ⟨_, rfl⟩
    obtain ⟨hNl, hN4⟩ := HNN.out
    by_cases hiN : i < N
    · obtain ⟨fm, hx⟩ : ∃ x, l[i]? = some x := ⟨l[i]'(by omega), List.getElem?_eq_getElem (by omega)⟩
      obtain ⟨g, il, rfl, ⟨c5, c6, c7, c8⟩, hvt⟩ := HE.out.2 i fm hx
      have oo := HI.out.2
      have c5 := oo.cell c5 (fun h => h)
      have c6 := oo.cell c6 (fun h => h)
      have c7 := oo.cell c7 (fun h => h)
      have c8 := oo.cell c8 (fun h => h)
      obtain ⟨al, cl, hil⟩ := hvt.form
      subst hil
      obtain ⟨Ll, hLl⟩ : ∃ x, x = fm.it.l.length := ⟨_, rfl⟩
      rw [← hLl] at c8 hvt
      obtain ⟨x0, hx0⟩ : ∃ x0, x0 = (fm.it.k : Int) := ⟨_, rfl⟩
      obtain ⟨x1, hx1⟩ : ∃ x1, x1 = vn fm.it := ⟨_, rfl⟩
      obtain ⟨x2, hx2⟩ : ∃ x2, x2 = vs fm.it := ⟨_, rfl⟩
      have HXX : Hid (x0 = (fm.it.k : Int) ∧ x1 = vn fm.it ∧ x2 = vs fm.it) := ⟨hx0, hx1, hx2⟩
      rw [← hx0] at c5
      rw [← hx1] at c6
      rw [← hx2] at c7
      have oA : Only (fun _ => False) w2 (w2.alloc (.cells #[.int .i64 x0, .int .i64 x1, .string x2, .slice al Ll cl] 75)) := (Only.refl _ w2).alloc _
      have HVT : Hid (VtAt (w2.alloc (.cells #[.int .i64 x0, .int .i64 x1, .string x2, .slice al Ll cl] 75)) S 12401 fm.it (.slice al Ll cl)) := hvt.step (fun _ g => g) (fun a u _ hc => (oo.trans oA (fun _ _ g => g)).cell hc (fun h => h)) (Nat.le_refl _)
      obtain ⟨us, S2, hown, htr, hS2, hCw⟩ := HI.out.1
      have hti : ((l.map Fm.it).take i).length = i := by simp; omega
      rw [hti] at hown
      have hown2 := oA.owns hown (fun k hk h => h)
      have HOW : Hid ((w2.alloc (.cells #[.int .i64 x0, .int .i64 x1, .string x2, .slice al Ll cl] 75)).ownsRow C 75 4 (.slice ao i cap) i us) := hown2
      have HAL : Hid ((∀ (j : Nat) (x : Tre), ((l.map Fm.it).take i)[j]? = some x → ∃ lx, (us[j * 4]? = some (.int .i64 (x.k : Int)) ∧ us[j * 4 + 1]? = some (.int .i64 (vn x)) ∧ us[j * 4 + 2]? = some (.string (vs x)) ∧ us[j * 4 + 3]? = some lx) ∧ VtAt (w2.alloc (.cells #[.int .i64 x0, .int .i64 x1, .string x2, .slice al Ll cl] 75)) S2 12401 x lx) ∧ (∀ b, S2 b → w.heap.size ≤ b ∧ b < C) ∧ C ≤ w2.heap.size ∧ Only (fun _ => False) w1 w2 ∧ ((l.map Fm.it).take i).length = i ∧ (l.map Fm.it).take i ++ [fm.it] = (l.map Fm.it).take (i + 1)) := by
        refine ⟨fun j x hj => ?_, hS2, hCw, oo, hti, ?_⟩
        · obtain ⟨lx, h1, h2⟩ := htr j x hj
          exact ⟨lx, h1, h2.step (fun _ g => g) (fun a u _ hc => oA.cell hc (fun h => h)) (Nat.le_refl _)⟩
        · rw [List.take_add_one, List.getElem?_map, hx]
          rfl
      have HB : Hid (i < N ∧ N ≤ 4096) := ⟨hiN, hN4⟩
      have i1 : (i : Int) < (N : Int) := by omega
      have i0 : (0 : Int) ≤ (i : Int) := by omega
      have hi4 : i ≤ 4096 := by omega
      obtain ⟨i0', z0, hi', hz0, hz1, hz2, hz3⟩ := v_info
      clear oA hvt hown htr hS2 hCw hti hown2 hx hx0 hx1 hx2 hLl oo HI hNl hN4 hiN hi
      go_wp2_with (at_builtin; refine wpList_append_own_at _ rfl _ _ 33 rfl C 75 i0' z0 4 56 Tryz.underlying33 hi' hz0 hz1 hz2 hz3 (by decide) _ i us rfl HOW.out ⟨w2.heap.size, 0, none⟩ 1 1 [.int .i64 x0, .int .i64 x1, .string x2, .slice al Ll cl] rfl rfl ?c1 ?c2 ?c3 ?c4 ?c5 ?_)
      case c1 =>
        intro j u hj
        rcases j with _ | _ | _ | _ | j <;> simp at hj <;> subst hj <;> simp [Addr.add]
      case c2 =>
        intro u hu
        simp only [List.mem_cons, List.not_mem_nil, or_false] at hu
        rcases hu with rfl | rfl | rfl | rfl <;> rfl
      case c3 => have := HB.out; unfold maxLen; omega
      case c4 => have := HB.out; omega
      case c5 => have := HAL.out.2.2.1; simp; omega
      intro v' w4 hown' hgrow _ hat
      obtain ⟨a1, a2, a3, a4, a5, a6⟩ := HAL.out
      obtain ⟨e0, e1, e2⟩ := HXX.out
      have W5 : VrX w4 w.heap.size C 12401 v' ((l.map Fm.it).take i ++ [fm.it]) := VrX.snoc hgrow (by rw [a5]; exact HOW.out) a1 a2 (by simp; omega) HVT.out (fun b hb => by have := HE.out.1 b hb; have : C = w1.heap.size := HC.out; omega) (by rw [a5, ← e0, ← e1, ← e2]; exact hown')
      rw [a6] at W5
      have og : Only (fun k => (Value.slice ao i cap).ownBlock = some k) (w2.alloc (.cells #[.int .i64 x0, .int .i64 x1, .string x2, .slice al Ll cl] 75)) w4 := (Only.refl _ _).grown hgrow (fun k e _ => e)
      have O5 : Only (fun _ => False) w1 w4 := (a4.alloc _).trans og (fun k hk e => by have := (HOW.out.lt k e).1; have : C = w1.heap.size := HC.out; omega)
      obtain ⟨ao', cap', hv'⟩ := own_form hown'
      subst hv'
      have HK5 : Hid (VrX w4 w.heap.size C 12401 (.slice ao' (i + 1) cap') ((l.map Fm.it).take (i + 1)) ∧ Only (fun _ => False) w1 w4) := ⟨W5, O5⟩
      clear W5 O5 og HAL HOW hown' hgrow hat a1 a2 a3 a4 a5 a6 hi' hz0 hz1 hz2 hz3 e0 e1 e2 HXX HVT c5 c6 c7 c8
      go_wp2
      go_roundw
      case rel => exact ⟨i + 1, ao', cap', rfl, by go_num, by have := HB.out; omega, HK5⟩
      case measure => simp only [uOf]; have := HB.out; omega
    · obtain rfl : i = N := by omega
      have i1 : ¬ (i : Int) < (i : Int) := by omega
      have HK : Hid (VrX w2 w.heap.size C 12401 (.slice ao i cap) (l.map Fm.it) ∧ Only (fun _ => False) w1 w2) := by
        have := HI.out
        rw [List.take_of_length_le (by simp; omega)] at this
        exact this
      clear HI hNl hN4 hi hiN
      go_wp2
      go_ret3
      exact ⟨ao, cap, rfl, HK.out.1.at_ (by have h1 := O1.out.size; have : C = w1.heap.size := HC.out; omega), O1.out.trans HK.out.2 (fun _ _ g => g)⟩
end Go.Proofs.YtapehdolnljnoaaGreatDoor
