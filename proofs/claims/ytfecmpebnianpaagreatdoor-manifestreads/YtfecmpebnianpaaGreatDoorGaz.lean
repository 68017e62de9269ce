/- The document's Parse. The document's Parse: the walk. -/
import Derived.Test.YtfecmpebnianpaaGreatDoorGaw
import Derived.Test.YtfecmpebnianpaaGreatDoorGal
import Derived.Test.YtfecmpebnianpaaGreatDoorGay
import Derived.Test.YtfecmpebnianpaaGreatDoorGai
namespace Go.Proofs.YtfecmpebnianpaaGreatDoor
open Go.RowKit
set_option linter.unusedSimpArgs false
set_option linter.unusedVariables false
/-- a form is put behind others, whatever it holds -/
theorem app_raw {w : World} {B d : Nat} {v : Value} {acc : List Fm} (hf : VfAt w B d v acc) (b : Bool) (y : ByteArray) (i j : Int) (a1 : Option Addr) (L1 c1 : Nat) (x0 x1 : Int) (x2 : ByteArray) (a2 : Option Addr) (L2 c2 : Nat) (hB : B ≤ w.heap.size) (hl : acc.length ≤ 4096) :
    ∃ v' w', (∀ ty, (Builtin.append_ #[96, 96] ty #[v, .slice (some ⟨w.heap.size, 0, none⟩) 1 1]).run Tryz.prog (w.alloc (.cells #[.bool b, .string y, .int .i64 i, .int .i64 j, .slice a1 L1 c1, .int .i64 x0, .int .i64 x1, .string x2, .slice a2 L2 c2] 102)) = .ok v' w') ∧ (∃ ao cap, v' = .slice ao (acc.length + 1) cap) ∧ Only (fun k => B ≤ k) w w' := by
  obtain ⟨i0, z0, hi, hz0, hz1, hz2, hz3⟩ := rf_info
  obtain ⟨W, hW⟩ : ∃ W, W = w.alloc (.cells #[.bool b, .string y, .int .i64 i, .int .i64 j, .slice a1 L1 c1, .int .i64 x0, .int .i64 x1, .string x2, .slice a2 L2 c2] 102) := ⟨_, rfl⟩
  have oo : Only (fun _ => False) w W := by rw [hW]; exact (Only.refl _ w).alloc _
  have hf2 := hf.only oo (fun _ _ h => h)
  have hblk : W.heap[w.heap.size]? = some (.cells #[.bool b, .string y, .int .i64 i, .int .i64 j, .slice a1 L1 c1, .int .i64 x0, .int .i64 x1, .string x2, .slice a2 L2 c2] 102) := by rw [hW]; exact alloc_at _ _ _ rfl
  obtain ⟨us, S, ho, ht, hS⟩ := hf2
  have key := fun ty => run_append_own_at (P := Tryz.prog) W B 96 ty 102 i0 z0 9 120 Tryz.underlying96 hi hz0 hz1 hz2 hz3 (by omega) v acc.length us ho ⟨w.heap.size, 0, none⟩ 1 1 [.bool b, .string y, .int .i64 i, .int .i64 j, .slice a1 L1 c1, .int .i64 x0, .int .i64 x1, .string x2, .slice a2 L2 c2] rfl (by
      intro j u hj
      rw [addr_ad, blk_cells hblk]
      simpa using hj) (by
      intro u hu
      simp only [List.mem_cons, List.not_mem_nil, or_false] at hu
      rcases hu with rfl | rfl | rfl | rfl | rfl | rfl | rfl | rfl | rfl <;> rfl) (by unfold maxLen; omega) (by omega) (by have := oo.size; omega)
  obtain ⟨v', w', hr, own', hg, _, hat⟩ := key 0
  refine ⟨v', w', fun ty => ?_, own_form own', oo.mono (bs' := fun k => B ≤ k) (fun _ _ h => h.elim) |>.trans ((Only.refl (fun k => v.ownBlock = some k) W).grown hg (fun k e _ => e)) (fun k hk e => (ho.lt k e).1)⟩
  rw [← hW, ← hr]
  rfl
theorem rr_start {w1 W : World} {B : Nat} {v : Value} {q : List Tok} {n : Int} (h : ToksAt w1 B v q) (o : Only (fun _ => False) w1 W) (hW : RrB W w1.heap.size v 0 n 0 0 0 0) : RrAt W w1.heap.size v q 0 n 0 0 0 0 := by
  refine ⟨hW, ?_⟩
  obtain ⟨ao, cap, hv⟩ := h.1
  have hc : q.length ≤ cap := by
    rcases h.2.2 with ⟨e, h0⟩ | ⟨g, cap', cur, fz, e, _, _, _, hcap, _⟩
    · omega
    · rw [hv] at e
      injection e with _ _ e3
      omega
  refine ⟨ao, cap, hv, hc, fun i t ht => ?_⟩
  obtain ⟨g, cap', e, hB, hg, c0, c1, c2, c3⟩ := toks_cells h ht
  rw [hv] at e
  injection e with e1
  exact ⟨g, 0, e1, hg, by rw [Nat.zero_add]; exact o.cell c0 (fun h => h), by rw [Nat.zero_add]; exact o.cell c1 (fun h => h), by rw [Nat.zero_add]; exact o.cell c2 (fun h => h), by rw [Nat.zero_add]; exact o.cell c3 (fun h => h)⟩
/-- an item as a form -/
def itF (l : List Tre) : Fm := ⟨false, ⟨#[]⟩, 0, 0, [], l.headD noT⟩
/-- one form; d: definitions may stand there -/
def fmD (d : Bool) (n : Int) (F : Nat) (tl : List Tok) (nx : Nat) : Except (Int × Int) (Fm × List Tok × Int) :=
  if (d && isR tl nx ⟨#[58]⟩) = true then dfR n F (tl.drop nx) 0 0 else
  match prs n F 1 (tl.drop nx) 0 0 with
  | .error e => .error e
  | .ok (l, q', z') => .ok (itF l, q', z')
/-- all forms -/
def alD (d : Bool) (n : Int) (F : Nat) : Nat → List Tok → Except (Int × Int) (List Fm)
  | 0, _ => .error (0, 0)
  | g + 1, [] => .ok []
  | g + 1, t :: r =>
    match (if (d && isB t ⟨#[58]⟩) = true then dfR n F (t :: r) 0 0 else
      match prs n F 1 (t :: r) 0 0 with
      | .error e => .error e
      | .ok (l, q', z') => .ok (itF l, q', z')) with
    | .error e => .error e
    | .ok (fm, q, _) =>
      match alD d n F g q with
      | .error e => .error e
      | .ok l => .ok (fm :: l)
theorem alD_step {d : Bool} {n : Int} {F g : Nat} {tl : List Tok} {nx : Nat} (h : nx < tl.length) : alD d n F (g + 1) (tl.drop nx) = (match fmD d n F tl nx with
    | .error e => .error e
    | .ok (fm, q, _) => match alD d n F g q with
      | .error e => .error e
      | .ok l => .ok (fm :: l)) := by
  have ht := List.getElem?_eq_getElem h
  unfold fmD isR
  rw [ht, drop_some ht]
  conv =>
    lhs
    unfold alD
theorem alD_nil {d : Bool} {n : Int} {F g : Nat} {tl : List Tok} {nx : Nat} (h : ¬ nx < tl.length) : alD d n F (g + 1) (tl.drop nx) = .ok [] := by
  rw [List.drop_eq_nil_of_le (by omega)]
  rfl
def preD (acc : List Fm) (r : Except (Int × Int) (List Fm)) : Except (Int × Int) (List Fm) := match r with
  | .error e => .error e
  | .ok l => .ok (acc ++ l)
theorem preD_nil (r : Except (Int × Int) (List Fm)) : preD [] r = r := by cases r <;> rfl
theorem alD_true (n : Int) (F : Nat) : ∀ (g : Nat) (q : List Tok), alD true n F g q = alR n F g q
  | 0, _ => rfl
  | g + 1, [] => rfl
  | g + 1, t :: r => by
    have ih := alD_true n F g
    unfold alD alR fmR
    simp only [Bool.true_and, ih]
    rfl
end Go.Proofs.YtfecmpebnianpaaGreatDoor
namespace Go.Proofs.YtfecmpebnianpaaGreatDoor
open Go.RowKit
set_option linter.unusedSimpArgs false
set_option linter.unusedVariables false
theorem preD_step {d : Bool} {n : Int} {F g : Nat} {tl : List Tok} {nx : Nat} {acc : List Fm} (h : nx < tl.length) : preD acc (alD d n F (g + 1) (tl.drop nx)) = (match fmD d n F tl nx with
    | .error e => .error e
    | .ok (fm, q, _) => preD (acc ++ [fm]) (alD d n F g q)) := by
  rw [alD_step h]
  cases fmD d n F tl nx with
  | error e => rfl
  | ok p =>
    obtain ⟨fm, q, z⟩ := p
    dsimp only
    cases alD d n F g q with
    | error e => rfl
    | ok l => simp [preD]
/-- what Parse answers -/
def pdZ (Z : Except (Int × Int) (List Fm)) : List Fm × Int × Int := match Z with
  | .error (a, e) => ([], a, e)
  | .ok l => (l, 0, 0)
def parD (d : Bool) (s : ByteArray) : List Fm × Int × Int :=
  if (tokR s).2.2 = 0 then pdZ (alD d (s.size : Int) 12400 ((tokR s).1.length + 1) (tokR s).1)
  else ([], ((tokR s).2.1 : Int), (tokR s).2.2)
def pdQ (B : Nat) (w : World) (Z : List Fm × Int × Int) (x : Ending) (w' : World) : Prop := ∃ ao cap, x = .returned (.tuple #[.slice ao Z.1.length cap, .int .i64 Z.2.1, .int .i64 Z.2.2]) ∧ Hid (VfAt w' B 12401 (.slice ao Z.1.length cap) Z.1 ∧ Only (fun _ => False) w w')
theorem vf_lower {w : World} {B C d : Nat} {v : Value} {l : List Fm} (h : VfAt w B d v l) (hC : C ≤ B) : VfAt w C d v l := by
  obtain ⟨us, S, ho, ht, hS⟩ := h
  exact ⟨us, S, ⟨ho.1, by
    rcases ho.2 with h | ⟨g, cap, cur, h1, h2, h3⟩
    · exact .inl h
    · exact .inr ⟨g, cap, cur, h1, by omega, h3⟩⟩, ht, fun b hb => ⟨by have := (hS b hb).1; omega, (hS b hb).2⟩⟩
set_option maxRecDepth 100000 in
set_option maxHeartbeats 40000000 in
theorem rparse_any (dfs : Bool) (s : ByteArray) (w : World) : Calls Tryz.prog 34 #[.string s, .bool dfs] w (pdQ w.heap.size w (parD dfs s)) := by
  have HT : Hid (Calls Tryz.prog 48 #[.string s] w fun e w' => ∃ v, e = .returned (.tuple #[v, .int .i64 ((tokR s).2.1 : Nat), .int .i64 (tokR s).2.2]) ∧ Hid (ToksAt w' w.heap.size v (tokR s).1 ∧ Below w.heap.size w w')) := rTokens_any s w
  by_cases h0 : (tokR s).2.2 = 0
  · rw [h0] at HT
    obtain ⟨tl, htl⟩ : ∃ tl, tl = (tokR s).1 := ⟨_, rfl⟩
    obtain ⟨n, hn⟩ : ∃ n : Int, n = (s.size : Int) := ⟨_, rfl⟩
    have HTL : Hid (tl.length ≤ 4096 ∧ s.size ≤ 65536) := ⟨by rw [htl]; exact tokR_len s, tokR_size h0⟩
    obtain ⟨Z, hZ⟩ : ∃ Z, Z = alD dfs n 12400 (tl.length + 1) tl := ⟨_, rfl⟩
    have HPD : Hid (parD dfs s = pdZ Z) := by
      show parD dfs s = _
      unfold parD
      rw [if_pos h0, hZ, htl, hn]
    have HZ : Hid (Z = alD dfs n 12400 (tl.length + 1) tl) := hZ
    obtain ⟨pl, hpl⟩ : ∃ p : Int, p = ((tokR s).2.1 : Nat) := ⟨_, rfl⟩
    rw [← htl, ← hpl] at HT
    have HN : Hid (n = (s.size : Int)) := hn
    obtain ⟨PD, hPD⟩ : ∃ P, P = parD dfs s := ⟨_, rfl⟩
    rw [← hPD] at HPD ⊢
    clear h0 htl hZ hpl hn hPD
    go_enter Tryz.func34, Tryz.ntmps34
    go_wp2_with fail
    refine (show Calls Tryz.prog 48 _ _ _ from HT.out).mono ?_
    rintro x w1 ⟨v, rfl, g1⟩
    clear HT
    obtain ⟨ao0, cap0, hv⟩ := g1.out.1.1
    have HV : Hid (v = .slice ao0 tl.length cap0) := hv
    obtain ⟨L, hL⟩ : ∃ L, L = tl.length := ⟨_, rfl⟩
    have HL : Hid (L = tl.length) := hL
    rw [← hL] at hv
    have hs6 : s.size ≤ 65536 := HTL.out.2
    obtain ⟨R, hR⟩ : ∃ R, R = w1.heap.size := ⟨_, rfl⟩
    obtain ⟨W0, hW0⟩ : ∃ W0, W0 = w1.alloc (.cells #[.slice ao0 L cap0, .int .i64 0, .int .i64 (s.size : Int), .int .i64 0, .int .i64 0, .int .i64 0, .int .i64 0] 123) := ⟨_, rfl⟩
    have oA : Only (fun _ => False) w1 W0 := by rw [hW0]; exact (Only.refl _ w1).alloc _
    have A0 : RrAt W0 R v tl ((0 : Nat) : Int) n 0 0 0 0 := by
      rw [hR]
      refine rr_start g1.out.1 oA ?_
      rw [hW0, hv, show n = _ from HN.out]
      exact alloc_at _ _ _ rfl
    have H0 : Hid (RrAt W0 R v tl ((0 : Nat) : Int) n 0 0 0 0 ∧ Only (fun _ => False) w W0 ∧ w.heap.size ≤ R) := ⟨A0, (below_only g1.out.2).trans oA (fun _ _ g => g), by rw [hR]; exact g1.out.2.size⟩
    obtain ⟨B, hB⟩ : ∃ B, B = W0.heap.size := ⟨_, rfl⟩
    have HRB : Hid (R < B ∧ W0.heap.size ≤ B) := ⟨by rw [hB]; exact A0.lt, by omega⟩
    have HBE : Hid (B = W0.heap.size) := hB
    have hv2 := hv
    subst hv2
    clear hL g1 oA A0 hB
    go_wp2
    rw [← hR, ← hW0]
    clear hR hW0
    go_loopw [11] (fun r wr => (∃ (g nx : Nat) (s' : Int) (acc : List Fm) (ao : Option Addr) (cap : Nat), r = .slice ao acc.length cap ∧ Hid (Z = preD acc (alD dfs n 12400 g (tl.drop nx)) ∧ tl.length - nx < g ∧ nx ≤ tl.length ∧ (0 ≤ s' ∧ s' ≤ 1024) ∧ acc.length + (tl.length - nx) ≤ 4096 ∧ VfAt wr B 12401 (.slice ao acc.length cap) acc ∧ RrAt wr R (.slice ao0 L cap0) tl (nx : Int) n 0 s' 0 0 ∧ Only (fun b => b = R) W0 wr ∧ B ≤ wr.heap.size)) ∨ (∃ (ao : Option Addr) (L' cap : Nat), r = .slice ao L' cap ∧ Hid (∃ a e, Z = .error (a, e) ∧ e ≠ 0 ∧ RrF R (.slice ao0 L cap0) tl n a e W0 wr))) (fun _ wr => rrM R tl.length wr)
    case atStart => exact .inl ⟨tl.length + 1, 0, 0, [], none, 0, rfl, by show Z = _; rw [preD_nil, List.drop_zero]; exact HZ.out, by omega, by omega, by omega, by have := HTL.out.1; simp; omega, vf_nil _ _ _, H0.out.1, Only.refl _ _, by have : B = W0.heap.size := HBE.out; omega⟩
    case round =>
      clear HZ
      obtain ⟨v, hv⟩ : ∃ v : Value, v = .slice ao0 L cap0 := ⟨_, rfl⟩
      have HVV : Hid (v = .slice ao0 L cap0) := hv
      rw [← hv] at hrel H0
      clear hv
      rcases hrel with ⟨g, nx, s', acc, ao, cap, rfl, HI⟩ | ⟨ao, L', cap, rfl, HF⟩
      · obtain ⟨w2, rfl⟩ : ∃ w2, w2 = wr := ⟨_, rfl⟩
        obtain ⟨g0, rfl⟩ : ∃ g0, g = g0 + 1 := ⟨g - 1, by have := HI.out.2.1; omega⟩
        obtain ⟨La, hLa⟩ : ∃ L, L = acc.length := ⟨_, rfl⟩
        have HLa : Hid (La = acc.length) := hLa
        rw [← hLa] at HI ⊢
        clear hLa
        have KM : Hid (rrM R tl.length w2 = tl.length - nx + 2) := rrM_ok HI.out.2.2.2.2.2.2.1
        obtain ⟨_, k1, _, _, _, _, k6⟩ := HI.out.2.2.2.2.2.2.1.blk.cells
        have hLt : L = tl.length := HL.out
        by_cases hx : nx < tl.length
        · have i1 : (nx : Int) < (L : Int) := by omega
          have i3 : nx < L := by omega
          have HX : Hid (nx < tl.length) := hx
          have HLB : Hid (acc.length ≤ 4096) := by have := HI.out.2.2.2.2.1; have : La = acc.length := HLa.out; show acc.length ≤ 4096; omega
          clear hLt hx
          cases dfs with
          | false =>
            have HFE : Hid (∀ p, prs n 12400 1 (tl.drop nx) 0 0 = .error p → Z = .error p) := fun p hp => by
              rw [HI.out.1, preD_step HX.out]
              unfold fmD
              rw [if_neg (by simp), hp]
            have HFO : Hid (∀ t q z, prs n 12400 1 (tl.drop nx) 0 0 = .ok ([t], q, z) → Z = preD (acc ++ [itF [t]]) (alD false n 12400 g0 q)) := fun t q z hp => by
              rw [HI.out.1, preD_step HX.out]
              unfold fmD
              rw [if_neg (by simp), hp]
            have HG : Hid (tl.length - nx < g0 + 1 ∧ nx ≤ tl.length ∧ La + (tl.length - nx) ≤ 4096) := ⟨HI.out.2.1, HI.out.2.2.1, HI.out.2.2.2.2.1⟩
            have HK : Hid (VfAt w2 B 12401 (.slice ao La cap) acc ∧ RrAt w2 R v tl (nx : Int) n 0 s' 0 0 ∧ Only (fun b => b = R) W0 w2 ∧ B ≤ w2.heap.size) := ⟨HI.out.2.2.2.2.2.1, HI.out.2.2.2.2.2.2.1, HI.out.2.2.2.2.2.2.2.1, HI.out.2.2.2.2.2.2.2.2⟩
            have HP2 : Hid (Calls Tryz.prog 51 #[.pointer (some ⟨R, 0, none⟩)] w2 (rlP R v tl n 12400 1 nx 0 s' w2)) := (rparts R v tl n HTL.out.1 12401 12400 (by omega)).2.1 nx 0 s' w2 (by have := HX.out; omega) (by have := HTL.out.1; omega) (by omega) (by omega) HI.out.2.2.2.1.1 HI.out.2.2.2.1.2 HK.out.2.1
            clear HI
            go_wp2_with fail
            refine (show Calls Tryz.prog 51 _ _ _ from HP2.out).mono ?_
            intro x w3 hx
            clear HP2
            unfold rlP at hx
            rw [show zIn 0 s' = 0 from if_pos rfl] at hx
            cases hp : prs n 12400 1 (tl.drop nx) 0 0 with
            | ok p =>
              obtain ⟨l1, q1, z1⟩ := p
              rw [hp] at hx
              dsimp only at hx
              obtain ⟨t, al, Ll, cl, nx1, s1, rfl, rfl, hx⟩ := hx
              have HE2 : Hid (Z = preD (acc ++ [itF [t]]) (alD false n 12400 g0 (tl.drop nx1))) := by
                have := HFO.out t q1 z1 hp
                rw [hx.out.1] at this
                exact this
              have HN1 : Hid (nx < nx1 ∧ nx1 ≤ tl.length ∧ 0 ≤ s1 ∧ s1 ≤ 1024) := by
                have h3 := (prs_ok n _ _ _ _ _ _ _ _ hp (by omega)).1
                rw [hx.out.1, List.length_drop, List.length_drop] at h3
                exact ⟨by omega, hx.out.2.1, hx.out.2.2.2.2.1, hx.out.2.2.2.2.2.1⟩
              unfold rV
              obtain ⟨x0, hx0⟩ : ∃ x0, x0 = (t.k : Int) := ⟨_, rfl⟩
              obtain ⟨x1, hx1⟩ : ∃ x1, x1 = vn t := ⟨_, rfl⟩
              obtain ⟨x2, hx2⟩ : ∃ x2, x2 = vs t := ⟨_, rfl⟩
              have HXX : Hid (x0 = (t.k : Int) ∧ x1 = vn t ∧ x2 = vs t) := ⟨hx0, hx1, hx2⟩
              rw [← hx0, ← hx1, ← hx2]
              have oR : Only (fun b => b = R) w2 w3 := hx.out.2.2.2.2.2.2.2
              have oA : Only (fun _ => False) w3 (w3.alloc (.cells #[.int .i64 x0, .int .i64 x1, .string x2, .slice al Ll cl] 100)) := (Only.refl _ w3).alloc _
              have HV3 : Hid (VfAt (w3.alloc (.cells #[.int .i64 x0, .int .i64 x1, .string x2, .slice al Ll cl] 100)) B 12401 (.slice ao La cap) acc) := (HK.out.1.only oR (fun b hb e => by have := HRB.out.1; omega)).only oA (fun _ _ h => h)
              have HNV : Hid (NvAt (w3.alloc (.cells #[.int .i64 x0, .int .i64 x1, .string x2, .slice al Ll cl] 100)) w2.heap.size 12401 t (.slice al Ll cl)) := (hx.out.2.2.1.deep (by omega)).only oA (fun _ _ h => h)
              have HRS : Hid (RrAt (w3.alloc (.cells #[.int .i64 x0, .int .i64 x1, .string x2, .slice al Ll cl] 100)) R v tl (nx1 : Int) n 0 s1 0 0 ∧ Only (fun b => b = R) W0 (w3.alloc (.cells #[.int .i64 x0, .int .i64 x1, .string x2, .slice al Ll cl] 100))) := ⟨hx.out.2.2.2.2.2.2.1.only oA, (HK.out.2.2.1.trans oR (fun _ _ g => g)).trans (oA.mono (bs' := fun b => b = R) (fun _ _ h => h.elim)) (fun _ _ g => g)⟩
              have HCB : Hid (B ≤ w2.heap.size ∧ ∀ k, (Value.slice ao La cap).ownBlock = some k → k < w2.heap.size) := ⟨HK.out.2.2.2, fun k hk => by
                obtain ⟨us, S', hr, _⟩ := HK.out.1
                exact (hr.lt k hk).2⟩
              have HSZ : Hid (B ≤ (w3.alloc (.cells #[.int .i64 x0, .int .i64 x1, .string x2, .slice al Ll cl] 100)).heap.size) := Nat.le_trans HK.out.2.2.2 (Nat.le_trans oR.size oA.size)
              clear hx oR oA HK hp hx0 hx1 hx2 HFE HFO
              obtain ⟨v', w6, hr, hf, oo6⟩ := app_rf (fm := itF [t]) (bl := .slice none 0 0) (il := .slice al Ll cl) HV3.out (nv_nil rfl) HNV.out HCB.out.1 HCB.out.2 HSZ.out HLB.out
              obtain ⟨ao2, cap2, hv2⟩ := hf.form
              have hlen : (acc ++ [itF [t]]).length = La + 1 := by have : La = acc.length := HLa.out; simp; omega
              subst hv2
              have HK5 : Hid (Z = preD (acc ++ [itF [t]]) (alD false n 12400 g0 (tl.drop nx1)) ∧ tl.length - nx1 < g0 ∧ nx1 ≤ tl.length ∧ (0 ≤ s1 ∧ s1 ≤ 1024) ∧ (acc ++ [itF [t]]).length + (tl.length - nx1) ≤ 4096 ∧ VfAt w6 B 12401 (.slice ao2 (acc ++ [itF [t]]).length cap2) (acc ++ [itF [t]]) ∧ RrAt w6 R v tl (nx1 : Int) n 0 s1 0 0 ∧ Only (fun b => b = R) W0 w6 ∧ B ≤ w6.heap.size) := by
                have b1 := HN1.out
                have b2 := HG.out
                have b3 : La = acc.length := HLa.out
                have hRB : R < B ∧ W0.heap.size ≤ B := HRB.out
                have hB6 : B ≤ w6.heap.size := Nat.le_trans HSZ.out oo6.size
                exact ⟨HE2.out, by omega, by omega, by omega, by rw [hlen]; omega, hf, HRS.out.1.keep (fun b hb e => by omega) oo6, HRS.out.2.trans oo6 (fun k hk e => by omega), hB6⟩
              rw [hlen] at hr
              have hr2 : ∀ ty, (Builtin.append_ #[96, 96] ty #[.slice ao La cap, .slice (some ⟨w3.heap.size + 1, 0, none⟩) 1 1]).run Tryz.prog ((w3.alloc (.cells #[.int .i64 x0, .int .i64 x1, .string x2, .slice al Ll cl] 100)).alloc (.cells #[.bool false, .string ⟨#[]⟩, .int .i64 0, .int .i64 0, .slice none 0 0, .int .i64 x0, .int .i64 x1, .string x2, .slice al Ll cl] 102)) = .ok (.slice ao2 (La + 1) cap2) w6 := fun ty => by
                have := hr ty
                obtain ⟨y0, y1, y2⟩ := HXX.out
                simp only [itF, List.headD_cons] at this
                rw [← y0, ← y1, ← y2] at this
                simpa using this
              have HLN : Hid ((acc ++ [itF [t]]).length = La + 1) := hlen
              clear oo6 HRS HV3 hr hf hlen
              go_wp2_with (at_builtin; refine wpList_append_run (by rfl) _ _ 96 (by rfl) _ _ (.slice ao2 (La + 1) cap2) (by rfl) (by rfl) hr2 ?_)
              clear hr2
              go_wp2
              go_roundw
              case rel => exact .inl ⟨g0, nx1, s1, acc ++ [itF [t]], ao2, cap2, by rw [HLN.out], by rw [← show v = _ from HVV.out]; exact HK5⟩
              case measure =>
                rw [rrM_ok HK5.out.2.2.2.2.2.2.1, show rrM _ _ _ = _ from KM.out]
                have := HN1.out
                omega
            | error p =>
              obtain ⟨a, er⟩ := p
              rw [hp] at hx
              dsimp only at hx
              obtain ⟨x0, x1, x2, al, Ll, cl, b, rfl, hx⟩ := hx
              have HE2 : Hid (Z = .error (a, er)) := HFE.out _ hp
              unfold rV
              cases b with
              | true =>
                have hf : RrF R v tl n a er w2 w3 := by
                  rcases hx.out.2 with ⟨_, _, h⟩ | ⟨h, _⟩
                  · exact h
                  · simp at h
                obtain ⟨nf, of, sf, hf1, oR⟩ := hf
                have oA : Only (fun _ => False) w3 (w3.alloc (.cells #[.int .i64 x0, .int .i64 x1, .string x2, .slice al Ll cl] 100)) := (Only.refl _ w3).alloc _
                have HV3 : Hid (VfAt (w3.alloc (.cells #[.int .i64 x0, .int .i64 x1, .string x2, .slice al Ll cl] 100)) B 12401 (.slice ao La cap) acc) := (HK.out.1.only oR (fun b hb e => by have := HRB.out.1; omega)).only oA (fun _ _ h => h)
                have HRF : Hid (∃ a e, Z = .error (a, e) ∧ e ≠ 0 ∧ RrF R v tl n a e W0 (w3.alloc (.cells #[.int .i64 x0, .int .i64 x1, .string x2, .slice al Ll cl] 100))) := ⟨a, er, HE2.out, hx.out.1, nf, of, sf, hf1.only oA, (HK.out.2.2.1.trans oR (fun _ _ g => g)).trans (oA.mono (bs' := fun b => b = R) (fun _ _ h => h.elim)) (fun _ _ g => g)⟩
                have HSZ : Hid (B ≤ (w3.alloc (.cells #[.int .i64 x0, .int .i64 x1, .string x2, .slice al Ll cl] 100)).heap.size) := Nat.le_trans HK.out.2.2.2 (Nat.le_trans oR.size oA.size)
                clear hx oR oA HK hp hf1 HFE HFO
                obtain ⟨v', w6, hr, ⟨ao2, cap2, hv2⟩, oo6⟩ := app_raw HV3.out false ⟨#[]⟩ 0 0 none 0 0 x0 x1 x2 al Ll cl HSZ.out HLB.out
                rw [← show La = _ from HLa.out] at hv2
                subst hv2
                have HF6 : Hid (∃ a e, Z = .error (a, e) ∧ e ≠ 0 ∧ RrF R v tl n a e W0 w6) := by
                  obtain ⟨a, e, h1, h2, nf, of, sf, h3, h4⟩ := HRF.out
                  have hRB : R < B ∧ W0.heap.size ≤ B := HRB.out
                  exact ⟨a, e, h1, h2, nf, of, sf, h3.keep (fun b hb e => by omega) oo6, h4.trans oo6 (fun k hk e => by omega)⟩
                have hr2 : ∀ ty, (Builtin.append_ #[96, 96] ty #[.slice ao La cap, .slice (some ⟨w3.heap.size + 1, 0, none⟩) 1 1]).run Tryz.prog ((w3.alloc (.cells #[.int .i64 x0, .int .i64 x1, .string x2, .slice al Ll cl] 100)).alloc (.cells #[.bool false, .string ⟨#[]⟩, .int .i64 0, .int .i64 0, .slice none 0 0, .int .i64 x0, .int .i64 x1, .string x2, .slice al Ll cl] 102)) = .ok (.slice ao2 (La + 1) cap2) w6 := fun ty => by
                  have := hr ty
                  simpa using this
                clear oo6 HRF HV3 hr
                go_wp2_with (at_builtin; refine wpList_append_run (by rfl) _ _ 96 (by rfl) _ _ (.slice ao2 (La + 1) cap2) (by rfl) (by rfl) hr2 ?_)
                clear hr2
                go_wp2
                go_roundw
                case rel => exact .inr ⟨ao2, La + 1, cap2, rfl, by rw [← show v = _ from HVV.out]; exact HF6⟩
                case measure =>
                  obtain ⟨a, e, h1, h2, nf, of, sf, h3, h4⟩ := HF6.out
                  rw [rrM_bad h2 h3, show rrM _ _ _ = _ from KM.out]
                  omega
              | false =>
                have hf : a = atR tl nx n ∧ er = 9 ∧ RrAt w3 R v tl (nx : Int) n 0 s' 0 0 ∧ Only (fun _ => False) w2 w3 := by
                  rcases hx.out.2 with ⟨h, _⟩ | ⟨_, h⟩
                  · simp at h
                  · exact h
                obtain ⟨ha, he9, hf1, oF⟩ := hf
                have oA : Only (fun _ => False) w3 (w3.alloc (.cells #[.int .i64 x0, .int .i64 x1, .string x2, .slice al Ll cl] 100)) := (Only.refl _ w3).alloc _
                have A4 := hf1.only oA
                have HT2 : Hid (Calls Tryz.prog 53 #[.pointer (some ⟨R, 0, none⟩)] (w3.alloc (.cells #[.int .i64 x0, .int .i64 x1, .string x2, .slice al Ll cl] 100)) fun x w' => x = .returned (.int .i64 a) ∧ Only (fun _ => False) (w3.alloc (.cells #[.int .i64 x0, .int .i64 x1, .string x2, .slice al Ll cl] 100)) w') := by
                  rw [ha]
                  exact rat_any R v tl nx n 0 s' 0 0 _ A4
                have HFL : Hid (∀ w4, Only (fun _ => False) (w3.alloc (.cells #[.int .i64 x0, .int .i64 x1, .string x2, .slice al Ll cl] 100)) w4 → Calls Tryz.prog 52 #[.pointer (some ⟨R, 0, none⟩), .int .i64 a, .int .i64 9] w4 fun x w' => x = .returned (.tuple #[]) ∧ Hid (RrAt w' R v tl (nx : Int) n 0 s' a 9 ∧ Only (fun b => b = R) (w3.alloc (.cells #[.int .i64 x0, .int .i64 x1, .string x2, .slice al Ll cl] 100)) w')) := fun w4 o4 => (rfail_ok R v tl nx n 0 s' 0 a 9 w4 (A4.only o4)).mono fun x w' g => ⟨g.1, g.2.out.1, (o4.mono (bs' := fun b => b = R) (fun _ _ h => h.elim)).trans g.2.out.2 (fun _ _ g => g)⟩
                have HVB : Hid ((w3.alloc (.cells #[.int .i64 x0, .int .i64 x1, .string x2, .slice al Ll cl] 100)).heap[w3.heap.size]? = some (.cells #[.int .i64 x0, .int .i64 x1, .string x2, .slice al Ll cl] 100)) := alloc_at _ _ _ rfl
                have HZ2 : Hid (R < w3.heap.size ∧ Only (fun _ => False) w2 (w3.alloc (.cells #[.int .i64 x0, .int .i64 x1, .string x2, .slice al Ll cl] 100)) ∧ er = 9) := ⟨hf1.lt, oF.trans oA (fun _ _ g => g), he9⟩
                clear ha he9 A4 hf1 hx oA oF hp HFE HFO
                go_wp2_with fail
                refine (show Calls Tryz.prog 53 _ _ _ from HT2.out).mono ?_
                rintro x w4 ⟨rfl, o4⟩
                have HFM : Hid _ := HFL.out w4 o4
                clear HT2 HFL o4
                go_wp2_with fail
                refine (show Calls Tryz.prog 52 _ _ _ from HFM.out).mono ?_
                rintro x w5 ⟨rfl, g5⟩
                have hV5 := (g5.out.2.block w3.heap.size (Array.getElem?_eq_some_iff.1 HVB.out).1 (by have := HZ2.out.1; omega)).trans HVB.out
                have d0 := blk_cells hV5 0
                have d1 := blk_cells hV5 1
                have d2 := blk_cells hV5 2
                have d3 := blk_cells hV5 3
                simp only [List.getElem?_toArray, List.getElem?_cons_zero, List.getElem?_cons_succ] at d0 d1 d2 d3
                have HV3 : Hid (VfAt w5 B 12401 (.slice ao La cap) acc) := (HK.out.1.only HZ2.out.2.1 (fun _ _ h => h)).only g5.out.2 (fun b hb e => by have := HRB.out.1; omega)
                have HRF : Hid (∃ a e, Z = .error (a, e) ∧ e ≠ 0 ∧ RrF R v tl n a e W0 w5) := ⟨a, er, HE2.out, by rw [HZ2.out.2.2]; decide, nx, 0, s', by rw [HZ2.out.2.2]; exact g5.out.1, (HK.out.2.2.1.trans (HZ2.out.2.1.mono (bs' := fun b => b = R) (fun _ _ h => h.elim)) (fun _ _ g => g)).trans g5.out.2 (fun _ _ g => g)⟩
                have HSZ : Hid (B ≤ w5.heap.size) := Nat.le_trans HK.out.2.2.2 (Nat.le_trans HZ2.out.2.1.size g5.out.2.size)
                clear hV5 HFM HVB HZ2 g5 HK
                obtain ⟨v', w6, hr, ⟨ao2, cap2, hv2⟩, oo6⟩ := app_raw HV3.out false ⟨#[]⟩ 0 0 none 0 0 x0 x1 x2 al Ll cl HSZ.out HLB.out
                rw [← show La = _ from HLa.out] at hv2
                subst hv2
                have HF6 : Hid (∃ a e, Z = .error (a, e) ∧ e ≠ 0 ∧ RrF R v tl n a e W0 w6) := by
                  obtain ⟨a, e, h1, h2, nf, of, sf, h3, h4⟩ := HRF.out
                  have hRB : R < B ∧ W0.heap.size ≤ B := HRB.out
                  exact ⟨a, e, h1, h2, nf, of, sf, h3.keep (fun b hb e => by omega) oo6, h4.trans oo6 (fun k hk e => by omega)⟩
                have hr2 : ∀ ty, (Builtin.append_ #[96, 96] ty #[.slice ao La cap, .slice (some ⟨w5.heap.size, 0, none⟩) 1 1]).run Tryz.prog (w5.alloc (.cells #[.bool false, .string ⟨#[]⟩, .int .i64 0, .int .i64 0, .slice none 0 0, .int .i64 x0, .int .i64 x1, .string x2, .slice al Ll cl] 102)) = .ok (.slice ao2 (La + 1) cap2) w6 := fun ty => by
                  have := hr ty
                  simpa using this
                clear oo6 HRF HV3 hr
                go_wp2_with (at_builtin; refine wpList_append_run (by rfl) _ _ 96 (by rfl) _ _ (.slice ao2 (La + 1) cap2) (by rfl) (by rfl) hr2 ?_)
                clear hr2
                go_wp2
                go_roundw
                case rel => exact .inr ⟨ao2, La + 1, cap2, rfl, by rw [← show v = _ from HVV.out]; exact HF6⟩
                case measure =>
                  obtain ⟨a, e, h1, h2, nf, of, sf, h3, h4⟩ := HF6.out
                  rw [rrM_bad h2 h3, show rrM _ _ _ = _ from KM.out]
                  omega
          | true =>
            have HC : Hid (Calls Tryz.prog 49 #[.pointer (some ⟨R, 0, none⟩), .string ⟨#[58]⟩] w2 fun x w' => x = .returned (.bool (isR tl nx ⟨#[58]⟩)) ∧ Only (fun _ => False) w2 w') := ris_any R v tl nx n 0 s' 0 _ w2 HI.out.2.2.2.2.2.2.1
            cases hb : isR tl nx ⟨#[58]⟩ with
            | false =>
              rw [hb] at HC
              have HFE : Hid (∀ p, prs n 12400 1 (tl.drop nx) 0 0 = .error p → Z = .error p) := fun p hp => by
                rw [HI.out.1, preD_step HX.out]
                unfold fmD
                rw [if_neg (by simp [hb]), hp]
              have HFO : Hid (∀ t q z, prs n 12400 1 (tl.drop nx) 0 0 = .ok ([t], q, z) → Z = preD (acc ++ [itF [t]]) (alD true n 12400 g0 q)) := fun t q z hp => by
                rw [HI.out.1, preD_step HX.out]
                unfold fmD
                rw [if_neg (by simp [hb]), hp]
              have HG : Hid (tl.length - nx < g0 + 1 ∧ nx ≤ tl.length ∧ La + (tl.length - nx) ≤ 4096) := ⟨HI.out.2.1, HI.out.2.2.1, HI.out.2.2.2.2.1⟩
              have HKa : Hid (VfAt w2 B 12401 (.slice ao La cap) acc ∧ RrAt w2 R v tl (nx : Int) n 0 s' 0 0 ∧ Only (fun b => b = R) W0 w2 ∧ B ≤ w2.heap.size ∧ 0 ≤ s' ∧ s' ≤ 1024) := ⟨HI.out.2.2.2.2.2.1, HI.out.2.2.2.2.2.2.1, HI.out.2.2.2.2.2.2.2.1, HI.out.2.2.2.2.2.2.2.2, HI.out.2.2.2.1.1, HI.out.2.2.2.1.2⟩
              clear HI hb
              go_wp2_with fail
              refine (show Calls Tryz.prog 49 _ _ _ from HC.out).mono ?_
              rintro x w2a ⟨rfl, o2⟩
              have HK : Hid (VfAt w2a B 12401 (.slice ao La cap) acc ∧ RrAt w2a R v tl (nx : Int) n 0 s' 0 0 ∧ Only (fun b => b = R) W0 w2a ∧ B ≤ w2a.heap.size) := ⟨HKa.out.1.only o2 (fun _ _ h => h), HKa.out.2.1.only o2, HKa.out.2.2.1.trans (o2.mono (bs' := fun b => b = R) (fun _ _ h => h.elim)) (fun _ _ g => g), Nat.le_trans HKa.out.2.2.2.1 o2.size⟩
              have HP2 : Hid (Calls Tryz.prog 51 #[.pointer (some ⟨R, 0, none⟩)] w2a (rlP R v tl n 12400 1 nx 0 s' w2a)) := (rparts R v tl n HTL.out.1 12401 12400 (by omega)).2.1 nx 0 s' w2a (by have := HX.out; omega) (by have := HTL.out.1; omega) (by omega) (by omega) HKa.out.2.2.2.2.1 HKa.out.2.2.2.2.2 HK.out.2.1
              clear HKa HC o2 k1 k6
              go_wp2_with fail
              refine (show Calls Tryz.prog 51 _ _ _ from HP2.out).mono ?_
              intro x w3 hx
              clear HP2
              unfold rlP at hx
              rw [show zIn 0 s' = 0 from if_pos rfl] at hx
              cases hp : prs n 12400 1 (tl.drop nx) 0 0 with
              | ok p =>
                obtain ⟨l1, q1, z1⟩ := p
                rw [hp] at hx
                dsimp only at hx
                obtain ⟨t, al, Ll, cl, nx1, s1, rfl, rfl, hx⟩ := hx
                have HE2 : Hid (Z = preD (acc ++ [itF [t]]) (alD true n 12400 g0 (tl.drop nx1))) := by
                  have := HFO.out t q1 z1 hp
                  rw [hx.out.1] at this
                  exact this
                have HN1 : Hid (nx < nx1 ∧ nx1 ≤ tl.length ∧ 0 ≤ s1 ∧ s1 ≤ 1024) := by
                  have h3 := (prs_ok n _ _ _ _ _ _ _ _ hp (by omega)).1
                  rw [hx.out.1, List.length_drop, List.length_drop] at h3
                  exact ⟨by omega, hx.out.2.1, hx.out.2.2.2.2.1, hx.out.2.2.2.2.2.1⟩
                unfold rV
                obtain ⟨x0, hx0⟩ : ∃ x0, x0 = (t.k : Int) := ⟨_, rfl⟩
                obtain ⟨x1, hx1⟩ : ∃ x1, x1 = vn t := ⟨_, rfl⟩
                obtain ⟨x2, hx2⟩ : ∃ x2, x2 = vs t := ⟨_, rfl⟩
                have HXX : Hid (x0 = (t.k : Int) ∧ x1 = vn t ∧ x2 = vs t) := ⟨hx0, hx1, hx2⟩
                rw [← hx0, ← hx1, ← hx2]
                have oR : Only (fun b => b = R) w2a w3 := hx.out.2.2.2.2.2.2.2
                have oA : Only (fun _ => False) w3 (w3.alloc (.cells #[.int .i64 x0, .int .i64 x1, .string x2, .slice al Ll cl] 100)) := (Only.refl _ w3).alloc _
                have HV3 : Hid (VfAt (w3.alloc (.cells #[.int .i64 x0, .int .i64 x1, .string x2, .slice al Ll cl] 100)) B 12401 (.slice ao La cap) acc) := (HK.out.1.only oR (fun b hb e => by have := HRB.out.1; omega)).only oA (fun _ _ h => h)
                have HNV : Hid (NvAt (w3.alloc (.cells #[.int .i64 x0, .int .i64 x1, .string x2, .slice al Ll cl] 100)) w2a.heap.size 12401 t (.slice al Ll cl)) := (hx.out.2.2.1.deep (by omega)).only oA (fun _ _ h => h)
                have HRS : Hid (RrAt (w3.alloc (.cells #[.int .i64 x0, .int .i64 x1, .string x2, .slice al Ll cl] 100)) R v tl (nx1 : Int) n 0 s1 0 0 ∧ Only (fun b => b = R) W0 (w3.alloc (.cells #[.int .i64 x0, .int .i64 x1, .string x2, .slice al Ll cl] 100))) := ⟨hx.out.2.2.2.2.2.2.1.only oA, (HK.out.2.2.1.trans oR (fun _ _ g => g)).trans (oA.mono (bs' := fun b => b = R) (fun _ _ h => h.elim)) (fun _ _ g => g)⟩
                have HCB : Hid (B ≤ w2a.heap.size ∧ ∀ k, (Value.slice ao La cap).ownBlock = some k → k < w2a.heap.size) := ⟨HK.out.2.2.2, fun k hk => by
                  obtain ⟨us, S', hr, _⟩ := HK.out.1
                  exact (hr.lt k hk).2⟩
                have HSZ : Hid (B ≤ (w3.alloc (.cells #[.int .i64 x0, .int .i64 x1, .string x2, .slice al Ll cl] 100)).heap.size) := Nat.le_trans HK.out.2.2.2 (Nat.le_trans oR.size oA.size)
                clear hx oR oA HK hp hx0 hx1 hx2 HFE HFO
                obtain ⟨v', w6, hr, hf, oo6⟩ := app_rf (fm := itF [t]) (bl := .slice none 0 0) (il := .slice al Ll cl) HV3.out (nv_nil rfl) HNV.out HCB.out.1 HCB.out.2 HSZ.out HLB.out
                obtain ⟨ao2, cap2, hv2⟩ := hf.form
                have hlen : (acc ++ [itF [t]]).length = La + 1 := by have : La = acc.length := HLa.out; simp; omega
                subst hv2
                have HK5 : Hid (Z = preD (acc ++ [itF [t]]) (alD true n 12400 g0 (tl.drop nx1)) ∧ tl.length - nx1 < g0 ∧ nx1 ≤ tl.length ∧ (0 ≤ s1 ∧ s1 ≤ 1024) ∧ (acc ++ [itF [t]]).length + (tl.length - nx1) ≤ 4096 ∧ VfAt w6 B 12401 (.slice ao2 (acc ++ [itF [t]]).length cap2) (acc ++ [itF [t]]) ∧ RrAt w6 R v tl (nx1 : Int) n 0 s1 0 0 ∧ Only (fun b => b = R) W0 w6 ∧ B ≤ w6.heap.size) := by
                  have b1 := HN1.out
                  have b2 := HG.out
                  have b3 : La = acc.length := HLa.out
                  have hRB : R < B ∧ W0.heap.size ≤ B := HRB.out
                  have hB6 : B ≤ w6.heap.size := Nat.le_trans HSZ.out oo6.size
                  exact ⟨HE2.out, by omega, by omega, by omega, by rw [hlen]; omega, hf, HRS.out.1.keep (fun b hb e => by omega) oo6, HRS.out.2.trans oo6 (fun k hk e => by omega), hB6⟩
                rw [hlen] at hr
                have hr2 : ∀ ty, (Builtin.append_ #[96, 96] ty #[.slice ao La cap, .slice (some ⟨w3.heap.size + 1, 0, none⟩) 1 1]).run Tryz.prog ((w3.alloc (.cells #[.int .i64 x0, .int .i64 x1, .string x2, .slice al Ll cl] 100)).alloc (.cells #[.bool false, .string ⟨#[]⟩, .int .i64 0, .int .i64 0, .slice none 0 0, .int .i64 x0, .int .i64 x1, .string x2, .slice al Ll cl] 102)) = .ok (.slice ao2 (La + 1) cap2) w6 := fun ty => by
                  have := hr ty
                  obtain ⟨y0, y1, y2⟩ := HXX.out
                  simp only [itF, List.headD_cons] at this
                  rw [← y0, ← y1, ← y2] at this
                  simpa using this
                have HLN : Hid ((acc ++ [itF [t]]).length = La + 1) := hlen
                clear oo6 HRS HV3 hr hf hlen
                go_wp2_with (at_builtin; refine wpList_append_run (by rfl) _ _ 96 (by rfl) _ _ (.slice ao2 (La + 1) cap2) (by rfl) (by rfl) hr2 ?_)
                clear hr2
                go_wp2
                go_roundw
                case rel => exact .inl ⟨g0, nx1, s1, acc ++ [itF [t]], ao2, cap2, by rw [HLN.out], by rw [← show v = _ from HVV.out]; exact HK5⟩
                case measure =>
                  rw [rrM_ok HK5.out.2.2.2.2.2.2.1, show rrM _ _ _ = _ from KM.out]
                  have := HN1.out
                  omega
              | error p =>
                obtain ⟨a, er⟩ := p
                rw [hp] at hx
                dsimp only at hx
                obtain ⟨x0, x1, x2, al, Ll, cl, b, rfl, hx⟩ := hx
                have HE2 : Hid (Z = .error (a, er)) := HFE.out _ hp
                unfold rV
                cases b with
                | true =>
                  have hf : RrF R v tl n a er w2a w3 := by
                    rcases hx.out.2 with ⟨_, _, h⟩ | ⟨h, _⟩
                    · exact h
                    · simp at h
                  obtain ⟨nf, of, sf, hf1, oR⟩ := hf
                  have oA : Only (fun _ => False) w3 (w3.alloc (.cells #[.int .i64 x0, .int .i64 x1, .string x2, .slice al Ll cl] 100)) := (Only.refl _ w3).alloc _
                  have HV3 : Hid (VfAt (w3.alloc (.cells #[.int .i64 x0, .int .i64 x1, .string x2, .slice al Ll cl] 100)) B 12401 (.slice ao La cap) acc) := (HK.out.1.only oR (fun b hb e => by have := HRB.out.1; omega)).only oA (fun _ _ h => h)
                  have HRF : Hid (∃ a e, Z = .error (a, e) ∧ e ≠ 0 ∧ RrF R v tl n a e W0 (w3.alloc (.cells #[.int .i64 x0, .int .i64 x1, .string x2, .slice al Ll cl] 100))) := ⟨a, er, HE2.out, hx.out.1, nf, of, sf, hf1.only oA, (HK.out.2.2.1.trans oR (fun _ _ g => g)).trans (oA.mono (bs' := fun b => b = R) (fun _ _ h => h.elim)) (fun _ _ g => g)⟩
                  have HSZ : Hid (B ≤ (w3.alloc (.cells #[.int .i64 x0, .int .i64 x1, .string x2, .slice al Ll cl] 100)).heap.size) := Nat.le_trans HK.out.2.2.2 (Nat.le_trans oR.size oA.size)
                  clear hx oR oA HK hp hf1 HFE HFO
                  obtain ⟨v', w6, hr, ⟨ao2, cap2, hv2⟩, oo6⟩ := app_raw HV3.out false ⟨#[]⟩ 0 0 none 0 0 x0 x1 x2 al Ll cl HSZ.out HLB.out
                  rw [← show La = _ from HLa.out] at hv2
                  subst hv2
                  have HF6 : Hid (∃ a e, Z = .error (a, e) ∧ e ≠ 0 ∧ RrF R v tl n a e W0 w6) := by
                    obtain ⟨a, e, h1, h2, nf, of, sf, h3, h4⟩ := HRF.out
                    have hRB : R < B ∧ W0.heap.size ≤ B := HRB.out
                    exact ⟨a, e, h1, h2, nf, of, sf, h3.keep (fun b hb e => by omega) oo6, h4.trans oo6 (fun k hk e => by omega)⟩
                  have hr2 : ∀ ty, (Builtin.append_ #[96, 96] ty #[.slice ao La cap, .slice (some ⟨w3.heap.size + 1, 0, none⟩) 1 1]).run Tryz.prog ((w3.alloc (.cells #[.int .i64 x0, .int .i64 x1, .string x2, .slice al Ll cl] 100)).alloc (.cells #[.bool false, .string ⟨#[]⟩, .int .i64 0, .int .i64 0, .slice none 0 0, .int .i64 x0, .int .i64 x1, .string x2, .slice al Ll cl] 102)) = .ok (.slice ao2 (La + 1) cap2) w6 := fun ty => by
                    have := hr ty
                    simpa using this
                  clear oo6 HRF HV3 hr
                  go_wp2_with (at_builtin; refine wpList_append_run (by rfl) _ _ 96 (by rfl) _ _ (.slice ao2 (La + 1) cap2) (by rfl) (by rfl) hr2 ?_)
                  clear hr2
                  go_wp2
                  go_roundw
                  case rel => exact .inr ⟨ao2, La + 1, cap2, rfl, by rw [← show v = _ from HVV.out]; exact HF6⟩
                  case measure =>
                    obtain ⟨a, e, h1, h2, nf, of, sf, h3, h4⟩ := HF6.out
                    rw [rrM_bad h2 h3, show rrM _ _ _ = _ from KM.out]
                    omega
                | false =>
                  have hf : a = atR tl nx n ∧ er = 9 ∧ RrAt w3 R v tl (nx : Int) n 0 s' 0 0 ∧ Only (fun _ => False) w2a w3 := by
                    rcases hx.out.2 with ⟨h, _⟩ | ⟨_, h⟩
                    · simp at h
                    · exact h
                  obtain ⟨ha, he9, hf1, oF⟩ := hf
                  have oA : Only (fun _ => False) w3 (w3.alloc (.cells #[.int .i64 x0, .int .i64 x1, .string x2, .slice al Ll cl] 100)) := (Only.refl _ w3).alloc _
                  have A4 := hf1.only oA
                  have HT2 : Hid (Calls Tryz.prog 53 #[.pointer (some ⟨R, 0, none⟩)] (w3.alloc (.cells #[.int .i64 x0, .int .i64 x1, .string x2, .slice al Ll cl] 100)) fun x w' => x = .returned (.int .i64 a) ∧ Only (fun _ => False) (w3.alloc (.cells #[.int .i64 x0, .int .i64 x1, .string x2, .slice al Ll cl] 100)) w') := by
                    rw [ha]
                    exact rat_any R v tl nx n 0 s' 0 0 _ A4
                  have HFL : Hid (∀ w4, Only (fun _ => False) (w3.alloc (.cells #[.int .i64 x0, .int .i64 x1, .string x2, .slice al Ll cl] 100)) w4 → Calls Tryz.prog 52 #[.pointer (some ⟨R, 0, none⟩), .int .i64 a, .int .i64 9] w4 fun x w' => x = .returned (.tuple #[]) ∧ Hid (RrAt w' R v tl (nx : Int) n 0 s' a 9 ∧ Only (fun b => b = R) (w3.alloc (.cells #[.int .i64 x0, .int .i64 x1, .string x2, .slice al Ll cl] 100)) w')) := fun w4 o4 => (rfail_ok R v tl nx n 0 s' 0 a 9 w4 (A4.only o4)).mono fun x w' g => ⟨g.1, g.2.out.1, (o4.mono (bs' := fun b => b = R) (fun _ _ h => h.elim)).trans g.2.out.2 (fun _ _ g => g)⟩
                  have HVB : Hid ((w3.alloc (.cells #[.int .i64 x0, .int .i64 x1, .string x2, .slice al Ll cl] 100)).heap[w3.heap.size]? = some (.cells #[.int .i64 x0, .int .i64 x1, .string x2, .slice al Ll cl] 100)) := alloc_at _ _ _ rfl
                  have HZ2 : Hid (R < w3.heap.size ∧ Only (fun _ => False) w2a (w3.alloc (.cells #[.int .i64 x0, .int .i64 x1, .string x2, .slice al Ll cl] 100)) ∧ er = 9) := ⟨hf1.lt, oF.trans oA (fun _ _ g => g), he9⟩
                  clear ha he9 A4 hf1 hx oA oF hp HFE HFO
                  go_wp2_with fail
                  refine (show Calls Tryz.prog 53 _ _ _ from HT2.out).mono ?_
                  rintro x w4 ⟨rfl, o4⟩
                  have HFM : Hid _ := HFL.out w4 o4
                  clear HT2 HFL o4
                  go_wp2_with fail
                  refine (show Calls Tryz.prog 52 _ _ _ from HFM.out).mono ?_
                  rintro x w5 ⟨rfl, g5⟩
                  have hV5 := (g5.out.2.block w3.heap.size (Array.getElem?_eq_some_iff.1 HVB.out).1 (by have := HZ2.out.1; omega)).trans HVB.out
                  have d0 := blk_cells hV5 0
                  have d1 := blk_cells hV5 1
                  have d2 := blk_cells hV5 2
                  have d3 := blk_cells hV5 3
                  simp only [List.getElem?_toArray, List.getElem?_cons_zero, List.getElem?_cons_succ] at d0 d1 d2 d3
                  have HV3 : Hid (VfAt w5 B 12401 (.slice ao La cap) acc) := (HK.out.1.only HZ2.out.2.1 (fun _ _ h => h)).only g5.out.2 (fun b hb e => by have := HRB.out.1; omega)
                  have HRF : Hid (∃ a e, Z = .error (a, e) ∧ e ≠ 0 ∧ RrF R v tl n a e W0 w5) := ⟨a, er, HE2.out, by rw [HZ2.out.2.2]; decide, nx, 0, s', by rw [HZ2.out.2.2]; exact g5.out.1, (HK.out.2.2.1.trans (HZ2.out.2.1.mono (bs' := fun b => b = R) (fun _ _ h => h.elim)) (fun _ _ g => g)).trans g5.out.2 (fun _ _ g => g)⟩
                  have HSZ : Hid (B ≤ w5.heap.size) := Nat.le_trans HK.out.2.2.2 (Nat.le_trans HZ2.out.2.1.size g5.out.2.size)
                  clear hV5 HFM HVB HZ2 g5 HK
                  obtain ⟨v', w6, hr, ⟨ao2, cap2, hv2⟩, oo6⟩ := app_raw HV3.out false ⟨#[]⟩ 0 0 none 0 0 x0 x1 x2 al Ll cl HSZ.out HLB.out
                  rw [← show La = _ from HLa.out] at hv2
                  subst hv2
                  have HF6 : Hid (∃ a e, Z = .error (a, e) ∧ e ≠ 0 ∧ RrF R v tl n a e W0 w6) := by
                    obtain ⟨a, e, h1, h2, nf, of, sf, h3, h4⟩ := HRF.out
                    have hRB : R < B ∧ W0.heap.size ≤ B := HRB.out
                    exact ⟨a, e, h1, h2, nf, of, sf, h3.keep (fun b hb e => by omega) oo6, h4.trans oo6 (fun k hk e => by omega)⟩
                  have hr2 : ∀ ty, (Builtin.append_ #[96, 96] ty #[.slice ao La cap, .slice (some ⟨w5.heap.size, 0, none⟩) 1 1]).run Tryz.prog (w5.alloc (.cells #[.bool false, .string ⟨#[]⟩, .int .i64 0, .int .i64 0, .slice none 0 0, .int .i64 x0, .int .i64 x1, .string x2, .slice al Ll cl] 102)) = .ok (.slice ao2 (La + 1) cap2) w6 := fun ty => by
                    have := hr ty
                    simpa using this
                  clear oo6 HRF HV3 hr
                  go_wp2_with (at_builtin; refine wpList_append_run (by rfl) _ _ 96 (by rfl) _ _ (.slice ao2 (La + 1) cap2) (by rfl) (by rfl) hr2 ?_)
                  clear hr2
                  go_wp2
                  go_roundw
                  case rel => exact .inr ⟨ao2, La + 1, cap2, rfl, by rw [← show v = _ from HVV.out]; exact HF6⟩
                  case measure =>
                    obtain ⟨a, e, h1, h2, nf, of, sf, h3, h4⟩ := HF6.out
                    rw [rrM_bad h2 h3, show rrM _ _ _ = _ from KM.out]
                    omega
            | true =>
              rw [hb] at HC
              have ht := List.getElem?_eq_getElem HX.out
              obtain ⟨Y, hY⟩ : ∃ Y, Y = dfR n 12400 (tl.drop nx) 0 0 := ⟨_, rfl⟩
              have HFE : Hid (∀ p, Y = .error p → Z = .error p) := fun p hp => by
                rw [HI.out.1, preD_step HX.out]
                unfold fmD
                rw [if_pos (by simp [hb]), ← hY, hp]
              have HFO : Hid (∀ fm q z, Y = .ok (fm, q, z) → Z = preD (acc ++ [fm]) (alD true n 12400 g0 q) ∧ (tl.drop nx).length > q.length) := fun fm q z hp => by
                refine ⟨?_, dfR_len (n := n) (f := 12400) (o := 0) (z := 0) (by omega) (hY.symm.trans hp)⟩
                rw [HI.out.1, preD_step HX.out]
                unfold fmD
                rw [if_pos (by simp [hb]), ← hY, hp]
              have HG : Hid (tl.length - nx < g0 + 1 ∧ nx ≤ tl.length ∧ La + (tl.length - nx) ≤ 4096) := ⟨HI.out.2.1, HI.out.2.2.1, HI.out.2.2.2.2.1⟩
              have HKa : Hid (VfAt w2 B 12401 (.slice ao La cap) acc ∧ RrAt w2 R v tl (nx : Int) n 0 s' 0 0 ∧ Only (fun b => b = R) W0 w2 ∧ B ≤ w2.heap.size ∧ 0 ≤ s' ∧ s' ≤ 1024) := ⟨HI.out.2.2.2.2.2.1, HI.out.2.2.2.2.2.2.1, HI.out.2.2.2.2.2.2.2.1, HI.out.2.2.2.2.2.2.2.2, HI.out.2.2.2.1.1, HI.out.2.2.2.1.2⟩
              have HDF : Hid (∀ w1, RrAt w1 R v tl (nx : Int) n 0 s' 0 0 → Calls Tryz.prog 50 #[.pointer (some ⟨R, 0, none⟩)] w1 (rdP R v tl n 12400 w1 Y)) := fun w1 h1 => by
                rw [hY]
                exact rdef_any R v tl nx n s' 12400 _ w1 HTL.out.1 HKa.out.2.2.2.2.1 HKa.out.2.2.2.2.2 (by have := HTL.out.1; omega) ht h1
              clear HI hb ht hY
              go_wp2_with fail
              refine (show Calls Tryz.prog 49 _ _ _ from HC.out).mono ?_
              rintro x w2a ⟨rfl, o2⟩
              have HK : Hid (VfAt w2a B 12401 (.slice ao La cap) acc ∧ RrAt w2a R v tl (nx : Int) n 0 s' 0 0 ∧ Only (fun b => b = R) W0 w2a ∧ B ≤ w2a.heap.size) := ⟨HKa.out.1.only o2 (fun _ _ h => h), HKa.out.2.1.only o2, HKa.out.2.2.1.trans (o2.mono (bs' := fun b => b = R) (fun _ _ h => h.elim)) (fun _ _ g => g), Nat.le_trans HKa.out.2.2.2.1 o2.size⟩
              have HD2 : Hid _ := HDF.out w2a HK.out.2.1
              clear HKa HC o2 k1 k6 HDF
              go_wp2_with fail
              refine (show Calls Tryz.prog 50 _ _ _ from HD2.out).mono ?_
              intro x w3 hx
              clear HD2
              unfold rdP at hx
              cases hp : Y with
              | ok p =>
                obtain ⟨fm, q1, z1⟩ := p
                rw [hp] at hx
                dsimp only at hx
                obtain ⟨al, Ll, cl, nx1, s1, rfl, hx⟩ := hx
                have HE2 : Hid (Z = preD (acc ++ [fm]) (alD true n 12400 g0 (tl.drop nx1))) := by
                  have := (HFO.out fm q1 z1 hp).1
                  rw [hx.out.2.2.1] at this
                  exact this
                have HN1 : Hid (nx < nx1 ∧ nx1 ≤ tl.length ∧ 0 ≤ s1 ∧ s1 ≤ 1024) := by
                  have h3 := (HFO.out fm q1 z1 hp).2
                  rw [hx.out.2.2.1, List.length_drop, List.length_drop] at h3
                  exact ⟨by omega, hx.out.2.2.2.1, hx.out.2.2.2.2.2.1, hx.out.2.2.2.2.2.2.1⟩
                obtain ⟨f1, hf1⟩ : ∃ x, x = fm.nm := ⟨_, rfl⟩
                obtain ⟨f2, hf2⟩ : ∃ x, x = (fm.i : Int) := ⟨_, rfl⟩
                obtain ⟨f3, hf3⟩ : ∃ x, x = (fm.j : Int) := ⟨_, rfl⟩
                have HXX : Hid ((f1 = fm.nm ∧ f2 = (fm.i : Int) ∧ f3 = (fm.j : Int)) ∧ fm.d = true ∧ fm.it = noT) := ⟨⟨hf1, hf2, hf3⟩, hx.out.1, hx.out.2.1⟩
                rw [← hf1, ← hf2, ← hf3]
                have oR : Only (fun b => b = R) w2a w3 := hx.out.2.2.2.2.2.2.2.2
                have HV3 : Hid (VfAt w3 B 12401 (.slice ao La cap) acc) := HK.out.1.only oR (fun b hb e => by have := HRB.out.1; omega)
                have HNV : Hid (NvAt w3 w2a.heap.size 12401 (bdT fm) (.slice al Ll cl)) := hx.out.2.2.2.2.1
                have HNI : Hid (NvAt w3 w2a.heap.size 12401 fm.it (.slice none 0 0)) := by rw [HXX.out.2.2]; exact nv_nil rfl
                have HRS : Hid (RrAt w3 R v tl (nx1 : Int) n 0 s1 0 0 ∧ Only (fun b => b = R) W0 w3) := ⟨hx.out.2.2.2.2.2.2.2.1, HK.out.2.2.1.trans oR (fun _ _ g => g)⟩
                have HCB : Hid (B ≤ w2a.heap.size ∧ ∀ k, (Value.slice ao La cap).ownBlock = some k → k < w2a.heap.size) := ⟨HK.out.2.2.2, fun k hk => by
                  obtain ⟨us, S', hr, _⟩ := HK.out.1
                  exact (hr.lt k hk).2⟩
                have HSZ : Hid (B ≤ w3.heap.size) := Nat.le_trans HK.out.2.2.2 oR.size
                clear hx oR HK hp hf1 hf2 hf3 HFE HFO
                obtain ⟨v', w6, hr, hf, oo6⟩ := app_rf (fm := fm) (bl := .slice al Ll cl) (il := .slice none 0 0) HV3.out HNV.out HNI.out HCB.out.1 HCB.out.2 HSZ.out HLB.out
                obtain ⟨ao2, cap2, hv2⟩ := hf.form
                have hlen : (acc ++ [fm]).length = La + 1 := by have : La = acc.length := HLa.out; simp; omega
                subst hv2
                have HK5 : Hid (Z = preD (acc ++ [fm]) (alD true n 12400 g0 (tl.drop nx1)) ∧ tl.length - nx1 < g0 ∧ nx1 ≤ tl.length ∧ (0 ≤ s1 ∧ s1 ≤ 1024) ∧ (acc ++ [fm]).length + (tl.length - nx1) ≤ 4096 ∧ VfAt w6 B 12401 (.slice ao2 (acc ++ [fm]).length cap2) (acc ++ [fm]) ∧ RrAt w6 R v tl (nx1 : Int) n 0 s1 0 0 ∧ Only (fun b => b = R) W0 w6 ∧ B ≤ w6.heap.size) := by
                  have b1 := HN1.out
                  have b2 := HG.out
                  have b3 : La = acc.length := HLa.out
                  have hRB : R < B ∧ W0.heap.size ≤ B := HRB.out
                  have hB6 : B ≤ w6.heap.size := Nat.le_trans HSZ.out oo6.size
                  exact ⟨HE2.out, by omega, by omega, by omega, by rw [hlen]; omega, hf, HRS.out.1.keep (fun b hb e => by omega) oo6, HRS.out.2.trans oo6 (fun k hk e => by omega), hB6⟩
                rw [hlen] at hr
                have hr2 : ∀ ty, (Builtin.append_ #[96, 96] ty #[.slice ao La cap, .slice (some ⟨w3.heap.size, 0, none⟩) 1 1]).run Tryz.prog (w3.alloc (.cells #[.bool true, .string f1, .int .i64 f2, .int .i64 f3, .slice al Ll cl, .int .i64 0, .int .i64 0, .string ⟨#[]⟩, .slice none 0 0] 102)) = .ok (.slice ao2 (La + 1) cap2) w6 := fun ty => by
                  have := hr ty
                  obtain ⟨⟨y0, y1, y2⟩, y3, y4⟩ := HXX.out
                  rw [y3, y4, ← y0, ← y1, ← y2, show vn noT = 0 from rfl, show vs noT = ⟨#[]⟩ from rfl, show (noT.k : Int) = 0 from rfl] at this
                  simpa using this
                have HLN : Hid ((acc ++ [fm]).length = La + 1) := hlen
                clear oo6 HRS HV3 hr hf hlen
                go_wp2_with (at_builtin; refine wpList_append_run (by rfl) _ _ 96 (by rfl) _ _ (.slice ao2 (La + 1) cap2) (by rfl) (by rfl) hr2 ?_)
                clear hr2
                go_wp2
                go_roundw
                case rel => exact .inl ⟨g0, nx1, s1, acc ++ [fm], ao2, cap2, by rw [HLN.out], by rw [← show v = _ from HVV.out]; exact HK5⟩
                case measure =>
                  rw [rrM_ok HK5.out.2.2.2.2.2.2.1, show rrM _ _ _ = _ from KM.out]
                  have := HN1.out
                  omega
              | error p =>
                obtain ⟨a, er⟩ := p
                rw [hp] at hx
                dsimp only at hx
                obtain ⟨f1, f2, f3, al, Ll, cl, rfl, hx⟩ := hx
                obtain ⟨hne, nf, of, sf, hf1, oR⟩ := hx.out
                have HV3 : Hid (VfAt w3 B 12401 (.slice ao La cap) acc) := HK.out.1.only oR (fun b hb e => by have := HRB.out.1; omega)
                have HRF : Hid (∃ a e, Z = .error (a, e) ∧ e ≠ 0 ∧ RrF R v tl n a e W0 w3) := ⟨a, er, HFE.out _ hp, hne, nf, of, sf, hf1, HK.out.2.2.1.trans oR (fun _ _ g => g)⟩
                have HSZ : Hid (B ≤ w3.heap.size) := Nat.le_trans HK.out.2.2.2 oR.size
                clear hx oR HK hp hf1 HFE HFO hne
                obtain ⟨v', w6, hr, ⟨ao2, cap2, hv2⟩, oo6⟩ := app_raw HV3.out true f1 f2 f3 al Ll cl 0 0 ⟨#[]⟩ none 0 0 HSZ.out HLB.out
                rw [← show La = _ from HLa.out] at hv2
                subst hv2
                have HF6 : Hid (∃ a e, Z = .error (a, e) ∧ e ≠ 0 ∧ RrF R v tl n a e W0 w6) := by
                  obtain ⟨a, e, h1, h2, nf, of, sf, h3, h4⟩ := HRF.out
                  have hRB : R < B ∧ W0.heap.size ≤ B := HRB.out
                  exact ⟨a, e, h1, h2, nf, of, sf, h3.keep (fun b hb e => by omega) oo6, h4.trans oo6 (fun k hk e => by omega)⟩
                have hr2 : ∀ ty, (Builtin.append_ #[96, 96] ty #[.slice ao La cap, .slice (some ⟨w3.heap.size, 0, none⟩) 1 1]).run Tryz.prog (w3.alloc (.cells #[.bool true, .string f1, .int .i64 f2, .int .i64 f3, .slice al Ll cl, .int .i64 0, .int .i64 0, .string ⟨#[]⟩, .slice none 0 0] 102)) = .ok (.slice ao2 (La + 1) cap2) w6 := fun ty => by
                  have := hr ty
                  simpa using this
                clear oo6 HRF HV3 hr
                go_wp2_with (at_builtin; refine wpList_append_run (by rfl) _ _ 96 (by rfl) _ _ (.slice ao2 (La + 1) cap2) (by rfl) (by rfl) hr2 ?_)
                clear hr2
                go_wp2
                go_roundw
                case rel => exact .inr ⟨ao2, La + 1, cap2, rfl, by rw [← show v = _ from HVV.out]; exact HF6⟩
                case measure =>
                  obtain ⟨a, e, h1, h2, nf, of, sf, h3, h4⟩ := HF6.out
                  rw [rrM_bad h2 h3, show rrM _ _ _ = _ from KM.out]
                  omega
        · have i1 : ¬ (nx : Int) < (L : Int) := by omega
          have i3 : ¬ nx < L := by omega
          have HE : Hid (Z = .ok acc) := by
            show Z = _
            rw [HI.out.1, alD_nil hx]
            simp [preD]
          have HK : Hid (VfAt w2 B 12401 (.slice ao La cap) acc ∧ Only (fun b => b = R) W0 w2) := ⟨HI.out.2.2.2.2.2.1, HI.out.2.2.2.2.2.2.2.1⟩
          clear hLt hx HI
          go_wp2
          go_ret3
          have hpd : PD = (acc, 0, 0) := HPD.out.trans (by rw [show Z = _ from HE.out]; rfl)
          have e1 : La = acc.length := HLa.out
          refine ⟨ao, cap, ?_, ?_, ?_⟩
          · rw [hpd]
            dsimp only
            rw [← e1]
            rfl
          · rw [hpd]
            dsimp only
            rw [← e1]
            obtain ⟨us, S, ho, ht, hS⟩ := HK.out.1
            have hle : w.heap.size ≤ B := by have h1 := H0.out.2.1.size; have : B = W0.heap.size := HBE.out; omega
            have := HK.out.1
            exact vf_lower this hle
          · exact H0.out.2.1.trans HK.out.2 (fun k hk e => by have := H0.out.2.2; omega)
      · obtain ⟨w2, rfl⟩ : ∃ w2, w2 = wr := ⟨_, rfl⟩
        obtain ⟨a, e, hz, he, nf, of, sf, hr, oR⟩ := HF.out
        obtain ⟨_, k1, _, _, _, k5, k6⟩ := hr.blk.cells
        have he2 : (e == 0) = false := by simp [he]
        have HK : Hid (Z = .error (a, e) ∧ Only (fun b => b = R) W0 w2) := ⟨hz, oR⟩
        clear hz hr oR HF
        go_wp2
        go_quiet (fail)
        go_wp2
        go_ret3
        have hpd : PD = ([], a, e) := HPD.out.trans (by rw [HK.out.1]; rfl)
        refine ⟨none, 0, ?_, ?_, ?_⟩
        · rw [hpd]
          rfl
        · rw [hpd]
          exact vf_nil _ _ _
        · exact (H0.out.2.1.trans HK.out.2 (fun k hk e => by have := H0.out.2.2; omega)).trans ((Only.refl (fun _ => False) w2).drewN _) (fun _ _ g => g)
  · have HPD : Hid (parD dfs s = ([], ((tokR s).2.1 : Int), (tokR s).2.2)) := by
      show parD dfs s = _
      unfold parD
      rw [if_neg h0]
    obtain ⟨e0, he0⟩ : ∃ e, e = (tokR s).2.2 := ⟨_, rfl⟩
    obtain ⟨pl, hpl⟩ : ∃ p : Int, p = ((tokR s).2.1 : Nat) := ⟨_, rfl⟩
    rw [← he0] at HT HPD h0
    rw [← hpl] at HT HPD
    obtain ⟨PD, hPD⟩ : ∃ P, P = parD dfs s := ⟨_, rfl⟩
    rw [← hPD] at HPD ⊢
    have he2 : (e0 == 0) = false := by simp [h0]
    clear he0 hpl hPD
    go_enter Tryz.func34, Tryz.ntmps34
    go_wp2_with fail
    refine (show Calls Tryz.prog 48 _ _ _ from HT.out).mono ?_
    rintro x w1 ⟨v, rfl, g1⟩
    have O1 : Hid (Only (fun _ => False) w w1) := below_only g1.out.2
    clear HT g1
    go_wp2
    go_ret3
    rw [show PD = _ from HPD.out]
    exact ⟨none, 0, rfl, vf_nil _ _ _, O1.out⟩
end Go.Proofs.YtfecmpebnianpaaGreatDoor
