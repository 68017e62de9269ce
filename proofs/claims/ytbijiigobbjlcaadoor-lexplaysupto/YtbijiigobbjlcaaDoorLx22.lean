/- Tokens: the walk. -/
import Derived.Test.YtbijiigobbjlcaaDoorLx21
namespace Go.Proofs.YtbijiigobbjlcaaDoor
open Go.RowKit Go.Lib
set_option linter.unusedSimpArgs false
set_option linter.unusedVariables false
/-- The cells of tokens. -/
def tkCs (l : List Tok) : List Value := l.flatMap fun t => [.int .i64 t.k, .string t.t, .int .i64 t.n, .int .i64 t.a]
theorem tkCs_snoc (l : List Tok) (t : Tok) : tkCs (l ++ [t]) = tkCs l ++ [.int .i64 t.k, .string t.t, .int .i64 t.n, .int .i64 t.a] := by simp [tkCs]
theorem tok_info : ∃ i z, Tryd.prog.info? 36 = some i ∧ i.zero = some z ∧ i.size = 4 ∧ i.bytes = 40 ∧ z.cells.size = 4 := ⟨_, _, rfl, rfl, rfl, rfl, rfl⟩
/-- A row of tokens that was made since block B. -/
def ToksAt (w : World) (B : Nat) (v : Value) (l : List Tok) : Prop := (∃ ao cap, v = .slice ao l.length cap) ∧ w.ownsRowF B 36 4 v l.length (tkCs l)
theorem toks_nil (w : World) (B : Nat) : ToksAt w B (.slice Option.none 0 0) [] := ⟨⟨_, _, rfl⟩, rfl, .inl ⟨rfl, rfl⟩⟩
theorem owns_only {w w' : World} {B : Nat} {e : TypeId} {sz : Nat} {v : Value} {n : Nat} {xs : List Value} (h : w.ownsRowF B e sz v n xs) (o : Only (fun _ => False) w w') : w'.ownsRowF B e sz v n xs := by
  refine ⟨h.1, ?_⟩
  rcases h.2 with g | ⟨g, cap, cur, fz, h1, h2, h3, h4⟩
  · exact .inl g
  · exact .inr ⟨g, cap, cur, fz, h1, h2, (o.block g (Array.getElem?_eq_some_iff.1 h3).1 (fun x => x)).trans h3, h4⟩
set_option maxRecDepth 100000 in
set_option maxHeartbeats 8000000 in
theorem tokens_any (s : ByteArray) (w : World) (h : Nog w) :
    Calls Tryd.prog 10 #[.string s] w fun e w' => ∃ v, e = .returned (.tuple #[v, .int .i64 ((tokR s).2.1 : Nat), .int .i64 (tokR s).2.2]) ∧ Hid (ToksAt w' w.heap.size v (tokR s).1 ∧ Below w.heap.size w w') := by
  unfold tokR
  by_cases hs : 65536 < s.size
  · rw [if_pos hs]
    have i1 : (65536 : Int) < (s.size : Int) := by omega
    go_enter Tryd.func10, Tryd.ntmps10
    go_wp2
    go_ret3
    exact ⟨_, rfl, toks_nil _ _, Below.refl _ _⟩
  · rw [if_neg hs]
    have i1 : ¬ (65536 : Int) < (s.size : Int) := by omega
    have HS : Hid (Calls Tryd.prog 22 #[.string s] w fun e w' => e = .returned (.int .i64 (stR s : Nat)) ∧ Only (fun _ => False) w w') := stray_any s (by omega) w
    obtain ⟨z, hz⟩ : ∃ z, z = stR s := ⟨_, rfl⟩
    rw [← hz] at HS ⊢
    clear hz
    by_cases hb : z < s.size
    · rw [if_pos hb]
      have i2 : (z : Int) < (s.size : Int) := by omega
      go_enter Tryd.func10, Tryd.ntmps10
      go_wp2_with fail
      refine (show Calls Tryd.prog 22 _ _ _ from HS.out).mono ?_
      rintro e w1 ⟨rfl, o1⟩
      have O1 : Hid (Below w.heap.size w w1) := only_below o1
      clear HS o1
      go_wp2
      go_ret3
      exact ⟨_, rfl, toks_nil _ _, O1.out⟩
    · rw [if_neg hb]
      have i2 : ¬ (z : Int) < (s.size : Int) := by omega
      have HG0 : Hid (∀ (a : Nat) w1, a ≤ s.size → Calls Tryd.prog 23 #[.string s, .int .i64 (a : Int)] w1 fun e w' => e = .returned (.int .i64 (bg s a : Nat)) ∧ Only (fun _ => False) w1 w') := fun a w1 ha => begin_any s (by omega) a (s.size + 1) ha (by omega) w1
      have HRd : Hid (∀ (a : Nat) w1, a < s.size → Below w.heap.size w w1 → Calls Tryd.prog 24 #[.string s, .int .i64 (a : Int)] w1 fun e w' => e = .returned (rdV (redR s a)) ∧ Only (fun _ => False) w1 w') := fun a w1 ha b => read_any s a ha (by omega) w1 (h.frame (below_only b))
      have hbd := bgn_bd s (s.size + 1) 0 (Nat.zero_le _)
      obtain ⟨Z, hZ⟩ : ∃ Z, Z = tokG s (s.size + 1) (bg s 0) [] := ⟨_, rfl⟩
      rw [← hZ]
      have HZ : Hid (Z = tokG s (s.size + 1) (bg s 0) []) := hZ
      have HG1 : Hid (∀ w1, Calls Tryd.prog 23 #[.string s, .int .i64 0] w1 fun e w' => e = .returned (.int .i64 (bg s 0 : Nat)) ∧ Only (fun _ => False) w1 w') := fun w1 => HG0.out 0 w1 (Nat.zero_le _)
      obtain ⟨a0, ha0⟩ : ∃ a0, a0 = bg s 0 := ⟨_, rfl⟩
      have HA0 : Hid (a0 ≤ s.size) := by show a0 ≤ s.size; rw [ha0]; exact hbd.2
      rw [← ha0] at HZ HG1
      clear hZ ha0 hbd h
      go_enter Tryd.func10, Tryd.ntmps10
      go_wp2_with fail
      refine (show Calls Tryd.prog 22 _ _ _ from HS.out).mono ?_
      rintro e w1 ⟨rfl, o1⟩
      have O1 : Hid (Below w.heap.size w w1) := only_below o1
      clear HS o1
      go_wp2_with fail
      refine (show Calls Tryd.prog 23 _ _ _ from HG1.out _).mono ?_
      rintro e w2 ⟨rfl, o2⟩
      have O2 : Hid (Below w.heap.size w w2) := O1.out.trans ((only_below o2).mono O1.out.size)
      clear HG1 O1 o2
      go_wp2
      go_loopw [6, 7] (fun r6 r7 wr => ∃ (a f : Nat) (acc : List Tok) (ao : Option Addr) (cap : Nat), r6 = .slice ao acc.length cap ∧ r7 = .int .i64 (a : Int) ∧ Hid (Z = tokG s f a acc ∧ s.size - a < f ∧ a ≤ s.size ∧ wr.ownsRowF w.heap.size 36 4 (.slice ao acc.length cap) acc.length (tkCs acc) ∧ Below w.heap.size w wr ∧ acc.length ≤ 4096)) (fun _ r7 _ => s.size - uOf r7)
      case atStart => exact ⟨a0, s.size + 1, [], none, 0, rfl, rfl, HZ.out, by omega, HA0.out, ⟨rfl, .inl ⟨rfl, rfl⟩⟩, O2.out, by simp⟩
      case round =>
        obtain ⟨a, f, acc, ao, cap, rfl, rfl, HI⟩ := hrel
        clear HZ O2 HA0
        have hf0 := HI.out.2.1
        obtain ⟨g, rfl⟩ : ∃ g, f = g + 1 := ⟨f - 1, by omega⟩
        obtain ⟨L, hL⟩ : ∃ L, L = acc.length := ⟨_, rfl⟩
        rw [← hL] at HI ⊢
        have HL : Hid (L = acc.length) := hL
        clear hL hf0
        by_cases ha : a < s.size
        · have C1 := HRd.out a
          have HR : Hid ((redR s a).2.2 = 0 → a < (redR s a).2.1 ∧ (redR s a).2.1 ≤ s.size) := red_go ha
          have HE : Hid (Z = if (redR s a).2.2 = 0 then (if acc.length = 4096 then ([], a, 11) else tokG s g (bg s (redR s a).2.1) (acc ++ [(redR s a).1])) else ([], (redR s a).2.1, (redR s a).2.2)) := by
            show Z = _
            rw [HI.out.1, tokG, if_pos ha]
          obtain ⟨⟨⟨k, t, n, q⟩, p, e⟩, hr⟩ : ∃ r, r = redR s a := ⟨_, rfl⟩
          rw [← hr] at HR HE C1
          dsimp only at HR HE
          clear hr
          have HC1 : Hid (∀ w1, Below w.heap.size w w1 → Calls Tryd.prog 24 _ _ _) := fun w1 b => C1 w1 ha b
          clear C1
          have i3 : (a : Int) < (s.size : Int) := by omega
          go_wp2_with fail
          refine (show Calls Tryd.prog 24 _ _ _ from HC1.out _ HI.out.2.2.2.2.1).mono ?_
          rintro e1 w3 ⟨rfl, o3⟩
          clear HC1
          have O3 : Hid (Below w.heap.size w w3) := HI.out.2.2.2.2.1.trans ((only_below o3).mono HI.out.2.2.2.2.1.size)
          have N3 : Hid (w3.ownsRowF w.heap.size 36 4 (.slice ao L cap) L (tkCs acc)) := owns_only HI.out.2.2.2.1 o3
          clear o3
          simp only [rdV, Tok.v]
          by_cases he : e = 0
          · subst he
            have hp := HR.out rfl
            by_cases h4 : L = 4096
            · have HE2 : Hid (Z = ([], a, 11)) := by
                show Z = _
                rw [HE.out, if_pos rfl, if_pos (by have : L = acc.length := HL.out; omega)]
              subst h4
              go_wp2
              go_ret3
              exact ⟨_, by rw [show Z = _ from HE2.out]; rfl, by rw [show Z = _ from HE2.out]; exact toks_nil _ _, O3.out.alloc O3.out.size _⟩
            · have HE2 : Hid (Z = tokG s g (bg s p) (acc ++ [⟨k, t, n, q⟩])) := by
                show Z = _
                rw [HE.out, if_pos rfl, if_neg (by have : L = acc.length := HL.out; omega)]
              have i4 : ¬ (L : Int) = 4096 := by omega
              obtain ⟨i0, z0, hi, hz0, hz1, hz2, hz3⟩ := tok_info
              have HL4 : Hid (L ≤ 4096) := HI.out.2.2.2.2.2
              have HQ : Hid (s.size - a < g + 1) := HI.out.2.1
              have hs3 := O3.out.size
              have HG2 : Hid (∀ w1, Calls Tryd.prog 23 #[.string s, .int .i64 (p : Int)] w1 fun e w' => e = .returned (.int .i64 (bg s p : Nat)) ∧ Only (fun _ => False) w1 w') := fun w1 => HG0.out p w1 hp.2
              have hbp := bgn_bd s (s.size + 1) p hp.2
              obtain ⟨p2, hp2⟩ : ∃ p2, p2 = bg s p := ⟨_, rfl⟩
              have HP2 : Hid (p ≤ p2 ∧ p2 ≤ s.size) := by rw [hp2]; exact hbp
              rw [← hp2] at HG2 HE2
              clear HE HI HR hbp hp2
              have HP : Hid (a < p) := hp.1
              clear hp
              go_wp2_with (at_builtin; refine wpList_append_ownF _ rfl _ _ 23 rfl w.heap.size 36 i0 z0 4 40 Tryd.underlying23 hi hz0 hz1 hz2 hz3 (by decide) _ L (tkCs acc) rfl ((N3.out.alloc _).alloc _) ⟨w3.heap.size + 1, 0, none⟩ 1 1 [.int .i64 k, .string t, .int .i64 n, .int .i64 q] rfl rfl ?c1 ?c2 ?c3 ?c4 ?c5 ?_)
              case c1 =>
                intro j u hj
                rcases j with _ | _ | _ | _ | j <;> simp at hj <;> subst hj <;> simp [Addr.add]
              case c2 =>
                intro u hu
                simp only [List.mem_cons, List.not_mem_nil, or_false] at hu
                rcases hu with rfl | rfl | rfl | rfl <;> rfl
              case c3 => have : L ≤ 4096 := HL4.out; unfold maxLen; omega
              case c4 => have : L ≤ 4096 := HL4.out; omega
              case c5 => simp; omega
              intro v' w4 hown' hgrow _
              obtain ⟨ao', cap', rfl⟩ : ∃ ao' cap', v' = .slice ao' (L + 1) cap' := by
                rcases hown'.2 with ⟨_, h0⟩ | ⟨g, cap', cur, fz, hv, _⟩
                · omega
                · exact ⟨_, cap', hv⟩
              have O4 : Hid (Below w.heap.size w w4) := ((O3.out.alloc hs3 _).alloc (by simp; omega) _).grown hgrow (by simp; omega) (fun k hk => (N3.out.lt k hk).1)
              have N4 : Hid (w4.ownsRowF w.heap.size 36 4 (.slice ao' (L + 1) cap') (L + 1) (tkCs (acc ++ [⟨k, t, n, q⟩]))) := by rw [tkCs_snoc]; exact hown'
              clear hown' hgrow N3 O3 hi hz0 hz1 hz2 hz3
              go_wp2_with fail
              refine (show Calls Tryd.prog 23 _ _ _ from HG2.out _).mono ?_
              rintro e5 w5 ⟨rfl, o5⟩
              have O5 : Hid (Below w.heap.size w w5) := O4.out.trans ((only_below o5).mono O4.out.size)
              have N5 := owns_only N4.out o5
              clear O4 N4 o5 HG2
              have e1 : L = acc.length := HL.out
              have e2 : (acc ++ [(⟨k, t, n, q⟩ : Tok)]).length = L + 1 := by simp [e1]
              have HF : Hid (L + 1 ≤ 4096) := by have : L ≤ 4096 := HL4.out; show L + 1 ≤ 4096; omega
              have HM : Hid (s.size - p2 < g ∧ s.size - p2 < s.size - a) := by
                have h1 : s.size - a < g + 1 := HQ.out
                have h2 : p ≤ p2 ∧ p2 ≤ s.size := HP2.out
                have h3 : a < p := HP.out
                exact ⟨by omega, by omega⟩
              clear HQ HP HL4 e1
              have HK : Hid (Z = tokG s g p2 (acc ++ [⟨k, t, n, q⟩]) ∧ s.size - p2 < g ∧ p2 ≤ s.size ∧ w5.ownsRowF w.heap.size 36 4 (.slice ao' (acc ++ [(⟨k, t, n, q⟩ : Tok)]).length cap') (acc ++ [(⟨k, t, n, q⟩ : Tok)]).length (tkCs (acc ++ [⟨k, t, n, q⟩])) ∧ Below w.heap.size w w5 ∧ (acc ++ [(⟨k, t, n, q⟩ : Tok)]).length ≤ 4096) := ⟨HE2.out, HM.out.1, HP2.out.2, by rw [e2]; exact N5, O5.out, by rw [e2]; exact HF.out⟩
              have HV : Hid ((Value.slice ao' (L + 1) cap') = .slice ao' (acc ++ [(⟨k, t, n, q⟩ : Tok)]).length cap') := by rw [e2]; exact rfl
              clear N5 e2 O5 HF HE2
              go_wp2
              go_roundw
              case rel => exact ⟨p2, g, acc ++ [(⟨k, t, n, q⟩ : Tok)], ao', cap', HV.out, rfl, HK⟩
              case measure => simp only [uOf]; exact HM.out.2
          · have HE2 : Hid (Z = ([], p, e)) := by
              show Z = _
              rw [HE.out, if_neg he]
            go_wp2
            go_ret3
            exact ⟨_, by rw [show Z = _ from HE2.out]; rfl, by rw [show Z = _ from HE2.out]; exact toks_nil _ _, O3.out.alloc O3.out.size _⟩
        · have HE : Hid (Z = (acc, 0, 0)) := by
            show Z = _
            rw [HI.out.1, tokG, if_neg ha]
          have i3 : ¬ (a : Int) < (s.size : Int) := by omega
          go_wp2
          go_ret3
          have e1 : L = acc.length := HL.out
          exact ⟨_, by rw [show Z = _ from HE.out]; rfl, by rw [show Z = _ from HE.out]; exact ⟨⟨ao, cap, by rw [e1]; rfl⟩, by have := HI.out.2.2.2.1; rw [e1] at this ⊢; exact this⟩, HI.out.2.2.2.2.1⟩
end Go.Proofs.YtbijiigobbjlcaaDoor
