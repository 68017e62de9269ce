/- Tokens: the walk. The reader of a source in memory, and where it gives up: fault, must. The next token: next. What the next token is: is, reserved, named. Going on: take. Going on with what counts: count, enter. A bracket is opened: enter. What a source's tokens are read as: trees. -/
import Derived.Test.YtfecmpebnianpaaGreatDoorGad
namespace Go.Proofs.YtfecmpebnianpaaGreatDoor
open Go.RowKit Go.Lib
set_option linter.unusedSimpArgs false
set_option linter.unusedVariables false
/-- The cells of tokens. -/
def tkCs (l : List Tok) : List Value := l.flatMap fun t => [.int .i64 t.k, .string t.t, .int .i64 t.n, .int .i64 t.a]
theorem tkCs_snoc (l : List Tok) (t : Tok) : tkCs (l ++ [t]) = tkCs l ++ [.int .i64 t.k, .string t.t, .int .i64 t.n, .int .i64 t.a] := by simp [tkCs]
set_option maxRecDepth 100000 in
theorem tok_info : ∃ i z, Tryz.prog.info? 152 = some i ∧ i.zero = some z ∧ i.size = 4 ∧ i.bytes = 40 ∧ z.cells.size = 4 := ⟨_, _, rfl, rfl, rfl, rfl, rfl⟩
/-- A row of tokens that was made since block B. -/
def ToksAt (w : World) (B : Nat) (v : Value) (l : List Tok) : Prop := (∃ ao cap, v = .slice ao l.length cap) ∧ w.ownsRowF B 152 4 v l.length (tkCs l)
theorem toks_nil (w : World) (B : Nat) : ToksAt w B (.slice Option.none 0 0) [] := ⟨⟨_, _, rfl⟩, rfl, .inl ⟨rfl, rfl⟩⟩
theorem owns_only {w w' : World} {B : Nat} {e : TypeId} {sz : Nat} {v : Value} {n : Nat} {xs : List Value} (h : w.ownsRowF B e sz v n xs) (o : Only (fun _ => False) w w') : w'.ownsRowF B e sz v n xs := by
  refine ⟨h.1, ?_⟩
  rcases h.2 with g | ⟨g, cap, cur, fz, h1, h2, h3, h4⟩
  · exact .inl g
  · exact .inr ⟨g, cap, cur, fz, h1, h2, (o.block g (Array.getElem?_eq_some_iff.1 h3).1 (fun x => x)).trans h3, h4⟩
set_option maxRecDepth 100000 in
set_option maxHeartbeats 8000000 in
theorem tokens_any (s : ByteArray) (w : World) (h : Nog w) :
    Calls Tryz.prog 98 #[.string s] w fun e w' => ∃ v, e = .returned (.tuple #[v, .int .i64 ((tokR s).2.1 : Nat), .int .i64 (tokR s).2.2]) ∧ Hid (ToksAt w' w.heap.size v (tokR s).1 ∧ Below w.heap.size w w') := by
  unfold tokR
  by_cases hs : 65536 < s.size
  · rw [if_pos hs]
    have i1 : (65536 : Int) < (s.size : Int) := by omega
    go_enter Tryz.func98, Tryz.ntmps98
    go_wp2
    go_ret3
    exact ⟨_, rfl, toks_nil _ _, Below.refl _ _⟩
  · rw [if_neg hs]
    have i1 : ¬ (65536 : Int) < (s.size : Int) := by omega
    have HS : Hid (Calls Tryz.prog 122 #[.string s] w fun e w' => e = .returned (.int .i64 (stR s : Nat)) ∧ Only (fun _ => False) w w') := stray_any s (by omega) w
    obtain ⟨z, hz⟩ : ∃ z, z = stR s := ⟨_, rfl⟩
    rw [← hz] at HS ⊢
    clear hz
    by_cases hb : z < s.size
    · rw [if_pos hb]
      have i2 : (z : Int) < (s.size : Int) := by omega
      go_enter Tryz.func98, Tryz.ntmps98
      go_wp2_with fail
      refine (show Calls Tryz.prog 122 _ _ _ from HS.out).mono ?_
      rintro e w1 ⟨rfl, o1⟩
      have O1 : Hid (Below w.heap.size w w1) := only_below o1
      clear HS o1
      go_wp2
      go_ret3
      exact ⟨_, rfl, toks_nil _ _, O1.out⟩
    · rw [if_neg hb]
      have i2 : ¬ (z : Int) < (s.size : Int) := by omega
      have HG0 : Hid (∀ (a : Nat) w1, a ≤ s.size → Calls Tryz.prog 123 #[.string s, .int .i64 (a : Int)] w1 fun e w' => e = .returned (.int .i64 (bg s a : Nat)) ∧ Only (fun _ => False) w1 w') := fun a w1 ha => begin_any s (by omega) a (s.size + 1) ha (by omega) w1
      have HRd : Hid (∀ (a : Nat) w1, a < s.size → Below w.heap.size w w1 → Calls Tryz.prog 124 #[.string s, .int .i64 (a : Int)] w1 fun e w' => e = .returned (rdV (redR s a)) ∧ Only (fun _ => False) w1 w') := fun a w1 ha b => read_any s a ha (by omega) w1 (h.frame (below_only b))
      have hbd := bgn_bd s (s.size + 1) 0 (Nat.zero_le _)
      obtain ⟨Z, hZ⟩ : ∃ Z, Z = tokG s (s.size + 1) (bg s 0) [] := ⟨_, rfl⟩
      rw [← hZ]
      have HZ : Hid (Z = tokG s (s.size + 1) (bg s 0) []) := hZ
      have HG1 : Hid (∀ w1, Calls Tryz.prog 123 #[.string s, .int .i64 0] w1 fun e w' => e = .returned (.int .i64 (bg s 0 : Nat)) ∧ Only (fun _ => False) w1 w') := fun w1 => HG0.out 0 w1 (Nat.zero_le _)
      obtain ⟨a0, ha0⟩ : ∃ a0, a0 = bg s 0 := ⟨_, rfl⟩
      have HA0 : Hid (a0 ≤ s.size) := by show a0 ≤ s.size; rw [ha0]; exact hbd.2
      rw [← ha0] at HZ HG1
      clear hZ ha0 hbd h
      go_enter Tryz.func98, Tryz.ntmps98
      go_wp2_with fail
      refine (show Calls Tryz.prog 122 _ _ _ from HS.out).mono ?_
      rintro e w1 ⟨rfl, o1⟩
      have O1 : Hid (Below w.heap.size w w1) := only_below o1
      clear HS o1
      go_wp2_with fail
      refine (show Calls Tryz.prog 123 _ _ _ from HG1.out _).mono ?_
      rintro e w2 ⟨rfl, o2⟩
      have O2 : Hid (Below w.heap.size w w2) := O1.out.trans ((only_below o2).mono O1.out.size)
      clear HG1 O1 o2
      go_wp2
      go_loopw [6, 7] (fun r6 r7 wr => ∃ (a f : Nat) (acc : List Tok) (ao : Option Addr) (cap : Nat), r6 = .slice ao acc.length cap ∧ r7 = .int .i64 (a : Int) ∧ Hid (Z = tokG s f a acc ∧ s.size - a < f ∧ a ≤ s.size ∧ wr.ownsRowF w.heap.size 152 4 (.slice ao acc.length cap) acc.length (tkCs acc) ∧ Below w.heap.size w wr ∧ acc.length ≤ 4096)) (fun _ r7 _ => s.size - uOf r7)
      case atStart => exact ⟨a0, s.size + 1, [], none, 0, rfl, rfl, HZ.out, by omega, HA0.out, ⟨rfl, .inl ⟨rfl, rfl⟩⟩, O2.out, by simp⟩
      case round =>
        obtain ⟨a, f, acc, ao, cap, rfl, rfl, HI⟩ := hrel
        clear HZ O2 HA0
        have hf0 := HI.out.2.1
        obtain ⟨g, rfl⟩ : ∃ g, f = g + 1 := ⟨f - 1, by omega⟩
        obtain ⟨L, hL⟩ : ∃ L, L = acc.length := ⟨_, rfl⟩
        rw [← hL] at HI ⊢
        have HL : Hid (L = acc.length) := hL
        clear hL hf0
        by_cases ha : a < s.size
        · have C1 := HRd.out a
          have HR : Hid ((redR s a).2.2 = 0 → a < (redR s a).2.1 ∧ (redR s a).2.1 ≤ s.size) := red_go ha
          have HE : Hid (Z = if (redR s a).2.2 = 0 then (if acc.length = 4096 then ([], a, 11) else tokG s g (bg s (redR s a).2.1) (acc ++ [(redR s a).1])) else ([], (redR s a).2.1, (redR s a).2.2)) := by
            show Z = _
            rw [HI.out.1, tokG, if_pos ha]
          obtain ⟨⟨⟨k, t, n, q⟩, p, e⟩, hr⟩ : ∃ r, r = redR s a := ⟨_, rfl⟩
          rw [← hr] at HR HE C1
          dsimp only at HR HE
          clear hr
          have HC1 : Hid (∀ w1, Below w.heap.size w w1 → Calls Tryz.prog 124 _ _ _) := fun w1 b => C1 w1 ha b
          clear C1
          have i3 : (a : Int) < (s.size : Int) := by omega
          go_wp2_with fail
          refine (show Calls Tryz.prog 124 _ _ _ from HC1.out _ HI.out.2.2.2.2.1).mono ?_
          rintro e1 w3 ⟨rfl, o3⟩
          clear HC1
          have O3 : Hid (Below w.heap.size w w3) := HI.out.2.2.2.2.1.trans ((only_below o3).mono HI.out.2.2.2.2.1.size)
          have N3 : Hid (w3.ownsRowF w.heap.size 152 4 (.slice ao L cap) L (tkCs acc)) := owns_only HI.out.2.2.2.1 o3
          clear o3
          simp only [rdV, Tok.v]
          by_cases he : e = 0
          · subst he
            have hp := HR.out rfl
            by_cases h4 : L = 4096
            · have HE2 : Hid (Z = ([], a, 11)) := by
                show Z = _
                rw [HE.out, if_pos rfl, if_pos (by have : L = acc.length := HL.out; omega)]
              subst h4
              go_wp2
              go_ret3
              exact ⟨_, by rw [show Z = _ from HE2.out]; rfl, by rw [show Z = _ from HE2.out]; exact toks_nil _ _, O3.out.alloc O3.out.size _⟩
            · have HE2 : Hid (Z = tokG s g (bg s p) (acc ++ [⟨k, t, n, q⟩])) := by
                show Z = _
                rw [HE.out, if_pos rfl, if_neg (by have : L = acc.length := HL.out; omega)]
              have i4 : ¬ (L : Int) = 4096 := by omega
              obtain ⟨i0, z0, hi, hz0, hz1, hz2, hz3⟩ := tok_info
              have HL4 : Hid (L ≤ 4096) := HI.out.2.2.2.2.2
              have HQ : Hid (s.size - a < g + 1) := HI.out.2.1
              have hs3 := O3.out.size
              have HG2 : Hid (∀ w1, Calls Tryz.prog 123 #[.string s, .int .i64 (p : Int)] w1 fun e w' => e = .returned (.int .i64 (bg s p : Nat)) ∧ Only (fun _ => False) w1 w') := fun w1 => HG0.out p w1 hp.2
              have hbp := bgn_bd s (s.size + 1) p hp.2
              obtain ⟨p2, hp2⟩ : ∃ p2, p2 = bg s p := ⟨_, rfl⟩
              have HP2 : Hid (p ≤ p2 ∧ p2 ≤ s.size) := by rw [hp2]; exact hbp
              rw [← hp2] at HG2 HE2
              clear HE HI HR hbp hp2
              have HP : Hid (a < p) := hp.1
              clear hp
              go_wp2_with (at_builtin; refine wpList_append_ownF _ rfl _ _ 118 rfl w.heap.size 152 i0 z0 4 40 Tryz.underlying118 hi hz0 hz1 hz2 hz3 (by decide) _ L (tkCs acc) rfl ((N3.out.alloc _).alloc _) ⟨w3.heap.size + 1, 0, none⟩ 1 1 [.int .i64 k, .string t, .int .i64 n, .int .i64 q] rfl rfl ?c1 ?c2 ?c3 ?c4 ?c5 ?_)
              case c1 =>
                intro j u hj
                rcases j with _ | _ | _ | _ | j <;> simp at hj <;> subst hj <;> simp [Addr.add]
              case c2 =>
                intro u hu
                simp only [List.mem_cons, List.not_mem_nil, or_false] at hu
                rcases hu with rfl | rfl | rfl | rfl <;> rfl
              case c3 => have : L ≤ 4096 := HL4.out; unfold maxLen; omega
              case c4 => have : L ≤ 4096 := HL4.out; omega
              case c5 => simp; omega
              intro v' w4 hown' hgrow _
              obtain ⟨ao', cap', rfl⟩ : ∃ ao' cap', v' = .slice ao' (L + 1) cap' := by
                rcases hown'.2 with ⟨_, h0⟩ | ⟨g, cap', cur, fz, hv, _⟩
                · omega
                · exact ⟨_, cap', hv⟩
              have O4 : Hid (Below w.heap.size w w4) := ((O3.out.alloc hs3 _).alloc (by simp; omega) _).grown hgrow (by simp; omega) (fun k hk => (N3.out.lt k hk).1)
              have N4 : Hid (w4.ownsRowF w.heap.size 152 4 (.slice ao' (L + 1) cap') (L + 1) (tkCs (acc ++ [⟨k, t, n, q⟩]))) := by rw [tkCs_snoc]; exact hown'
              clear hown' hgrow N3 O3 hi hz0 hz1 hz2 hz3
              go_wp2_with fail
              refine (show Calls Tryz.prog 123 _ _ _ from HG2.out _).mono ?_
              rintro e5 w5 ⟨rfl, o5⟩
              have O5 : Hid (Below w.heap.size w w5) := O4.out.trans ((only_below o5).mono O4.out.size)
              have N5 := owns_only N4.out o5
              clear O4 N4 o5 HG2
              have e1 : L = acc.length := HL.out
              have e2 : (acc ++ [(⟨k, t, n, q⟩ : Tok)]).length = L + 1 := by simp [e1]
              have HF : Hid (L + 1 ≤ 4096) := by have : L ≤ 4096 := HL4.out; show L + 1 ≤ 4096; omega
              have HM : Hid (s.size - p2 < g ∧ s.size - p2 < s.size - a) := by
                have h1 : s.size - a < g + 1 := HQ.out
                have h2 : p ≤ p2 ∧ p2 ≤ s.size := HP2.out
                have h3 : a < p := HP.out
                exact ⟨by omega, by omega⟩
              clear HQ HP HL4 e1
              have HK : Hid (Z = tokG s g p2 (acc ++ [⟨k, t, n, q⟩]) ∧ s.size - p2 < g ∧ p2 ≤ s.size ∧ w5.ownsRowF w.heap.size 152 4 (.slice ao' (acc ++ [(⟨k, t, n, q⟩ : Tok)]).length cap') (acc ++ [(⟨k, t, n, q⟩ : Tok)]).length (tkCs (acc ++ [⟨k, t, n, q⟩])) ∧ Below w.heap.size w w5 ∧ (acc ++ [(⟨k, t, n, q⟩ : Tok)]).length ≤ 4096) := ⟨HE2.out, HM.out.1, HP2.out.2, by rw [e2]; exact N5, O5.out, by rw [e2]; exact HF.out⟩
              have HV : Hid ((Value.slice ao' (L + 1) cap') = .slice ao' (acc ++ [(⟨k, t, n, q⟩ : Tok)]).length cap') := by rw [e2]; exact rfl
              clear N5 e2 O5 HF HE2
              go_wp2
              go_roundw
              case rel => exact ⟨p2, g, acc ++ [(⟨k, t, n, q⟩ : Tok)], ao', cap', HV.out, rfl, HK⟩
              case measure => simp only [uOf]; exact HM.out.2
          · have HE2 : Hid (Z = ([], p, e)) := by
              show Z = _
              rw [HE.out, if_neg he]
            go_wp2
            go_ret3
            exact ⟨_, by rw [show Z = _ from HE2.out]; rfl, by rw [show Z = _ from HE2.out]; exact toks_nil _ _, O3.out.alloc O3.out.size _⟩
        · have HE : Hid (Z = (acc, 0, 0)) := by
            show Z = _
            rw [HI.out.1, tokG, if_neg ha]
          have i3 : ¬ (a : Int) < (s.size : Int) := by omega
          go_wp2
          go_ret3
          have e1 : L = acc.length := HL.out
          exact ⟨_, by rw [show Z = _ from HE.out]; rfl, by rw [show Z = _ from HE.out]; exact ⟨⟨ao, cap, by rw [e1]; rfl⟩, by have := HI.out.2.2.2.1; rw [e1] at this ⊢; exact this⟩, HI.out.2.2.2.2.1⟩
end Go.Proofs.YtfecmpebnianpaaGreatDoor
namespace Go.Proofs.YtfecmpebnianpaaGreatDoor
open Go.RowKit
set_option linter.unusedSimpArgs false
set_option linter.unusedVariables false
/-- the tokens q lie behind the slice v, in a block ahead of R -/
def TkR (w : World) (R : Nat) (v : Value) (q : List Tok) : Prop :=
  ∃ ao cap, v = .slice ao q.length cap ∧ q.length ≤ cap ∧ ∀ i t, q[i]? = some t → ∃ g k, ao = some ⟨g, k, none⟩ ∧ g < R ∧ w.cell? ⟨g, k + i * 4, none⟩ = some (.int .i64 t.k) ∧ w.cell? ⟨g, k + i * 4 + 1, none⟩ = some (.string t.t) ∧ w.cell? ⟨g, k + i * 4 + 2, none⟩ = some (.int .i64 t.n) ∧ w.cell? ⟨g, k + i * 4 + 3, none⟩ = some (.int .i64 t.a)
/-- a reader at block R: the tokens that are left, the source's length, the brackets that are open, the size so far -/
def RdAt (w : World) (R : Nat) (q : List Tok) (n o z : Int) : Prop :=
  ∃ v, w.heap[R]? = some (.cells #[v, .int .i64 n, .int .i64 o, .int .i64 z] 179) ∧ TkR w R v q
theorem alloc_cell (w : World) (a : Addr) (x : Obj) (u : Value) (g : w.cell? a = some u) : (w.alloc x).cell? a = some u := by
  rw [World.cell?_alloc_old, g]
  intro e
  have : w.heap[a.block]? = none := by rw [e]; simp
  simp [World.cell?, this] at g
theorem results_flt {fn : Func} {u : Tmp} (h : fn.results = #[.cell u 176]) (tmps : Array Value) (w : World) (B : Nat) {x y : Value} (h0 : w.cell? ⟨B, 0, none⟩ = some x) (h1 : w.cell? ⟨B, 1, none⟩ = some y) (ha : tmps.getD u undef = .pointer (some ⟨B, 0, none⟩)) :
    (results fn tmps).run Tryz.prog w = .ok (.agg #[x, y]) w := by
  have ha' : tmps[u]?.getD undef = .pointer (some ⟨B, 0, none⟩) := by simpa using ha
  simp [results, h, ha', asAddr, go_sem, loadVar, isAgg, Tryz.underlying176, h0, h1]
/-- where a reader gives up -/
def flt (q : List Tok) (n : Int) : Int := match q with | [] => n | t :: _ => t.a
set_option maxRecDepth 100000 in
theorem fault_any (R : Nat) (q : List Tok) (n o z e : Int) (w : World) (h : RdAt w R q n o z) :
    Calls Tryz.prog 149 #[.pointer (some ⟨R, 0, none⟩), .int .i64 e] w fun x w' => x = .returned (.agg #[.int .i64 (flt q n), .int .i64 e]) ∧ Only (fun _ => False) w w' := by
  obtain ⟨v, hR, ao, cap, rfl, hcap, hq⟩ := h
  clear hcap
  have hA : ∀ (a : Addr) (u : Value), w.cell? a = some u → ∀ x, (w.alloc x).cell? a = some u := fun a u g x => (alloc_cell w a x u g)
  have k0 := hA _ _ (show w.cell? ⟨R, 0, none⟩ = some (.slice ao q.length cap) by simp [World.cell?, hR])
  have k1 := hA _ _ (show w.cell? ⟨R, 1, none⟩ = some (.int .i64 n) by simp [World.cell?, hR])
  have O0 : Hid (Only (fun _ => False) w w) := Only.refl _ _
  cases q with
  | nil =>
    clear hR hq hA
    simp only [flt, List.length_nil] at k0 ⊢
    go_enter Tryz.func149, Tryz.ntmps149
    go_wp2
    refine bodyPost_ret (results_flt (u := 4) rfl _ _ w.heap.size (x := _) (y := _) ?_ ?_ rfl) rfl ⟨rfl, O0.out.alloc _⟩
    · simp [go_sem]
    · simp [go_sem]
  | cons t q =>
    obtain ⟨g, k, rfl, hgR, c0, c1, c2, c3⟩ := hq 0 t rfl
    clear hgR
    simp only [flt, Nat.zero_mul, Nat.add_zero] at c3 ⊢
    have k3 := hA _ _ c3
    clear hR hq hA c0 c1 c2 c3
    obtain ⟨L, hL⟩ : ∃ L, L = (t :: q).length := ⟨_, rfl⟩
    have hL1 : 0 < L := by subst hL; simp
    rw [← hL] at k0
    clear hL
    have i1 : ¬ (L : Int) = 0 := by omega
    have i2 : (0 : Int) < (L : Int) := by omega
    go_enter Tryz.func149, Tryz.ntmps149
    go_wp2
    refine bodyPost_ret (results_flt (u := 4) rfl _ _ w.heap.size (x := _) (y := _) ?_ ?_ rfl) rfl ⟨rfl, O0.out.alloc _⟩
    · simp [go_sem]
    · simp [go_sem]
/-- how a reader gives up -/
def gup (a e : Int) : Ending := .panicked [{ v := .iface 176 (.agg #[.int .i64 a, .int .i64 e]), recovered := false }]
set_option maxRecDepth 100000 in
theorem must_true (R : Nat) (w : World) :
    Calls Tryz.prog 127 #[.pointer (some ⟨R, 0, none⟩), .bool true] w fun x w' => x = .returned (.tuple #[]) ∧ w' = w := by
  go_enter Tryz.func127, Tryz.ntmps127
  go_wp2
  go_end0
  exact ⟨rfl, rfl⟩
set_option maxRecDepth 100000 in
theorem must_false (R : Nat) (q : List Tok) (n o z : Int) (w : World) (h : RdAt w R q n o z) :
    Calls Tryz.prog 127 #[.pointer (some ⟨R, 0, none⟩), .bool false] w fun x w' => x = gup (flt q n) 9 ∧ Only (fun _ => False) w w' := by
  have HF : Hid (Calls Tryz.prog 149 #[.pointer (some ⟨R, 0, none⟩), .int .i64 9] w fun x w' => x = .returned (.agg #[.int .i64 (flt q n), .int .i64 9]) ∧ Only (fun _ => False) w w') := fault_any R q n o z 9 w h
  go_enter Tryz.func127, Tryz.ntmps127
  go_wp2_with fail
  refine (show Calls Tryz.prog 149 _ _ _ from HF.out).mono ?_
  rintro e w1 ⟨rfl, o1⟩
  have O1 : Hid (Only (fun _ => False) w w1) := o1
  clear HF o1
  go_wp2
  exact ⟨rfl, rfl, O1.out⟩
end Go.Proofs.YtfecmpebnianpaaGreatDoor
namespace Go.Proofs.YtfecmpebnianpaaGreatDoor
open Go.RowKit
set_option linter.unusedSimpArgs false
set_option linter.unusedVariables false
theorem TkR.only {w w' : World} {R : Nat} {v : Value} {q : List Tok} (h : TkR w R v q) (o : Only (fun _ => False) w w') : TkR w' R v q := by
  obtain ⟨ao, cap, hv, hcap, hq⟩ := h
  refine ⟨ao, cap, hv, hcap, fun i t ht => ?_⟩
  obtain ⟨g, k, ha, hg, c0, c1, c2, c3⟩ := hq i t ht
  exact ⟨g, k, ha, hg, o.cell c0 (fun h => h), o.cell c1 (fun h => h), o.cell c2 (fun h => h), o.cell c3 (fun h => h)⟩
theorem RdAt.only {w w' : World} {R : Nat} {q : List Tok} {n m z : Int} (h : RdAt w R q n m z) (o : Only (fun _ => False) w w') : RdAt w' R q n m z := by
  obtain ⟨v, hR, hq⟩ := h
  exact ⟨v, (o.block R (Array.getElem?_eq_some_iff.1 hR).1 (fun h => h)).trans hR, hq.only o⟩
theorem results_tk {fn : Func} {u : Tmp} (h : fn.results = #[.cell u 152]) (tmps : Array Value) (w : World) (B : Nat) {x y z r : Value} (h0 : w.cell? ⟨B, 0, none⟩ = some x) (h1 : w.cell? ⟨B, 1, none⟩ = some y) (h2 : w.cell? ⟨B, 2, none⟩ = some z) (h3 : w.cell? ⟨B, 3, none⟩ = some r) (ha : tmps.getD u undef = .pointer (some ⟨B, 0, none⟩)) :
    (results fn tmps).run Tryz.prog w = .ok (.agg #[x, y, z, r]) w := by
  have ha' : tmps[u]?.getD undef = .pointer (some ⟨B, 0, none⟩) := by simpa using ha
  simp [results, h, ha', asAddr, go_sem, loadVar, isAgg, Tryz.underlying152, h0, h1, h2, h3]
set_option maxRecDepth 100000 in
theorem next_nil (R : Nat) (n o z : Int) (w : World) (h : RdAt w R [] n o z) :
    Calls Tryz.prog 125 #[.pointer (some ⟨R, 0, none⟩)] w fun x w' => x = gup n 9 ∧ Only (fun _ => False) w w' := by
  have HM : Hid (∀ w1, Only (fun _ => False) w w1 → Calls Tryz.prog 127 #[.pointer (some ⟨R, 0, none⟩), .bool false] w1 fun x w' => x = gup n 9 ∧ Only (fun _ => False) w1 w') := fun w1 o1 => must_false R [] n o z w1 (h.only o1)
  obtain ⟨v, hR, ao, cap, rfl, hcap, hq⟩ := h
  clear hcap
  have k0 : ∀ x, (w.alloc x).cell? ⟨R, 0, none⟩ = some (.slice ao 0 cap) := fun x => alloc_cell w _ x _ (by simp [World.cell?, hR])
  have O0 : Hid (Only (fun _ => False) w w) := Only.refl _ _
  clear hR hq
  go_enter Tryz.func125, Tryz.ntmps125
  go_wp2_with fail
  refine (show Calls Tryz.prog 127 _ _ _ from HM.out _ (O0.out.alloc _)).mono ?_
  rintro e w1 ⟨rfl, o1⟩
  have O1 : Hid (Only (fun _ => False) w w1) := (O0.out.alloc _).trans o1 (fun _ _ g => g)
  clear HM o1
  unfold gup
  go_wp2
  exact ⟨rfl, rfl, O1.out⟩
set_option maxRecDepth 100000 in
theorem next_cons (R : Nat) (t : Tok) (q : List Tok) (n o z : Int) (w : World) (h : RdAt w R (t :: q) n o z) :
    Calls Tryz.prog 125 #[.pointer (some ⟨R, 0, none⟩)] w fun x w' => x = .returned t.v ∧ Only (fun _ => False) w w' := by
  have HM : Hid (∀ w1, Calls Tryz.prog 127 #[.pointer (some ⟨R, 0, none⟩), .bool true] w1 fun x w' => x = .returned (.tuple #[]) ∧ w' = w1) := fun w1 => must_true R w1
  obtain ⟨v, hR, ao, cap, rfl, hcap, hq⟩ := h
  clear hcap
  have k0 : ∀ x, (w.alloc x).cell? ⟨R, 0, none⟩ = some (.slice ao (t :: q).length cap) := fun x => alloc_cell w _ x _ (by simp [World.cell?, hR])
  obtain ⟨g, k, rfl, hgR, c0, c1, c2, c3⟩ := hq 0 t rfl
  clear hgR
  simp only [Nat.zero_mul, Nat.add_zero] at c0 c1 c2 c3
  have d0 := fun x => alloc_cell w _ x _ c0
  have d1 := fun x => alloc_cell w _ x _ c1
  have d2 := fun x => alloc_cell w _ x _ c2
  have d3 := fun x => alloc_cell w _ x _ c3
  clear hR hq c0 c1 c2 c3
  obtain ⟨L, hL⟩ : ∃ L, L = (t :: q).length := ⟨_, rfl⟩
  have hL1 : 0 < L := by subst hL; simp
  rw [← hL] at k0
  clear hL
  have i3 : (0 : Int) < (L : Int) := by omega
  have O0 : Hid (Only (fun _ => False) w w) := Only.refl _ _
  obtain ⟨tk, tt, tn, ta⟩ := t
  simp only [Tok.v] at d0 d1 d2 d3 ⊢
  go_enter Tryz.func125, Tryz.ntmps125
  go_wp2_with fail
  refine (show Calls Tryz.prog 127 _ _ _ from HM.out _).mono ?_
  rintro e w1 ⟨rfl, rfl⟩
  clear HM
  go_wp2
  refine bodyPost_ret (results_tk rfl _ _ w.heap.size (x := _) (y := _) (z := _) (r := _) ?_ ?_ ?_ ?_ rfl) rfl ⟨rfl, O0.out.alloc _⟩
  · simp [go_sem]
  · simp [go_sem]
  · simp [go_sem]
  · simp [go_sem]
end Go.Proofs.YtfecmpebnianpaaGreatDoor
namespace Go.Proofs.YtfecmpebnianpaaGreatDoor
open Go.RowKit
set_option linter.unusedSimpArgs false
set_option linter.unusedVariables false
set_option maxRecDepth 100000 in
theorem is_nil (R : Nat) (n o z : Int) (s : ByteArray) (w : World) (h : RdAt w R [] n o z) :
    Calls Tryz.prog 100 #[.pointer (some ⟨R, 0, none⟩), .string s] w fun x w' => x = gup n 9 ∧ Only (fun _ => False) w w' := by
  have HM : Hid (∀ w1, Only (fun _ => False) w w1 → Calls Tryz.prog 125 #[.pointer (some ⟨R, 0, none⟩)] w1 fun x w' => x = gup n 9 ∧ Only (fun _ => False) w1 w') := fun w1 o1 => next_nil R n o z w1 (h.only o1)
  have O0 : Hid (Only (fun _ => False) w w) := Only.refl _ _
  clear h
  go_enter Tryz.func100, Tryz.ntmps100
  go_wp2_with fail
  refine (show Calls Tryz.prog 125 _ _ _ from HM.out _ O0.out).mono ?_
  rintro e w1 ⟨rfl, o1⟩
  have O1 : Hid (Only (fun _ => False) w w1) := O0.out.trans o1 (fun _ _ g => g)
  clear HM o1
  unfold gup
  go_wp2
  exact ⟨rfl, rfl, O1.out⟩
def isB (t : Tok) (s : ByteArray) : Bool := (t.k == 1) && (t.t.toList == s.toList)
set_option maxRecDepth 100000 in
theorem is_cons (R : Nat) (t : Tok) (q : List Tok) (n o z : Int) (s : ByteArray) (w : World) (h : RdAt w R (t :: q) n o z) :
    Calls Tryz.prog 100 #[.pointer (some ⟨R, 0, none⟩), .string s] w fun x w' => x = .returned (.bool (isB t s)) ∧ Only (fun _ => False) w w' := by
  have HM : Hid (∀ w1, Only (fun _ => False) w w1 → Calls Tryz.prog 125 #[.pointer (some ⟨R, 0, none⟩)] w1 fun x w' => x = .returned t.v ∧ Only (fun _ => False) w1 w') := fun w1 o1 => next_cons R t q n o z w1 (h.only o1)
  have O0 : Hid (Only (fun _ => False) w w) := Only.refl _ _
  clear h
  obtain ⟨tk, tt, tn, ta⟩ := t
  simp only [Tok.v, isB] at HM ⊢
  go_enter Tryz.func100, Tryz.ntmps100
  go_wp2_with fail
  refine (show Calls Tryz.prog 125 _ _ _ from HM.out _ O0.out).mono ?_
  rintro e w1 ⟨rfl, o1⟩
  have O1 : Hid (Only (fun _ => False) w w1) := O0.out.trans o1 (fun _ _ g => g)
  clear HM o1
  go_wp2
  · go_ret
    exact ⟨by simp [*], O1.out.alloc _⟩
  · go_ret
    exact ⟨by simp [*], O1.out.alloc _⟩
/-- the reserved words -/
def resB (s : ByteArray) : Bool := s.toList == [58] || s.toList == [59] || s.toList == [40] || s.toList == [45, 45] || s.toList == [41] || s.toList == [91] || s.toList == [93] || s.toList == [123] || s.toList == [125] || s.toList == [116] || s.toList == [102]
set_option maxRecDepth 100000 in
theorem reserved_any (s : ByteArray) (w : World) :
    Calls Tryz.prog 150 #[.string s] w fun x w' => x = .returned (.bool (resB s)) ∧ w' = w := by
  go_enter Tryz.func150, Tryz.ntmps150
  go_wp2
  all_goals
    go_ret
    refine ⟨?_, rfl⟩
    first
      | (exfalso; simp_all; done)
      | (unfold resB; simp only [*, Bool.or_true, Bool.or_false, Bool.true_or, Bool.false_or]; done)
      | (unfold resB; simp_all; done)
set_option maxRecDepth 100000 in
theorem named_nil (R : Nat) (n o z : Int) (w : World) (h : RdAt w R [] n o z) :
    Calls Tryz.prog 128 #[.pointer (some ⟨R, 0, none⟩)] w fun x w' => x = gup n 9 ∧ Only (fun _ => False) w w' := by
  have HM : Hid (Calls Tryz.prog 125 #[.pointer (some ⟨R, 0, none⟩)] w fun x w' => x = gup n 9 ∧ Only (fun _ => False) w w') := next_nil R n o z w h
  clear h
  go_enter Tryz.func128, Tryz.ntmps128
  go_wp2_with fail
  refine (show Calls Tryz.prog 125 _ _ _ from HM.out).mono ?_
  rintro e w1 ⟨rfl, o1⟩
  have O1 : Hid (Only (fun _ => False) w w1) := o1
  clear HM o1
  unfold gup
  go_wp2
  exact ⟨rfl, rfl, O1.out⟩
def nmB (t : Tok) : Bool := (t.k == 1) && !(resB t.t)
set_option maxRecDepth 100000 in
theorem named_cons (R : Nat) (t : Tok) (q : List Tok) (n o z : Int) (w : World) (h : RdAt w R (t :: q) n o z) :
    Calls Tryz.prog 128 #[.pointer (some ⟨R, 0, none⟩)] w fun x w' => x = .returned (.bool (nmB t)) ∧ Only (fun _ => False) w w' := by
  have HM : Hid (Calls Tryz.prog 125 #[.pointer (some ⟨R, 0, none⟩)] w fun x w' => x = .returned t.v ∧ Only (fun _ => False) w w') := next_cons R t q n o z w h
  have HR : Hid (∀ w1, Calls Tryz.prog 150 #[.string t.t] w1 fun x w' => x = .returned (.bool (resB t.t)) ∧ w' = w1) := fun w1 => reserved_any t.t w1
  clear h
  obtain ⟨tk, tt, tn, ta⟩ := t
  simp only [Tok.v, nmB] at HM HR ⊢
  obtain ⟨b, hb⟩ : ∃ b, b = resB tt := ⟨_, rfl⟩
  rw [← hb] at HR ⊢
  clear hb
  go_enter Tryz.func128, Tryz.ntmps128
  go_wp2_with fail
  refine (show Calls Tryz.prog 125 _ _ _ from HM.out).mono ?_
  rintro e w1 ⟨rfl, o1⟩
  have O1 : Hid (Only (fun _ => False) w w1) := o1
  clear HM o1
  go_wp2_with fail
  · refine (show Calls Tryz.prog 150 _ _ _ from HR.out _).mono ?_
    rintro e w2 ⟨rfl, rfl⟩
    clear HR
    go_wp2
    go_ret
    exact ⟨by simp [*], O1.out.alloc _⟩
  · go_ret
    exact ⟨by simp [*], O1.out.alloc _⟩
end Go.Proofs.YtfecmpebnianpaaGreatDoor
namespace Go.Proofs.YtfecmpebnianpaaGreatDoor
open Go.RowKit
set_option linter.unusedSimpArgs false
set_option linter.unusedVariables false
set_option maxRecDepth 100000 in
theorem take_nil (R : Nat) (n o z : Int) (w : World) (h : RdAt w R [] n o z) :
    Calls Tryz.prog 129 #[.pointer (some ⟨R, 0, none⟩)] w fun x w' => x = gup n 9 ∧ Only (fun _ => False) w w' := by
  have HM : Hid (∀ w1, Only (fun _ => False) w w1 → Calls Tryz.prog 125 #[.pointer (some ⟨R, 0, none⟩)] w1 fun x w' => x = gup n 9 ∧ Only (fun _ => False) w1 w') := fun w1 o1 => next_nil R n o z w1 (h.only o1)
  have O0 : Hid (Only (fun _ => False) w w) := Only.refl _ _
  clear h
  go_enter Tryz.func129, Tryz.ntmps129
  go_wp2_with fail
  refine (show Calls Tryz.prog 125 _ _ _ from HM.out _ (by first | exact O0.out | exact O0.out.alloc _)).mono ?_
  rintro e w1 ⟨rfl, o1⟩
  have O1 : Hid (Only (fun _ => False) w w1) := by first | exact O0.out.trans o1 (fun _ _ g => g) | exact (O0.out.alloc _).trans o1 (fun _ _ g => g)
  clear HM o1
  unfold gup
  go_wp2
  exact ⟨rfl, rfl, O1.out⟩
theorem TkR.onlyR {w w' : World} {R : Nat} {v : Value} {q : List Tok} {bs : Nat → Prop} (h : TkR w R v q) (hb : ∀ b, b < R → ¬ bs b) (oo : Only bs w w') : TkR w' R v q := by
  obtain ⟨ao, cap, hv, hcap, hq⟩ := h
  refine ⟨ao, cap, hv, hcap, fun i t ht => ?_⟩
  obtain ⟨g, k, ha, hg, c0, c1, c2, c3⟩ := hq i t ht
  exact ⟨g, k, ha, hg, oo.cell c0 (hb g hg), oo.cell c1 (hb g hg), oo.cell c2 (hb g hg), oo.cell c3 (hb g hg)⟩
theorem RdAt.other {w w' : World} {R : Nat} {q : List Tok} {n o z : Int} {bs : Nat → Prop} (h : RdAt w R q n o z) (hb : ∀ b, b ≤ R → ¬ bs b) (oo : Only bs w w') : RdAt w' R q n o z := by
  obtain ⟨v, hR, hT⟩ := h
  exact ⟨v, (oo.block R (Array.getElem?_eq_some_iff.1 hR).1 (hb R (Nat.le_refl _))).trans hR, hT.onlyR (fun b h => hb b (Nat.le_of_lt h)) oo⟩
theorem TkR.tail {w : World} {R g k cap : Nat} {ao : Option Addr} {t : Tok} {q : List Tok} (h : TkR w R (.slice (some ⟨g, k, none⟩) (q.length + 1) cap) (t :: q)) (ha : 0 < q.length → ao = some ⟨g, k + 4, none⟩) : TkR w R (.slice ao q.length (cap - 1)) q := by
  obtain ⟨ao', cap', hv, hcap, hq⟩ := h
  injection hv with e1 e2 e3
  subst e1
  subst e3
  refine ⟨ao, cap - 1, rfl, (by simp only [List.length_cons] at hcap; omega), fun i u hu => ?_⟩
  have hi : i < q.length := (List.getElem?_eq_some_iff.1 hu).1
  obtain ⟨g', k', e, hg, c0, c1, c2, c3⟩ := hq (i + 1) u (by simpa using hu)
  injection e with e
  injection e with e1 e2
  subst e1
  subst e2
  refine ⟨g, k + 4, ha (by omega), hg, ?_, ?_, ?_, ?_⟩
  · rw [show k + 4 + i * 4 = k + (i + 1) * 4 by omega]; exact c0
  · rw [show k + 4 + i * 4 = k + (i + 1) * 4 by omega]; exact c1
  · rw [show k + 4 + i * 4 = k + (i + 1) * 4 by omega]; exact c2
  · rw [show k + 4 + i * 4 = k + (i + 1) * 4 by omega]; exact c3
theorem slice_tail (g k L cap : Nat) (h : L + 1 ≤ cap) : ∃ ao : Option Addr, (0 < L → ao = some ⟨g, k + 4, none⟩) ∧ ∀ W : World, (Instr.slice 118 (.slice (some ⟨g, k, none⟩) (L + 1) cap) (some (.int .i64 1)) none none).run Tryz.prog W = .ok (.slice ao L (cap - 1)) W := by
  have i1 : (1 : Int) ≤ (L : Int) + 1 := by omega
  have i2 : (0 : Int) ≤ (L : Int) := by omega
  by_cases h1 : cap = 1
  · refine ⟨some ⟨g, k, none⟩, fun h => by omega, fun W => ?_⟩
    subst h1
    simp [go_sem, i1, i2]
  · refine ⟨some ⟨g, k + 4, none⟩, fun h => rfl, fun W => ?_⟩
    have h2 : ¬ cap - 1 = 0 := by omega
    simp [go_sem, i1, i2, h1, h2]
set_option maxRecDepth 100000 in
theorem take_cons (R : Nat) (t : Tok) (q : List Tok) (n o z : Int) (w : World) (h : RdAt w R (t :: q) n o z) :
    Calls Tryz.prog 129 #[.pointer (some ⟨R, 0, none⟩)] w fun x w' => x = .returned t.v ∧ Hid (RdAt w' R q n o z ∧ Only (fun b => b = R) w w') := by
  have HM : Hid (∀ w1, Only (fun _ => False) w w1 → Calls Tryz.prog 125 #[.pointer (some ⟨R, 0, none⟩)] w1 fun x w' => x = .returned t.v ∧ Only (fun _ => False) w1 w') := fun w1 o1 => next_cons R t q n o z w1 (h.only o1)
  have O0 : Hid (Only (fun _ => False) w w) := Only.refl _ _
  obtain ⟨v, hR, hT⟩ := h
  obtain ⟨ao0, cap, hv, hcap, hq⟩ := id hT
  obtain ⟨g, k, rfl, _⟩ := hq 0 _ rfl
  subst hv
  have HT : Hid (TkR w R (.slice (some ⟨g, k, none⟩) (q.length + 1) cap) (t :: q)) := hT
  have HR : Hid (w.heap[R]? = some (.cells #[.slice (some ⟨g, k, none⟩) (q.length + 1) cap, .int .i64 n, .int .i64 o, .int .i64 z] 179)) := hR
  obtain ⟨ao, hao, hsl⟩ := slice_tail g k q.length cap hcap
  have HA : Hid (0 < q.length → ao = some ⟨g, k + 4, none⟩) := hao
  clear hR hT hcap hq hao
  obtain ⟨L, hL⟩ : ∃ L, L = q.length := ⟨_, rfl⟩
  have HL : Hid (L = q.length) := hL
  rw [← hL] at hsl HR
  clear hL
  obtain ⟨tk, tt, tn, ta⟩ := t
  simp only [Tok.v] at HM ⊢
  go_enter Tryz.func129, Tryz.ntmps129
  go_wp2_with fail
  refine (show Calls Tryz.prog 125 _ _ _ from HM.out _ (O0.out.alloc _)).mono ?_
  rintro e w1 ⟨rfl, o1⟩
  have O1 : Hid (Only (fun _ => False) w w1) := (O0.out.alloc _).trans o1 (fun _ _ g => g)
  have lR : R < w.heap.size := (Array.getElem?_eq_some_iff.1 HR.out).1
  have lB : w.heap.size < w1.heap.size := Nat.lt_of_lt_of_le (by simp) o1.size
  have hB : w1.heap[w.heap.size]? = some (.cells #[.int .i64 0, .string ⟨#[]⟩, .int .i64 0, .int .i64 0] 152) := (o1.block w.heap.size (by simp) (fun h => h)).trans (alloc_at _ _ _ rfl)
  have R1 : w1.heap[R]? = some (.cells #[.slice (some ⟨g, k, none⟩) (L + 1) cap, .int .i64 n, .int .i64 o, .int .i64 z] 179) := (O1.out.block R lR (fun h => h)).trans HR.out
  obtain ⟨B, hBe⟩ : ∃ B, B = w.heap.size := ⟨_, rfl⟩
  rw [← hBe] at hB lB ⊢
  have hal : ∀ (x : Obj) (b : Nat), b < w1.heap.size → (w1.alloc x).heap[b]? = w1.heap[b]? := fun x b hb => ((Only.refl (fun _ => False) w1).alloc x).block b hb (fun h => h)
  have R2 : ∀ x, (w1.alloc x).heap[R]? = some (.cells #[.slice (some ⟨g, k, none⟩) (L + 1) cap, .int .i64 n, .int .i64 o, .int .i64 z] 179) := fun x => (hal x R (by omega)).trans R1
  have k0 : ∀ x, (w1.alloc x).cell? ⟨R, 0, none⟩ = some (.slice (some ⟨g, k, none⟩) (L + 1) cap) := fun x => by rw [blk_cells (R2 x)]; rfl
  have kf : ∀ x, (w1.alloc x).frozen? ⟨R, 0, none⟩ = false := fun x => blk_froz (R2 x) 0
  have B2 : ∀ x v, ((w1.alloc x).setCell ⟨R, 0, none⟩ v).heap[B]? = some (.cells #[.int .i64 0, .string ⟨#[]⟩, .int .i64 0, .int .i64 0] 152) := fun x v => by
    rw [heap_setCell_other _ _ _ _ (by simp only; omega), hal x B lB, hB]
  have bb : ∀ (C : Array Value) (v : Value) (i : Nat), ((w1.alloc (.cells C 152)).setCell ⟨R, 0, none⟩ v).cell? ⟨w1.heap.size, i, none⟩ = C[i]? := fun C v i => by
    rw [World.cell?_setCell_other]
    · simp [go_sem]
    · intro e
      injection e with e1
      omega
  have c0 := fun x v => blk_cells (B2 x v) 0
  have c1 := fun x v => blk_cells (B2 x v) 1
  have c2 := fun x v => blk_cells (B2 x v) 2
  have c3 := fun x v => blk_cells (B2 x v) 3
  have z0 := fun x v => blk_froz (B2 x v) 0
  have z1 := fun x v => blk_froz (B2 x v) 1
  have z2 := fun x v => blk_froz (B2 x v) 2
  have z3 := fun x v => blk_froz (B2 x v) 3
  simp only [List.getElem?_toArray, List.getElem?_cons_zero, List.getElem?_cons_succ] at c0 c1 c2 c3
  have HB2 : Hid (∀ x v, ((w1.alloc x).setCell ⟨R, 0, none⟩ v).heap[B]? = some (.cells #[.int .i64 0, .string ⟨#[]⟩, .int .i64 0, .int .i64 0] 152)) := B2
  have HR2 : Hid (∀ x, (w1.alloc x).heap[R]? = some (.cells #[.slice (some ⟨g, k, none⟩) (L + 1) cap, .int .i64 n, .int .i64 o, .int .i64 z] 179)) := R2
  have HE : Hid (B = w.heap.size ∧ R < w.heap.size) := ⟨hBe, lR⟩
  clear HM o1 hB O0 hBe R1 R2 B2 hal lR lB
  go_wp2
  obtain ⟨q0, q1, q2, q3⟩ := set4 (HB2.out (.cells #[.int .i64 tk, .string tt, .int .i64 tn, .int .i64 ta] 152) (.slice ao L (cap - 1))) rfl (.int .i64 tk) (.string tt) (.int .i64 tn) (.int .i64 ta)
  refine bodyPost_ret (results_tk rfl _ _ B q0 q1 q2 q3 rfl) rfl ⟨rfl, ?_⟩
  obtain ⟨hBe, lR⟩ := HE.out
  have nB : ∀ i, (⟨B, i, none⟩ : Addr).block < w.heap.size → (⟨B, i, none⟩ : Addr).block = R := fun i h => by simp only at h; omega
  have OO : Only (fun b => b = R) w (((((w1.alloc (.cells #[.int .i64 tk, .string tt, .int .i64 tn, .int .i64 ta] 152)).setCell ⟨R, 0, none⟩ (.slice ao L (cap - 1))).setCell ⟨B, 0, none⟩ (.int .i64 tk)).setCell ⟨B, 1, none⟩ (.string tt)).setCell ⟨B, 2, none⟩ (.int .i64 tn) |>.setCell ⟨B, 3, none⟩ (.int .i64 ta)) :=
    (((((((show Only (fun b => b = R) w w1 from O1.out.mono (fun _ _ h => h.elim)).alloc _).setCell ⟨R, 0, none⟩ _ (fun _ => rfl)).setCell _ _ (nB 0)).setCell _ _ (nB 1)).setCell _ _ (nB 2)).setCell _ _ (nB 3))
  have hRB : R ≠ B := by omega
  refine ⟨⟨.slice ao L (cap - 1), ?_, ?_⟩, OO⟩
  · rw [heap_setCell_other _ _ _ _ hRB, heap_setCell_other _ _ _ _ hRB, heap_setCell_other _ _ _ _ hRB, heap_setCell_other _ _ _ _ hRB, heap_setCell_same _ _ _ _ _ _ (HR2.out _)]
    rfl
  · have h1 := HT.out.onlyR (fun b h e => by omega) OO
    have h2 := h1.tail HA.out
    rw [← HL.out] at h2
    exact h2
end Go.Proofs.YtfecmpebnianpaaGreatDoor
namespace Go.Proofs.YtfecmpebnianpaaGreatDoor
open Go.RowKit
set_option linter.unusedSimpArgs false
set_option linter.unusedVariables false
theorem RdAt.size {w : World} {R : Nat} {q : List Tok} {n o z : Int} (h : RdAt w R q n o z) (y : Int) : RdAt (w.setCell ⟨R, 3, none⟩ (.int .i64 y)) R q n o y ∧ Only (fun b => b = R) w (w.setCell ⟨R, 3, none⟩ (.int .i64 y)) := by
  obtain ⟨v, hR, hT⟩ := h
  have OO : Only (fun b => b = R) w (w.setCell ⟨R, 3, none⟩ (.int .i64 y)) := (Only.refl (fun b => b = R) w).setCell ⟨R, 3, none⟩ _ (fun _ => rfl)
  exact ⟨⟨v, (heap_setCell_same _ _ _ _ _ _ hR).trans rfl, hT.onlyR (fun b h e => by omega) OO⟩, OO⟩
theorem RdAt.open_ {w : World} {R : Nat} {q : List Tok} {n o z : Int} (h : RdAt w R q n o z) (y : Int) : RdAt (w.setCell ⟨R, 2, none⟩ (.int .i64 y)) R q n y z ∧ Only (fun b => b = R) w (w.setCell ⟨R, 2, none⟩ (.int .i64 y)) := by
  obtain ⟨v, hR, hT⟩ := h
  have OO : Only (fun b => b = R) w (w.setCell ⟨R, 2, none⟩ (.int .i64 y)) := (Only.refl (fun b => b = R) w).setCell ⟨R, 2, none⟩ _ (fun _ => rfl)
  exact ⟨⟨v, (heap_setCell_same _ _ _ _ _ _ hR).trans rfl, hT.onlyR (fun b h e => by omega) OO⟩, OO⟩
/-- what take answers -/
def tkP (R : Nat) (q : List Tok) (n o z : Int) (w : World) (x : Ending) (w' : World) : Prop := match q with
  | [] => x = gup n 9 ∧ Only (fun b => b = R) w w'
  | t :: q' => x = .returned t.v ∧ Hid (RdAt w' R q' n o z ∧ Only (fun b => b = R) w w')
theorem take_any (R : Nat) (q : List Tok) (n o z : Int) (w : World) (h : RdAt w R q n o z) :
    Calls Tryz.prog 129 #[.pointer (some ⟨R, 0, none⟩)] w (tkP R q n o z w) := by
  cases q with
  | nil => exact (take_nil R n o z w h).mono fun e w' g => ⟨g.1, g.2.mono (fun _ _ h => h.elim)⟩
  | cons t q => exact (take_cons R t q n o z w h).mono fun e w' g => g
theorem tkP.later {R : Nat} {q : List Tok} {n o z : Int} {w0 w w' : World} {x : Ending} (h : tkP R q n o z w x w') (o0 : Only (fun b => b = R) w0 w) : tkP R q n o z w0 x w' := by
  cases q with
  | nil => exact ⟨h.1, o0.trans h.2 (fun _ _ g => g)⟩
  | cons t q => exact ⟨h.1, h.2.out.1, o0.trans h.2.out.2 (fun _ _ g => g)⟩
set_option maxRecDepth 100000 in
theorem count_any (R : Nat) (q : List Tok) (n o z : Int) (w : World) (hz : 0 ≤ z ∧ z ≤ 1000000) (h : RdAt w R q n o z) :
    Calls Tryz.prog 132 #[.pointer (some ⟨R, 0, none⟩)] w fun x w' => if z = 1024 then x = gup (flt q n) 11 ∧ Only (fun b => b = R) w w' else tkP R q n o (z + 1) w x w' := by
  obtain ⟨v, hR, hT⟩ := id h
  have HF : Hid (∀ w1, Only (fun _ => False) w w1 → Calls Tryz.prog 149 #[.pointer (some ⟨R, 0, none⟩), .int .i64 11] w1 fun x w' => x = .returned (.agg #[.int .i64 (flt q n), .int .i64 11]) ∧ Only (fun _ => False) w1 w') := fun w1 o1 => fault_any R q n o z 11 w1 (h.only o1)
  have O0 : Hid (Only (fun _ => False) w w) := Only.refl _ _
  have H0 : Hid (RdAt w R q n o z) := h
  have R1 : ∀ x, (w.alloc x).heap[R]? = some (.cells #[v, .int .i64 n, .int .i64 o, .int .i64 z] 179) := fun x => (((Only.refl (fun _ => False) w).alloc x).block R (Array.getElem?_eq_some_iff.1 hR).1 (fun h => h)).trans hR
  have k3 : ∀ x, (w.alloc x).cell? ⟨R, 3, none⟩ = some (.int .i64 z) := fun x => by rw [blk_cells (R1 x)]; rfl
  have f3 : ∀ x, (w.alloc x).frozen? ⟨R, 3, none⟩ = false := fun x => blk_froz (R1 x) 3
  clear hT h hR R1
  by_cases hm : z = 1024
  · subst hm
    simp only [if_true]
    clear f3
    go_enter Tryz.func132, Tryz.ntmps132
    go_wp2_with fail
    refine (show Calls Tryz.prog 149 _ _ _ from HF.out _ (O0.out.alloc _)).mono ?_
    rintro e w1 ⟨rfl, o1⟩
    have O1 : Hid (Only (fun _ => False) w w1) := (O0.out.alloc _).trans o1 (fun _ _ g => g)
    clear HF o1
    go_wp2
    exact ⟨rfl, rfl, O1.out.mono (fun _ _ h => h.elim)⟩
  · simp only [hm, if_false]
    have i1 : (z == 1024) = false := by simp [hm]
    clear HF
    go_enter Tryz.func132, Tryz.ntmps132
    go_wp2_with fail
    have lR : R < w.heap.size := by
      obtain ⟨_, h1, _⟩ := H0.out
      exact (Array.getElem?_eq_some_iff.1 h1).1
    obtain ⟨W0, hW0⟩ : ∃ W0, W0 = (w.alloc (.cells #[.int .i64 0, .string ⟨#[]⟩, .int .i64 0, .int .i64 0] 152)).setCell ⟨R, 3, none⟩ (.int .i64 (z + 1)) := ⟨_, rfl⟩
    have A0 : RdAt W0 R q n o (z + 1) ∧ Only (fun b => b = R) (w.alloc (.cells #[.int .i64 0, .string ⟨#[]⟩, .int .i64 0, .int .i64 0] 152)) W0 := by
      rw [hW0]
      exact (H0.out.only (O0.out.alloc _)).size (z + 1)
    have A1 : Only (fun b => b = R) w W0 := (show Only (fun b => b = R) w _ from (Only.refl (fun b => b = R) w).alloc _).trans A0.2 (fun _ _ g => g)
    have A2 : W0.heap[w.heap.size]? = some (.cells #[.int .i64 0, .string ⟨#[]⟩, .int .i64 0, .int .i64 0] 152) := (A0.2.block w.heap.size (by simp) (by omega)).trans (alloc_at _ _ _ rfl)
    rw [← hW0]
    refine (show Calls Tryz.prog 129 _ _ _ from take_any R q n o (z + 1) W0 A0.1).mono ?_
    intro e w1 g1
    have G1 : Hid (tkP R q n o (z + 1) W0 e w1) := g1
    obtain ⟨B, hBe⟩ : ∃ B, B = w.heap.size := ⟨_, rfl⟩
    have HE : Hid (B = w.heap.size ∧ R < w.heap.size ∧ Only (fun b => b = R) w W0) := ⟨hBe, lR, A1⟩
    rw [← hBe] at A2 ⊢
    have lB : B < W0.heap.size := (Array.getElem?_eq_some_iff.1 A2).1
    have nBR : ¬ B = R := by omega
    clear k3 f3 O0 H0 A0 A1 hW0 lR hBe
    cases q with
    | nil =>
      obtain ⟨he, o1⟩ := g1
      subst he
      have O1 : Hid (Only (fun b => b = R) W0 w1) := o1
      clear o1 G1 A2 lB nBR
      unfold gup
      go_wp2
      exact ⟨rfl, rfl, HE.out.2.2.trans O1.out (fun _ _ g => g)⟩
    | cons t q =>
      obtain ⟨he, g2⟩ := g1
      subst he
      have R3 := (g2.out.2.block B lB nBR).trans A2
      have G2 : Hid (RdAt w1 R q n o (z + 1) ∧ Only (fun b => b = R) W0 w1) := g2.out
      have c0 := blk_cells R3 0
      have c1 := blk_cells R3 1
      have c2 := blk_cells R3 2
      have c3 := blk_cells R3 3
      have z0 := blk_froz R3 0
      have z1 := blk_froz R3 1
      have z2 := blk_froz R3 2
      have z3 := blk_froz R3 3
      have HR3 : Hid (w1.heap[B]? = some (.cells #[.int .i64 0, .string ⟨#[]⟩, .int .i64 0, .int .i64 0] 152)) := R3
      simp only [List.getElem?_toArray, List.getElem?_cons_zero, List.getElem?_cons_succ] at c0 c1 c2 c3
      clear g2 G1 A2 lB R3
      obtain ⟨tk, tt, tn, ta⟩ := t
      simp only [Tok.v]
      go_wp2
      obtain ⟨q0, q1, q2, q3⟩ := set4 HR3.out rfl (.int .i64 tk) (.string tt) (.int .i64 tn) (.int .i64 ta)
      obtain ⟨hBe, lR, A1⟩ := HE.out
      have OB : Only (fun b => b = B) w1 ((((w1.setCell ⟨B, 0, none⟩ (.int .i64 tk)).setCell ⟨B, 1, none⟩ (.string tt)).setCell ⟨B, 2, none⟩ (.int .i64 tn)).setCell ⟨B, 3, none⟩ (.int .i64 ta)) :=
        ((((Only.refl (fun b => b = B) w1).setCell ⟨B, 0, none⟩ _ (fun _ => rfl)).setCell ⟨B, 1, none⟩ _ (fun _ => rfl)).setCell ⟨B, 2, none⟩ _ (fun _ => rfl)).setCell ⟨B, 3, none⟩ _ (fun _ => rfl)
      refine bodyPost_ret (results_tk rfl _ _ B q0 q1 q2 q3 rfl) rfl ⟨rfl, G2.out.1.other (fun b h e => by omega) OB, ?_⟩
      exact (A1.trans G2.out.2 (fun _ _ g => g)).trans OB (fun b h e => by omega)
end Go.Proofs.YtfecmpebnianpaaGreatDoor
namespace Go.Proofs.YtfecmpebnianpaaGreatDoor
open Go.RowKit
set_option linter.unusedSimpArgs false
set_option linter.unusedVariables false
/-- what enter answers, where there is room -/
def enQ (R : Nat) (q : List Tok) (n o z : Int) (w : World) (x : Ending) (w' : World) : Prop := match q with
  | [] => x = gup n 9 ∧ Only (fun b => b = R) w w'
  | t :: q' => x = .returned (.tuple #[]) ∧ Hid (RdAt w' R q' n (o + 1) (z + 1) ∧ Only (fun b => b = R) w w')
/-- what enter answers -/
def enP (R : Nat) (q : List Tok) (n o z : Int) (w : World) (x : Ending) (w' : World) : Prop :=
  if o = 32 ∨ z = 1024 then x = gup (flt q n) 11 ∧ Only (fun b => b = R) w w' else enQ R q n o z w x w'
set_option maxRecDepth 100000 in
theorem enter_any (R : Nat) (q : List Tok) (n o z : Int) (w : World) (ho : 0 ≤ o ∧ o ≤ 1000000) (hz : 0 ≤ z ∧ z ≤ 1000000) (h : RdAt w R q n o z) :
    Calls Tryz.prog 126 #[.pointer (some ⟨R, 0, none⟩)] w (enP R q n o z w) := by
  obtain ⟨v, hR, hT⟩ := id h
  have HF : Hid (Calls Tryz.prog 149 #[.pointer (some ⟨R, 0, none⟩), .int .i64 11] w fun x w' => x = .returned (.agg #[.int .i64 (flt q n), .int .i64 11]) ∧ Only (fun _ => False) w w') := fault_any R q n o z 11 w h
  have H0 : Hid (RdAt w R q n o z) := h
  have k2 : w.cell? ⟨R, 2, none⟩ = some (.int .i64 o) := by rw [blk_cells hR]; rfl
  have f2 : w.frozen? ⟨R, 2, none⟩ = false := blk_froz hR 2
  clear hT h hR
  by_cases hm : o = 32
  · subst hm
    unfold enP
    simp only [true_or, if_true]
    clear f2
    go_enter Tryz.func126, Tryz.ntmps126
    go_wp2_with fail
    refine (show Calls Tryz.prog 149 _ _ _ from HF.out).mono ?_
    rintro e w1 ⟨rfl, o1⟩
    have O1 : Hid (Only (fun _ => False) w w1) := o1
    clear HF o1
    go_wp2
    exact ⟨rfl, rfl, O1.out.mono (fun _ _ h => h.elim)⟩
  · have i1 : (o == 32) = false := by simp [hm]
    have HP : Hid (∀ e w', (if z = 1024 then e = gup (flt q n) 11 ∧ Only (fun b => b = R) w w' else enQ R q n o z w e w') → enP R q n o z w e w') := by
      intro e w' g
      unfold enP
      simp only [hm, false_or]
      exact g
    clear HF
    go_enter Tryz.func126, Tryz.ntmps126
    go_wp2_with fail
    obtain ⟨W0, hW0⟩ : ∃ W0, W0 = w.setCell ⟨R, 2, none⟩ (.int .i64 (o + 1)) := ⟨_, rfl⟩
    have A0 : RdAt W0 R q n (o + 1) z ∧ Only (fun b => b = R) w W0 := by
      rw [hW0]
      exact H0.out.open_ (o + 1)
    rw [← hW0]
    refine (show Calls Tryz.prog 132 _ _ _ from count_any R q n (o + 1) z W0 hz A0.1).mono ?_
    intro e w1 g1
    have A1 : Hid (Only (fun b => b = R) w W0) := A0.2
    clear A0 hW0 k2 f2 H0
    by_cases hz1 : z = 1024
    · simp only [hz1, if_true] at g1
      obtain ⟨he, o1⟩ := g1
      subst he
      have O1 : Hid (Only (fun b => b = R) w w1) := A1.out.trans o1 (fun _ _ g => g)
      clear o1
      have HP1 : Hid (∀ w', Only (fun b => b = R) w w' → enP R q n o z w (gup (flt q n) 11) w') := fun w' g => HP.out _ _ (by rw [if_pos hz1]; exact ⟨rfl, g⟩)
      clear HP hz1
      unfold gup at HP1 ⊢
      go_wp2
      exact ⟨rfl, HP1.out _ O1.out⟩
    · simp only [hz1, if_false] at g1
      cases q with
      | nil =>
        obtain ⟨he, o1⟩ := g1
        subst he
        have O1 : Hid (Only (fun b => b = R) w w1) := A1.out.trans o1 (fun _ _ g => g)
        clear o1
        have HP1 : Hid (∀ w', Only (fun b => b = R) w w' → enP R [] n o z w (gup n 9) w') := fun w' g => HP.out _ _ (by rw [if_neg hz1]; exact ⟨rfl, g⟩)
        clear HP
        unfold gup at HP1 ⊢
        go_wp2
        exact ⟨rfl, HP1.out _ O1.out⟩
      | cons t q =>
        obtain ⟨he, g2⟩ := g1
        subst he
        have HP1 : Hid (enP R (t :: q) n o z w (.returned (.tuple #[])) w1) := HP.out _ _ (by rw [if_neg hz1]; exact ⟨rfl, g2.out.1, A1.out.trans g2.out.2 (fun _ _ g => g)⟩)
        clear HP g2
        obtain ⟨tk, tt, tn, ta⟩ := t
        simp only [Tok.v]
        go_wp2
        go_end0
        exact HP1.out
end Go.Proofs.YtfecmpebnianpaaGreatDoor
namespace Go.Proofs.YtfecmpebnianpaaGreatDoor
open Go.RowKit
set_option linter.unusedSimpArgs false
set_option linter.unusedVariables false
/-- a value or an item as a tree: its kind by number, its number, its text, its parts -/
structure Tre where
  k : Nat
  n : Int
  s : ByteArray
  l : List Tre
/-- the words that close a list, a quotation, a definition -/
def shB (m : Nat) : ByteArray := if m = 0 then ⟨#[125]⟩ else if m = 1 then ⟨#[93]⟩ else ⟨#[59]⟩
/-- what stands ahead of the tokens q: 0 a literal, 1 an item, 2 literals up to the end of a list, 3 items up to the end of a quotation, 4 up to that of a definition -/
def prs (n : Int) : Nat → Nat → List Tok → Int → Int → Except (Int × Int) (List Tre × List Tok × Int)
  | 0, _, _, _, _ => .error (0, 0)
  | f + 1, 0, q, o, z =>
    match q with
    | [] => .error (n, 9)
    | t :: r =>
      if t.k = 2 then (if z = 1024 then .error (t.a, 11) else .ok ([⟨1, t.n, ⟨#[]⟩, []⟩], r, z + 1))
      else if t.k = 3 then (if z = 1024 then .error (t.a, 11) else .ok ([⟨2, 0, t.t, []⟩], r, z + 1))
      else if t.t.toList = [116] then (if z = 1024 then .error (t.a, 11) else .ok ([⟨3, 1, ⟨#[]⟩, []⟩], r, z + 1))
      else if t.t.toList = [102] then (if z = 1024 then .error (t.a, 11) else .ok ([⟨3, 0, ⟨#[]⟩, []⟩], r, z + 1))
      else if t.t.toList = [91] then
        (if o = 32 ∨ z = 1024 then .error (t.a, 11) else
          match prs n f 3 r (o + 1) (z + 1) with
          | .error e => .error e
          | .ok (l, r', z') => .ok ([⟨5, 0, ⟨#[]⟩, l⟩], r', z'))
      else if t.t.toList = [123] then
        (if o = 32 ∨ z = 1024 then .error (t.a, 11) else
          match prs n f 2 r (o + 1) (z + 1) with
          | .error e => .error e
          | .ok (l, r', z') => .ok ([⟨4, 0, ⟨#[]⟩, l⟩], r', z'))
      else .error (t.a, 9)
  | f + 1, 1, q, o, z =>
    match q with
    | [] => .error (n, 9)
    | t :: r =>
      if nmB t then (if z = 1024 then .error (t.a, 11) else .ok ([⟨7, 0, t.t, []⟩], r, z + 1))
      else prs n f 0 (t :: r) o z
  | f + 1, m + 2, q, o, z =>
    match q with
    | [] => .error (n, 9)
    | t :: r =>
      if isB t (shB m) then .ok ([], r, z)
      else
        match prs n f (min m 1) (t :: r) o z with
        | .error e => .error e
        | .ok (l1, r1, z1) =>
          match prs n f (m + 2) r1 o z1 with
          | .error e => .error e
          | .ok (l2, r2, z2) => .ok (l1 ++ l2, r2, z2)
theorem prs_ok (n : Int) : ∀ f m q o z l r z', prs n f m q o z = .ok (l, r, z') → z ≤ 1024 → r.length < q.length ∧ z ≤ z' ∧ z' ≤ 1024 ∧ (m < 2 → l.length = 1) ∧ l.length + r.length ≤ q.length := by
  intro f
  induction f with
  | zero => intro m q o z l r z' h; simp [prs] at h
  | succ f ih =>
    intro m q o z l r z' h hz
    match m with
    | 0 =>
      simp only [prs] at h
      cases q with
      | nil => simp at h
      | cons t q =>
        simp only at h
        repeat' split at h
        all_goals first
          | (simp at h; done)
          | (simp only [Except.ok.injEq, Prod.mk.injEq] at h; obtain ⟨rfl, rfl, rfl⟩ := h; simp only [List.length_cons, List.length_nil]; refine ⟨?_, ?_, ?_, ?_, ?_⟩ <;> first | omega | trivial | (intro _; omega))
          | skip
        all_goals
          rename_i hp
          simp only [Except.ok.injEq, Prod.mk.injEq] at h; obtain ⟨rfl, rfl, rfl⟩ := h
          obtain ⟨h1, h2, h3, _, _⟩ := ih _ _ _ _ _ _ _ hp (by omega)
          simp only [List.length_cons, List.length_nil]; refine ⟨?_, ?_, ?_, ?_, ?_⟩ <;> first | omega | trivial | (intro _; omega)
    | 1 =>
      simp only [prs] at h
      cases q with
      | nil => simp at h
      | cons t q =>
        simp only at h
        repeat' split at h
        · simp at h
        · simp only [Except.ok.injEq, Prod.mk.injEq] at h; obtain ⟨rfl, rfl, rfl⟩ := h; simp only [List.length_cons, List.length_nil]; refine ⟨?_, ?_, ?_, ?_, ?_⟩ <;> first | omega | trivial | (intro _; omega)
        · obtain ⟨h1, h2, h3, h4, h5⟩ := ih _ _ _ _ _ _ _ h hz
          exact ⟨h1, h2, h3, fun _ => h4 (by omega), h5⟩
    | m + 2 =>
      simp only [prs] at h
      cases q with
      | nil => simp at h
      | cons t q =>
        simp only at h
        repeat' split at h
        · simp only [Except.ok.injEq, Prod.mk.injEq] at h; obtain ⟨rfl, rfl, rfl⟩ := h; simp only [List.length_cons, List.length_nil]; refine ⟨?_, ?_, ?_, ?_, ?_⟩ <;> first | omega | trivial | (intro _; omega)
        · simp at h
        · simp at h
        · rename_i l1 r1 z1 hp _ l2 r2 z2 hp2
          simp only [Except.ok.injEq, Prod.mk.injEq] at h; obtain ⟨rfl, rfl, rfl⟩ := h
          obtain ⟨h1, h2, h3, h4, h5⟩ := ih _ _ _ _ _ _ _ hp hz
          obtain ⟨g1, g2, g3, g4, g5⟩ := ih _ _ _ _ _ _ _ hp2 h3
          have := h4 (by omega)
          simp only [List.length_append, List.length_cons] at *
          refine ⟨?_, ?_, ?_, ?_, ?_⟩ <;> first | omega | trivial | (intro _; omega)
end Go.Proofs.YtfecmpebnianpaaGreatDoor
