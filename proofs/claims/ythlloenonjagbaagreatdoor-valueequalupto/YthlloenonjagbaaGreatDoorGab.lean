/- Trees as values: Value, Values, ItemOf, ItemsOf. Trees as values, many of them: Values, ItemsOf; all of them, whatever their depth. -/
import Derived.Test.YthlloenonjagbaaGreatDoorGaa
namespace Go.Proofs.YthlloenonjagbaaGreatDoor
open Go.RowKit
set_option linter.unusedSimpArgs false
set_option linter.unusedVariables false
/-- what a tree is as a value (i: as an item) -/
def nm : Nat → Bool → Vt → Vt
  | 0, _, _ => ⟨8, 0, ⟨#[]⟩, []⟩
  | d + 1, i, t =>
    if t.k = 1 then ⟨1, t.n, ⟨#[]⟩, []⟩ else if t.k = 2 then ⟨2, 0, t.s, []⟩ else if t.k = 3 then ⟨3, if t.n != 0 then 1 else 0, ⟨#[]⟩, []⟩
    else if t.k = 4 then ⟨4, 0, ⟨#[]⟩, t.l.map (nm d false)⟩ else if t.k = 5 then ⟨5, 0, ⟨#[]⟩, t.l.map (nm d true)⟩
    else if t.k = 6 then ⟨6, t.n, ⟨#[]⟩, []⟩ else if i = true ∧ t.k = 7 then ⟨7, 0, t.s, []⟩ else ⟨8, 0, ⟨#[]⟩, []⟩
theorem vblk_cells {w : World} {B : Nat} {c : Array Value} {t : TypeId} (h : w.heap[B]? = some (.cells c t)) (j : Nat) : w.cell? ⟨B, j, none⟩ = c[j]? := by
  simp [World.cell?, h]
theorem valloc_at (W : World) (o : Obj) (n : Nat) (h : n = W.heap.size) : (W.alloc o).heap[n]? = some o := by
  subst h
  exact Array.getElem?_push_size ..
theorem TiAt.form {w : World} {S : Nat → Prop} {d : Nat} {i : Bool} {t : Vt} {v : Value} (h : TiAt w S d i t v) : v.oneCell' = true := by
  cases d with
  | zero => exact h.elim
  | succ d =>
    cases i with
    | true => rcases h with ⟨_, _, rfl⟩ | ⟨_, _, rfl⟩ | ⟨_, _, u, rfl, _⟩ <;> rfl
    | false => rcases h with ⟨_, _, rfl⟩ | ⟨_, _, rfl⟩ | ⟨_, _, rfl⟩ | ⟨_, _, rfl⟩ | ⟨_, _, rfl⟩ | ⟨_, ao, cap, rfl, _⟩ <;> rfl
theorem TiAt.iface {w : World} {S : Nat → Prop} {d : Nat} {t : Vt} {v : Value} (h : TiAt w S d false t v) (h8 : t.k ≠ 8) : ∃ T y, v = .iface T y := by
  cases d with
  | zero => exact h.elim
  | succ d =>
    rcases h with ⟨_, _, rfl⟩ | ⟨_, _, rfl⟩ | ⟨_, _, rfl⟩ | ⟨_, _, rfl⟩ | ⟨h, _, rfl⟩ | ⟨_, ao, cap, rfl, _⟩
    · exact ⟨_, _, rfl⟩
    · exact ⟨_, _, rfl⟩
    · exact ⟨_, _, rfl⟩
    · exact ⟨_, _, rfl⟩
    · exact absurd h h8
    · exact ⟨_, _, rfl⟩
theorem vinfo_parts {t : TypeId} {z : Value} {s b : Nat} (h : (Tryz.prog.info? t).map (fun i => (i.zero, i.size, i.bytes)) = some (some z, s, b)) : ∃ i, Tryz.prog.info? t = some i ∧ i.zero = some z ∧ i.size = s ∧ i.bytes = b := by
  cases hi : Tryz.prog.info? t with
  | none => rw [hi] at h; simp at h
  | some i => rw [hi] at h; simp at h; exact ⟨i, rfl, h.1, h.2.1, h.2.2⟩
theorem vinfoV : (Tryz.prog.info? 27).map (fun i => (i.zero, i.size, i.bytes)) = some (some .nilIface, 1, 16) := by kernel_rfl
theorem vinfoI : (Tryz.prog.info? 94).map (fun i => (i.zero, i.size, i.bytes)) = some (some .nilIface, 1, 16) := by kernel_rfl
/-- a value or an item is put behind a row -/
theorem app_v {sT eT : TypeId} (hT : Tryz.prog.underlying sT = some (.slice eT)) (hI : (Tryz.prog.info? eT).map (fun i => (i.zero, i.size, i.bytes)) = some (some .nilIface, 1, 16)) {w : World} {B C d : Nat} {i : Bool} {v : Value} {acc : List Vt} {t : Vt} {iv : Value} (hf : RiAt w B eT d i v acc) (hn : NiAt w C d i t iv) (hC : B ≤ C) (hv : ∀ k, v.ownBlock = some k → k < C) (hB : B ≤ w.heap.size) (hl : acc.length ≤ 1048576) :
    ∃ v' w', (∀ ty, (Builtin.append_ #[sT, sT] ty #[v, .slice (some ⟨w.heap.size, 0, none⟩) 1 1]).run Tryz.prog (w.alloc (.cells #[iv] eT)) = .ok v' w') ∧ RiAt w' B eT d i v' (acc ++ [t]) ∧ Only (fun k => v.ownBlock = some k) w w' := by
  obtain ⟨i0, hi, hz0, hz1, hz2⟩ := vinfo_parts hI
  obtain ⟨W, hW⟩ : ∃ W, W = w.alloc (.cells #[iv] eT) := ⟨_, rfl⟩
  have oo : Only (fun _ => False) w W := by rw [hW]; exact (Only.refl _ w).alloc _
  have hf2 := hf.only oo (fun _ _ h => h)
  have hn2 := hn.only oo (fun _ _ h => h)
  have hblk : W.heap[w.heap.size]? = some (.cells #[iv] eT) := by rw [hW]; exact valloc_at _ _ _ rfl
  obtain ⟨us, S, ho, ht, hS⟩ := hf2
  have h1 : iv.oneCell' = true := by obtain ⟨S2, h2, _⟩ := hn2; exact h2.form
  have key := fun ty => run_append_own_at (P := Tryz.prog) W B sT ty eT i0 .nilIface 1 16 hT hi hz0 hz1 hz2 rfl (by omega) v acc.length us ho ⟨w.heap.size, 0, none⟩ 1 1 [iv] rfl (by
      intro j u hj
      rw [addr_ad, vblk_cells hblk]
      simpa using hj) (by
      intro u hu
      simp only [List.mem_cons, List.not_mem_nil, or_false] at hu
      subst hu
      exact h1) (by unfold maxLen; omega) (by omega) (by have := oo.size; omega)
  obtain ⟨v', w', hr, own', hg, _, hat⟩ := key 0
  refine ⟨v', w', fun ty => ?_, RiAt.snoc hg ho ht hS hn2 hC hv own' hat, (oo.mono (bs' := fun k => v.ownBlock = some k) (fun _ _ h => h.elim)).trans ((Only.refl (fun k => v.ownBlock = some k) W).grown hg (fun k e _ => e)) (fun k hk e => e)⟩
  rw [← hW, ← hr]
  rfl
theorem RiAt.lower {w : World} {B C : Nat} {T : TypeId} {d : Nat} {i : Bool} {v : Value} {l : List Vt} (h : RiAt w B T d i v l) (hC : C ≤ B) : RiAt w C T d i v l := by
  obtain ⟨us, S, ho, ht, hS⟩ := h
  exact ⟨us, S, ⟨ho.1, ho.2.imp id (fun ⟨g, cp, cu, q1, q2, q3⟩ => ⟨g, cp, cu, q1, by omega, q3⟩)⟩, ht, fun b hb => ⟨by have := (hS b hb).1; omega, (hS b hb).2⟩⟩
def vV (k n : Int) (s : ByteArray) (lv : Value) : Value := .agg #[.int .i64 k, .int .i64 n, .string s, lv]
/-- what Value, ItemOf answer -/
def VaC (d F : Nat) (D : Nat) (i : Bool) : Prop := ∀ (t : Vt) (lv : Value) (w : World) (S : Nat → Prop), VsAt w S d t.l lv → SmT d t → Calls Tryz.prog F #[vV t.k t.n t.s lv] w fun e w' => ∃ v, e = .returned v ∧ Hid (NiAt w' w.heap.size D i (nm d i t) v ∧ Only (fun _ => False) w w')
/-- what Values, ItemsOf answer -/
def VlC (d F : Nat) (D : Nat) (eT : TypeId) (i : Bool) : Prop := ∀ (l : List Vt) (lv : Value) (w : World) (S : Nat → Prop), VsAt w S (d + 1) l lv → l.length ≤ 1048576 → (∀ x ∈ l, SmT d x) → Calls Tryz.prog F #[lv] w fun e w' => ∃ ao cap, e = .returned (.slice ao l.length cap) ∧ Hid (RiAt w' w.heap.size eT D i (.slice ao l.length cap) (l.map (nm d i)) ∧ Only (fun _ => False) w w')
theorem ni_leaf {w : World} {B d : Nat} {i : Bool} {t : Vt} {v : Value} (h : ∀ S, TiAt w S d i t v) : NiAt w B d i t v := ⟨fun _ => False, h _, fun b h => h.elim⟩
set_option maxRecDepth 100000 in
set_option maxHeartbeats 4000000 in
theorem value_of (d : Nat) (H1 : VlC d 32 (2 * d + 1) 27 false) (H2 : VlC d 19 (2 * d + 2) 94 true) : VaC (d + 1) 9 (2 * d + 3) false := by
  intro t lv w S hv hs
  obtain ⟨ao, cap, hlv⟩ := hv.form
  obtain ⟨k, n, s, l⟩ := t
  simp only at hlv hv
  subst hlv
  have oA : Only (fun _ => False) w (w.alloc (.cells #[.int .i64 k, .int .i64 n, .string s, .slice ao l.length cap] 24)) := (Only.refl _ w).alloc _
  have HO : Hid (Only (fun _ => False) w (w.alloc (.cells #[.int .i64 k, .int .i64 n, .string s, .slice ao l.length cap] 24))) := oA
  have HC1 : Hid _ := H1 l _ _ S (hv.only oA) hs.2.1 hs.2.2.2.2
  have HC2 : Hid _ := H2 l _ _ S (hv.only oA) hs.2.1 hs.2.2.2.2
  clear hv hs H1 H2 oA
  obtain ⟨L, hL⟩ : ∃ L, L = l.length := ⟨_, rfl⟩
  have HL : Hid (L = l.length) := hL
  rw [← hL] at HC1 HC2 HO ⊢
  clear hL
  unfold vV
  simp only
  by_cases h4 : k = 4
  · subst h4
    go_enter Tryz.func9, Tryz.ntmps9
    go_wp2_with fail
    refine (show Calls Tryz.prog 32 _ _ _ from HC1.out).mono ?_
    rintro e w1 ⟨a1, c1, rfl, G1⟩
    have HG : Hid (RiAt w1 w.heap.size 27 (2 * d + 1) false (.slice a1 L c1) (l.map (nm d false)) ∧ Only (fun _ => False) w w1) := ⟨G1.out.1.lower (by simp), HO.out.trans G1.out.2 (fun _ _ g => g)⟩
    clear HC1 HC2 G1 HO
    go_wp2
    go_ret
    refine ⟨_, rfl, ?_, HG.out.2⟩
    exact (RiAt.tree (t := nm (d + 1) false ⟨4, n, s, l⟩) (.inl rfl) rfl HG.out.1).deep (by omega)
  by_cases h5 : k = 5
  · subst h5
    go_enter Tryz.func9, Tryz.ntmps9
    go_wp2_with fail
    refine (show Calls Tryz.prog 19 _ _ _ from HC2.out).mono ?_
    rintro e w1 ⟨a1, c1, rfl, G1⟩
    have HG : Hid (RiAt w1 w.heap.size 94 (2 * d + 2) true (.slice a1 L c1) (l.map (nm d true)) ∧ Only (fun _ => False) w w1) := ⟨G1.out.1.lower (by simp), HO.out.trans G1.out.2 (fun _ _ g => g)⟩
    clear HC1 HC2 G1 HO
    go_wp2
    go_ret
    refine ⟨_, rfl, ?_, HG.out.2⟩
    exact (RiAt.tree (t := nm (d + 1) false ⟨5, n, s, l⟩) (.inr rfl) rfl HG.out.1).deep (by omega)
  clear HC1 HC2
  by_cases h1 : k = 1
  · subst h1
    go_enter Tryz.func9, Tryz.ntmps9
    go_wp2
    go_ret
    exact ⟨_, rfl, ni_leaf (fun S => .inl ⟨rfl, rfl, rfl⟩), HO.out⟩
  by_cases h2 : k = 2
  · subst h2
    go_enter Tryz.func9, Tryz.ntmps9
    go_wp2
    go_ret
    exact ⟨_, rfl, ni_leaf (fun S => .inr (.inl ⟨rfl, rfl, rfl⟩)), HO.out⟩
  by_cases h3 : k = 3
  · subst h3
    go_enter Tryz.func9, Tryz.ntmps9
    go_wp2
    go_ret
    refine ⟨_, rfl, ni_leaf (fun S => .inr (.inr (.inl ⟨rfl, rfl, ?_⟩))), HO.out⟩
    show Value.iface 78 (.agg #[.bool (n != 0)]) = .iface 78 (.agg #[.bool ((if n != 0 then (1 : Int) else 0) != 0)])
    cases n != 0 <;> rfl
  by_cases h6 : k = 6
  · subst h6
    go_enter Tryz.func9, Tryz.ntmps9
    go_wp2
    go_ret
    exact ⟨_, rfl, ni_leaf (fun S => .inr (.inr (.inr (.inl ⟨rfl, rfl, rfl⟩)))), HO.out⟩
  have e1 : (k == 1) = false := by simpa using h1
  have e2 : (k == 2) = false := by simpa using h2
  have e3 : (k == 3) = false := by simpa using h3
  have e4 : (k == 4) = false := by simpa using h4
  have e5 : (k == 5) = false := by simpa using h5
  have e6 : (k == 6) = false := by simpa using h6
  have HN : Hid (nm (d + 1) false ⟨k, n, s, l⟩ = ⟨8, 0, ⟨#[]⟩, []⟩) := by
    show (if k = 1 then _ else _) = _
    rw [if_neg h1, if_neg h2, if_neg h3, if_neg h4, if_neg h5, if_neg h6]
    rfl
  clear h1 h2 h3 h4 h5 h6
  go_enter Tryz.func9, Tryz.ntmps9
  go_wp2
  go_ret
  refine ⟨_, rfl, ?_, HO.out⟩
  rw [HN.out]
  exact ni_leaf (fun S => .inr (.inr (.inr (.inr (.inl ⟨rfl, rfl, rfl⟩)))))
set_option maxRecDepth 100000 in
set_option maxHeartbeats 4000000 in
theorem itemof_of (d : Nat) (H : VaC d 9 (2 * d + 1) false) : VaC d 39 (2 * d + 2) true := by
  intro t lv w S hv hs
  cases d with
  | zero => exact hv.elim
  | succ d =>
  obtain ⟨ao, cap, hlv⟩ := hv.form
  obtain ⟨k, n, s, l⟩ := t
  simp only at hlv hv
  subst hlv
  have oA : Only (fun _ => False) w (w.alloc (.cells #[.int .i64 k, .int .i64 n, .string s, .slice ao l.length cap] 24)) := (Only.refl _ w).alloc _
  have HO : Hid (Only (fun _ => False) w (w.alloc (.cells #[.int .i64 k, .int .i64 n, .string s, .slice ao l.length cap] 24))) := oA
  have HC : Hid _ := H ⟨k, n, s, l⟩ _ _ S (hv.only oA) hs
  clear hv hs H oA
  obtain ⟨L, hL⟩ : ∃ L, L = l.length := ⟨_, rfl⟩
  have HL : Hid (L = l.length) := hL
  rw [← hL] at HC HO ⊢
  clear hL
  unfold vV at HC ⊢
  simp only at HC ⊢
  by_cases h7 : k = 7
  · subst h7
    clear HC
    go_enter Tryz.func39, Tryz.ntmps39
    go_wp2
    go_ret
    exact ⟨_, rfl, ni_leaf (fun S => .inl ⟨rfl, rfl, rfl⟩), HO.out⟩
  have e7 : (k == 7) = false := by simpa using h7
  by_cases hk : k < 1 ∨ 6 < k
  · have HN : Hid (nm (d + 1) true ⟨k, n, s, l⟩ = ⟨8, 0, ⟨#[]⟩, []⟩) := by
      show (if k = 1 then _ else _) = _
      have n1 : ¬ k = 1 := by omega
      have n2 : ¬ k = 2 := by omega
      have n3 : ¬ k = 3 := by omega
      have n4 : ¬ k = 4 := by omega
      have n5 : ¬ k = 5 := by omega
      have n6 : ¬ k = 6 := by omega
      rw [if_neg n1, if_neg n2, if_neg n3, if_neg n4, if_neg n5, if_neg n6]
      exact if_neg (fun h => h7 h.2)
    clear HC h7
    rcases hk with hk | hk
    · go_enter Tryz.func39, Tryz.ntmps39
      go_wp2
      go_ret
      refine ⟨_, rfl, ?_, HO.out⟩
      rw [HN.out]
      exact ni_leaf (fun S => .inr (.inl ⟨rfl, rfl, rfl⟩))
    · have h1 : ¬ k < 1 := by omega
      go_enter Tryz.func39, Tryz.ntmps39
      go_wp2
      go_ret
      refine ⟨_, rfl, ?_, HO.out⟩
      rw [HN.out]
      exact ni_leaf (fun S => .inr (.inl ⟨rfl, rfl, rfl⟩))
  · have h1 : ¬ k < 1 := by omega
    have h2 : ¬ 6 < k := by omega
    have HN : Hid (nm (d + 1) true ⟨k, n, s, l⟩ = nm (d + 1) false ⟨k, n, s, l⟩ ∧ (nm (d + 1) false ⟨k, n, s, l⟩).k ≠ 7 ∧ (nm (d + 1) false ⟨k, n, s, l⟩).k ≠ 8) := by
      have : k = 1 ∨ k = 2 ∨ k = 3 ∨ k = 4 ∨ k = 5 ∨ k = 6 := by omega
      rcases this with rfl | rfl | rfl | rfl | rfl | rfl
      · exact ⟨rfl, show (1 : Int) ≠ 7 by decide, show (1 : Int) ≠ 8 by decide⟩
      · exact ⟨rfl, show (2 : Int) ≠ 7 by decide, show (2 : Int) ≠ 8 by decide⟩
      · exact ⟨rfl, show (3 : Int) ≠ 7 by decide, show (3 : Int) ≠ 8 by decide⟩
      · exact ⟨rfl, show (4 : Int) ≠ 7 by decide, show (4 : Int) ≠ 8 by decide⟩
      · exact ⟨rfl, show (5 : Int) ≠ 7 by decide, show (5 : Int) ≠ 8 by decide⟩
      · exact ⟨rfl, show (6 : Int) ≠ 7 by decide, show (6 : Int) ≠ 8 by decide⟩
    clear h7 hk
    go_enter Tryz.func39, Tryz.ntmps39
    go_wp2_with fail
    refine (show Calls Tryz.prog 9 _ _ _ from HC.out).mono ?_
    rintro e w1 ⟨v1, rfl, G1⟩
    clear HC
    obtain ⟨T1, y1, rfl⟩ : ∃ T y, v1 = .iface T y := by
      obtain ⟨S1, t1, _⟩ := G1.out.1
      exact t1.iface HN.out.2.2
    have HF : Hid (NiAt w1 w.heap.size (2 * (d + 1) + 2) true (nm (d + 1) true ⟨k, n, s, l⟩) (.iface 108 (.agg #[.iface T1 y1])) ∧ Only (fun _ => False) w w1) := by
      obtain ⟨S1, t1, s1⟩ := G1.out.1
      refine ⟨⟨S1, ?_, fun b hb => ⟨by have := (s1 b hb).1; simp at this; omega, (s1 b hb).2⟩⟩, HO.out.trans G1.out.2 (fun _ _ g => g)⟩
      rw [HN.out.1]
      exact .inr (.inr ⟨HN.out.2.1, HN.out.2.2, _, rfl, t1⟩)
    clear G1
    go_wp2
    go_ret
    exact ⟨_, rfl, HF.out⟩
end Go.Proofs.YthlloenonjagbaaGreatDoor
namespace Go.Proofs.YthlloenonjagbaaGreatDoor
open Go.RowKit
set_option linter.unusedSimpArgs false
set_option linter.unusedVariables false
def vuOf : Value → Nat
  | .int _ m => m.toNat
  | _ => 0
theorem TiAt.shape {w : World} {S : Nat → Prop} {d : Nat} {i : Bool} {t : Vt} {v : Value} (h : TiAt w S d i t v) : v = .nilIface ∨ ∃ T y, v = .iface T y := by
  cases d with
  | zero => exact h.elim
  | succ d =>
    cases i with
    | true => rcases h with ⟨_, _, rfl⟩ | ⟨_, _, rfl⟩ | ⟨_, _, u, rfl, _⟩ <;> first | exact .inl rfl | exact .inr ⟨_, _, rfl⟩
    | false => rcases h with ⟨_, _, rfl⟩ | ⟨_, _, rfl⟩ | ⟨_, _, rfl⟩ | ⟨_, _, rfl⟩ | ⟨_, _, rfl⟩ | ⟨_, ao, cap, rfl, _⟩ <;> first | exact .inl rfl | exact .inr ⟨_, _, rfl⟩
section
variable {P : Program} {op : Oper} {a : Act} {w w' : World} {K : Act → World → Prop} {Q : Exit → Act → World → Prop}
theorem vwp_append_run (s x : Operand) (t : TypeId) (ho : op.op = .call { callee := .builtin .append, args := #[s, x], argTypes := #[t, t] }) (v1 v2 v' : Value) (hs : a.eval s = v1) (hx : a.eval x = v2)
    (hr : (Builtin.append_ #[t, t] op.type #[v1, v2]).run P w = .ok v' w') (h : K (a.put op.dst v') w') : op.wp P a w K Q := by
  unfold Oper.wp
  simp [execOp, ho, resolve, invoke, builtin, hs, hx, hr, Result.andThen]
  exact h
theorem vstep_append_run {ops : Array Oper} {E : Prop} (hgd : op.guard = none) (s x : Operand) (t : TypeId) (ho : op.op = .call { callee := .builtin .append, args := #[s, x], argTypes := #[t, t] }) (v1 v2 v' : Value) (hs : a.eval s = v1) (hx : a.eval x = v2)
    (hr : ∀ ty, (Builtin.append_ #[t, t] ty #[v1, v2]).run P w = .ok v' w') (h : K (a.put op.dst v') w') : if Region.wanted op (yielded ops a.tmps) = true then Oper.wp P op a w K Q else E := by
  have hw : Region.wanted op (yielded ops a.tmps) = true := by simp [Region.wanted, hgd]
  rw [if_pos hw]
  exact vwp_append_run s x t ho v1 v2 v' hs hx (hr _) h
theorem vwpList_append_run {ops : Array Oper} {rest : List Oper} (hgd : op.guard = none) (s x : Operand) (t : TypeId) (ho : op.op = .call { callee := .builtin .append, args := #[s, x], argTypes := #[t, t] }) (v1 v2 v' : Value) (hs : a.eval s = v1) (hx : a.eval x = v2)
    (hr : ∀ ty, (Builtin.append_ #[t, t] ty #[v1, v2]).run P w = .ok v' w') (h : wpList P ops Q rest (a.put op.dst v') w') : wpList P ops Q (op :: rest) a w :=
  wpList_plain hgd fun _ hK => vwp_append_run s x t ho v1 v2 v' hs hx (hr _) (hK _ _ h)
end
set_option maxRecDepth 100000 in
set_option maxHeartbeats 4000000 in
theorem values_of (d D : Nat) (H : VaC d 9 D false) : VlC d 32 D 27 false := by
  intro l lv w S hv hlen hsm
  obtain ⟨ao, cap, rfl, hcap, hl⟩ := hv
  have HE : Hid (∀ (j : Nat) (x : Vt), l[j]? = some x → ∃ g k lx, ao = some ⟨g, k, none⟩ ∧ (w.cell? ⟨g, k + j * 4, none⟩ = some (.int .i64 x.k) ∧ w.cell? ⟨g, k + j * 4 + 1, none⟩ = some (.int .i64 x.n) ∧ w.cell? ⟨g, k + j * 4 + 2, none⟩ = some (.string x.s) ∧ w.cell? ⟨g, k + j * 4 + 3, none⟩ = some lx) ∧ ∀ w1, Only (fun _ => False) w w1 → Calls Tryz.prog 9 #[.agg #[.int .i64 x.k, .int .i64 x.n, .string x.s, lx]] w1 fun e w' => ∃ v, e = .returned v ∧ Hid (NiAt w' w1.heap.size D false (nm d false x) v ∧ Only (fun _ => False) w1 w')) := by
    intro j x hx
    obtain ⟨g, k, lx, p1, p2, p3, p4⟩ := hl j x hx
    exact ⟨g, k, lx, p1, p3, fun w1 o1 => H x lx w1 S (p4.only o1) (hsm x (List.mem_of_getElem? hx))⟩
  obtain ⟨N, hN⟩ : ∃ N, N = l.length := ⟨_, rfl⟩
  have HN : Hid (N = l.length ∧ N ≤ 1048576) := ⟨hN, by omega⟩
  rw [← hN]
  clear hl hsm hcap hN H hlen
  go_enter Tryz.func32, Tryz.ntmps32
  go_wp2
  go_loopw [3, 4] (fun r3 r4 wr => ∃ (i : Nat) (a' : Option Addr) (c' : Nat), r4 = .int .i64 (i : Int) ∧ i ≤ N ∧ r3 = .slice a' i c' ∧ Hid (RiAt wr w.heap.size 27 D false (.slice a' i c') ((l.take i).map (nm d false)) ∧ Only (fun _ => False) w wr)) (fun _ r4 _ => N - vuOf r4)
  case atStart => exact ⟨0, none, 0, rfl, Nat.zero_le _, rfl, ri_nil _ _ _ _ _, Only.refl _ _⟩
  case round =>
    obtain ⟨i, a', c', rfl, hi, rfl, HI⟩ := hrel
    obtain ⟨w1, hw1⟩ : ∃ w1, w1 = wr := ⟨_, rfl⟩
    rw [← hw1] at HI ⊢
    clear hw1
    have hNl := HN.out.1
    have hN2 := HN.out.2
    by_cases hiN : i < N
    · obtain ⟨x, hx⟩ : ∃ x, l[i]? = some x := ⟨l[i]'(by omega), List.getElem?_eq_getElem (by omega)⟩
      obtain ⟨g, k, lx, rfl, ⟨h0, h1, h2, h3⟩, hcall⟩ := HE.out i x hx
      have o1 := HI.out.2
      have c0 := o1.cell h0 (fun g => g)
      have c1 := o1.cell h1 (fun g => g)
      have c2 := o1.cell h2 (fun g => g)
      have c3 := o1.cell h3 (fun g => g)
      have HC : Hid _ := hcall w1 o1
      have HX : Hid (l[i]? = some x ∧ i < N) := ⟨hx, hiN⟩
      have i1 : (i : Int) < (N : Int) := by omega
      have i0 : (0 : Int) ≤ (i : Int) := by omega
      have i4 : i ≤ 1048576 := by omega
      obtain ⟨x0, hx0⟩ : ∃ x0, x0 = x.k := ⟨_, rfl⟩
      obtain ⟨x1, hx1⟩ : ∃ x1, x1 = x.n := ⟨_, rfl⟩
      obtain ⟨x2, hx2⟩ : ∃ x2, x2 = x.s := ⟨_, rfl⟩
      rw [← hx0, ← hx1, ← hx2] at HC
      rw [← hx0] at c0
      rw [← hx1] at c1
      rw [← hx2] at c2
      clear h0 h1 h2 h3 hcall o1 hNl hN2 hiN hi hx hx0 hx1 hx2
      go_wp2_with fail
      refine (show Calls Tryz.prog 9 _ _ _ from HC.out).mono ?_
      rintro e w2 ⟨v, rfl, G2⟩
      have o2 := G2.out.2
      have hB2 : w.heap.size ≤ w2.heap.size := Nat.le_trans HI.out.2.size o2.size
      obtain ⟨v', w3, hr, hri, o3⟩ := app_v (sT := 62) Tryz.underlying62 vinfoV (HI.out.1.only o2 (fun _ _ g => g)) G2.out.1 HI.out.2.size (fun k hk => by obtain ⟨us, S', ho, _⟩ := HI.out.1; exact (ho.lt k hk).2) hB2 (by simp; omega)
      obtain ⟨a2, c2', hv2⟩ := hri.form
      have hlen2 : ((l.take i).map (nm d false) ++ [nm d false x]).length = i + 1 := by
        have := HX.out.2
        have := HN.out.1
        simp
        omega
      rw [hlen2] at hv2
      subst hv2
      have HF : Hid (RiAt w3 w.heap.size 27 D false (.slice a2 (i + 1) c2') ((l.take (i + 1)).map (nm d false)) ∧ Only (fun _ => False) w w3) := by
        refine ⟨?_, (HI.out.2.trans o2 (fun _ _ g => g)).trans o3 (fun b hb e => ?_)⟩
        · rw [List.take_add_one, HX.out.1]
          simpa using hri
        · obtain ⟨us, S', ho, _⟩ := HI.out.1
          have := (ho.lt b e).1
          omega
      have HR : Hid _ := hr
      have hsh : v = .nilIface ∨ ∃ T y, v = .iface T y := by obtain ⟨S', t', _⟩ := G2.out.1; exact t'.shape
      clear HC HI G2 o2 hr hri o3 hB2 hlen2 c0 c1 c2 c3
      rcases hsh with rfl | ⟨T1, y1, rfl⟩
      all_goals
        go_wp2_with (at_builtin; refine vwpList_append_run rfl _ _ 62 rfl _ _ _ rfl rfl HR.out ?_)
        go_roundw
        case rel => exact ⟨i + 1, a2, c2', by go_num, by have := HX.out.2; omega, rfl, HF⟩
        case measure => simp only [vuOf]; have := HX.out.2; omega
    · obtain rfl : i = N := by omega
      have i1 : ¬ (i : Int) < (i : Int) := by omega
      have HF : Hid (RiAt w1 w.heap.size 27 D false (.slice a' i c') (l.map (nm d false)) ∧ Only (fun _ => False) w w1) := by
        have := HI.out
        rwa [show l.take i = l from by rw [hNl]; exact List.take_length] at this
      clear HI hNl hN2 hiN hi
      go_wp2
      go_ret
      exact ⟨a', c', rfl, HF⟩
set_option maxRecDepth 100000 in
set_option maxHeartbeats 4000000 in
theorem items_of (d D : Nat) (H : VaC d 39 D true) : VlC d 19 D 94 true := by
  intro l lv w S hv hlen hsm
  obtain ⟨ao, cap, rfl, hcap, hl⟩ := hv
  have HE : Hid (∀ (j : Nat) (x : Vt), l[j]? = some x → ∃ g k lx, ao = some ⟨g, k, none⟩ ∧ (w.cell? ⟨g, k + j * 4, none⟩ = some (.int .i64 x.k) ∧ w.cell? ⟨g, k + j * 4 + 1, none⟩ = some (.int .i64 x.n) ∧ w.cell? ⟨g, k + j * 4 + 2, none⟩ = some (.string x.s) ∧ w.cell? ⟨g, k + j * 4 + 3, none⟩ = some lx) ∧ ∀ w1, Only (fun _ => False) w w1 → Calls Tryz.prog 39 #[.agg #[.int .i64 x.k, .int .i64 x.n, .string x.s, lx]] w1 fun e w' => ∃ v, e = .returned v ∧ Hid (NiAt w' w1.heap.size D true (nm d true x) v ∧ Only (fun _ => False) w1 w')) := by
    intro j x hx
    obtain ⟨g, k, lx, p1, p2, p3, p4⟩ := hl j x hx
    exact ⟨g, k, lx, p1, p3, fun w1 o1 => H x lx w1 S (p4.only o1) (hsm x (List.mem_of_getElem? hx))⟩
  obtain ⟨N, hN⟩ : ∃ N, N = l.length := ⟨_, rfl⟩
  have HN : Hid (N = l.length ∧ N ≤ 1048576) := ⟨hN, by omega⟩
  rw [← hN]
  clear hl hsm hcap hN H hlen
  go_enter Tryz.func19, Tryz.ntmps19
  go_wp2
  go_loopw [3, 4] (fun r3 r4 wr => ∃ (i : Nat) (a' : Option Addr) (c' : Nat), r4 = .int .i64 (i : Int) ∧ i ≤ N ∧ r3 = .slice a' i c' ∧ Hid (RiAt wr w.heap.size 94 D true (.slice a' i c') ((l.take i).map (nm d true)) ∧ Only (fun _ => False) w wr)) (fun _ r4 _ => N - vuOf r4)
  case atStart => exact ⟨0, none, 0, rfl, Nat.zero_le _, rfl, ri_nil _ _ _ _ _, Only.refl _ _⟩
  case round =>
    obtain ⟨i, a', c', rfl, hi, rfl, HI⟩ := hrel
    obtain ⟨w1, hw1⟩ : ∃ w1, w1 = wr := ⟨_, rfl⟩
    rw [← hw1] at HI ⊢
    clear hw1
    have hNl := HN.out.1
    have hN2 := HN.out.2
    by_cases hiN : i < N
    · obtain ⟨x, hx⟩ : ∃ x, l[i]? = some x := ⟨l[i]'(by omega), List.getElem?_eq_getElem (by omega)⟩
      obtain ⟨g, k, lx, rfl, ⟨h0, h1, h2, h3⟩, hcall⟩ := HE.out i x hx
      have o1 := HI.out.2
      have c0 := o1.cell h0 (fun g => g)
      have c1 := o1.cell h1 (fun g => g)
      have c2 := o1.cell h2 (fun g => g)
      have c3 := o1.cell h3 (fun g => g)
      have HC : Hid _ := hcall w1 o1
      have HX : Hid (l[i]? = some x ∧ i < N) := ⟨hx, hiN⟩
      have i1 : (i : Int) < (N : Int) := by omega
      have i0 : (0 : Int) ≤ (i : Int) := by omega
      have i4 : i ≤ 1048576 := by omega
      obtain ⟨x0, hx0⟩ : ∃ x0, x0 = x.k := ⟨_, rfl⟩
      obtain ⟨x1, hx1⟩ : ∃ x1, x1 = x.n := ⟨_, rfl⟩
      obtain ⟨x2, hx2⟩ : ∃ x2, x2 = x.s := ⟨_, rfl⟩
      rw [← hx0, ← hx1, ← hx2] at HC
      rw [← hx0] at c0
      rw [← hx1] at c1
      rw [← hx2] at c2
      clear h0 h1 h2 h3 hcall o1 hNl hN2 hiN hi hx hx0 hx1 hx2
      go_wp2_with fail
      refine (show Calls Tryz.prog 39 _ _ _ from HC.out).mono ?_
      rintro e w2 ⟨v, rfl, G2⟩
      have o2 := G2.out.2
      have hB2 : w.heap.size ≤ w2.heap.size := Nat.le_trans HI.out.2.size o2.size
      obtain ⟨v', w3, hr, hri, o3⟩ := app_v (sT := 43) Tryz.underlying43 vinfoI (HI.out.1.only o2 (fun _ _ g => g)) G2.out.1 HI.out.2.size (fun k hk => by obtain ⟨us, S', ho, _⟩ := HI.out.1; exact (ho.lt k hk).2) hB2 (by simp; omega)
      obtain ⟨a2, c2', hv2⟩ := hri.form
      have hlen2 : ((l.take i).map (nm d true) ++ [nm d true x]).length = i + 1 := by
        have := HX.out.2
        have := HN.out.1
        simp
        omega
      rw [hlen2] at hv2
      subst hv2
      have HF : Hid (RiAt w3 w.heap.size 94 D true (.slice a2 (i + 1) c2') ((l.take (i + 1)).map (nm d true)) ∧ Only (fun _ => False) w w3) := by
        refine ⟨?_, (HI.out.2.trans o2 (fun _ _ g => g)).trans o3 (fun b hb e => ?_)⟩
        · rw [List.take_add_one, HX.out.1]
          simpa using hri
        · obtain ⟨us, S', ho, _⟩ := HI.out.1
          have := (ho.lt b e).1
          omega
      have HR : Hid _ := hr
      have hsh : v = .nilIface ∨ ∃ T y, v = .iface T y := by obtain ⟨S', t', _⟩ := G2.out.1; exact t'.shape
      clear HC HI G2 o2 hr hri o3 hB2 hlen2 c0 c1 c2 c3
      rcases hsh with rfl | ⟨T1, y1, rfl⟩
      all_goals
        go_wp2_with (at_builtin; refine vwpList_append_run rfl _ _ 43 rfl _ _ _ rfl rfl HR.out ?_)
        go_roundw
        case rel => exact ⟨i + 1, a2, c2', by go_num, by have := HX.out.2; omega, rfl, HF⟩
        case measure => simp only [vuOf]; have := HX.out.2; omega
    · obtain rfl : i = N := by omega
      have i1 : ¬ (i : Int) < (i : Int) := by omega
      have HF : Hid (RiAt w1 w.heap.size 94 D true (.slice a' i c') (l.map (nm d true)) ∧ Only (fun _ => False) w w1) := by
        have := HI.out
        rwa [show l.take i = l from by rw [hNl]; exact List.take_length] at this
      clear HI hNl hN2 hiN hi
      go_wp2
      go_ret
      exact ⟨a', c', rfl, HF⟩
/-- all of them -/
theorem value_all : ∀ d : Nat, VaC d 9 (2 * d + 1) false
  | 0 => fun t lv w S h => h.elim
  | d + 1 => value_of d (values_of d _ (value_all d)) (items_of d _ (itemof_of d (value_all d)))
theorem itemof_all (d : Nat) : VaC d 39 (2 * d + 2) true := itemof_of d (value_all d)
theorem values_all (d : Nat) : VlC d 32 (2 * d + 1) 27 false := values_of d _ (value_all d)
theorem items_all (d : Nat) : VlC d 19 (2 * d + 2) 94 true := items_of d _ (itemof_all d)
end Go.Proofs.YthlloenonjagbaaGreatDoor
