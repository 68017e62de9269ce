/- Trees as values: Value, Values, ItemOf, ItemsOf. Trees as values, many of them: Values, ItemsOf; all of them, whatever their depth. parse's writer: a builder and a flag. parse's writer: what is written. parse's writer: words, and the whole text. The text of the number 7, as parse writes it. The text of the number 7. -/
import Derived.Test.YtmpfbjmaiddigaaGreatDoorGae
import Derived.Test.YtmpfbjmaiddigaaGreatDoorGac
namespace Go.Proofs.YtmpfbjmaiddigaaGreatDoor
open Go.RowKit
set_option linter.unusedSimpArgs false
set_option linter.unusedVariables false
/-- what a tree is as a value (i: as an item) -/
def nm : Nat → Bool → Vt → Vt
  | 0, _, _ => ⟨8, 0, ⟨#[]⟩, []⟩
  | d + 1, i, t =>
    if t.k = 1 then ⟨1, t.n, ⟨#[]⟩, []⟩ else if t.k = 2 then ⟨2, 0, t.s, []⟩ else if t.k = 3 then ⟨3, if t.n != 0 then 1 else 0, ⟨#[]⟩, []⟩
    else if t.k = 4 then ⟨4, 0, ⟨#[]⟩, t.l.map (nm d false)⟩ else if t.k = 5 then ⟨5, 0, ⟨#[]⟩, t.l.map (nm d true)⟩
    else if t.k = 6 then ⟨6, t.n, ⟨#[]⟩, []⟩ else if i = true ∧ t.k = 7 then ⟨7, 0, t.s, []⟩ else ⟨8, 0, ⟨#[]⟩, []⟩
theorem vblk_cells {w : World} {B : Nat} {c : Array Value} {t : TypeId} (h : w.heap[B]? = some (.cells c t)) (j : Nat) : w.cell? ⟨B, j, none⟩ = c[j]? := by
  simp [World.cell?, h]
theorem valloc_at (W : World) (o : Obj) (n : Nat) (h : n = W.heap.size) : (W.alloc o).heap[n]? = some o := by
  subst h
  exact Array.getElem?_push_size ..
theorem TiAt.form {w : World} {S : Nat → Prop} {d : Nat} {i : Bool} {t : Vt} {v : Value} (h : TiAt w S d i t v) : v.oneCell' = true := by
  cases d with
  | zero => exact h.elim
  | succ d =>
    cases i with
    | true => rcases h with ⟨_, _, rfl⟩ | ⟨_, _, rfl⟩ | ⟨_, _, u, rfl, _⟩ <;> rfl
    | false => rcases h with ⟨_, _, rfl⟩ | ⟨_, _, rfl⟩ | ⟨_, _, rfl⟩ | ⟨_, _, rfl⟩ | ⟨_, _, rfl⟩ | ⟨_, ao, cap, rfl, _⟩ <;> rfl
theorem TiAt.iface {w : World} {S : Nat → Prop} {d : Nat} {t : Vt} {v : Value} (h : TiAt w S d false t v) (h8 : t.k ≠ 8) : ∃ T y, v = .iface T y := by
  cases d with
  | zero => exact h.elim
  | succ d =>
    rcases h with ⟨_, _, rfl⟩ | ⟨_, _, rfl⟩ | ⟨_, _, rfl⟩ | ⟨_, _, rfl⟩ | ⟨h, _, rfl⟩ | ⟨_, ao, cap, rfl, _⟩
    · exact ⟨_, _, rfl⟩
    · exact ⟨_, _, rfl⟩
    · exact ⟨_, _, rfl⟩
    · exact ⟨_, _, rfl⟩
    · exact absurd h h8
    · exact ⟨_, _, rfl⟩
theorem vinfo_parts {t : TypeId} {z : Value} {s b : Nat} (h : (Tryz.prog.info? t).map (fun i => (i.zero, i.size, i.bytes)) = some (some z, s, b)) : ∃ i, Tryz.prog.info? t = some i ∧ i.zero = some z ∧ i.size = s ∧ i.bytes = b := by
  cases hi : Tryz.prog.info? t with
  | none => rw [hi] at h; simp at h
  | some i => rw [hi] at h; simp at h; exact ⟨i, rfl, h.1, h.2.1, h.2.2⟩
theorem vinfoV : (Tryz.prog.info? 79).map (fun i => (i.zero, i.size, i.bytes)) = some (some .nilIface, 1, 16) := by kernel_rfl
theorem vinfoI : (Tryz.prog.info? 36).map (fun i => (i.zero, i.size, i.bytes)) = some (some .nilIface, 1, 16) := by kernel_rfl
/-- a value or an item is put behind a row -/
theorem app_v {sT eT : TypeId} (hT : Tryz.prog.underlying sT = some (.slice eT)) (hI : (Tryz.prog.info? eT).map (fun i => (i.zero, i.size, i.bytes)) = some (some .nilIface, 1, 16)) {w : World} {B C d : Nat} {i : Bool} {v : Value} {acc : List Vt} {t : Vt} {iv : Value} (hf : RiAt w B eT d i v acc) (hn : NiAt w C d i t iv) (hC : B ≤ C) (hv : ∀ k, v.ownBlock = some k → k < C) (hB : B ≤ w.heap.size) (hl : acc.length ≤ 2513169434900) :
    ∃ v' w', (∀ ty, (Builtin.append_ #[sT, sT] ty #[v, .slice (some ⟨w.heap.size, 0, none⟩) 1 1]).run Tryz.prog (w.alloc (.cells #[iv] eT)) = .ok v' w') ∧ RiAt w' B eT d i v' (acc ++ [t]) ∧ Only (fun k => v.ownBlock = some k) w w' := by
  obtain ⟨i0, hi, hz0, hz1, hz2⟩ := vinfo_parts hI
  obtain ⟨W, hW⟩ : ∃ W, W = w.alloc (.cells #[iv] eT) := ⟨_, rfl⟩
  have oo : Only (fun _ => False) w W := by rw [hW]; exact (Only.refl _ w).alloc _
  have hf2 := hf.only oo (fun _ _ h => h)
  have hn2 := hn.only oo (fun _ _ h => h)
  have hblk : W.heap[w.heap.size]? = some (.cells #[iv] eT) := by rw [hW]; exact valloc_at _ _ _ rfl
  obtain ⟨us, S, ho, ht, hS⟩ := hf2
  have h1 : iv.oneCell' = true := by obtain ⟨S2, h2, _⟩ := hn2; exact h2.form
  have key := fun ty => run_append_own_at (P := Tryz.prog) W B sT ty eT i0 .nilIface 1 16 hT hi hz0 hz1 hz2 rfl (by omega) v acc.length us ho ⟨w.heap.size, 0, none⟩ 1 1 [iv] rfl (by
      intro j u hj
      rw [addr_ad, vblk_cells hblk]
      simpa using hj) (by
      intro u hu
      simp only [List.mem_cons, List.not_mem_nil, or_false] at hu
      subst hu
      exact h1) (by unfold maxLen; omega) (by omega) (by have := oo.size; omega)
  obtain ⟨v', w', hr, own', hg, _, hat⟩ := key 0
  refine ⟨v', w', fun ty => ?_, RiAt.snoc hg ho ht hS hn2 hC hv own' hat, (oo.mono (bs' := fun k => v.ownBlock = some k) (fun _ _ h => h.elim)).trans ((Only.refl (fun k => v.ownBlock = some k) W).grown hg (fun k e _ => e)) (fun k hk e => e)⟩
  rw [← hW, ← hr]
  rfl
theorem RiAt.lower {w : World} {B C : Nat} {T : TypeId} {d : Nat} {i : Bool} {v : Value} {l : List Vt} (h : RiAt w B T d i v l) (hC : C ≤ B) : RiAt w C T d i v l := by
  obtain ⟨us, S, ho, ht, hS⟩ := h
  exact ⟨us, S, ⟨ho.1, ho.2.imp id (fun ⟨g, cp, cu, q1, q2, q3⟩ => ⟨g, cp, cu, q1, by omega, q3⟩)⟩, ht, fun b hb => ⟨by have := (hS b hb).1; omega, (hS b hb).2⟩⟩
def vV (k n : Int) (s : ByteArray) (lv : Value) : Value := .agg #[.int .i64 k, .int .i64 n, .string s, lv]
/-- what Value, ItemOf answer -/
def VaC (d F : Nat) (D : Nat) (i : Bool) : Prop := ∀ (t : Vt) (lv : Value) (w : World) (S : Nat → Prop), VsAt w S d t.l lv → SmT d t → Calls Tryz.prog F #[vV t.k t.n t.s lv] w fun e w' => ∃ v, e = .returned v ∧ Hid (NiAt w' w.heap.size D i (nm d i t) v ∧ Only (fun _ => False) w w')
/-- what Values, ItemsOf answer -/
def VlC (d F : Nat) (D : Nat) (eT : TypeId) (i : Bool) : Prop := ∀ (l : List Vt) (lv : Value) (w : World) (S : Nat → Prop), VsAt w S (d + 1) l lv → l.length ≤ 2513169434900 → (∀ x ∈ l, SmT d x) → Calls Tryz.prog F #[lv] w fun e w' => ∃ ao cap, e = .returned (.slice ao l.length cap) ∧ Hid (RiAt w' w.heap.size eT D i (.slice ao l.length cap) (l.map (nm d i)) ∧ Only (fun _ => False) w w')
theorem ni_leaf {w : World} {B d : Nat} {i : Bool} {t : Vt} {v : Value} (h : ∀ S, TiAt w S d i t v) : NiAt w B d i t v := ⟨fun _ => False, h _, fun b h => h.elim⟩
set_option maxRecDepth 100000 in
set_option maxHeartbeats 4000000 in
theorem value_of (d : Nat) (H1 : VlC d 47 (2 * d + 1) 79 false) (H2 : VlC d 5 (2 * d + 2) 36 true) : VaC (d + 1) 30 (2 * d + 3) false := by
  intro t lv w S hv hs
  obtain ⟨ao, cap, hlv⟩ := hv.form
  obtain ⟨k, n, s, l⟩ := t
  simp only at hlv hv
  subst hlv
  have oA : Only (fun _ => False) w (w.alloc (.cells #[.int .i64 k, .int .i64 n, .string s, .slice ao l.length cap] 54)) := (Only.refl _ w).alloc _
  have HO : Hid (Only (fun _ => False) w (w.alloc (.cells #[.int .i64 k, .int .i64 n, .string s, .slice ao l.length cap] 54))) := oA
  have HC1 : Hid _ := H1 l _ _ S (hv.only oA) hs.2.1 hs.2.2.2.2
  have HC2 : Hid _ := H2 l _ _ S (hv.only oA) hs.2.1 hs.2.2.2.2
  clear hv hs H1 H2 oA
  obtain ⟨L, hL⟩ : ∃ L, L = l.length := ⟨_, rfl⟩
  have HL : Hid (L = l.length) := hL
  rw [← hL] at HC1 HC2 HO ⊢
  clear hL
  unfold vV
  simp only
  by_cases h4 : k = 4
  · subst h4
    go_enter Tryz.func30, Tryz.ntmps30
    go_wp2_with fail
    refine (show Calls Tryz.prog 47 _ _ _ from HC1.out).mono ?_
    rintro e w1 ⟨a1, c1, rfl, G1⟩
    have HG : Hid (RiAt w1 w.heap.size 79 (2 * d + 1) false (.slice a1 L c1) (l.map (nm d false)) ∧ Only (fun _ => False) w w1) := ⟨G1.out.1.lower (by simp), HO.out.trans G1.out.2 (fun _ _ g => g)⟩
    clear HC1 HC2 G1 HO
    go_wp2
    go_ret
    refine ⟨_, rfl, ?_, HG.out.2⟩
    exact (RiAt.tree (t := nm (d + 1) false ⟨4, n, s, l⟩) (.inl rfl) rfl HG.out.1).deep (by omega)
  by_cases h5 : k = 5
  · subst h5
    go_enter Tryz.func30, Tryz.ntmps30
    go_wp2_with fail
    refine (show Calls Tryz.prog 5 _ _ _ from HC2.out).mono ?_
    rintro e w1 ⟨a1, c1, rfl, G1⟩
    have HG : Hid (RiAt w1 w.heap.size 36 (2 * d + 2) true (.slice a1 L c1) (l.map (nm d true)) ∧ Only (fun _ => False) w w1) := ⟨G1.out.1.lower (by simp), HO.out.trans G1.out.2 (fun _ _ g => g)⟩
    clear HC1 HC2 G1 HO
    go_wp2
    go_ret
    refine ⟨_, rfl, ?_, HG.out.2⟩
    exact (RiAt.tree (t := nm (d + 1) false ⟨5, n, s, l⟩) (.inr rfl) rfl HG.out.1).deep (by omega)
  clear HC1 HC2
  by_cases h1 : k = 1
  · subst h1
    go_enter Tryz.func30, Tryz.ntmps30
    go_wp2
    go_ret
    exact ⟨_, rfl, ni_leaf (fun S => .inl ⟨rfl, rfl, rfl⟩), HO.out⟩
  by_cases h2 : k = 2
  · subst h2
    go_enter Tryz.func30, Tryz.ntmps30
    go_wp2
    go_ret
    exact ⟨_, rfl, ni_leaf (fun S => .inr (.inl ⟨rfl, rfl, rfl⟩)), HO.out⟩
  by_cases h3 : k = 3
  · subst h3
    go_enter Tryz.func30, Tryz.ntmps30
    go_wp2
    go_ret
    refine ⟨_, rfl, ni_leaf (fun S => .inr (.inr (.inl ⟨rfl, rfl, ?_⟩))), HO.out⟩
    show Value.iface 120 (.agg #[.bool (n != 0)]) = .iface 120 (.agg #[.bool ((if n != 0 then (1 : Int) else 0) != 0)])
    cases n != 0 <;> rfl
  by_cases h6 : k = 6
  · subst h6
    go_enter Tryz.func30, Tryz.ntmps30
    go_wp2
    go_ret
    exact ⟨_, rfl, ni_leaf (fun S => .inr (.inr (.inr (.inl ⟨rfl, rfl, rfl⟩)))), HO.out⟩
  have e1 : (k == 1) = false := by simpa using h1
  have e2 : (k == 2) = false := by simpa using h2
  have e3 : (k == 3) = false := by simpa using h3
  have e4 : (k == 4) = false := by simpa using h4
  have e5 : (k == 5) = false := by simpa using h5
  have e6 : (k == 6) = false := by simpa using h6
  have HN : Hid (nm (d + 1) false ⟨k, n, s, l⟩ = ⟨8, 0, ⟨#[]⟩, []⟩) := by
    show (if k = 1 then _ else _) = _
    rw [if_neg h1, if_neg h2, if_neg h3, if_neg h4, if_neg h5, if_neg h6]
    rfl
  clear h1 h2 h3 h4 h5 h6
  go_enter Tryz.func30, Tryz.ntmps30
  go_wp2
  go_ret
  refine ⟨_, rfl, ?_, HO.out⟩
  rw [HN.out]
  exact ni_leaf (fun S => .inr (.inr (.inr (.inr (.inl ⟨rfl, rfl, rfl⟩)))))
set_option maxRecDepth 100000 in
set_option maxHeartbeats 4000000 in
theorem itemof_of (d : Nat) (H : VaC d 30 (2 * d + 1) false) : VaC d 15 (2 * d + 2) true := by
  intro t lv w S hv hs
  cases d with
  | zero => exact hv.elim
  | succ d =>
  obtain ⟨ao, cap, hlv⟩ := hv.form
  obtain ⟨k, n, s, l⟩ := t
  simp only at hlv hv
  subst hlv
  have oA : Only (fun _ => False) w (w.alloc (.cells #[.int .i64 k, .int .i64 n, .string s, .slice ao l.length cap] 54)) := (Only.refl _ w).alloc _
  have HO : Hid (Only (fun _ => False) w (w.alloc (.cells #[.int .i64 k, .int .i64 n, .string s, .slice ao l.length cap] 54))) := oA
  have HC : Hid _ := H ⟨k, n, s, l⟩ _ _ S (hv.only oA) hs
  clear hv hs H oA
  obtain ⟨L, hL⟩ : ∃ L, L = l.length := ⟨_, rfl⟩
  have HL : Hid (L = l.length) := hL
  rw [← hL] at HC HO ⊢
  clear hL
  unfold vV at HC ⊢
  simp only at HC ⊢
  by_cases h7 : k = 7
  · subst h7
    clear HC
    go_enter Tryz.func15, Tryz.ntmps15
    go_wp2
    go_ret
    exact ⟨_, rfl, ni_leaf (fun S => .inl ⟨rfl, rfl, rfl⟩), HO.out⟩
  have e7 : (k == 7) = false := by simpa using h7
  by_cases hk : k < 1 ∨ 6 < k
  · have HN : Hid (nm (d + 1) true ⟨k, n, s, l⟩ = ⟨8, 0, ⟨#[]⟩, []⟩) := by
      show (if k = 1 then _ else _) = _
      have n1 : ¬ k = 1 := by omega
      have n2 : ¬ k = 2 := by omega
      have n3 : ¬ k = 3 := by omega
      have n4 : ¬ k = 4 := by omega
      have n5 : ¬ k = 5 := by omega
      have n6 : ¬ k = 6 := by omega
      rw [if_neg n1, if_neg n2, if_neg n3, if_neg n4, if_neg n5, if_neg n6]
      exact if_neg (fun h => h7 h.2)
    clear HC h7
    rcases hk with hk | hk
    · go_enter Tryz.func15, Tryz.ntmps15
      go_wp2
      go_ret
      refine ⟨_, rfl, ?_, HO.out⟩
      rw [HN.out]
      exact ni_leaf (fun S => .inr (.inl ⟨rfl, rfl, rfl⟩))
    · have h1 : ¬ k < 1 := by omega
      go_enter Tryz.func15, Tryz.ntmps15
      go_wp2
      go_ret
      refine ⟨_, rfl, ?_, HO.out⟩
      rw [HN.out]
      exact ni_leaf (fun S => .inr (.inl ⟨rfl, rfl, rfl⟩))
  · have h1 : ¬ k < 1 := by omega
    have h2 : ¬ 6 < k := by omega
    have HN : Hid (nm (d + 1) true ⟨k, n, s, l⟩ = nm (d + 1) false ⟨k, n, s, l⟩ ∧ (nm (d + 1) false ⟨k, n, s, l⟩).k ≠ 7 ∧ (nm (d + 1) false ⟨k, n, s, l⟩).k ≠ 8) := by
      have : k = 1 ∨ k = 2 ∨ k = 3 ∨ k = 4 ∨ k = 5 ∨ k = 6 := by omega
      rcases this with rfl | rfl | rfl | rfl | rfl | rfl
      · exact ⟨rfl, show (1 : Int) ≠ 7 by decide, show (1 : Int) ≠ 8 by decide⟩
      · exact ⟨rfl, show (2 : Int) ≠ 7 by decide, show (2 : Int) ≠ 8 by decide⟩
      · exact ⟨rfl, show (3 : Int) ≠ 7 by decide, show (3 : Int) ≠ 8 by decide⟩
      · exact ⟨rfl, show (4 : Int) ≠ 7 by decide, show (4 : Int) ≠ 8 by decide⟩
      · exact ⟨rfl, show (5 : Int) ≠ 7 by decide, show (5 : Int) ≠ 8 by decide⟩
      · exact ⟨rfl, show (6 : Int) ≠ 7 by decide, show (6 : Int) ≠ 8 by decide⟩
    clear h7 hk
    go_enter Tryz.func15, Tryz.ntmps15
    go_wp2_with fail
    refine (show Calls Tryz.prog 30 _ _ _ from HC.out).mono ?_
    rintro e w1 ⟨v1, rfl, G1⟩
    clear HC
    obtain ⟨T1, y1, rfl⟩ : ∃ T y, v1 = .iface T y := by
      obtain ⟨S1, t1, _⟩ := G1.out.1
      exact t1.iface HN.out.2.2
    have HF : Hid (NiAt w1 w.heap.size (2 * (d + 1) + 2) true (nm (d + 1) true ⟨k, n, s, l⟩) (.iface 81 (.agg #[.iface T1 y1])) ∧ Only (fun _ => False) w w1) := by
      obtain ⟨S1, t1, s1⟩ := G1.out.1
      refine ⟨⟨S1, ?_, fun b hb => ⟨by have := (s1 b hb).1; simp at this; omega, (s1 b hb).2⟩⟩, HO.out.trans G1.out.2 (fun _ _ g => g)⟩
      rw [HN.out.1]
      exact .inr (.inr ⟨HN.out.2.1, HN.out.2.2, _, rfl, t1⟩)
    clear G1
    go_wp2
    go_ret
    exact ⟨_, rfl, HF.out⟩
end Go.Proofs.YtmpfbjmaiddigaaGreatDoor
namespace Go.Proofs.YtmpfbjmaiddigaaGreatDoor
open Go.RowKit
set_option linter.unusedSimpArgs false
set_option linter.unusedVariables false
def vuOf : Value → Nat
  | .int _ m => m.toNat
  | _ => 0
theorem TiAt.shape {w : World} {S : Nat → Prop} {d : Nat} {i : Bool} {t : Vt} {v : Value} (h : TiAt w S d i t v) : v = .nilIface ∨ ∃ T y, v = .iface T y := by
  cases d with
  | zero => exact h.elim
  | succ d =>
    cases i with
    | true => rcases h with ⟨_, _, rfl⟩ | ⟨_, _, rfl⟩ | ⟨_, _, u, rfl, _⟩ <;> first | exact .inl rfl | exact .inr ⟨_, _, rfl⟩
    | false => rcases h with ⟨_, _, rfl⟩ | ⟨_, _, rfl⟩ | ⟨_, _, rfl⟩ | ⟨_, _, rfl⟩ | ⟨_, _, rfl⟩ | ⟨_, ao, cap, rfl, _⟩ <;> first | exact .inl rfl | exact .inr ⟨_, _, rfl⟩
section
variable {P : Program} {op : Oper} {a : Act} {w w' : World} {K : Act → World → Prop} {Q : Exit → Act → World → Prop}
theorem vwp_append_run (s x : Operand) (t : TypeId) (ho : op.op = .call { callee := .builtin .append, args := #[s, x], argTypes := #[t, t] }) (v1 v2 v' : Value) (hs : a.eval s = v1) (hx : a.eval x = v2)
    (hr : (Builtin.append_ #[t, t] op.type #[v1, v2]).run P w = .ok v' w') (h : K (a.put op.dst v') w') : op.wp P a w K Q := by
  unfold Oper.wp
  simp [execOp, ho, resolve, invoke, builtin, hs, hx, hr, Result.andThen]
  exact h
theorem vstep_append_run {ops : Array Oper} {E : Prop} (hgd : op.guard = none) (s x : Operand) (t : TypeId) (ho : op.op = .call { callee := .builtin .append, args := #[s, x], argTypes := #[t, t] }) (v1 v2 v' : Value) (hs : a.eval s = v1) (hx : a.eval x = v2)
    (hr : ∀ ty, (Builtin.append_ #[t, t] ty #[v1, v2]).run P w = .ok v' w') (h : K (a.put op.dst v') w') : if Region.wanted op (yielded ops a.tmps) = true then Oper.wp P op a w K Q else E := by
  have hw : Region.wanted op (yielded ops a.tmps) = true := by simp [Region.wanted, hgd]
  rw [if_pos hw]
  exact vwp_append_run s x t ho v1 v2 v' hs hx (hr _) h
theorem vwpList_append_run {ops : Array Oper} {rest : List Oper} (hgd : op.guard = none) (s x : Operand) (t : TypeId) (ho : op.op = .call { callee := .builtin .append, args := #[s, x], argTypes := #[t, t] }) (v1 v2 v' : Value) (hs : a.eval s = v1) (hx : a.eval x = v2)
    (hr : ∀ ty, (Builtin.append_ #[t, t] ty #[v1, v2]).run P w = .ok v' w') (h : wpList P ops Q rest (a.put op.dst v') w') : wpList P ops Q (op :: rest) a w :=
  wpList_plain hgd fun _ hK => vwp_append_run s x t ho v1 v2 v' hs hx (hr _) (hK _ _ h)
end
set_option maxRecDepth 100000 in
set_option maxHeartbeats 4000000 in
theorem values_of (d D : Nat) (H : VaC d 30 D false) : VlC d 47 D 79 false := by
  intro l lv w S hv hlen hsm
  obtain ⟨ao, cap, rfl, hcap, hl⟩ := hv
  have HE : Hid (∀ (j : Nat) (x : Vt), l[j]? = some x → ∃ g k lx, ao = some ⟨g, k, none⟩ ∧ (w.cell? ⟨g, k + j * 4, none⟩ = some (.int .i64 x.k) ∧ w.cell? ⟨g, k + j * 4 + 1, none⟩ = some (.int .i64 x.n) ∧ w.cell? ⟨g, k + j * 4 + 2, none⟩ = some (.string x.s) ∧ w.cell? ⟨g, k + j * 4 + 3, none⟩ = some lx) ∧ ∀ w1, Only (fun _ => False) w w1 → Calls Tryz.prog 30 #[.agg #[.int .i64 x.k, .int .i64 x.n, .string x.s, lx]] w1 fun e w' => ∃ v, e = .returned v ∧ Hid (NiAt w' w1.heap.size D false (nm d false x) v ∧ Only (fun _ => False) w1 w')) := by
    intro j x hx
    obtain ⟨g, k, lx, p1, p2, p3, p4⟩ := hl j x hx
    exact ⟨g, k, lx, p1, p3, fun w1 o1 => H x lx w1 S (p4.only o1) (hsm x (List.mem_of_getElem? hx))⟩
  obtain ⟨N, hN⟩ : ∃ N, N = l.length := ⟨_, rfl⟩
  have HN : Hid (N = l.length ∧ N ≤ 2513169434900) := ⟨hN, by omega⟩
  rw [← hN]
  clear hl hsm hcap hN H hlen
  go_enter Tryz.func47, Tryz.ntmps47
  go_wp2
  go_loopw [3, 4] (fun r3 r4 wr => ∃ (i : Nat) (a' : Option Addr) (c' : Nat), r4 = .int .i64 (i : Int) ∧ i ≤ N ∧ r3 = .slice a' i c' ∧ Hid (RiAt wr w.heap.size 79 D false (.slice a' i c') ((l.take i).map (nm d false)) ∧ Only (fun _ => False) w wr)) (fun _ r4 _ => N - vuOf r4)
  case atStart => exact ⟨0, none, 0, rfl, Nat.zero_le _, rfl, ri_nil _ _ _ _ _, Only.refl _ _⟩
  case round =>
    obtain ⟨i, a', c', rfl, hi, rfl, HI⟩ := hrel
    obtain ⟨w1, hw1⟩ : ∃ w1, w1 = wr := ⟨_, rfl⟩
    rw [← hw1] at HI ⊢
    clear hw1
    have hNl := HN.out.1
    have hN2 := HN.out.2
    by_cases hiN : i < N
    · obtain ⟨x, hx⟩ : ∃ x, l[i]? = some x := ⟨l[i]'(by omega), List.getElem?_eq_getElem (by omega)⟩
      obtain ⟨g, k, lx, rfl, ⟨h0, h1, h2, h3⟩, hcall⟩ := HE.out i x hx
      have o1 := HI.out.2
      have c0 := o1.cell h0 (fun g => g)
      have c1 := o1.cell h1 (fun g => g)
      have c2 := o1.cell h2 (fun g => g)
      have c3 := o1.cell h3 (fun g => g)
      have HC : Hid _ := hcall w1 o1
      have HX : Hid (l[i]? = some x ∧ i < N) := ⟨hx, hiN⟩
      have i1 : (i : Int) < (N : Int) := by omega
      have i0 : (0 : Int) ≤ (i : Int) := by omega
      have i4 : i ≤ 2513169434900 := by omega
      obtain ⟨x0, hx0⟩ : ∃ x0, x0 = x.k := ⟨_, rfl⟩
      obtain ⟨x1, hx1⟩ : ∃ x1, x1 = x.n := ⟨_, rfl⟩
      obtain ⟨x2, hx2⟩ : ∃ x2, x2 = x.s := ⟨_, rfl⟩
      rw [← hx0, ← hx1, ← hx2] at HC
      rw [← hx0] at c0
      rw [← hx1] at c1
      rw [← hx2] at c2
      clear h0 h1 h2 h3 hcall o1 hNl hN2 hiN hi hx hx0 hx1 hx2
      go_wp2_with fail
      refine (show Calls Tryz.prog 30 _ _ _ from HC.out).mono ?_
      rintro e w2 ⟨v, rfl, G2⟩
      have o2 := G2.out.2
      have hB2 : w.heap.size ≤ w2.heap.size := Nat.le_trans HI.out.2.size o2.size
      obtain ⟨v', w3, hr, hri, o3⟩ := app_v (sT := 83) Tryz.underlying83 vinfoV (HI.out.1.only o2 (fun _ _ g => g)) G2.out.1 HI.out.2.size (fun k hk => by obtain ⟨us, S', ho, _⟩ := HI.out.1; exact (ho.lt k hk).2) hB2 (by simp; omega)
      obtain ⟨a2, c2', hv2⟩ := hri.form
      have hlen2 : ((l.take i).map (nm d false) ++ [nm d false x]).length = i + 1 := by
        have := HX.out.2
        have := HN.out.1
        simp
        omega
      rw [hlen2] at hv2
      subst hv2
      have HF : Hid (RiAt w3 w.heap.size 79 D false (.slice a2 (i + 1) c2') ((l.take (i + 1)).map (nm d false)) ∧ Only (fun _ => False) w w3) := by
        refine ⟨?_, (HI.out.2.trans o2 (fun _ _ g => g)).trans o3 (fun b hb e => ?_)⟩
        · rw [List.take_add_one, HX.out.1]
          simpa using hri
        · obtain ⟨us, S', ho, _⟩ := HI.out.1
          have := (ho.lt b e).1
          omega
      have HR : Hid _ := hr
      have hsh : v = .nilIface ∨ ∃ T y, v = .iface T y := by obtain ⟨S', t', _⟩ := G2.out.1; exact t'.shape
      clear HC HI G2 o2 hr hri o3 hB2 hlen2 c0 c1 c2 c3
      rcases hsh with rfl | ⟨T1, y1, rfl⟩
      all_goals
        go_wp2_with (at_builtin; refine vwpList_append_run rfl _ _ 83 rfl _ _ _ rfl rfl HR.out ?_)
        go_roundw
        case rel => exact ⟨i + 1, a2, c2', by go_num, by have := HX.out.2; omega, rfl, HF⟩
        case measure => simp only [vuOf]; have := HX.out.2; omega
    · obtain rfl : i = N := by omega
      have i1 : ¬ (i : Int) < (i : Int) := by omega
      have HF : Hid (RiAt w1 w.heap.size 79 D false (.slice a' i c') (l.map (nm d false)) ∧ Only (fun _ => False) w w1) := by
        have := HI.out
        rwa [show l.take i = l from by rw [hNl]; exact List.take_length] at this
      clear HI hNl hN2 hiN hi
      go_wp2
      go_ret
      exact ⟨a', c', rfl, HF⟩
set_option maxRecDepth 100000 in
set_option maxHeartbeats 4000000 in
theorem items_of (d D : Nat) (H : VaC d 15 D true) : VlC d 5 D 36 true := by
  intro l lv w S hv hlen hsm
  obtain ⟨ao, cap, rfl, hcap, hl⟩ := hv
  have HE : Hid (∀ (j : Nat) (x : Vt), l[j]? = some x → ∃ g k lx, ao = some ⟨g, k, none⟩ ∧ (w.cell? ⟨g, k + j * 4, none⟩ = some (.int .i64 x.k) ∧ w.cell? ⟨g, k + j * 4 + 1, none⟩ = some (.int .i64 x.n) ∧ w.cell? ⟨g, k + j * 4 + 2, none⟩ = some (.string x.s) ∧ w.cell? ⟨g, k + j * 4 + 3, none⟩ = some lx) ∧ ∀ w1, Only (fun _ => False) w w1 → Calls Tryz.prog 15 #[.agg #[.int .i64 x.k, .int .i64 x.n, .string x.s, lx]] w1 fun e w' => ∃ v, e = .returned v ∧ Hid (NiAt w' w1.heap.size D true (nm d true x) v ∧ Only (fun _ => False) w1 w')) := by
    intro j x hx
    obtain ⟨g, k, lx, p1, p2, p3, p4⟩ := hl j x hx
    exact ⟨g, k, lx, p1, p3, fun w1 o1 => H x lx w1 S (p4.only o1) (hsm x (List.mem_of_getElem? hx))⟩
  obtain ⟨N, hN⟩ : ∃ N, N = l.length := ⟨_, rfl⟩
  have HN : Hid (N = l.length ∧ N ≤ 2513169434900) := ⟨hN, by omega⟩
  rw [← hN]
  clear hl hsm hcap hN H hlen
  go_enter Tryz.func5, Tryz.ntmps5
  go_wp2
  go_loopw [3, 4] (fun r3 r4 wr => ∃ (i : Nat) (a' : Option Addr) (c' : Nat), r4 = .int .i64 (i : Int) ∧ i ≤ N ∧ r3 = .slice a' i c' ∧ Hid (RiAt wr w.heap.size 36 D true (.slice a' i c') ((l.take i).map (nm d true)) ∧ Only (fun _ => False) w wr)) (fun _ r4 _ => N - vuOf r4)
  case atStart => exact ⟨0, none, 0, rfl, Nat.zero_le _, rfl, ri_nil _ _ _ _ _, Only.refl _ _⟩
  case round =>
    obtain ⟨i, a', c', rfl, hi, rfl, HI⟩ := hrel
    obtain ⟨w1, hw1⟩ : ∃ w1, w1 = wr := ⟨_, rfl⟩
    rw [← hw1] at HI ⊢
    clear hw1
    have hNl := HN.out.1
    have hN2 := HN.out.2
    by_cases hiN : i < N
    · obtain ⟨x, hx⟩ : ∃ x, l[i]? = some x := ⟨l[i]'(by omega), List.getElem?_eq_getElem (by omega)⟩
      obtain ⟨g, k, lx, rfl, ⟨h0, h1, h2, h3⟩, hcall⟩ := HE.out i x hx
      have o1 := HI.out.2
      have c0 := o1.cell h0 (fun g => g)
      have c1 := o1.cell h1 (fun g => g)
      have c2 := o1.cell h2 (fun g => g)
      have c3 := o1.cell h3 (fun g => g)
      have HC : Hid _ := hcall w1 o1
      have HX : Hid (l[i]? = some x ∧ i < N) := ⟨hx, hiN⟩
      have i1 : (i : Int) < (N : Int) := by omega
      have i0 : (0 : Int) ≤ (i : Int) := by omega
      have i4 : i ≤ 2513169434900 := by omega
      obtain ⟨x0, hx0⟩ : ∃ x0, x0 = x.k := ⟨_, rfl⟩
      obtain ⟨x1, hx1⟩ : ∃ x1, x1 = x.n := ⟨_, rfl⟩
      obtain ⟨x2, hx2⟩ : ∃ x2, x2 = x.s := ⟨_, rfl⟩
      rw [← hx0, ← hx1, ← hx2] at HC
      rw [← hx0] at c0
      rw [← hx1] at c1
      rw [← hx2] at c2
      clear h0 h1 h2 h3 hcall o1 hNl hN2 hiN hi hx hx0 hx1 hx2
      go_wp2_with fail
      refine (show Calls Tryz.prog 15 _ _ _ from HC.out).mono ?_
      rintro e w2 ⟨v, rfl, G2⟩
      have o2 := G2.out.2
      have hB2 : w.heap.size ≤ w2.heap.size := Nat.le_trans HI.out.2.size o2.size
      obtain ⟨v', w3, hr, hri, o3⟩ := app_v (sT := 24) Tryz.underlying24 vinfoI (HI.out.1.only o2 (fun _ _ g => g)) G2.out.1 HI.out.2.size (fun k hk => by obtain ⟨us, S', ho, _⟩ := HI.out.1; exact (ho.lt k hk).2) hB2 (by simp; omega)
      obtain ⟨a2, c2', hv2⟩ := hri.form
      have hlen2 : ((l.take i).map (nm d true) ++ [nm d true x]).length = i + 1 := by
        have := HX.out.2
        have := HN.out.1
        simp
        omega
      rw [hlen2] at hv2
      subst hv2
      have HF : Hid (RiAt w3 w.heap.size 36 D true (.slice a2 (i + 1) c2') ((l.take (i + 1)).map (nm d true)) ∧ Only (fun _ => False) w w3) := by
        refine ⟨?_, (HI.out.2.trans o2 (fun _ _ g => g)).trans o3 (fun b hb e => ?_)⟩
        · rw [List.take_add_one, HX.out.1]
          simpa using hri
        · obtain ⟨us, S', ho, _⟩ := HI.out.1
          have := (ho.lt b e).1
          omega
      have HR : Hid _ := hr
      have hsh : v = .nilIface ∨ ∃ T y, v = .iface T y := by obtain ⟨S', t', _⟩ := G2.out.1; exact t'.shape
      clear HC HI G2 o2 hr hri o3 hB2 hlen2 c0 c1 c2 c3
      rcases hsh with rfl | ⟨T1, y1, rfl⟩
      all_goals
        go_wp2_with (at_builtin; refine vwpList_append_run rfl _ _ 24 rfl _ _ _ rfl rfl HR.out ?_)
        go_roundw
        case rel => exact ⟨i + 1, a2, c2', by go_num, by have := HX.out.2; omega, rfl, HF⟩
        case measure => simp only [vuOf]; have := HX.out.2; omega
    · obtain rfl : i = N := by omega
      have i1 : ¬ (i : Int) < (i : Int) := by omega
      have HF : Hid (RiAt w1 w.heap.size 36 D true (.slice a' i c') (l.map (nm d true)) ∧ Only (fun _ => False) w w1) := by
        have := HI.out
        rwa [show l.take i = l from by rw [hNl]; exact List.take_length] at this
      clear HI hNl hN2 hiN hi
      go_wp2
      go_ret
      exact ⟨a', c', rfl, HF⟩
/-- all of them -/
theorem value_all : ∀ d : Nat, VaC d 30 (2 * d + 1) false
  | 0 => fun t lv w S h => h.elim
  | d + 1 => value_of d (values_of d _ (value_all d)) (items_of d _ (itemof_of d (value_all d)))
theorem itemof_all (d : Nat) : VaC d 15 (2 * d + 2) true := itemof_of d (value_all d)
theorem values_all (d : Nat) : VlC d 47 (2 * d + 1) 79 false := values_of d _ (value_all d)
theorem items_all (d : Nat) : VlC d 5 (2 * d + 2) 36 true := items_of d _ (itemof_all d)
end Go.Proofs.YtmpfbjmaiddigaaGreatDoor
namespace Go.Proofs.YtmpfbjmaiddigaaGreatDoor
open Go.RowKit Go.Lib
set_option linter.unusedSimpArgs false
set_option linter.unusedVariables false
/-- a writer at block b that has written bs, all made from block B on; bg: a word stands on the line -/
def WrU (B b : Nat) (bs : List Value) (bg : Bool) (w : World) : Prop := B ≤ b ∧ ∃ p v, w.heap[b]? = some (.cells #[p, v, .bool bg] 62) ∧ (p = .pointer none ∨ p = .pointer (some ⟨b, 0, none⟩)) ∧ w.ownsRowF B 5 1 v bs.length bs ∧ v.ownBlock ≠ some b
theorem wr_cell {w : World} {b : Nat} {c : Array Value} {T : TypeId} (h : w.heap[b]? = some (.cells c T)) (j : Nat) : w.cell? ⟨b, j, none⟩ = c[j]? := by
  simp [World.cell?, h]
theorem wr_froz {w : World} {b : Nat} {c : Array Value} {T : TypeId} (h : w.heap[b]? = some (.cells c T)) (j : Nat) : w.frozen? ⟨b, j, none⟩ = false := by
  simp [World.frozen?, h]
set_option maxHeartbeats 2000000 in
set_option maxRecDepth 100000 in
theorem wcheck_used (b : Nat) (w : World) (h0 : w.cell? ⟨b, 0, none⟩ = some (.pointer (some ⟨b, 0, none⟩))) :
    Calls Tryz.prog 75 #[.pointer (some ⟨b, 0, none⟩)] w fun e w' => e = .returned (.tuple #[]) ∧ w' = w := by
  obtain ⟨j, hj⟩ : ∃ j, Tryz.prog.info? 60 = some j := ⟨_, rfl⟩
  go_enter Tryz.func75, Tryz.ntmps75
  go_wp2
  rw [run_neq_ptr_same w _ Tryz.underlying57 hj]
  go_wp2
  go_end0
  exact ⟨rfl, rfl⟩
set_option maxHeartbeats 2000000 in
set_option maxRecDepth 100000 in
theorem wcheck_fresh (b : Nat) (w : World) (h0 : w.cell? ⟨b, 0, none⟩ = some (.pointer none)) (hsh : w.shape? b = some (62, 3)) (hfz : w.frozen? ⟨b, 0, none⟩ = false) :
    Calls Tryz.prog 75 #[.pointer (some ⟨b, 0, none⟩)] w fun e w' => e = .returned (.tuple #[]) ∧ w' = w.setCell ⟨b, 0, none⟩ (.pointer (some ⟨b, 0, none⟩)) := by
  obtain ⟨j, hj, hjs⟩ : ∃ j, Tryz.prog.info? 60 = some j ∧ j.size = 2 := ⟨_, rfl, rfl⟩
  have lies : liesAt Tryz.prog Tryz.prog.depth 62 (3 / Tryz.prog.cellsOf 62) 0 60 1 = true := by kernel_rfl
  go_enter Tryz.func75, Tryz.ntmps75
  go_wp2
  rw [run_to_unsafe w ⟨b, 0, none⟩ Tryz.underlying57 Tryz.underlying159 hj (by rw [hjs]; decide) hsh (Nat.zero_lt_succ 2)]
  simp only [Result.andThen]
  rw [Oper.upon_value]
  go_wp2
  rw [run_callFunc_extern Tryz.func91 (by kernel_rfl) (by kernel_rfl) (by kernel_rfl) (e := Extern.AbiNoEscape.same) (by kernel_rfl)]
  rw [run_noEscape]
  simp only [Result.andThen]
  rw [Oper.upon_value]
  go_wp2
  rw [run_from_unsafe w ⟨b, 0, none⟩ Tryz.underlying159 Tryz.underlying57 hj hsh lies]
  simp only [Result.andThen]
  rw [Oper.upon_value]
  go_wp2
  go_end0
  exact ⟨rfl, rfl⟩
end Go.Proofs.YtmpfbjmaiddigaaGreatDoor
namespace Go.Proofs.YtmpfbjmaiddigaaGreatDoor
open Go.RowKit Go.Lib
set_option linter.unusedSimpArgs false
set_option linter.unusedVariables false
theorem ownsF_keep {w w' : World} {B : Nat} {e : TypeId} {sz : Nat} {v : Value} {n : Nat} {xs : List Value} {bs : Nat → Prop} (h : w.ownsRowF B e sz v n xs) (o : Only bs w w') (hb : ∀ k, v.ownBlock = some k → ¬ bs k) : w'.ownsRowF B e sz v n xs := by
  refine ⟨h.1, ?_⟩
  rcases h.2 with h0 | ⟨g, cap, cur, fz, e1, hB, hg, r⟩
  · exact .inl h0
  · refine .inr ⟨g, cap, cur, fz, e1, hB, ?_, r⟩
    exact (o.block g (Array.getElem?_eq_some_iff.1 hg).1 (hb g (by rw [e1]; rfl))).trans hg
theorem WrU.only {B b : Nat} {bs : List Value} {bg : Bool} {w w' : World} (h : WrU B b bs bg w) (o : Only (fun _ => False) w w') : WrU B b bs bg w' := by
  obtain ⟨h1, p, v, h2, h3, h4, h5⟩ := h
  exact ⟨h1, p, v, (o.block b (Array.getElem?_eq_some_iff.1 h2).1 (fun g => g)).trans h2, h3, ownsF_keep h4 o (fun _ _ g => g), h5⟩
/-- copyCheck of a writer's builder -/
theorem wcheck_any (B b : Nat) (p v : Value) (bg : Bool) (w : World) (hb : w.heap[b]? = some (.cells #[p, v, .bool bg] 62)) (hp : p = .pointer none ∨ p = .pointer (some ⟨b, 0, none⟩)) :
    Calls Tryz.prog 75 #[.pointer (some ⟨b, 0, none⟩)] w fun e w' => e = .returned (.tuple #[]) ∧ w'.heap[b]? = some (.cells #[.pointer (some ⟨b, 0, none⟩), v, .bool bg] 62) ∧ Only (fun k => k = b) w w' := by
  have c0 := wr_cell hb 0
  simp only [List.getElem?_toArray, List.getElem?_cons_zero] at c0
  rcases hp with rfl | rfl
  · refine (wcheck_fresh b w c0 (by simp [World.shape?, hb]) (wr_froz hb 0)).mono fun e w' g => ?_
    obtain ⟨g1, rfl⟩ := g
    exact ⟨g1, (heap_setCell_same _ _ _ _ _ _ hb).trans rfl, (Only.refl (fun k => k = b) w).setCell _ _ (fun _ => rfl)⟩
  · refine (wcheck_used b w c0).mono fun e w' g => ?_
    obtain ⟨g1, rfl⟩ := g
    exact ⟨g1, hb, Only.refl _ _⟩
set_option maxHeartbeats 4000000 in
set_option maxRecDepth 100000 in
theorem wwrite_any (B b : Nat) (bs : List Value) (bg : Bool) (s : ByteArray) (w : World) (h : WrU B b bs bg w) (hlen : bs.length + s.size ≤ 140737488355328) (hBw : B ≤ w.heap.size) :
    Calls Tryz.prog 56 #[.pointer (some ⟨b, 0, none⟩), .string s] w fun e w' => ∃ q, e = .returned (.tuple #[q, .nilIface]) ∧ WrU B b (bs ++ strCells s) bg w' ∧ Only (fun k => B ≤ k) w w' := by
  obtain ⟨i0, hi, hz0, hz1, hz2⟩ := byte_info
  obtain ⟨hB, p, v, hbk, hp, hown, hne⟩ := h
  go_enter Tryz.func56, Tryz.ntmps56
  go_wp2_with fail
  refine (show Calls Tryz.prog 75 _ _ _ from wcheck_any B b p v bg _ hbk hp).mono ?_
  rintro e w1 ⟨rfl, h1, o1⟩
  have hown1 := ownsF_keep hown o1 (fun k hk e => hne (by rw [hk, e]))
  have c1 := wr_cell h1 1
  simp only [List.getElem?_toArray, List.getElem?_cons_zero, List.getElem?_cons_succ] at c1
  have hs1 := o1.size
  go_wp2_with (at_builtin; refine wpList_append_own_stringF _ rfl _ _ 58 9 rfl B 5 i0 Tryz.underlying58 Tryz.underlying9 hi hz0 hz1 hz2 _ _ _ rfl hown1 s rfl ?c3 ?c4 ?c5 ?_)
  case c3 => unfold maxLen; omega
  case c4 => omega
  case c5 => omega
  intro v' w2 hown' hgrow hat
  have hlt : b < w1.heap.size := (Array.getElem?_eq_some_iff.1 h1).1
  have hb2 : w2.heap[b]? = some (.cells #[.pointer (some ⟨b, 0, none⟩), v, .bool bg] 62) := by
    rw [hgrow.block b hlt (fun e => hne e.symm)]
    exact h1
  have d1 := wr_cell hb2 1
  simp only [List.getElem?_toArray, List.getElem?_cons_zero, List.getElem?_cons_succ] at d1
  have f1 := wr_froz hb2 1
  obtain ⟨ao, n', cap, rfl⟩ : ∃ ao n' cap, v' = .slice ao n' cap := by
    rcases hown'.2 with ⟨hv, _⟩ | ⟨g, cap, cur, fz, hv, _⟩
    · exact ⟨_, _, _, hv⟩
    · exact ⟨_, _, _, hv⟩
  have o2 : Only (fun k => v.ownBlock = some k) w1 w2 := (Only.refl _ w1).grown hgrow (fun k e _ => e)
  have hne' : (Value.slice ao n' cap).ownBlock ≠ some b := fun e => by
    rcases hown'.2 with ⟨hv, _⟩ | ⟨g, cap', cur, fz, hv, _, hg, _⟩
    · rw [hv] at e; simp [Value.ownBlock] at e
    · rw [hv] at e
      simp only [Value.ownBlock, Option.some.injEq] at e
      rw [e] at hg
      rw [hb2] at hg
      simp at hg
  go_wp2
  go_ret2
  have o3 : Only (fun k => k = b) w2 (w2.setCell ⟨b, 1, none⟩ (.slice ao n' cap)) := (Only.refl (fun k => k = b) w2).setCell _ _ (fun _ => rfl)
  refine ⟨_, rfl, ⟨hB, .pointer (some ⟨b, 0, none⟩), .slice ao n' cap, (heap_setCell_same _ _ _ _ _ _ hb2).trans rfl, .inr rfl, ?_, hne'⟩, ?_⟩
  · have h4 := ownsF_keep hown' o3 (fun k hk e => hne' (by rw [hk, e]))
    rw [show (bs ++ strCells s).length = bs.length + s.size by rw [List.length_append, strCells_length]]
    exact h4
  · exact ((o1.mono (bs' := fun k => B ≤ k) (fun k _ e => by omega)).trans o2 (fun k hk e => (hown1.lt k e).1)).trans o3 (fun k hk e => by omega)
/-- how many bytes there are -/
theorem wlen_any (B b : Nat) (bs : List Value) (bg : Bool) (w : World) (h : WrU B b bs bg w) :
    Calls Tryz.prog 52 #[.pointer (some ⟨b, 0, none⟩)] w fun e w' => e = .returned (.int .i64 (bs.length : Int)) ∧ w' = w := by
  obtain ⟨hB, p, v, hbk, hp, hown, hne⟩ := h
  obtain ⟨ao, cap, rfl⟩ : ∃ ao cap, v = .slice ao bs.length cap := by
    rcases hown.2 with ⟨hv, h0⟩ | ⟨g, cap, cur, fz, hv, _⟩
    · exact ⟨none, 0, by rw [hv, h0]⟩
    · exact ⟨_, _, hv⟩
  have c1 := wr_cell hbk 1
  simp only [List.getElem?_toArray, List.getElem?_cons_zero, List.getElem?_cons_succ] at c1
  clear hbk hown hne hp
  obtain ⟨L, hL⟩ : ∃ L, L = bs.length := ⟨_, rfl⟩
  rw [← hL] at c1 ⊢
  clear hL
  go_enter Tryz.func52, Tryz.ntmps52
  go_wp2
  go_ret
  exact ⟨rfl, rfl⟩
theorem wfull_any (B b : Nat) (bs : List Value) (bg : Bool) (w : World) (h : WrU B b bs bg w) :
    Calls Tryz.prog 34 #[.pointer (some ⟨b, 0, none⟩)] w fun e w' => e = .returned (.bool (decide (65536 < (bs.length : Int)))) ∧ w' = w := by
  have HL : Hid (Calls Tryz.prog 52 #[.pointer (some ⟨b, 0, none⟩)] w fun e w' => e = .returned (.int .i64 (bs.length : Int)) ∧ w' = w) := wlen_any B b bs bg w h
  clear h
  obtain ⟨L, hL⟩ : ∃ L : Int, L = (bs.length : Int) := ⟨_, rfl⟩
  rw [← hL] at HL ⊢
  clear hL
  go_enter Tryz.func34, Tryz.ntmps34
  go_wp2_with fail
  refine (show Calls Tryz.prog 52 _ _ _ from HL.out).mono ?_
  rintro e w1 ⟨rfl, rfl⟩
  clear HL
  go_wp2
  go_ret
  exact ⟨rfl, rfl⟩
/-- a text is put behind, as long as there is room -/
theorem wadd_any (B b : Nat) (bs : List Value) (bg : Bool) (s : ByteArray) (w : World) (h : WrU B b bs bg w) (hf : bs.length ≤ 65536) (hs : s.size ≤ 1000000) (hBw : B ≤ w.heap.size) :
    Calls Tryz.prog 38 #[.pointer (some ⟨b, 0, none⟩), .string s] w fun e w' => e = .returned (.tuple #[]) ∧ Hid (WrU B b (bs ++ strCells s) bg w' ∧ Only (fun k => B ≤ k) w w') := by
  have HF : Hid (Calls Tryz.prog 34 #[.pointer (some ⟨b, 0, none⟩)] w fun e w' => e = .returned (.bool false) ∧ w' = w) := by
    have := wfull_any B b bs bg w h
    rwa [show decide (65536 < (bs.length : Int)) = false by simp; omega] at this
  have HW : Hid (Calls Tryz.prog 56 #[.pointer (some ⟨b, 0, none⟩), .string s] w fun e w' => ∃ q, e = .returned (.tuple #[q, .nilIface]) ∧ WrU B b (bs ++ strCells s) bg w' ∧ Only (fun k => B ≤ k) w w') := wwrite_any B b bs bg s w h (by omega) hBw
  clear h hf hs hBw
  go_enter Tryz.func38, Tryz.ntmps38
  go_wp2_with fail
  refine (show Calls Tryz.prog 34 _ _ _ from HF.out).mono ?_
  rintro e w1 ⟨rfl, rfl⟩
  clear HF
  go_wp2_with fail
  refine (show Calls Tryz.prog 56 _ _ _ from HW.out).mono ?_
  rintro e w2 ⟨q, rfl, g1, g2⟩
  have G : Hid (WrU B b (bs ++ strCells s) bg w2 ∧ Only (fun k => B ≤ k) w1 w2) := ⟨g1, g2⟩
  clear HW g1 g2
  go_wp2
  go_end0
  exact ⟨rfl, G⟩
end Go.Proofs.YtmpfbjmaiddigaaGreatDoor
namespace Go.Proofs.YtmpfbjmaiddigaaGreatDoor
open Go.RowKit Go.Lib
set_option linter.unusedSimpArgs false
set_option linter.unusedVariables false
set_option maxHeartbeats 2000000 in
set_option maxRecDepth 100000 in
/-- the text, if there is one -/
theorem wstring_any (B b : Nat) (l : List UInt8) (bg : Bool) (w : World) (h : WrU B b (Lib.byteCells l) bg w) (h0 : l ≠ []) :
    Calls Tryz.prog 35 #[.pointer (some ⟨b, 0, none⟩)] w fun e w' => e = .returned (.string ⟨l.toArray⟩) ∧ Below B w w' := by
  obtain ⟨hB, p, v, hbk, hp, hown, hne⟩ := h
  have hl0 : l.length ≠ 0 := by simpa using h0
  rw [Lib.byteCells_length] at hown
  obtain ⟨g, cap, cur, fz, rfl, hbg, hg, hfz, hnc, hcm, hcs, htake⟩ : ∃ g cap cur fz, v = .slice (some ⟨g, 0, none⟩) l.length cap ∧ B ≤ g ∧ w.heap[g]? = some (.cells cur 5 fz) ∧ fz.2 ≤ l.length * 1 ∧ l.length ≤ cap ∧ cap ≤ maxLen ∧ cur.size = cap * 1 ∧ cur.toList.take (l.length * 1) = Lib.byteCells l := by
    rcases hown.2 with ⟨_, hz⟩ | ⟨g, cap, cur, fz, hv, r⟩
    · exact absurd hz hl0
    · exact ⟨g, cap, cur, fz, hv, r⟩
  have hbk' : w.drew.heap[b]? = some (.cells #[p, .slice (some ⟨g, 0, none⟩) l.length cap, .bool bg] 62) := hbk
  have c1 := wr_cell hbk' 1
  simp only [List.getElem?_toArray, List.getElem?_cons_zero, List.getElem?_cons_succ] at c1
  have hSD : (Builtin.unsafeSliceData_ #[58] 130 #[.slice (some ⟨g, 0, none⟩) l.length cap]).run Tryz.prog w.drew = .ok (.pointer (some ⟨g, 0, none⟩)) w.drew :=
    run_unsafeSliceData_row _ _ _ _ _ _ (by omega)
  have hUS : (Builtin.unsafeString_ #[130, 3] 9 #[.pointer (some ⟨g, 0, none⟩), .int .i64 l.length]).run Tryz.prog w.drew = .ok (.string ⟨l.toArray⟩) (w.drew.freeze ⟨g, 0, none⟩ l.length) := by
    refine run_unsafeString_row w.drew 130 3 9 5 Tryz.underlying130 (by kernel_rfl) g cur.size (by have hg' : w.drew.heap[g]? = some (.cells cur 5 fz) := hg; simp [World.shape?, hg']) l h0 (by omega) (by unfold maxLen at hcm; omega) ?_
    intro j x hx
    have := hown.cells (g := g) rfl j (.int .u8 x.toNat) (by simp [Lib.byteCells, hx])
    exact this
  go_enter Tryz.func35, Tryz.ntmps35
  go_wp2
  go_region
  all_goals (go_wp2; go_ret; exact ⟨rfl, below_freeze (Below.drew (Below.refl B w)) (p := ⟨g, 0, none⟩) hbg _⟩)
set_option maxRecDepth 100000 in
theorem wwhole_any (B b : Nat) (l : List UInt8) (bg : Bool) (w : World) (h : WrU B b (Lib.byteCells l) bg w) (h0 : l ≠ []) (h1 : l.length ≤ 65536) :
    Calls Tryz.prog 19 #[.pointer (some ⟨b, 0, none⟩)] w fun e w' => e = .returned (.tuple #[.string ⟨l.toArray⟩, .int .i64 0]) ∧ Below B w w' := by
  have HF : Hid (Calls Tryz.prog 34 #[.pointer (some ⟨b, 0, none⟩)] w fun e w' => e = .returned (.bool false) ∧ w' = w) := by
    have := wfull_any B b _ bg w h
    rwa [show decide (65536 < ((Lib.byteCells l).length : Int)) = false by rw [Lib.byteCells_length]; simp; omega] at this
  have HS : Hid (Calls Tryz.prog 35 #[.pointer (some ⟨b, 0, none⟩)] w fun e w' => e = .returned (.string ⟨l.toArray⟩) ∧ Below B w w') := wstring_any B b l bg w h h0
  clear h h0 h1
  go_enter Tryz.func19, Tryz.ntmps19
  go_wp2_with fail
  refine (show Calls Tryz.prog 34 _ _ _ from HF.out).mono ?_
  rintro e w1 ⟨rfl, rfl⟩
  clear HF
  go_wp2_with fail
  refine (show Calls Tryz.prog 35 _ _ _ from HS.out).mono ?_
  rintro e w2 ⟨rfl, b2⟩
  have B2 : Hid (Below B w1 w2) := b2
  clear HS b2
  go_wp2
  go_ret2
  exact ⟨rfl, B2.out⟩
theorem WrU.begun {B b : Nat} {bs : List Value} {bg : Bool} {w : World} (h : WrU B b bs bg w) (y : Bool) : WrU B b bs y (w.setCell ⟨b, 2, none⟩ (.bool y)) ∧ Only (fun k => k = b) w (w.setCell ⟨b, 2, none⟩ (.bool y)) := by
  obtain ⟨h1, p, v, h2, h3, h4, h5⟩ := h
  have o : Only (fun k => k = b) w (w.setCell ⟨b, 2, none⟩ (.bool y)) := (Only.refl (fun k => k = b) w).setCell _ _ (fun _ => rfl)
  exact ⟨⟨h1, p, v, (heap_setCell_same _ _ _ _ _ _ h2).trans rfl, h3, ownsF_keep h4 o (fun k hk e => h5 (by rw [hk, e])), h5⟩, o⟩
set_option maxRecDepth 100000 in
/-- the first word on a line -/
theorem wword_first (B b : Nat) (bs : List Value) (s : ByteArray) (w : World) (h : WrU B b bs false w) (hf : bs.length ≤ 65536) (hs : s.size ≤ 1000000) (hBw : B ≤ w.heap.size) :
    Calls Tryz.prog 51 #[.pointer (some ⟨b, 0, none⟩), .string s] w fun e w' => e = .returned (.tuple #[]) ∧ Hid (WrU B b (bs ++ strCells s) true w' ∧ Only (fun k => B ≤ k) w w') := by
  have HA : Hid (Calls Tryz.prog 38 #[.pointer (some ⟨b, 0, none⟩), .string s] w fun e w' => e = .returned (.tuple #[]) ∧ Hid (WrU B b (bs ++ strCells s) false w' ∧ Only (fun k => B ≤ k) w w')) := wadd_any B b bs false s w h hf hs hBw
  obtain ⟨hB, p, v, hbk, _, _, _⟩ := h
  have c2 := wr_cell hbk 2
  simp only [List.getElem?_toArray, List.getElem?_cons_zero, List.getElem?_cons_succ] at c2
  have HB : Hid (B ≤ b) := hB
  clear hbk hf hs hBw hB
  go_enter Tryz.func51, Tryz.ntmps51
  go_wp2_with fail
  refine (show Calls Tryz.prog 38 _ _ _ from HA.out).mono ?_
  rintro e w1 ⟨rfl, g1⟩
  obtain ⟨_, p1, v1, hb1, _, _, _⟩ := id g1.out.1
  have d2 := wr_cell hb1 2
  have f2 := wr_froz hb1 2
  simp only [List.getElem?_toArray, List.getElem?_cons_zero, List.getElem?_cons_succ] at d2
  clear HA c2 hb1
  go_wp2
  go_end0
  obtain ⟨q1, q2⟩ := g1.out.1.begun true
  exact ⟨rfl, q1, g1.out.2.trans q2 (fun k hk e => by have : B ≤ b := HB.out; omega)⟩
end Go.Proofs.YtmpfbjmaiddigaaGreatDoor
namespace Go.Proofs.YtmpfbjmaiddigaaGreatDoor
open Go.RowKit Go.Lib
set_option linter.unusedSimpArgs false
set_option linter.unusedVariables false
theorem va_hit (T xt : TypeId) (D : TypeDesc) (hD : Tryz.prog.underlying T = some D) (hn : ∀ m, D ≠ .interface m) (x : Value) (W : World) : (Instr.typeAssert (.iface T x) xt T true).run Tryz.prog W = .ok (.tuple #[x, .bool true]) W := by
  simp only [Instr.typeAssert, Sem.run_bind, run_underlying hD, Result.andThen_ok]
  cases D <;> simp_all
theorem va_miss (T U xt : TypeId) (D : TypeDesc) (hD : Tryz.prog.underlying U = some D) (hn : ∀ m, D ≠ .interface m) (hT : T ≠ U) (z : Value) (hz : ∀ W : World, (zeroValue U).run Tryz.prog W = .ok z W) (x : Value) (W : World) : (Instr.typeAssert (.iface T x) xt U true).run Tryz.prog W = .ok (.tuple #[z, .bool false]) W := by
  simp only [Instr.typeAssert, Sem.run_bind, run_underlying hD, Result.andThen_ok]
  cases D <;> simp_all
theorem va_at (W : World) (o : Obj) (n : Nat) (h : n = W.heap.size) : (W.alloc o).heap[n]? = some o := by
  subst h
  exact Array.getElem?_push_size ..
/-- the number 7 as a value, and as an item -/
abbrev i7 : Value := .iface 88 (.agg #[.int .i64 7])
abbrev p7 : Value := .iface 81 (.agg #[i7])
set_option maxRecDepth 100000 in
theorem small7 (w : World) : Calls Tryz.prog 97 #[.int .i64 7] w fun e w' => e = .returned (.string ⟨#[55]⟩) ∧ w' = w := by
  go_enter Tryz.func97, Tryz.ntmps97
  go_wp2
  go_ret
  exact ⟨rfl, rfl⟩
set_option maxRecDepth 100000 in
theorem ifmt7 (w : World) : Calls Tryz.prog 87 #[.int .i64 7, .int .i64 10] w fun e w' => e = .returned (.string ⟨#[55]⟩) ∧ w' = w := by
  have HS : Hid (∀ w1, Calls Tryz.prog 97 #[.int .i64 7] w1 fun e w' => e = .returned (.string ⟨#[55]⟩) ∧ w' = w1) := small7
  go_enter Tryz.func87, Tryz.ntmps87
  go_wp2_with fail
  refine (show Calls Tryz.prog 97 _ _ _ from HS.out _).mono ?_
  rintro e w1 ⟨rfl, rfl⟩
  clear HS
  go_wp2
  go_ret
  exact ⟨rfl, rfl⟩
set_option maxRecDepth 100000 in
theorem fmt7 (w : World) : Calls Tryz.prog 71 #[.int .i64 7, .int .i64 10] w fun e w' => e = .returned (.string ⟨#[55]⟩) ∧ w' = w := by
  have HS : Hid (∀ w1, Calls Tryz.prog 87 #[.int .i64 7, .int .i64 10] w1 fun e w' => e = .returned (.string ⟨#[55]⟩) ∧ w' = w1) := ifmt7
  go_enter Tryz.func71, Tryz.ntmps71
  go_wp2_with fail
  refine (show Calls Tryz.prog 87 _ _ _ from HS.out _).mono ?_
  rintro e w1 ⟨rfl, rfl⟩
  clear HS
  go_wp2
  go_ret
  exact ⟨rfl, rfl⟩
/-- what is left to be counted -/
def MlB (w : World) (M : Nat) (k : Int) : Prop := w.heap[M]? = some (.cells #[.int .i64 k] 126)
set_option maxRecDepth 100000 in
theorem pmore_any (M : Nat) (k : Int) (w : World) (h : MlB w M k) (h1 : 1 ≤ k) (h2 : k ≤ 1024) : Calls Tryz.prog 70 #[.pointer (some ⟨M, 0, none⟩)] w fun e w' => e = .returned (.bool true) ∧ Only (fun b => b = M) w w' ∧ MlB w' M (k - 1) := by
  have c0 := wr_cell h 0
  have f0 := wr_froz h 0
  simp only [List.getElem?_toArray, List.getElem?_cons_zero] at c0
  have HM : Hid (MlB w M k) := h
  have i1 : (0 : Int) ≤ k - 1 := by omega
  clear h
  go_enter Tryz.func70, Tryz.ntmps70
  go_wp2
  go_ret
  exact ⟨by simp [i1], (Only.refl (fun b => b = M) w).setCell _ _ (fun _ => rfl), (heap_setCell_same _ _ _ _ _ _ HM.out).trans rfl⟩
set_option maxRecDepth 100000 in
theorem pval7 (M : Nat) (w : World) (h : MlB w M 1024) : Calls Tryz.prog 69 #[.pointer (some ⟨M, 0, none⟩), i7, .int .i64 32] w fun e w' => e = .returned (.bool true) ∧ Only (fun b => b = M) w w' := by
  have HM : Hid (Calls Tryz.prog 70 #[.pointer (some ⟨M, 0, none⟩)] w fun e w' => e = .returned (.bool true) ∧ Only (fun b => b = M) w w' ∧ MlB w' M (1024 - 1)) := pmore_any M 1024 w h (by omega) (by omega)
  have hInt := va_hit 88 79 _ Tryz.underlying88 (by intro m h; cases h)
  clear h
  go_enter Tryz.func69, Tryz.ntmps69
  go_wp2_with fail
  refine (show Calls Tryz.prog 70 _ _ _ from HM.out).mono ?_
  rintro e w1 ⟨rfl, o1, _⟩
  have O1 : Hid (Only (fun b => b = M) w w1) := o1
  clear HM o1
  go_wp2
  all_goals
    go_ret
    exact ⟨rfl, O1.out.alloc _⟩
set_option maxRecDepth 100000 in
theorem pitem7 (M : Nat) (w : World) (h : MlB w M 1024) : Calls Tryz.prog 49 #[.pointer (some ⟨M, 0, none⟩), p7, .int .i64 32] w fun e w' => e = .returned (.bool true) ∧ Only (fun b => b = M) w w' := by
  have HV : Hid (∀ w1, Only (fun _ => False) w w1 → Calls Tryz.prog 69 #[.pointer (some ⟨M, 0, none⟩), i7, .int .i64 32] w1 fun e w' => e = .returned (.bool true) ∧ Only (fun b => b = M) w1 w') := fun w1 o => pval7 M w1 ((o.block M (Array.getElem?_eq_some_iff.1 h).1 (fun g => g)).trans h)
  have hP := va_hit 81 36 _ Tryz.underlying81 (by intro m h; cases h)
  have O0 : Hid (Only (fun _ => False) w w) := Only.refl _ _
  clear h
  go_enter Tryz.func49, Tryz.ntmps49
  go_wp2_with fail
  refine (show Calls Tryz.prog 69 _ _ _ from HV.out _ (O0.out.alloc _)).mono ?_
  rintro e w1 ⟨rfl, o1⟩
  have O1 : Hid (Only (fun b => b = M) w w1) := ((Only.refl (fun b => b = M) w).alloc _).trans o1 (fun _ _ g => g)
  clear HV o1
  go_wp2
  go_ret
  exact ⟨rfl, O1.out⟩
set_option maxRecDepth 100000 in
theorem psound7 (w : World) : Calls Tryz.prog 32 #[p7] w fun e w' => e = .returned (.bool true) ∧ Only (fun _ => False) w w' := by
  have HI : Hid (Calls Tryz.prog 49 #[.pointer (some ⟨w.heap.size, 0, none⟩), p7, .int .i64 32] (w.alloc (.cells #[.int .i64 1024] 126)) fun e w' => e = .returned (.bool true) ∧ Only (fun b => b = w.heap.size) (w.alloc (.cells #[.int .i64 1024] 126)) w') := pitem7 _ _ (va_at _ _ _ rfl)
  go_enter Tryz.func32, Tryz.ntmps32
  go_wp2_with fail
  refine (show Calls Tryz.prog 49 _ _ _ from HI.out).mono ?_
  rintro e w1 ⟨rfl, o1⟩
  have O1 : Hid (Only (fun _ => False) w w1) := ((Only.refl (fun _ => False) w).alloc _).trans o1 (fun k hk e => by omega)
  clear HI o1
  go_wp2
  go_ret
  exact ⟨rfl, O1.out⟩
set_option maxRecDepth 100000 in
theorem psounds7 (w : World) (g : Nat) (hg : w.cell? ⟨g, 0, none⟩ = some p7) : Calls Tryz.prog 17 #[.slice (some ⟨g, 0, none⟩) 1 1] w fun e w' => e = .returned (.bool true) ∧ Only (fun _ => False) w w' := by
  have HI : Hid (∀ w1, Calls Tryz.prog 32 #[p7] w1 fun e w' => e = .returned (.bool true) ∧ Only (fun _ => False) w1 w') := psound7
  go_enter Tryz.func17, Tryz.ntmps17
  go_wp2
  go_loopw [7] (fun r wr => ∃ i : Int, r = .int .i64 i ∧ (i = 0 ∨ i = 1) ∧ Hid (Only (fun _ => False) w wr)) (fun r _ => 1 - uOf r)
  case atStart => exact ⟨0, rfl, .inl rfl, Only.refl _ _⟩
  case round =>
    obtain ⟨i, rfl, hi, HO⟩ := hrel
    obtain ⟨w1, rfl⟩ : ∃ w1, w1 = wr := ⟨_, rfl⟩
    rcases hi with rfl | rfl
    · have hg1 := HO.out.cell hg (fun h => h)
      go_wp2_with fail
      refine (show Calls Tryz.prog 32 _ _ _ from HI.out _).mono ?_
      rintro e w2 ⟨rfl, o2⟩
      have O2 : Hid (Only (fun _ => False) w w2) := HO.out.trans o2 (fun _ _ g => g)
      clear HI o2 hg1 HO
      go_wp2
      go_roundw
      case rel => exact ⟨1, rfl, .inr rfl, O2⟩
      case measure => simp [uOf]
    · go_wp2
      go_ret
      exact ⟨rfl, HO.out⟩
end Go.Proofs.YtmpfbjmaiddigaaGreatDoor
namespace Go.Proofs.YtmpfbjmaiddigaaGreatDoor
open Go.RowKit Go.Lib
set_option linter.unusedSimpArgs false
set_option linter.unusedVariables false
theorem WrU.alloc {B b : Nat} {bs : List Value} {bg : Bool} {w : World} (h : WrU B b bs bg w) (o : Obj) : WrU B b bs bg (w.alloc o) := h.only ((Only.refl _ w).alloc _)
set_option maxRecDepth 100000 in
theorem wval7 (B b : Nat) (w : World) (h : WrU B b [] false w) (hBw : B ≤ w.heap.size) : Calls Tryz.prog 50 #[.pointer (some ⟨b, 0, none⟩), i7] w fun e w' => e = .returned (.tuple #[]) ∧ Hid (WrU B b (Lib.byteCells [55]) true w' ∧ Only (fun k => B ≤ k) w w') := by
  have HF : Hid (Calls Tryz.prog 34 #[.pointer (some ⟨b, 0, none⟩)] w fun e w' => e = .returned (.bool false) ∧ w' = w) := by
    have := wfull_any B b _ false w h
    rwa [show decide (65536 < (([] : List Value).length : Int)) = false by simp] at this
  have HI : Hid (∀ w1, Calls Tryz.prog 71 #[.int .i64 7, .int .i64 10] w1 fun e w' => e = .returned (.string ⟨#[55]⟩) ∧ w' = w1) := fmt7
  have HW : Hid (Calls Tryz.prog 51 #[.pointer (some ⟨b, 0, none⟩), .string ⟨#[55]⟩] (w.alloc (.cells #[.int .i64 7] 88)) fun e w' => e = .returned (.tuple #[]) ∧ Hid (WrU B b (Lib.byteCells [55]) true w' ∧ Only (fun k => B ≤ k) (w.alloc (.cells #[.int .i64 7] 88)) w')) := (wword_first B b [] ⟨#[55]⟩ _ (h.alloc _) (by simp) (by decide) (by simp; omega)).mono fun e w' g => ⟨g.1, by simpa [strCells, Lib.byteCells] using g.2.out.1, g.2.out.2⟩
  have hInt := va_hit 88 79 _ Tryz.underlying88 (by intro m h; cases h)
  have O0 : Hid (Only (fun k => B ≤ k) w (w.alloc (.cells #[.int .i64 7] 88))) := (Only.refl (fun k => B ≤ k) w).alloc _
  clear h hBw
  go_enter Tryz.func50, Tryz.ntmps50
  go_wp2_with fail
  refine (show Calls Tryz.prog 34 _ _ _ from HF.out).mono ?_
  rintro e w1 ⟨rfl, rfl⟩
  clear HF
  go_wp2_with fail
  refine (show Calls Tryz.prog 71 _ _ _ from HI.out _).mono ?_
  rintro e w2 ⟨rfl, rfl⟩
  clear HI
  go_wp2_with fail
  refine (show Calls Tryz.prog 51 _ _ _ from HW.out).mono ?_
  rintro e w3 ⟨rfl, g3⟩
  clear HW
  go_wp2
  go_end0
  exact ⟨rfl, g3.out.1, O0.out.trans g3.out.2 (fun _ _ g => g)⟩
set_option maxRecDepth 100000 in
theorem witem7 (B b : Nat) (w : World) (h : WrU B b [] false w) (hBw : B ≤ w.heap.size) : Calls Tryz.prog 33 #[.pointer (some ⟨b, 0, none⟩), p7] w fun e w' => e = .returned (.tuple #[]) ∧ Hid (WrU B b (Lib.byteCells [55]) true w' ∧ Only (fun k => B ≤ k) w w') := by
  have HV : Hid (Calls Tryz.prog 50 #[.pointer (some ⟨b, 0, none⟩), i7] (w.alloc (.cells #[i7] 81)) fun e w' => e = .returned (.tuple #[]) ∧ Hid (WrU B b (Lib.byteCells [55]) true w' ∧ Only (fun k => B ≤ k) (w.alloc (.cells #[i7] 81)) w')) := wval7 B b _ (h.alloc _) (by simp; omega)
  have hP := va_hit 81 36 _ Tryz.underlying81 (by intro m h; cases h)
  have O0 : Hid (Only (fun k => B ≤ k) w (w.alloc (.cells #[i7] 81))) := (Only.refl (fun k => B ≤ k) w).alloc _
  clear h hBw
  go_enter Tryz.func33, Tryz.ntmps33
  go_wp2_with fail
  refine (show Calls Tryz.prog 50 _ _ _ from HV.out).mono ?_
  rintro e w1 ⟨rfl, g1⟩
  clear HV
  go_wp2
  go_end0
  exact ⟨rfl, g1.out.1, O0.out.trans g1.out.2 (fun _ _ g => g)⟩
set_option maxRecDepth 100000 in
theorem witems7 (B b g : Nat) (w : World) (h : WrU B b [] false w) (hBw : B ≤ w.heap.size) (hg : w.cell? ⟨g, 0, none⟩ = some p7) : Calls Tryz.prog 18 #[.pointer (some ⟨b, 0, none⟩), .slice (some ⟨g, 0, none⟩) 1 1] w fun e w' => e = .returned (.tuple #[]) ∧ Hid (WrU B b (Lib.byteCells [55]) true w' ∧ Only (fun k => B ≤ k) w w') := by
  have HI : Hid (Calls Tryz.prog 33 #[.pointer (some ⟨b, 0, none⟩), p7] w fun e w' => e = .returned (.tuple #[]) ∧ Hid (WrU B b (Lib.byteCells [55]) true w' ∧ Only (fun k => B ≤ k) w w')) := witem7 B b w h hBw
  clear h hBw
  go_enter Tryz.func18, Tryz.ntmps18
  go_wp2
  go_loopw [8] (fun r wr => (r = .int .i64 0 ∧ wr = w) ∨ (r = .int .i64 1 ∧ Hid (WrU B b (Lib.byteCells [55]) true wr ∧ Only (fun k => B ≤ k) w wr))) (fun r _ => 1 - uOf r)
  case atStart => exact .inl ⟨rfl, rfl⟩
  case round =>
    rcases hrel with ⟨rfl, rfl⟩ | ⟨rfl, HO⟩
    · go_wp2_with fail
      refine (show Calls Tryz.prog 33 _ _ _ from HI.out).mono ?_
      rintro e w2 ⟨rfl, g2⟩
      clear HI hg
      go_wp2
      go_roundw
      case rel => exact .inr ⟨rfl, g2⟩
      case measure => simp [uOf]
    · obtain ⟨w1, rfl⟩ : ∃ w1, w1 = wr := ⟨_, rfl⟩
      go_wp2
      go_end0
      exact ⟨rfl, HO⟩
set_option maxRecDepth 100000 in
theorem text7 (g : Nat) (w : World) (hg : w.cell? ⟨g, 0, none⟩ = some p7) : Calls Tryz.prog 7 #[.slice (some ⟨g, 0, none⟩) 1 1] w fun e w' => e = .returned (.tuple #[.string ⟨#[55]⟩, .int .i64 0]) ∧ Only (fun _ => False) w w' := by
  have HS : Hid (Calls Tryz.prog 17 #[.slice (some ⟨g, 0, none⟩) 1 1] w fun e w' => e = .returned (.bool true) ∧ Only (fun _ => False) w w') := psounds7 w g hg
  have HG : Hid (w.cell? ⟨g, 0, none⟩ = some p7) := hg
  clear hg
  go_enter Tryz.func7, Tryz.ntmps7
  go_wp2_with fail
  refine (show Calls Tryz.prog 17 _ _ _ from HS.out).mono ?_
  rintro e w1 ⟨rfl, o1⟩
  have O1 : Hid (Only (fun _ => False) w w1) := o1
  obtain ⟨b, hb⟩ : ∃ b, b = w1.heap.size := ⟨_, rfl⟩
  obtain ⟨W2, hW2⟩ : ∃ W2, W2 = w1.alloc (.cells #[.pointer none, .slice none 0 0, .bool false] 62) := ⟨_, rfl⟩
  have A2 : WrU b b [] false W2 := ⟨Nat.le_refl _, .pointer none, .slice none 0 0, by rw [hW2]; exact va_at _ _ _ hb, .inl rfl, ⟨rfl, .inl ⟨rfl, rfl⟩⟩, by simp [Value.ownBlock]⟩
  have o2 : Only (fun _ => False) w1 W2 := by rw [hW2]; exact (Only.refl _ w1).alloc _
  have HI : Hid (Calls Tryz.prog 18 #[.pointer (some ⟨b, 0, none⟩), .slice (some ⟨g, 0, none⟩) 1 1] W2 fun e w' => e = .returned (.tuple #[]) ∧ Hid (WrU b b (Lib.byteCells [55]) true w' ∧ Only (fun k => b ≤ k) W2 w')) := witems7 b b g W2 A2 (by rw [hW2]; simp; omega) ((O1.out.trans o2 (fun _ _ g => g)).cell HG.out (fun h => h))
  have H2 : Hid (Only (fun _ => False) w W2 ∧ w.heap.size ≤ b) := ⟨O1.out.trans o2 (fun _ _ g => g), by rw [hb]; exact O1.out.size⟩
  clear HS o1 A2 o2 O1 HG
  go_wp2_with fail
  rw [← hb, ← hW2]
  refine (show Calls Tryz.prog 18 _ _ _ from HI.out).mono ?_
  rintro e w3 ⟨rfl, g3⟩
  have HW : Hid (Calls Tryz.prog 19 #[.pointer (some ⟨b, 0, none⟩)] w3 fun e w' => e = .returned (.tuple #[.string ⟨#[55]⟩, .int .i64 0]) ∧ Below b w3 w') := wwhole_any b b [55] true w3 g3.out.1 (by simp) (by simp)
  have O3 : Hid (Only (fun _ => False) w w3) := H2.out.1.trans g3.out.2 (fun k hk e => by have := H2.out.2; omega)
  clear HI g3 hW2 hb
  go_wp2_with fail
  refine (show Calls Tryz.prog 19 _ _ _ from HW.out).mono ?_
  rintro e w4 ⟨rfl, b4⟩
  have O4 : Hid (Only (fun _ => False) w w4) := O3.out.trans (⟨b4.os, b4.tape, b4.output, b4.size, fun k hk hn => b4.block k (by omega)⟩ : Only (fun k => b ≤ k) w3 w4) (fun k hk e => by have := H2.out.2; omega)
  clear HW b4 O3
  go_wp2
  go_ret2
  exact ⟨rfl, O4.out⟩
end Go.Proofs.YtmpfbjmaiddigaaGreatDoor
