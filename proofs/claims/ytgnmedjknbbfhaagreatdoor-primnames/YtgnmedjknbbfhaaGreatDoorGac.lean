/- Trees as values: Value, Values, ItemOf, ItemsOf. Trees as values, many of them: Values, ItemsOf; all of them, whatever their depth. The digits of a script: inScript, script. The digits of a text: natural. A sign cut off; the number of a word. -/
import Derived.Test.YtgnmedjknbbfhaaGreatDoorGab
import Derived.Test.YtgnmedjknbbfhaaGreatDoorRows
import Derived.Test.YtgnmedjknbbfhaaGreatDoorGaa
import Derived.WalkKit
import Derived.WalkSpells
import Derived.WalkLawsBesides
import Derived.OpenShut
import Derived.Laws.RangeAny
import Derived.LoopTactic
namespace Go.Proofs.YtgnmedjknbbfhaaGreatDoor
open Go.RowKit
set_option linter.unusedSimpArgs false
set_option linter.unusedVariables false
/-- what a tree is as a value (i: as an item) -/
def nm : Nat → Bool → Vt → Vt
  | 0, _, _ => ⟨8, 0, ⟨#[]⟩, []⟩
  | d + 1, i, t =>
    if t.k = 1 then ⟨1, t.n, ⟨#[]⟩, []⟩ else if t.k = 2 then ⟨2, 0, t.s, []⟩ else if t.k = 3 then ⟨3, if t.n != 0 then 1 else 0, ⟨#[]⟩, []⟩
    else if t.k = 4 then ⟨4, 0, ⟨#[]⟩, t.l.map (nm d false)⟩ else if t.k = 5 then ⟨5, 0, ⟨#[]⟩, t.l.map (nm d true)⟩
    else if t.k = 6 then ⟨6, t.n, ⟨#[]⟩, []⟩ else if i = true ∧ t.k = 7 then ⟨7, 0, t.s, []⟩ else ⟨8, 0, ⟨#[]⟩, []⟩
theorem vblk_cells {w : World} {B : Nat} {c : Array Value} {t : TypeId} (h : w.heap[B]? = some (.cells c t)) (j : Nat) : w.cell? ⟨B, j, none⟩ = c[j]? := by
  simp [World.cell?, h]
theorem valloc_at (W : World) (o : Obj) (n : Nat) (h : n = W.heap.size) : (W.alloc o).heap[n]? = some o := by
  subst h
  exact Array.getElem?_push_size ..
theorem TiAt.form {w : World} {S : Nat → Prop} {d : Nat} {i : Bool} {t : Vt} {v : Value} (h : TiAt w S d i t v) : v.oneCell' = true := by
  cases d with
  | zero => exact h.elim
  | succ d =>
    cases i with
    | true => rcases h with ⟨_, _, rfl⟩ | ⟨_, _, rfl⟩ | ⟨_, _, u, rfl, _⟩ <;> rfl
    | false => rcases h with ⟨_, _, rfl⟩ | ⟨_, _, rfl⟩ | ⟨_, _, rfl⟩ | ⟨_, _, rfl⟩ | ⟨_, _, rfl⟩ | ⟨_, ao, cap, rfl, _⟩ <;> rfl
theorem TiAt.iface {w : World} {S : Nat → Prop} {d : Nat} {t : Vt} {v : Value} (h : TiAt w S d false t v) (h8 : t.k ≠ 8) : ∃ T y, v = .iface T y := by
  cases d with
  | zero => exact h.elim
  | succ d =>
    rcases h with ⟨_, _, rfl⟩ | ⟨_, _, rfl⟩ | ⟨_, _, rfl⟩ | ⟨_, _, rfl⟩ | ⟨h, _, rfl⟩ | ⟨_, ao, cap, rfl, _⟩
    · exact ⟨_, _, rfl⟩
    · exact ⟨_, _, rfl⟩
    · exact ⟨_, _, rfl⟩
    · exact ⟨_, _, rfl⟩
    · exact absurd h h8
    · exact ⟨_, _, rfl⟩
theorem vinfo_parts {t : TypeId} {z : Value} {s b : Nat} (h : (Tryz.prog.info? t).map (fun i => (i.zero, i.size, i.bytes)) = some (some z, s, b)) : ∃ i, Tryz.prog.info? t = some i ∧ i.zero = some z ∧ i.size = s ∧ i.bytes = b := by
  cases hi : Tryz.prog.info? t with
  | none => rw [hi] at h; simp at h
  | some i => rw [hi] at h; simp at h; exact ⟨i, rfl, h.1, h.2.1, h.2.2⟩
theorem vinfoV : (Tryz.prog.info? 51).map (fun i => (i.zero, i.size, i.bytes)) = some (some .nilIface, 1, 16) := by kernel_rfl
theorem vinfoI : (Tryz.prog.info? 112).map (fun i => (i.zero, i.size, i.bytes)) = some (some .nilIface, 1, 16) := by kernel_rfl
/-- a value or an item is put behind a row -/
theorem app_v {sT eT : TypeId} (hT : Tryz.prog.underlying sT = some (.slice eT)) (hI : (Tryz.prog.info? eT).map (fun i => (i.zero, i.size, i.bytes)) = some (some .nilIface, 1, 16)) {w : World} {B C d : Nat} {i : Bool} {v : Value} {acc : List Vt} {t : Vt} {iv : Value} (hf : RiAt w B eT d i v acc) (hn : NiAt w C d i t iv) (hC : B ≤ C) (hv : ∀ k, v.ownBlock = some k → k < C) (hB : B ≤ w.heap.size) (hl : acc.length ≤ 1048576) :
    ∃ v' w', (∀ ty, (Builtin.append_ #[sT, sT] ty #[v, .slice (some ⟨w.heap.size, 0, none⟩) 1 1]).run Tryz.prog (w.alloc (.cells #[iv] eT)) = .ok v' w') ∧ RiAt w' B eT d i v' (acc ++ [t]) ∧ Only (fun k => v.ownBlock = some k) w w' := by
  obtain ⟨i0, hi, hz0, hz1, hz2⟩ := vinfo_parts hI
  obtain ⟨W, hW⟩ : ∃ W, W = w.alloc (.cells #[iv] eT) := ⟨_, rfl⟩
  have oo : Only (fun _ => False) w W := by rw [hW]; exact (Only.refl _ w).alloc _
  have hf2 := hf.only oo (fun _ _ h => h)
  have hn2 := hn.only oo (fun _ _ h => h)
  have hblk : W.heap[w.heap.size]? = some (.cells #[iv] eT) := by rw [hW]; exact valloc_at _ _ _ rfl
  obtain ⟨us, S, ho, ht, hS⟩ := hf2
  have h1 : iv.oneCell' = true := by obtain ⟨S2, h2, _⟩ := hn2; exact h2.form
  have key := fun ty => run_append_own_at (P := Tryz.prog) W B sT ty eT i0 .nilIface 1 16 hT hi hz0 hz1 hz2 rfl (by omega) v acc.length us ho ⟨w.heap.size, 0, none⟩ 1 1 [iv] rfl (by
      intro j u hj
      rw [addr_ad, vblk_cells hblk]
      simpa using hj) (by
      intro u hu
      simp only [List.mem_cons, List.not_mem_nil, or_false] at hu
      subst hu
      exact h1) (by unfold maxLen; omega) (by omega) (by have := oo.size; omega)
  obtain ⟨v', w', hr, own', hg, _, hat⟩ := key 0
  refine ⟨v', w', fun ty => ?_, RiAt.snoc hg ho ht hS hn2 hC hv own' hat, (oo.mono (bs' := fun k => v.ownBlock = some k) (fun _ _ h => h.elim)).trans ((Only.refl (fun k => v.ownBlock = some k) W).grown hg (fun k e _ => e)) (fun k hk e => e)⟩
  rw [← hW, ← hr]
  rfl
theorem RiAt.lower {w : World} {B C : Nat} {T : TypeId} {d : Nat} {i : Bool} {v : Value} {l : List Vt} (h : RiAt w B T d i v l) (hC : C ≤ B) : RiAt w C T d i v l := by
  obtain ⟨us, S, ho, ht, hS⟩ := h
  exact ⟨us, S, ⟨ho.1, ho.2.imp id (fun ⟨g, cp, cu, q1, q2, q3⟩ => ⟨g, cp, cu, q1, by omega, q3⟩)⟩, ht, fun b hb => ⟨by have := (hS b hb).1; omega, (hS b hb).2⟩⟩
def vV (k n : Int) (s : ByteArray) (lv : Value) : Value := .agg #[.int .i64 k, .int .i64 n, .string s, lv]
/-- what Value, ItemOf answer -/
def VaC (d F : Nat) (D : Nat) (i : Bool) : Prop := ∀ (t : Vt) (lv : Value) (w : World) (S : Nat → Prop), VsAt w S d t.l lv → SmT d t → Calls Tryz.prog F #[vV t.k t.n t.s lv] w fun e w' => ∃ v, e = .returned v ∧ Hid (NiAt w' w.heap.size D i (nm d i t) v ∧ Only (fun _ => False) w w')
/-- what Values, ItemsOf answer -/
def VlC (d F : Nat) (D : Nat) (eT : TypeId) (i : Bool) : Prop := ∀ (l : List Vt) (lv : Value) (w : World) (S : Nat → Prop), VsAt w S (d + 1) l lv → l.length ≤ 1048576 → (∀ x ∈ l, SmT d x) → Calls Tryz.prog F #[lv] w fun e w' => ∃ ao cap, e = .returned (.slice ao l.length cap) ∧ Hid (RiAt w' w.heap.size eT D i (.slice ao l.length cap) (l.map (nm d i)) ∧ Only (fun _ => False) w w')
theorem ni_leaf {w : World} {B d : Nat} {i : Bool} {t : Vt} {v : Value} (h : ∀ S, TiAt w S d i t v) : NiAt w B d i t v := ⟨fun _ => False, h _, fun b h => h.elim⟩
set_option maxRecDepth 100000 in
set_option maxHeartbeats 4000000 in
theorem value_of (d : Nat) (H1 : VlC d 11 (2 * d + 1) 51 false) (H2 : VlC d 43 (2 * d + 2) 112 true) : VaC (d + 1) 25 (2 * d + 3) false := by
  intro t lv w S hv hs
  obtain ⟨ao, cap, hlv⟩ := hv.form
  obtain ⟨k, n, s, l⟩ := t
  simp only at hlv hv
  subst hlv
  have oA : Only (fun _ => False) w (w.alloc (.cells #[.int .i64 k, .int .i64 n, .string s, .slice ao l.length cap] 45)) := (Only.refl _ w).alloc _
  have HO : Hid (Only (fun _ => False) w (w.alloc (.cells #[.int .i64 k, .int .i64 n, .string s, .slice ao l.length cap] 45))) := oA
  have HC1 : Hid _ := H1 l _ _ S (hv.only oA) hs.2.1 hs.2.2.2.2
  have HC2 : Hid _ := H2 l _ _ S (hv.only oA) hs.2.1 hs.2.2.2.2
  clear hv hs H1 H2 oA
  obtain ⟨L, hL⟩ : ∃ L, L = l.length := ⟨_, rfl⟩
  have HL : Hid (L = l.length) := hL
  rw [← hL] at HC1 HC2 HO ⊢
  clear hL
  unfold vV
  simp only
  by_cases h4 : k = 4
  · subst h4
    go_enter Tryz.func25, Tryz.ntmps25
    go_wp2_with fail
    refine (show Calls Tryz.prog 11 _ _ _ from HC1.out).mono ?_
    rintro e w1 ⟨a1, c1, rfl, G1⟩
    have HG : Hid (RiAt w1 w.heap.size 51 (2 * d + 1) false (.slice a1 L c1) (l.map (nm d false)) ∧ Only (fun _ => False) w w1) := ⟨G1.out.1.lower (by simp), HO.out.trans G1.out.2 (fun _ _ g => g)⟩
    clear HC1 HC2 G1 HO
    go_wp2
    go_ret
    refine ⟨_, rfl, ?_, HG.out.2⟩
    exact (RiAt.tree (t := nm (d + 1) false ⟨4, n, s, l⟩) (.inl rfl) rfl HG.out.1).deep (by omega)
  by_cases h5 : k = 5
  · subst h5
    go_enter Tryz.func25, Tryz.ntmps25
    go_wp2_with fail
    refine (show Calls Tryz.prog 43 _ _ _ from HC2.out).mono ?_
    rintro e w1 ⟨a1, c1, rfl, G1⟩
    have HG : Hid (RiAt w1 w.heap.size 112 (2 * d + 2) true (.slice a1 L c1) (l.map (nm d true)) ∧ Only (fun _ => False) w w1) := ⟨G1.out.1.lower (by simp), HO.out.trans G1.out.2 (fun _ _ g => g)⟩
    clear HC1 HC2 G1 HO
    go_wp2
    go_ret
    refine ⟨_, rfl, ?_, HG.out.2⟩
    exact (RiAt.tree (t := nm (d + 1) false ⟨5, n, s, l⟩) (.inr rfl) rfl HG.out.1).deep (by omega)
  clear HC1 HC2
  by_cases h1 : k = 1
  · subst h1
    go_enter Tryz.func25, Tryz.ntmps25
    go_wp2
    go_ret
    exact ⟨_, rfl, ni_leaf (fun S => .inl ⟨rfl, rfl, rfl⟩), HO.out⟩
  by_cases h2 : k = 2
  · subst h2
    go_enter Tryz.func25, Tryz.ntmps25
    go_wp2
    go_ret
    exact ⟨_, rfl, ni_leaf (fun S => .inr (.inl ⟨rfl, rfl, rfl⟩)), HO.out⟩
  by_cases h3 : k = 3
  · subst h3
    go_enter Tryz.func25, Tryz.ntmps25
    go_wp2
    go_ret
    refine ⟨_, rfl, ni_leaf (fun S => .inr (.inr (.inl ⟨rfl, rfl, ?_⟩))), HO.out⟩
    show Value.iface 59 (.agg #[.bool (n != 0)]) = .iface 59 (.agg #[.bool ((if n != 0 then (1 : Int) else 0) != 0)])
    cases n != 0 <;> rfl
  by_cases h6 : k = 6
  · subst h6
    go_enter Tryz.func25, Tryz.ntmps25
    go_wp2
    go_ret
    exact ⟨_, rfl, ni_leaf (fun S => .inr (.inr (.inr (.inl ⟨rfl, rfl, rfl⟩)))), HO.out⟩
  have e1 : (k == 1) = false := by simpa using h1
  have e2 : (k == 2) = false := by simpa using h2
  have e3 : (k == 3) = false := by simpa using h3
  have e4 : (k == 4) = false := by simpa using h4
  have e5 : (k == 5) = false := by simpa using h5
  have e6 : (k == 6) = false := by simpa using h6
  have HN : Hid (nm (d + 1) false ⟨k, n, s, l⟩ = ⟨8, 0, ⟨#[]⟩, []⟩) := by
    show (if k = 1 then _ else _) = _
    rw [if_neg h1, if_neg h2, if_neg h3, if_neg h4, if_neg h5, if_neg h6]
    rfl
  clear h1 h2 h3 h4 h5 h6
  go_enter Tryz.func25, Tryz.ntmps25
  go_wp2
  go_ret
  refine ⟨_, rfl, ?_, HO.out⟩
  rw [HN.out]
  exact ni_leaf (fun S => .inr (.inr (.inr (.inr (.inl ⟨rfl, rfl, rfl⟩)))))
set_option maxRecDepth 100000 in
set_option maxHeartbeats 4000000 in
theorem itemof_of (d : Nat) (H : VaC d 25 (2 * d + 1) false) : VaC d 65 (2 * d + 2) true := by
  intro t lv w S hv hs
  cases d with
  | zero => exact hv.elim
  | succ d =>
  obtain ⟨ao, cap, hlv⟩ := hv.form
  obtain ⟨k, n, s, l⟩ := t
  simp only at hlv hv
  subst hlv
  have oA : Only (fun _ => False) w (w.alloc (.cells #[.int .i64 k, .int .i64 n, .string s, .slice ao l.length cap] 45)) := (Only.refl _ w).alloc _
  have HO : Hid (Only (fun _ => False) w (w.alloc (.cells #[.int .i64 k, .int .i64 n, .string s, .slice ao l.length cap] 45))) := oA
  have HC : Hid _ := H ⟨k, n, s, l⟩ _ _ S (hv.only oA) hs
  clear hv hs H oA
  obtain ⟨L, hL⟩ : ∃ L, L = l.length := ⟨_, rfl⟩
  have HL : Hid (L = l.length) := hL
  rw [← hL] at HC HO ⊢
  clear hL
  unfold vV at HC ⊢
  simp only at HC ⊢
  by_cases h7 : k = 7
  · subst h7
    clear HC
    go_enter Tryz.func65, Tryz.ntmps65
    go_wp2
    go_ret
    exact ⟨_, rfl, ni_leaf (fun S => .inl ⟨rfl, rfl, rfl⟩), HO.out⟩
  have e7 : (k == 7) = false := by simpa using h7
  by_cases hk : k < 1 ∨ 6 < k
  · have HN : Hid (nm (d + 1) true ⟨k, n, s, l⟩ = ⟨8, 0, ⟨#[]⟩, []⟩) := by
      show (if k = 1 then _ else _) = _
      have n1 : ¬ k = 1 := by omega
      have n2 : ¬ k = 2 := by omega
      have n3 : ¬ k = 3 := by omega
      have n4 : ¬ k = 4 := by omega
      have n5 : ¬ k = 5 := by omega
      have n6 : ¬ k = 6 := by omega
      rw [if_neg n1, if_neg n2, if_neg n3, if_neg n4, if_neg n5, if_neg n6]
      exact if_neg (fun h => h7 h.2)
    clear HC h7
    rcases hk with hk | hk
    · go_enter Tryz.func65, Tryz.ntmps65
      go_wp2
      go_ret
      refine ⟨_, rfl, ?_, HO.out⟩
      rw [HN.out]
      exact ni_leaf (fun S => .inr (.inl ⟨rfl, rfl, rfl⟩))
    · have h1 : ¬ k < 1 := by omega
      go_enter Tryz.func65, Tryz.ntmps65
      go_wp2
      go_ret
      refine ⟨_, rfl, ?_, HO.out⟩
      rw [HN.out]
      exact ni_leaf (fun S => .inr (.inl ⟨rfl, rfl, rfl⟩))
  · have h1 : ¬ k < 1 := by omega
    have h2 : ¬ 6 < k := by omega
    have HN : Hid (nm (d + 1) true ⟨k, n, s, l⟩ = nm (d + 1) false ⟨k, n, s, l⟩ ∧ (nm (d + 1) false ⟨k, n, s, l⟩).k ≠ 7 ∧ (nm (d + 1) false ⟨k, n, s, l⟩).k ≠ 8) := by
      have : k = 1 ∨ k = 2 ∨ k = 3 ∨ k = 4 ∨ k = 5 ∨ k = 6 := by omega
      rcases this with rfl | rfl | rfl | rfl | rfl | rfl
      · exact ⟨rfl, show (1 : Int) ≠ 7 by decide, show (1 : Int) ≠ 8 by decide⟩
      · exact ⟨rfl, show (2 : Int) ≠ 7 by decide, show (2 : Int) ≠ 8 by decide⟩
      · exact ⟨rfl, show (3 : Int) ≠ 7 by decide, show (3 : Int) ≠ 8 by decide⟩
      · exact ⟨rfl, show (4 : Int) ≠ 7 by decide, show (4 : Int) ≠ 8 by decide⟩
      · exact ⟨rfl, show (5 : Int) ≠ 7 by decide, show (5 : Int) ≠ 8 by decide⟩
      · exact ⟨rfl, show (6 : Int) ≠ 7 by decide, show (6 : Int) ≠ 8 by decide⟩
    clear h7 hk
    go_enter Tryz.func65, Tryz.ntmps65
    go_wp2_with fail
    refine (show Calls Tryz.prog 25 _ _ _ from HC.out).mono ?_
    rintro e w1 ⟨v1, rfl, G1⟩
    clear HC
    obtain ⟨T1, y1, rfl⟩ : ∃ T y, v1 = .iface T y := by
      obtain ⟨S1, t1, _⟩ := G1.out.1
      exact t1.iface HN.out.2.2
    have HF : Hid (NiAt w1 w.heap.size (2 * (d + 1) + 2) true (nm (d + 1) true ⟨k, n, s, l⟩) (.iface 125 (.agg #[.iface T1 y1])) ∧ Only (fun _ => False) w w1) := by
      obtain ⟨S1, t1, s1⟩ := G1.out.1
      refine ⟨⟨S1, ?_, fun b hb => ⟨by have := (s1 b hb).1; simp at this; omega, (s1 b hb).2⟩⟩, HO.out.trans G1.out.2 (fun _ _ g => g)⟩
      rw [HN.out.1]
      exact .inr (.inr ⟨HN.out.2.1, HN.out.2.2, _, rfl, t1⟩)
    clear G1
    go_wp2
    go_ret
    exact ⟨_, rfl, HF.out⟩
end Go.Proofs.YtgnmedjknbbfhaaGreatDoor
namespace Go.Proofs.YtgnmedjknbbfhaaGreatDoor
open Go.RowKit
set_option linter.unusedSimpArgs false
set_option linter.unusedVariables false
def vuOf : Value → Nat
  | .int _ m => m.toNat
  | _ => 0
theorem TiAt.shape {w : World} {S : Nat → Prop} {d : Nat} {i : Bool} {t : Vt} {v : Value} (h : TiAt w S d i t v) : v = .nilIface ∨ ∃ T y, v = .iface T y := by
  cases d with
  | zero => exact h.elim
  | succ d =>
    cases i with
    | true => rcases h with ⟨_, _, rfl⟩ | ⟨_, _, rfl⟩ | ⟨_, _, u, rfl, _⟩ <;> first | exact .inl rfl | exact .inr ⟨_, _, rfl⟩
    | false => rcases h with ⟨_, _, rfl⟩ | ⟨_, _, rfl⟩ | ⟨_, _, rfl⟩ | ⟨_, _, rfl⟩ | ⟨_, _, rfl⟩ | ⟨_, ao, cap, rfl, _⟩ <;> first | exact .inl rfl | exact .inr ⟨_, _, rfl⟩
section
variable {P : Program} {op : Oper} {a : Act} {w w' : World} {K : Act → World → Prop} {Q : Exit → Act → World → Prop}
theorem vwp_append_run (s x : Operand) (t : TypeId) (ho : op.op = .call { callee := .builtin .append, args := #[s, x], argTypes := #[t, t] }) (v1 v2 v' : Value) (hs : a.eval s = v1) (hx : a.eval x = v2)
    (hr : (Builtin.append_ #[t, t] op.type #[v1, v2]).run P w = .ok v' w') (h : K (a.put op.dst v') w') : op.wp P a w K Q := by
  unfold Oper.wp
  simp [execOp, ho, resolve, invoke, builtin, hs, hx, hr, Result.andThen]
  exact h
theorem vstep_append_run {ops : Array Oper} {E : Prop} (hgd : op.guard = none) (s x : Operand) (t : TypeId) (ho : op.op = .call { callee := .builtin .append, args := #[s, x], argTypes := #[t, t] }) (v1 v2 v' : Value) (hs : a.eval s = v1) (hx : a.eval x = v2)
    (hr : ∀ ty, (Builtin.append_ #[t, t] ty #[v1, v2]).run P w = .ok v' w') (h : K (a.put op.dst v') w') : if Region.wanted op (yielded ops a.tmps) = true then Oper.wp P op a w K Q else E := by
  have hw : Region.wanted op (yielded ops a.tmps) = true := by simp [Region.wanted, hgd]
  rw [if_pos hw]
  exact vwp_append_run s x t ho v1 v2 v' hs hx (hr _) h
theorem vwpList_append_run {ops : Array Oper} {rest : List Oper} (hgd : op.guard = none) (s x : Operand) (t : TypeId) (ho : op.op = .call { callee := .builtin .append, args := #[s, x], argTypes := #[t, t] }) (v1 v2 v' : Value) (hs : a.eval s = v1) (hx : a.eval x = v2)
    (hr : ∀ ty, (Builtin.append_ #[t, t] ty #[v1, v2]).run P w = .ok v' w') (h : wpList P ops Q rest (a.put op.dst v') w') : wpList P ops Q (op :: rest) a w :=
  wpList_plain hgd fun _ hK => vwp_append_run s x t ho v1 v2 v' hs hx (hr _) (hK _ _ h)
end
set_option maxRecDepth 100000 in
set_option maxHeartbeats 4000000 in
theorem values_of (d D : Nat) (H : VaC d 25 D false) : VlC d 11 D 51 false := by
  intro l lv w S hv hlen hsm
  obtain ⟨ao, cap, rfl, hcap, hl⟩ := hv
  have HE : Hid (∀ (j : Nat) (x : Vt), l[j]? = some x → ∃ g k lx, ao = some ⟨g, k, none⟩ ∧ (w.cell? ⟨g, k + j * 4, none⟩ = some (.int .i64 x.k) ∧ w.cell? ⟨g, k + j * 4 + 1, none⟩ = some (.int .i64 x.n) ∧ w.cell? ⟨g, k + j * 4 + 2, none⟩ = some (.string x.s) ∧ w.cell? ⟨g, k + j * 4 + 3, none⟩ = some lx) ∧ ∀ w1, Only (fun _ => False) w w1 → Calls Tryz.prog 25 #[.agg #[.int .i64 x.k, .int .i64 x.n, .string x.s, lx]] w1 fun e w' => ∃ v, e = .returned v ∧ Hid (NiAt w' w1.heap.size D false (nm d false x) v ∧ Only (fun _ => False) w1 w')) := by
    intro j x hx
    obtain ⟨g, k, lx, p1, p2, p3, p4⟩ := hl j x hx
    exact ⟨g, k, lx, p1, p3, fun w1 o1 => H x lx w1 S (p4.only o1) (hsm x (List.mem_of_getElem? hx))⟩
  obtain ⟨N, hN⟩ : ∃ N, N = l.length := ⟨_, rfl⟩
  have HN : Hid (N = l.length ∧ N ≤ 1048576) := ⟨hN, by omega⟩
  rw [← hN]
  clear hl hsm hcap hN H hlen
  go_enter Tryz.func11, Tryz.ntmps11
  go_wp2
  go_loopw [3, 4] (fun r3 r4 wr => ∃ (i : Nat) (a' : Option Addr) (c' : Nat), r4 = .int .i64 (i : Int) ∧ i ≤ N ∧ r3 = .slice a' i c' ∧ Hid (RiAt wr w.heap.size 51 D false (.slice a' i c') ((l.take i).map (nm d false)) ∧ Only (fun _ => False) w wr)) (fun _ r4 _ => N - vuOf r4)
  case atStart => exact ⟨0, none, 0, rfl, Nat.zero_le _, rfl, ri_nil _ _ _ _ _, Only.refl _ _⟩
  case round =>
    obtain ⟨i, a', c', rfl, hi, rfl, HI⟩ := hrel
    obtain ⟨w1, hw1⟩ : ∃ w1, w1 = wr := ⟨_, rfl⟩
    rw [← hw1] at HI ⊢
    clear hw1
    have hNl := HN.out.1
    have hN2 := HN.out.2
    by_cases hiN : i < N
    · obtain ⟨x, hx⟩ : ∃ x, l[i]? = some x := ⟨l[i]'(by omega), List.getElem?_eq_getElem (by omega)⟩
      obtain ⟨g, k, lx, rfl, ⟨h0, h1, h2, h3⟩, hcall⟩ := HE.out i x hx
      have o1 := HI.out.2
      have c0 := o1.cell h0 (fun g => g)
      have c1 := o1.cell h1 (fun g => g)
      have c2 := o1.cell h2 (fun g => g)
      have c3 := o1.cell h3 (fun g => g)
      have HC : Hid _ := hcall w1 o1
      have HX : Hid (l[i]? = some x ∧ i < N) := ⟨hx, hiN⟩
      have i1 : (i : Int) < (N : Int) := by omega
      have i0 : (0 : Int) ≤ (i : Int) := by omega
      have i4 : i ≤ 1048576 := by omega
      obtain ⟨x0, hx0⟩ : ∃ x0, x0 = x.k := ⟨_, rfl⟩
      obtain ⟨x1, hx1⟩ : ∃ x1, x1 = x.n := ⟨_, rfl⟩
      obtain ⟨x2, hx2⟩ : ∃ x2, x2 = x.s := ⟨_, rfl⟩
      rw [← hx0, ← hx1, ← hx2] at HC
      rw [← hx0] at c0
      rw [← hx1] at c1
      rw [← hx2] at c2
      clear h0 h1 h2 h3 hcall o1 hNl hN2 hiN hi hx hx0 hx1 hx2
      go_wp2_with fail
      refine (show Calls Tryz.prog 25 _ _ _ from HC.out).mono ?_
      rintro e w2 ⟨v, rfl, G2⟩
      have o2 := G2.out.2
      have hB2 : w.heap.size ≤ w2.heap.size := Nat.le_trans HI.out.2.size o2.size
      obtain ⟨v', w3, hr, hri, o3⟩ := app_v (sT := 25) Tryz.underlying25 vinfoV (HI.out.1.only o2 (fun _ _ g => g)) G2.out.1 HI.out.2.size (fun k hk => by obtain ⟨us, S', ho, _⟩ := HI.out.1; exact (ho.lt k hk).2) hB2 (by simp; omega)
      obtain ⟨a2, c2', hv2⟩ := hri.form
      have hlen2 : ((l.take i).map (nm d false) ++ [nm d false x]).length = i + 1 := by
        have := HX.out.2
        have := HN.out.1
        simp
        omega
      rw [hlen2] at hv2
      subst hv2
      have HF : Hid (RiAt w3 w.heap.size 51 D false (.slice a2 (i + 1) c2') ((l.take (i + 1)).map (nm d false)) ∧ Only (fun _ => False) w w3) := by
        refine ⟨?_, (HI.out.2.trans o2 (fun _ _ g => g)).trans o3 (fun b hb e => ?_)⟩
        · rw [List.take_add_one, HX.out.1]
          simpa using hri
        · obtain ⟨us, S', ho, _⟩ := HI.out.1
          have := (ho.lt b e).1
          omega
      have HR : Hid _ := hr
      have hsh : v = .nilIface ∨ ∃ T y, v = .iface T y := by obtain ⟨S', t', _⟩ := G2.out.1; exact t'.shape
      clear HC HI G2 o2 hr hri o3 hB2 hlen2 c0 c1 c2 c3
      rcases hsh with rfl | ⟨T1, y1, rfl⟩
      all_goals
        go_wp2_with (at_builtin; refine vwpList_append_run rfl _ _ 25 rfl _ _ _ rfl rfl HR.out ?_)
        go_roundw
        case rel => exact ⟨i + 1, a2, c2', by go_num, by have := HX.out.2; omega, rfl, HF⟩
        case measure => simp only [vuOf]; have := HX.out.2; omega
    · obtain rfl : i = N := by omega
      have i1 : ¬ (i : Int) < (i : Int) := by omega
      have HF : Hid (RiAt w1 w.heap.size 51 D false (.slice a' i c') (l.map (nm d false)) ∧ Only (fun _ => False) w w1) := by
        have := HI.out
        rwa [show l.take i = l from by rw [hNl]; exact List.take_length] at this
      clear HI hNl hN2 hiN hi
      go_wp2
      go_ret
      exact ⟨a', c', rfl, HF⟩
set_option maxRecDepth 100000 in
set_option maxHeartbeats 4000000 in
theorem items_of (d D : Nat) (H : VaC d 65 D true) : VlC d 43 D 112 true := by
  intro l lv w S hv hlen hsm
  obtain ⟨ao, cap, rfl, hcap, hl⟩ := hv
  have HE : Hid (∀ (j : Nat) (x : Vt), l[j]? = some x → ∃ g k lx, ao = some ⟨g, k, none⟩ ∧ (w.cell? ⟨g, k + j * 4, none⟩ = some (.int .i64 x.k) ∧ w.cell? ⟨g, k + j * 4 + 1, none⟩ = some (.int .i64 x.n) ∧ w.cell? ⟨g, k + j * 4 + 2, none⟩ = some (.string x.s) ∧ w.cell? ⟨g, k + j * 4 + 3, none⟩ = some lx) ∧ ∀ w1, Only (fun _ => False) w w1 → Calls Tryz.prog 65 #[.agg #[.int .i64 x.k, .int .i64 x.n, .string x.s, lx]] w1 fun e w' => ∃ v, e = .returned v ∧ Hid (NiAt w' w1.heap.size D true (nm d true x) v ∧ Only (fun _ => False) w1 w')) := by
    intro j x hx
    obtain ⟨g, k, lx, p1, p2, p3, p4⟩ := hl j x hx
    exact ⟨g, k, lx, p1, p3, fun w1 o1 => H x lx w1 S (p4.only o1) (hsm x (List.mem_of_getElem? hx))⟩
  obtain ⟨N, hN⟩ : ∃ N, N = l.length := ⟨_, rfl⟩
  have HN : Hid (N = l.length ∧ N ≤ 1048576) := ⟨hN, by omega⟩
  rw [← hN]
  clear hl hsm hcap hN H hlen
  go_enter Tryz.func43, Tryz.ntmps43
  go_wp2
  go_loopw [3, 4] (fun r3 r4 wr => ∃ (i : Nat) (a' : Option Addr) (c' : Nat), r4 = .int .i64 (i : Int) ∧ i ≤ N ∧ r3 = .slice a' i c' ∧ Hid (RiAt wr w.heap.size 112 D true (.slice a' i c') ((l.take i).map (nm d true)) ∧ Only (fun _ => False) w wr)) (fun _ r4 _ => N - vuOf r4)
  case atStart => exact ⟨0, none, 0, rfl, Nat.zero_le _, rfl, ri_nil _ _ _ _ _, Only.refl _ _⟩
  case round =>
    obtain ⟨i, a', c', rfl, hi, rfl, HI⟩ := hrel
    obtain ⟨w1, hw1⟩ : ∃ w1, w1 = wr := ⟨_, rfl⟩
    rw [← hw1] at HI ⊢
    clear hw1
    have hNl := HN.out.1
    have hN2 := HN.out.2
    by_cases hiN : i < N
    · obtain ⟨x, hx⟩ : ∃ x, l[i]? = some x := ⟨l[i]'(by omega), List.getElem?_eq_getElem (by omega)⟩
      obtain ⟨g, k, lx, rfl, ⟨h0, h1, h2, h3⟩, hcall⟩ := HE.out i x hx
      have o1 := HI.out.2
      have c0 := o1.cell h0 (fun g => g)
      have c1 := o1.cell h1 (fun g => g)
      have c2 := o1.cell h2 (fun g => g)
      have c3 := o1.cell h3 (fun g => g)
      have HC : Hid _ := hcall w1 o1
      have HX : Hid (l[i]? = some x ∧ i < N) := ⟨hx, hiN⟩
      have i1 : (i : Int) < (N : Int) := by omega
      have i0 : (0 : Int) ≤ (i : Int) := by omega
      have i4 : i ≤ 1048576 := by omega
      obtain ⟨x0, hx0⟩ : ∃ x0, x0 = x.k := ⟨_, rfl⟩
      obtain ⟨x1, hx1⟩ : ∃ x1, x1 = x.n := ⟨_, rfl⟩
      obtain ⟨x2, hx2⟩ : ∃ x2, x2 = x.s := ⟨_, rfl⟩
      rw [← hx0, ← hx1, ← hx2] at HC
      rw [← hx0] at c0
      rw [← hx1] at c1
      rw [← hx2] at c2
      clear h0 h1 h2 h3 hcall o1 hNl hN2 hiN hi hx hx0 hx1 hx2
      go_wp2_with fail
      refine (show Calls Tryz.prog 65 _ _ _ from HC.out).mono ?_
      rintro e w2 ⟨v, rfl, G2⟩
      have o2 := G2.out.2
      have hB2 : w.heap.size ≤ w2.heap.size := Nat.le_trans HI.out.2.size o2.size
      obtain ⟨v', w3, hr, hri, o3⟩ := app_v (sT := 82) Tryz.underlying82 vinfoI (HI.out.1.only o2 (fun _ _ g => g)) G2.out.1 HI.out.2.size (fun k hk => by obtain ⟨us, S', ho, _⟩ := HI.out.1; exact (ho.lt k hk).2) hB2 (by simp; omega)
      obtain ⟨a2, c2', hv2⟩ := hri.form
      have hlen2 : ((l.take i).map (nm d true) ++ [nm d true x]).length = i + 1 := by
        have := HX.out.2
        have := HN.out.1
        simp
        omega
      rw [hlen2] at hv2
      subst hv2
      have HF : Hid (RiAt w3 w.heap.size 112 D true (.slice a2 (i + 1) c2') ((l.take (i + 1)).map (nm d true)) ∧ Only (fun _ => False) w w3) := by
        refine ⟨?_, (HI.out.2.trans o2 (fun _ _ g => g)).trans o3 (fun b hb e => ?_)⟩
        · rw [List.take_add_one, HX.out.1]
          simpa using hri
        · obtain ⟨us, S', ho, _⟩ := HI.out.1
          have := (ho.lt b e).1
          omega
      have HR : Hid _ := hr
      have hsh : v = .nilIface ∨ ∃ T y, v = .iface T y := by obtain ⟨S', t', _⟩ := G2.out.1; exact t'.shape
      clear HC HI G2 o2 hr hri o3 hB2 hlen2 c0 c1 c2 c3
      rcases hsh with rfl | ⟨T1, y1, rfl⟩
      all_goals
        go_wp2_with (at_builtin; refine vwpList_append_run rfl _ _ 82 rfl _ _ _ rfl rfl HR.out ?_)
        go_roundw
        case rel => exact ⟨i + 1, a2, c2', by go_num, by have := HX.out.2; omega, rfl, HF⟩
        case measure => simp only [vuOf]; have := HX.out.2; omega
    · obtain rfl : i = N := by omega
      have i1 : ¬ (i : Int) < (i : Int) := by omega
      have HF : Hid (RiAt w1 w.heap.size 112 D true (.slice a' i c') (l.map (nm d true)) ∧ Only (fun _ => False) w w1) := by
        have := HI.out
        rwa [show l.take i = l from by rw [hNl]; exact List.take_length] at this
      clear HI hNl hN2 hiN hi
      go_wp2
      go_ret
      exact ⟨a', c', rfl, HF⟩
/-- all of them -/
theorem value_all : ∀ d : Nat, VaC d 25 (2 * d + 1) false
  | 0 => fun t lv w S h => h.elim
  | d + 1 => value_of d (values_of d _ (value_all d)) (items_of d _ (itemof_of d (value_all d)))
theorem itemof_all (d : Nat) : VaC d 65 (2 * d + 2) true := itemof_of d (value_all d)
theorem values_all (d : Nat) : VlC d 11 (2 * d + 1) 51 false := values_of d _ (value_all d)
theorem items_all (d : Nat) : VlC d 43 (2 * d + 2) 112 true := items_of d _ (itemof_all d)
end Go.Proofs.YtgnmedjknbbfhaaGreatDoor
namespace Go.Proofs.YtgnmedjknbbfhaaGreatDoor
open Go.RowKit
set_option linter.unusedSimpArgs false
set_option linter.unusedVariables false

def inS (c nt : Int) : Bool := decide (nt ≤ c ∧ c ≤ nt + 9)
set_option maxRecDepth 100000 in
theorem inscript_any (c nt : Int) (w : World) (h1 : -2147483648 ≤ nt) (h2 : nt ≤ 2147483638) :
    Calls Tryz.prog 138 #[.int .i32 c, .int .i32 nt] w fun e w' => e = .returned (.bool (inS c nt)) ∧ w' = w := by
  have e : IntKind.i32.wrap (nt + 9) = nt + 9 := by rw [IntKind.wrap_i32]; omega
  by_cases a : nt ≤ c
  · by_cases b : c ≤ nt + 9
    · have hv : inS c nt = true := by simp [inS, a, b]
      rw [hv]
      go_enter Tryz.func138, Tryz.ntmps138
      go_wp2
      go_ret
      exact ⟨rfl, rfl⟩
    · have hv : inS c nt = false := by simp [inS, b]
      rw [hv]
      go_enter Tryz.func138, Tryz.ntmps138
      go_wp2
      go_ret
      exact ⟨rfl, rfl⟩
  · have hv : inS c nt = false := by simp [inS, a]
    rw [hv]
    go_enter Tryz.func138, Tryz.ntmps138
    go_wp2
    go_ret
    exact ⟨rfl, rfl⟩
/-- The nought of the script of a digit. -/
def scr (c : Int) : Option Int := if inS c 48 then some 48 else if inS c 1632 then some 1632 else if inS c 65296 then some 65296 else none
theorem ix0 (w : World) : (Instr.index 236 (.agg #[.int .i32 48, .int .i32 1632, .int .i32 65296]) (.int .i64 0)).run Tryz.prog w = .ok (.int .i32 48) w := by kernel_rfl
theorem ix1 (w : World) : (Instr.index 236 (.agg #[.int .i32 48, .int .i32 1632, .int .i32 65296]) (.int .i64 1)).run Tryz.prog w = .ok (.int .i32 1632) w := by kernel_rfl
theorem ix2 (w : World) : (Instr.index 236 (.agg #[.int .i32 48, .int .i32 1632, .int .i32 65296]) (.int .i64 2)).run Tryz.prog w = .ok (.int .i32 65296) w := by kernel_rfl
/-- What the package's digits hold. -/
def Nog (w : World) : Prop := w.cell? ⟨2, 0, none⟩ = some (.int .i32 48) ∧ w.cell? ⟨2, 1, none⟩ = some (.int .i32 1632) ∧ w.cell? ⟨2, 2, none⟩ = some (.int .i32 65296)
theorem Nog.frame {w w' : World} (h : Nog w) (ho : Only (fun _ => False) w w') : Nog w' := ⟨ho.cell h.1 (fun g => g), ho.cell h.2.1 (fun g => g), ho.cell h.2.2 (fun g => g)⟩
def scrV (o : Option Int) : Value := match o with
  | some nt => .tuple #[.int .i32 nt, .bool true]
  | none => .tuple #[.int .i32 0, .bool false]
set_option maxRecDepth 100000 in
set_option maxHeartbeats 1000000 in
theorem script_any (c : Int) (w : World) (h : Nog w) :
    Calls Tryz.prog 137 #[.int .i32 c] w fun e w' => e = .returned (scrV (scr c)) ∧ w' = w := by
  obtain ⟨g0, g1, g2⟩ := h
  have H48 : Hid (Calls Tryz.prog 138 #[.int .i32 c, .int .i32 48] w fun e w' => e = .returned (.bool (inS c 48)) ∧ w' = w) := inscript_any c 48 w (by omega) (by omega)
  have H16 : Hid (Calls Tryz.prog 138 #[.int .i32 c, .int .i32 1632] w fun e w' => e = .returned (.bool (inS c 1632)) ∧ w' = w) := inscript_any c 1632 w (by omega) (by omega)
  have H65 : Hid (Calls Tryz.prog 138 #[.int .i32 c, .int .i32 65296] w fun e w' => e = .returned (.bool (inS c 65296)) ∧ w' = w) := inscript_any c 65296 w (by omega) (by omega)
  have HS : Hid (scr c = if inS c 48 then some 48 else if inS c 1632 then some 1632 else if inS c 65296 then some 65296 else none) := rfl
  obtain ⟨Y, hY⟩ : ∃ Y, Y = scr c := ⟨_, rfl⟩
  rw [← hY] at HS ⊢
  obtain ⟨b1, hb1⟩ : ∃ b, b = inS c 48 := ⟨_, rfl⟩
  obtain ⟨b2, hb2⟩ : ∃ b, b = inS c 1632 := ⟨_, rfl⟩
  obtain ⟨b3, hb3⟩ : ∃ b, b = inS c 65296 := ⟨_, rfl⟩
  rw [← hb1] at H48 HS
  rw [← hb2] at H16 HS
  rw [← hb3] at H65 HS
  clear hY hb1 hb2 hb3
  have i0 := ix0 w
  have i1 := ix1 w
  have i2 := ix2 w
  go_enter Tryz.func137, Tryz.ntmps137
  go_wp2
  go_loopw [7] (fun t wr => ∃ r : Int, t = .int .i64 r ∧ (r = 0 ∨ (r = 1 ∧ b1 = false) ∨ (r = 2 ∧ b1 = false ∧ b2 = false) ∨ (r = 3 ∧ b1 = false ∧ b2 = false ∧ b3 = false)) ∧ w = wr) (fun t _ => 3 - (intOf t).toNat)
  case atStart => exact ⟨0, rfl, .inl rfl, rfl⟩
  case round =>
    obtain ⟨r, rfl, hr, rfl⟩ := hrel
    rcases hr with rfl | ⟨rfl, rfl⟩ | ⟨rfl, rfl, rfl⟩ | ⟨rfl, rfl, rfl, rfl⟩
    · cases b1 with
      | true =>
        go_wp2_with (go_at_call 138; refine (show Calls Tryz.prog 138 _ _ _ from H48.out).mono ?_; rintro e wz ⟨rfl, rfl⟩)
        go_ret2
        exact ⟨by rw [HS.out]; rfl, rfl⟩
      | false =>
        go_wp2_with (go_at_call 138; refine (show Calls Tryz.prog 138 _ _ _ from H48.out).mono ?_; rintro e wz ⟨rfl, rfl⟩)
        go_roundw
        case rel => exact ⟨1, rfl, by simp, by first | trivial | rfl⟩
        case measure => simp [intOf]
    · cases b2 with
      | true =>
        go_wp2_with (go_at_call 138; refine (show Calls Tryz.prog 138 _ _ _ from H16.out).mono ?_; rintro e wz ⟨rfl, rfl⟩)
        go_ret2
        exact ⟨by rw [HS.out]; rfl, rfl⟩
      | false =>
        go_wp2_with (go_at_call 138; refine (show Calls Tryz.prog 138 _ _ _ from H16.out).mono ?_; rintro e wz ⟨rfl, rfl⟩)
        go_roundw
        case rel => exact ⟨2, rfl, by simp, by first | trivial | rfl⟩
        case measure => simp [intOf]
    · cases b3 with
      | true =>
        go_wp2_with (go_at_call 138; refine (show Calls Tryz.prog 138 _ _ _ from H65.out).mono ?_; rintro e wz ⟨rfl, rfl⟩)
        go_ret2
        exact ⟨by rw [HS.out]; rfl, rfl⟩
      | false =>
        go_wp2_with (go_at_call 138; refine (show Calls Tryz.prog 138 _ _ _ from H65.out).mono ?_; rintro e wz ⟨rfl, rfl⟩)
        go_roundw
        case rel => exact ⟨3, rfl, by simp, by first | trivial | rfl⟩
        case measure => simp [intOf]
    · go_wp2
      go_ret2
      exact ⟨by rw [HS.out]; rfl, rfl⟩
end Go.Proofs.YtgnmedjknbbfhaaGreatDoor
namespace Go.Proofs.YtgnmedjknbbfhaaGreatDoor
open Go.RowKit
set_option linter.unusedSimpArgs false
set_option linter.unusedVariables false

/-- The characters of a text from a place on: places and runes. -/
def crs (s : ByteArray) : Nat → Nat → List (Nat × Nat)
  | 0, _ => []
  | b + 1, pos => if pos < s.size then (pos, (Utf8.decode s pos).1) :: crs s b (pos + (Utf8.decode s pos).2) else []
def chs (s : ByteArray) : List (Nat × Nat) := crs s s.size 0
def rns (s : ByteArray) : List Nat := (chs s).map (·.2)
theorem wid_pos (s : ByteArray) (pos : Nat) (h : pos < s.size) : 1 ≤ (Utf8.decode s pos).2 := by
  by_cases ha : (s[pos]'h).toNat < 128
  · rw [decode_ascii s pos h ha]
    exact Nat.le_refl _
  · exact (decode_high s pos h (by omega)).2
theorem crs_end {s : ByteArray} {b pos : Nat} (h : ¬ pos < s.size) : crs s b pos = [] := by
  cases b with
  | zero => rfl
  | succ b => simp [crs, h]
theorem crs_go {s : ByteArray} {b pos : Nat} (h : pos < s.size) (hb : s.size ≤ pos + b) : ∃ b', b = b' + 1 ∧ crs s b pos = (pos, (Utf8.decode s pos).1) :: crs s b' (pos + (Utf8.decode s pos).2) := by
  cases b with
  | zero => omega
  | succ b => exact ⟨b, rfl, by simp [crs, h]⟩
theorem Only.iter {bs : Nat → Prop} {a w : World} (h : Only bs a w) (s : ByteArray) (pos : Nat) : Only bs a (w.iter s pos) := h.alloc _
/-- A digit more. -/
def dig (n : Nat) (c : Nat) (nt : Int) : Nat := if n ≤ 1152921504606846976 then n * 10 + ((c : Int) - nt).toNat else n
def natL : List Nat → Int → Bool → Nat → Nat × Bool
  | [], _, ok, n => (n, ok)
  | c :: l, nt, true, n => if inS c nt then natL l nt true (dig n c nt) else (0, false)
  | c :: l, nt, false, n => match scr c with
    | none => (0, false)
    | some nt' => natL l nt' true (dig n c nt')
theorem scr_some {c nt : Int} (h : scr c = some nt) : inS c nt = true ∧ 48 ≤ nt ∧ nt ≤ 65296 := by
  unfold scr at h
  split at h
  · cases h; exact ⟨‹_›, by omega, by omega⟩
  · split at h
    · cases h; exact ⟨‹_›, by omega, by omega⟩
    · split at h
      · cases h; exact ⟨‹_›, by omega, by omega⟩
      · cases h
theorem dig_le {n c : Nat} {nt : Int} (hn : n ≤ 11529215046068469769) (h : inS c nt = true) : dig n c nt ≤ 11529215046068469769 := by
  simp only [inS, decide_eq_true_eq] at h
  unfold dig
  split <;> omega
set_option maxRecDepth 100000 in
set_option maxHeartbeats 2000000 in
theorem natural_any (s : ByteArray) (w : World) (h : Nog w) :
    Calls Tryz.prog 111 #[.string s] w fun e w' => e = .returned (.tuple #[.int .u64 ((natL (rns s) 0 false 0).1 : Nat), .bool (natL (rns s) 0 false 0).2]) ∧ Only (fun _ => False) w w' := by
  have HSc : Hid (∀ w1 c, Only (fun _ => False) w w1 → Calls Tryz.prog 137 #[.int .i32 c] w1 fun e w' => e = .returned (scrV (scr c)) ∧ w' = w1) := fun w1 c ho => script_any c w1 (h.frame ho)
  have HIn : Hid (∀ w1 c nt, -2147483648 ≤ nt → nt ≤ 2147483638 → Calls Tryz.prog 138 #[.int .i32 c, .int .i32 nt] w1 fun e w' => e = .returned (.bool (inS c nt)) ∧ w' = w1) := fun w1 c nt h1 h2 => inscript_any c nt w1 h1 h2
  obtain ⟨Z, hZ⟩ : ∃ Z, Z = natL (rns s) 0 false 0 := ⟨_, rfl⟩
  have HZ : Hid (Z = natL ((crs s s.size 0).map (·.2)) 0 false 0) := hZ
  rw [← hZ]
  clear hZ h
  go_enter Tryz.func111, Tryz.ntmps111
  go_wp2
  go_loopw [2, 3, 4] (fun n ok nt w' => ∃ (m pos b : Nat) (k : Bool) (t : Int), w' = w.iter s pos ∧ n = .int .u64 (m : Nat) ∧ ok = .bool k ∧ nt = .int .i32 t ∧ Hid (Z = natL ((crs s b pos).map (·.2)) t k m ∧ s.size ≤ pos + b ∧ m ≤ 11529215046068469769 ∧ 0 ≤ t ∧ t ≤ 65296)) (fun _ _ _ w' => s.size - w'.iterPos w.heap.size)
  case atStart => exact ⟨0, 0, s.size, false, 0, rfl, rfl, rfl, rfl, HZ.out, by omega, by omega, by omega, by omega⟩
  case round =>
    obtain ⟨m, pos, b, k, t, rfl, rfl, rfl, rfl, HI⟩ := hrel
    clear HZ
    by_cases hp : pos < s.size
    · have hnx : ∀ ty, (Instr.next (.pointer (some ⟨w.heap.size, 0, none⟩)) true ty).run Tryz.prog (w.iter s pos) = _ := fun ty => run_next_any w s pos ty hp
      have hwd := wid_pos s pos hp
      obtain ⟨b', hb', hcr⟩ := crs_go hp HI.out.2.1
      have hdl := decode_le s pos
      obtain ⟨c, hc⟩ : ∃ c, c = (Utf8.decode s pos).1 := ⟨_, rfl⟩
      obtain ⟨wd, hw⟩ : ∃ c, c = (Utf8.decode s pos).2 := ⟨_, rfl⟩
      rw [← hc, ← hw] at hnx hcr
      rw [← hc] at hdl
      rw [← hw] at hwd
      have hm := HI.out.2.2.1
      have ht0 := HI.out.2.2.2.1
      have ht1 := HI.out.2.2.2.2
      have HZ2 : Hid (Z = natL (c :: (crs s b' (pos + wd)).map (·.2)) t k m ∧ s.size ≤ pos + wd + b') := ⟨by rw [HI.out.1, hcr]; rfl, by have := HI.out.2.1; omega⟩
      clear HI hc hw hcr hb'
      have OI : Hid (Only (fun _ => False) w (w.iter s (pos + wd))) := (Only.refl _ w).iter s _
      cases k with
      | true =>
        have HI1 : Hid (Calls Tryz.prog 138 #[.int .i32 (c : Nat), .int .i32 t] (w.iter s (pos + wd)) fun e w' => e = .returned (.bool (inS c t)) ∧ w' = w.iter s (pos + wd)) := HIn.out _ _ _ (by omega) (by omega)
        cases hin : inS c t with
        | true =>
          rw [hin] at HI1
          have hin2 := hin
          simp only [inS, decide_eq_true_eq] at hin2
          obtain ⟨j1, j2⟩ := hin2
          have HN : Hid (Z = natL ((crs s b' (pos + wd)).map (·.2)) t true (dig m c t) ∧ s.size ≤ pos + wd + b' ∧ dig m c t ≤ 11529215046068469769 ∧ 0 ≤ t ∧ t ≤ 65296) := ⟨by rw [HZ2.out.1, natL, if_pos hin], HZ2.out.2, dig_le hm hin, ht0, ht1⟩
          clear hin HZ2
          by_cases hbig : m ≤ 1152921504606846976
          · have i1 : (m : Int) ≤ 1152921504606846976 := by omega
            have e1 : IntKind.u64.wrap ((m : Int) * 10) = ((m * 10 : Nat) : Int) := by rw [IntKind.wrap_u64]; omega
            have e2 : IntKind.i32.wrap ((c : Int) - t) = (c : Int) - t := by rw [IntKind.wrap_i32]; omega
            have e3 : IntKind.u64.wrap ((c : Int) - t) = (c : Int) - t := by rw [IntKind.wrap_u64]; omega
            have e4 : IntKind.u64.wrap (((m * 10 : Nat) : Int) + ((c : Int) - t)) = ((dig m c t : Nat) : Int) := by
              unfold dig
              rw [if_pos hbig, IntKind.wrap_u64]
              omega
            go_wp2_with (go_at_call 138; refine (show Calls Tryz.prog 138 _ _ _ from HI1.out).mono ?_; rintro e wz ⟨rfl, rfl⟩)
            go_roundw
            case rel => exact ⟨dig m c t, pos + wd, b', true, t, rfl, congrArg (Value.int .u64) (by unfold dig; rw [if_pos hbig]; omega), rfl, rfl, HN.out⟩
            case measure => simp; omega
          · have i1 : ¬ (m : Int) ≤ 1152921504606846976 := by omega
            have e4 : dig m c t = m := if_neg hbig
            rw [e4] at HN
            go_wp2_with (go_at_call 138; refine (show Calls Tryz.prog 138 _ _ _ from HI1.out).mono ?_; rintro e wz ⟨rfl, rfl⟩)
            go_roundw
            case rel => exact ⟨m, pos + wd, b', true, t, rfl, rfl, rfl, rfl, HN.out⟩
            case measure => simp; omega
        | false =>
          rw [hin] at HI1
          have HE : Hid (Z = (0, false)) := by rw [HZ2.out.1, natL, if_neg (by simp [hin])]; rfl
          clear hin HZ2
          go_wp2_with (go_at_call 138; refine (show Calls Tryz.prog 138 _ _ _ from HI1.out).mono ?_; rintro e wz ⟨rfl, rfl⟩)
          go_ret2
          have hz : Z = (0, false) := HE.out
          subst hz
          exact ⟨rfl, OI.out⟩
      | false =>
        have HS1 : Hid (Calls Tryz.prog 137 #[.int .i32 (c : Nat)] (w.iter s (pos + wd)) fun e w' => e = .returned (scrV (scr c)) ∧ w' = w.iter s (pos + wd)) := HSc.out _ _ OI.out
        cases hsc : scr c with
        | none =>
          rw [hsc] at HS1
          simp only [scrV] at HS1
          have HE : Hid (Z = (0, false)) := by rw [HZ2.out.1, natL, hsc]; rfl
          clear hsc HZ2
          go_wp2_with (go_at_call 137; refine (show Calls Tryz.prog 137 _ _ _ from HS1.out).mono ?_; rintro e wz ⟨rfl, rfl⟩)
          go_ret2
          have hz : Z = (0, false) := HE.out
          subst hz
          exact ⟨rfl, OI.out⟩
        | some nt =>
          rw [hsc] at HS1
          simp only [scrV] at HS1
          obtain ⟨hin, q1, q2⟩ := scr_some hsc
          have HI1 : Hid (Calls Tryz.prog 138 #[.int .i32 (c : Nat), .int .i32 nt] (w.iter s (pos + wd)) fun e w' => e = .returned (.bool (inS c nt)) ∧ w' = w.iter s (pos + wd)) := HIn.out _ _ _ (by omega) (by omega)
          rw [hin] at HI1
          have hin2 := hin
          simp only [inS, decide_eq_true_eq] at hin2
          obtain ⟨j1, j2⟩ := hin2
          have HN : Hid (Z = natL ((crs s b' (pos + wd)).map (·.2)) nt true (dig m c nt) ∧ s.size ≤ pos + wd + b' ∧ dig m c nt ≤ 11529215046068469769 ∧ 0 ≤ nt ∧ nt ≤ 65296) := ⟨by rw [HZ2.out.1, natL, hsc], HZ2.out.2, dig_le hm hin, by omega, q2⟩
          clear hin hsc HZ2
          by_cases hbig : m ≤ 1152921504606846976
          · have i1 : (m : Int) ≤ 1152921504606846976 := by omega
            have e1 : IntKind.u64.wrap ((m : Int) * 10) = ((m * 10 : Nat) : Int) := by rw [IntKind.wrap_u64]; omega
            have e2 : IntKind.i32.wrap ((c : Int) - nt) = (c : Int) - nt := by rw [IntKind.wrap_i32]; omega
            have e3 : IntKind.u64.wrap ((c : Int) - nt) = (c : Int) - nt := by rw [IntKind.wrap_u64]; omega
            have e4 : IntKind.u64.wrap (((m * 10 : Nat) : Int) + ((c : Int) - nt)) = ((dig m c nt : Nat) : Int) := by
              unfold dig
              rw [if_pos hbig, IntKind.wrap_u64]
              omega
            go_wp2_with (first | (go_at_call 137; refine (show Calls Tryz.prog 137 _ _ _ from HS1.out).mono ?_; rintro e wz ⟨rfl, rfl⟩) | (go_at_call 138; refine (show Calls Tryz.prog 138 _ _ _ from HI1.out).mono ?_; rintro e wz ⟨rfl, rfl⟩))
            go_roundw
            case rel => exact ⟨dig m c nt, pos + wd, b', true, nt, rfl, congrArg (Value.int .u64) (by unfold dig; rw [if_pos hbig]; omega), rfl, rfl, HN.out⟩
            case measure => simp; omega
          · have i1 : ¬ (m : Int) ≤ 1152921504606846976 := by omega
            have e4 : dig m c nt = m := if_neg hbig
            rw [e4] at HN
            go_wp2_with (first | (go_at_call 137; refine (show Calls Tryz.prog 137 _ _ _ from HS1.out).mono ?_; rintro e wz ⟨rfl, rfl⟩) | (go_at_call 138; refine (show Calls Tryz.prog 138 _ _ _ from HI1.out).mono ?_; rintro e wz ⟨rfl, rfl⟩))
            go_roundw
            case rel => exact ⟨m, pos + wd, b', true, nt, rfl, rfl, rfl, rfl, HN.out⟩
            case measure => simp; omega
    · have hnx : ∀ ty, (Instr.next (.pointer (some ⟨w.heap.size, 0, none⟩)) true ty).run Tryz.prog (w.iter s pos) = _ := fun ty => run_next_end w s pos ty hp
      have HE : Hid (Z = (m, k)) := by rw [HI.out.1, crs_end hp]; rfl
      clear HI
      go_wp2
      go_ret2
      have hz : Z = (m, k) := HE.out
      subst hz
      exact ⟨rfl, (Only.refl _ w).iter s pos⟩
end Go.Proofs.YtgnmedjknbbfhaaGreatDoor
namespace Go.Proofs.YtgnmedjknbbfhaaGreatDoor
open Go.RowKit
set_option linter.unusedSimpArgs false
set_option linter.unusedVariables false

/-- Does s begin with p? -/
def preB (s p : ByteArray) : Bool := decide (p.size ≤ s.size) && ((s.extract 0 p.size).toList == p.toList)
theorem preB_le {s p : ByteArray} (h : preB s p = true) : p.size ≤ s.size := by
  simp only [preB, Bool.and_eq_true, decide_eq_true_eq] at h
  exact h.1
set_option maxRecDepth 100000 in
set_option maxHeartbeats 1000000 in
theorem hasprefix_lite (s p : ByteArray) (w : World) : Calls Tryz.prog 165 #[.string s, .string p] w fun e w' => e = .returned (.bool (preB s p)) ∧ w' = w := by
  by_cases h : p.size ≤ s.size
  · have h' : (p.size : Int) ≤ (s.size : Int) := by omega
    have hv : preB s p = ((s.extract 0 p.size).toList == p.toList) := by simp [preB, h]
    rw [hv]
    clear hv
    go_enter Tryz.func165, Tryz.ntmps165
    go_wp2
    go_ret
    exact ⟨rfl, rfl⟩
  · have h' : ¬ (p.size : Int) ≤ (s.size : Int) := by omega
    have hv : preB s p = false := by simp [preB, h]
    rw [hv]
    clear hv
    go_enter Tryz.func165, Tryz.ntmps165
    go_wp2
    go_ret
    exact ⟨rfl, rfl⟩
set_option maxRecDepth 100000 in
theorem hasprefix_any (s p : ByteArray) (w : World) : Calls Tryz.prog 193 #[.string s, .string p] w fun e w' => e = .returned (.bool (preB s p)) ∧ w' = w := by
  have H := hasprefix_lite s p w
  go_enter Tryz.func193, Tryz.ntmps193
  go_wp2_with (go_at_call 165; refine H.mono ?_; rintro e wz ⟨rfl, rfl⟩)
  go_ret
  exact ⟨rfl, rfl⟩
def cutV (s p : ByteArray) : Value := if preB s p then .tuple #[.string (s.extract p.size s.size), .bool true] else .tuple #[.string s, .bool false]
set_option maxRecDepth 100000 in
set_option maxHeartbeats 1000000 in
theorem cutprefix_lite (s p : ByteArray) (w : World) : Calls Tryz.prog 157 #[.string s, .string p] w fun e w' => e = .returned (cutV s p) ∧ w' = w := by
  have H : Hid (Calls Tryz.prog 165 #[.string s, .string p] w fun e w' => e = .returned (.bool (preB s p)) ∧ w' = w) := hasprefix_lite s p w
  unfold cutV
  cases hb : preB s p with
  | true =>
    rw [hb] at H
    have hle := preB_le hb
    have h' : (p.size : Int) ≤ (s.size : Int) := by omega
    clear hb
    go_enter Tryz.func157, Tryz.ntmps157
    go_wp2_with (go_at_call 165; refine (show Calls Tryz.prog 165 _ _ _ from H.out).mono ?_; rintro e wz ⟨rfl, rfl⟩)
    go_ret2
    exact ⟨rfl, rfl⟩
  | false =>
    rw [hb] at H
    clear hb
    go_enter Tryz.func157, Tryz.ntmps157
    go_wp2_with (go_at_call 165; refine (show Calls Tryz.prog 165 _ _ _ from H.out).mono ?_; rintro e wz ⟨rfl, rfl⟩)
    go_ret2
    exact ⟨rfl, rfl⟩
set_option maxRecDepth 100000 in
theorem cutprefix_any (s p : ByteArray) (w : World) : Calls Tryz.prog 136 #[.string s, .string p] w fun e w' => e = .returned (cutV s p) ∧ w' = w := by
  have H : Hid (Calls Tryz.prog 157 #[.string s, .string p] w fun e w' => e = .returned (cutV s p) ∧ w' = w) := cutprefix_lite s p w
  unfold cutV at H ⊢
  cases hb : preB s p with
  | true =>
    rw [hb, if_pos rfl] at H
    clear hb
    go_enter Tryz.func136, Tryz.ntmps136
    go_wp2_with (go_at_call 157; refine (show Calls Tryz.prog 157 _ _ _ from H.out).mono ?_; rintro e wz ⟨rfl, rfl⟩)
    go_ret2
    exact ⟨rfl, rfl⟩
  | false =>
    rw [hb, if_neg (by simp)] at H
    clear hb
    go_enter Tryz.func136, Tryz.ntmps136
    go_wp2_with (go_at_call 157; refine (show Calls Tryz.prog 157 _ _ _ from H.out).mono ?_; rintro e wz ⟨rfl, rfl⟩)
    go_ret2
    exact ⟨rfl, rfl⟩
def hyB : ByteArray := ⟨#[45]⟩
def miB : ByteArray := ⟨#[226, 136, 146]⟩
/-- A word without its sign. -/
def sgn (s : ByteArray) : ByteArray × Bool := if preB s hyB then (s.extract 1 s.size, true) else if preB s miB then (s.extract 3 s.size, true) else (s, false)
set_option maxRecDepth 100000 in
set_option maxHeartbeats 1000000 in
theorem unsigned_any (s : ByteArray) (w : World) : Calls Tryz.prog 110 #[.string s] w fun e w' => e = .returned (.tuple #[.string (sgn s).1, .bool (sgn s).2]) ∧ w' = w := by
  have H1 : Hid (Calls Tryz.prog 136 #[.string s, .string ⟨#[45]⟩] w fun e w' => e = .returned (cutV s hyB) ∧ w' = w) := cutprefix_any s hyB w
  have H2 : Hid (Calls Tryz.prog 136 #[.string s, .string ⟨#[226, 136, 146]⟩] w fun e w' => e = .returned (cutV s miB) ∧ w' = w) := cutprefix_any s miB w
  unfold cutV at H1 H2
  cases hb : preB s hyB with
  | true =>
    rw [hb, if_pos rfl] at H1
    have hs : sgn s = (s.extract 1 s.size, true) := by unfold sgn; rw [hb]; rfl
    have h1 : hyB.size = 1 := rfl
    rw [h1] at H1
    rw [hs]
    clear hs hb H2 h1
    go_enter Tryz.func110, Tryz.ntmps110
    go_wp2_with (go_at_call 136; refine (show Calls Tryz.prog 136 _ _ _ from H1.out).mono ?_; rintro e wz ⟨rfl, rfl⟩)
    go_ret2
    exact ⟨rfl, rfl⟩
  | false =>
    rw [hb, if_neg (by simp)] at H1
    cases hb2 : preB s miB with
    | true =>
      rw [hb2, if_pos rfl] at H2
      have hs : sgn s = (s.extract 3 s.size, true) := by unfold sgn; rw [hb, hb2]; rfl
      have h1 : miB.size = 3 := rfl
      rw [h1] at H2
      rw [hs]
      clear hs hb hb2 h1
      go_enter Tryz.func110, Tryz.ntmps110
      go_wp2_with fail
      refine (show Calls Tryz.prog 136 _ _ _ from H1.out).mono ?_
      rintro e wz ⟨rfl, rfl⟩
      clear H1
      go_wp2_with fail
      refine (show Calls Tryz.prog 136 _ _ _ from H2.out).mono ?_
      rintro e wz ⟨rfl, rfl⟩
      clear H2
      go_wp2
      go_ret2
      exact ⟨rfl, rfl⟩
    | false =>
      rw [hb2, if_neg (by simp)] at H2
      have hs : sgn s = (s, false) := by unfold sgn; rw [hb, hb2]; rfl
      rw [hs]
      clear hs hb hb2
      go_enter Tryz.func110, Tryz.ntmps110
      go_wp2_with fail
      refine (show Calls Tryz.prog 136 _ _ _ from H1.out).mono ?_
      rintro e wz ⟨rfl, rfl⟩
      clear H1
      go_wp2_with fail
      refine (show Calls Tryz.prog 136 _ _ _ from H2.out).mono ?_
      rintro e wz ⟨rfl, rfl⟩
      clear H2
      go_wp2
      go_ret2
      exact ⟨rfl, rfl⟩
/-- What a word is as a number: it, or an error. -/
def numR (s : ByteArray) : Int × Int :=
  if (natL (rns (sgn s).1) 0 false 0).2 = false then (0, 9)
  else if (sgn s).2 = true ∧ (natL (rns (sgn s).1) 0 false 0).1 ≤ 1152921504606846976 then (-((natL (rns (sgn s).1) 0 false 0).1 : Int), 0)
  else if (sgn s).2 = false ∧ (natL (rns (sgn s).1) 0 false 0).1 ≤ 1152921504606846975 then ((natL (rns (sgn s).1) 0 false 0).1, 0)
  else (0, 11)
set_option maxRecDepth 100000 in
set_option maxHeartbeats 1000000 in
theorem number_any (s : ByteArray) (w : World) (h : Nog w) : Calls Tryz.prog 78 #[.string s] w fun e w' => e = .returned (.tuple #[.int .i64 (numR s).1, .int .i64 (numR s).2]) ∧ Only (fun _ => False) w w' := by
  have H1 : Hid (Calls Tryz.prog 110 #[.string s] w fun e w' => e = .returned (.tuple #[.string (sgn s).1, .bool (sgn s).2]) ∧ w' = w) := unsigned_any s w
  have H2 : Hid (Calls Tryz.prog 111 #[.string (sgn s).1] w fun e w' => e = .returned (.tuple #[.int .u64 ((natL (rns (sgn s).1) 0 false 0).1 : Nat), .bool (natL (rns (sgn s).1) 0 false 0).2]) ∧ Only (fun _ => False) w w') := natural_any _ w h
  unfold numR
  obtain ⟨d, hd⟩ : ∃ d, d = (sgn s).1 := ⟨_, rfl⟩
  obtain ⟨b, hb⟩ : ∃ d, d = (sgn s).2 := ⟨_, rfl⟩
  rw [← hd] at H1 H2 ⊢
  rw [← hb] at H1 ⊢
  obtain ⟨n, hn⟩ : ∃ x, x = (natL (rns d) 0 false 0).1 := ⟨_, rfl⟩
  obtain ⟨k, hk⟩ : ∃ x, x = (natL (rns d) 0 false 0).2 := ⟨_, rfl⟩
  rw [← hn, ← hk] at H2 ⊢
  clear hd hb hn hk h
  cases k with
  | false =>
    simp only [if_true]
    go_enter Tryz.func78, Tryz.ntmps78
    go_wp2_with fail
    refine (show Calls Tryz.prog 110 _ _ _ from H1.out).mono ?_
    rintro e w1 ⟨rfl, rfl⟩
    clear H1
    go_wp2_with fail
    refine (show Calls Tryz.prog 111 _ _ _ from H2.out).mono ?_
    rintro e w2 ⟨rfl, ho⟩
    have HO : Hid (Only (fun _ => False) w1 w2) := ho
    clear H2 ho
    go_wp2
    go_ret2
    exact ⟨rfl, HO.out⟩
  | true =>
    cases b with
    | true =>
      by_cases hl : n ≤ 1152921504606846976
      · have i1 : (n : Int) ≤ 1152921504606846976 := by omega
        have e1 : IntKind.i64.wrap (n : Int) = (n : Int) := by rw [IntKind.wrap_i64]; omega
        have e2 : IntKind.i64.wrap (-(n : Int)) = -(n : Int) := by rw [IntKind.wrap_i64]; omega
        simp only [hl, and_self, if_true, Bool.true_eq_false, if_false]
        go_enter Tryz.func78, Tryz.ntmps78
        go_wp2_with fail
        refine (show Calls Tryz.prog 110 _ _ _ from H1.out).mono ?_
        rintro e w1 ⟨rfl, rfl⟩
        clear H1
        go_wp2_with fail
        refine (show Calls Tryz.prog 111 _ _ _ from H2.out).mono ?_
        rintro e w2 ⟨rfl, ho⟩
        have HO : Hid (Only (fun _ => False) w1 w2) := ho
        clear H2 ho
        go_wp2
        go_ret2
        exact ⟨rfl, HO.out⟩
      · have i1 : ¬ (n : Int) ≤ 1152921504606846976 := by omega
        simp only [hl, and_false, Bool.true_eq_false, if_false, false_and]
        go_enter Tryz.func78, Tryz.ntmps78
        go_wp2_with fail
        refine (show Calls Tryz.prog 110 _ _ _ from H1.out).mono ?_
        rintro e w1 ⟨rfl, rfl⟩
        clear H1
        go_wp2_with fail
        refine (show Calls Tryz.prog 111 _ _ _ from H2.out).mono ?_
        rintro e w2 ⟨rfl, ho⟩
        have HO : Hid (Only (fun _ => False) w1 w2) := ho
        clear H2 ho
        go_wp2
        go_ret2
        exact ⟨rfl, HO.out⟩
    | false =>
      by_cases hl : n ≤ 1152921504606846975
      · have i1 : (n : Int) ≤ 1152921504606846975 := by omega
        have e1 : IntKind.i64.wrap (n : Int) = (n : Int) := by rw [IntKind.wrap_i64]; omega
        simp only [hl, and_self, if_true, Bool.false_eq_true, Bool.true_eq_false, false_and, if_false]
        go_enter Tryz.func78, Tryz.ntmps78
        go_wp2_with fail
        refine (show Calls Tryz.prog 110 _ _ _ from H1.out).mono ?_
        rintro e w1 ⟨rfl, rfl⟩
        clear H1
        go_wp2_with fail
        refine (show Calls Tryz.prog 111 _ _ _ from H2.out).mono ?_
        rintro e w2 ⟨rfl, ho⟩
        have HO : Hid (Only (fun _ => False) w1 w2) := ho
        clear H2 ho
        go_wp2
        go_ret2
        exact ⟨rfl, HO.out⟩
      · have i1 : ¬ (n : Int) ≤ 1152921504606846975 := by omega
        simp only [hl, and_false, Bool.true_eq_false, Bool.false_eq_true, if_false, false_and]
        go_enter Tryz.func78, Tryz.ntmps78
        go_wp2_with fail
        refine (show Calls Tryz.prog 110 _ _ _ from H1.out).mono ?_
        rintro e w1 ⟨rfl, rfl⟩
        clear H1
        go_wp2_with fail
        refine (show Calls Tryz.prog 111 _ _ _ from H2.out).mono ?_
        rintro e w2 ⟨rfl, ho⟩
        have HO : Hid (Only (fun _ => False) w1 w2) := ho
        clear H2 ho
        go_wp2
        go_ret2
        exact ⟨rfl, HO.out⟩
end Go.Proofs.YtgnmedjknbbfhaaGreatDoor
