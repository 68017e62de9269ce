/- Vocabularies as the document has them: what they are in memory. Equal vocabularies: ref01.SameTexts, ref15.Same. -/
import Derived.Test.YtfecmpebnianpaaGreatDoorGao
import Derived.OwnWalk
import Derived.Deep.RegionHeld3
import Derived.Deep.DrawnRows
import Derived.Test.YtfecmpebnianpaaGreatDoorGal
namespace Go.Proofs.YtfecmpebnianpaaGreatDoor
open Go.RowKit
set_option linter.unusedSimpArgs false
set_option linter.unusedVariables false
/-- a definition's cells, as the document has it -/
def RdP2 (w : World) (S : Nat → Prop) (fm : Fm) (cs : List Value) : Prop := ∃ bo bc, cs = [.string fm.nm, .int .i64 (fm.i : Int), .int .i64 (fm.j : Int), .slice bo fm.b.length bc] ∧ VtAt w S 12401 (bdT fm) (.slice bo fm.b.length bc)
theorem el_rd : El 4 RdP2 where
  step := fun hS hk h => by
    obtain ⟨bo, bc, h1, h2⟩ := h
    exact ⟨bo, bc, h1, h2.step hS hk (Nat.le_refl _)⟩
  len := fun h => by
    obtain ⟨bo, bc, h1, h2⟩ := h
    rw [h1]; rfl
  one := fun h u hu => by
    obtain ⟨bo, bc, h1, h2⟩ := h
    rw [h1] at hu
    simp only [List.mem_cons, List.not_mem_nil, or_false] at hu
    rcases hu with rfl | rfl | rfl | rfl <;> rfl
/-- a vocabulary's cells, as the document has it -/
def RmP (w : World) (S : Nat → Prop) (m : Mf) (cs : List Value) : Prop := ∃ uv dv, cs = [.string m.nm, uv, dv] ∧ UsV w S uv m.us ∧ GvAt 4 RdP2 w S dv m.ds
theorem el_rm : El 3 RmP where
  step := fun hS hk h => by
    obtain ⟨uv, dv, h1, h2, h3⟩ := h
    exact ⟨uv, dv, h1, h2.step hS hk, h3.step el_rd hS hk⟩
  len := fun h => by
    obtain ⟨uv, dv, h1, h2⟩ := h
    rw [h1]; rfl
  one := fun h u hu => by
    obtain ⟨uv, dv, h1, h2, ⟨a2, c2, rfl, _⟩⟩ := h
    obtain ⟨a1, c1, rfl⟩ := h2.form
    rw [h1] at hu
    simp only [List.mem_cons, List.not_mem_nil, or_false] at hu
    rcases hu with rfl | rfl | rfl <;> rfl
set_option maxRecDepth 100000 in
theorem rd_info : ∃ i z, Tryz.prog.info? 71 = some i ∧ i.zero = some z ∧ i.size = 4 ∧ i.bytes = 56 ∧ z.cells.size = 4 := ⟨_, _, rfl, rfl, rfl, rfl, rfl⟩
set_option maxRecDepth 100000 in
theorem rm_info : ∃ i z, Tryz.prog.info? 66 = some i ∧ i.zero = some z ∧ i.size = 3 ∧ i.bytes = 64 ∧ z.cells.size = 3 := ⟨_, _, rfl, rfl, rfl, rfl, rfl⟩
set_option maxRecDepth 100000 in
theorem st_info : ∃ i z, Tryz.prog.info? 9 = some i ∧ i.zero = some z ∧ i.size = 1 ∧ i.bytes = 16 ∧ z.cells.size = 1 := ⟨_, _, rfl, rfl, rfl, rfl, rfl⟩
theorem addr_add2 (g o j : Nat) : (⟨g, o, none⟩ : Addr).add j = ⟨g, o + j, none⟩ := by
  unfold Addr.add
  split
  · rename_i h
    rw [h]
    rfl
  · rfl
set_option maxRecDepth 100000 in
/-- append([]string{}, uses...): a copy in memory of its own -/
theorem app_texts {X : World} {S : Nat → Prop} {ua : Option Addr} {n c b : Nat} {us : List ByteArray} (hb : X.heap[b]? = some (.cells #[] 9)) (h : UsV X S (.slice ua n c) us) (hl : us.length ≤ 1000000) :
    ∃ a cap w', (∀ ty, (Builtin.append_ #[39, 39] ty #[.slice (some ⟨b, 0, none⟩) 0 0, .slice ua n c]).run Tryz.prog X = .ok (.slice a n cap) w') ∧ w'.ownsRow b 9 1 (.slice a n cap) n (us.map Value.string) ∧ Only (fun k => k = b) X w' ∧ ∀ k, (Value.slice a n cap).ownBlock = some k → k = b ∨ k = X.heap.size := by
  obtain ⟨i0, z0, hi, hz0, hz1, hz2, hz3⟩ := st_info
  have hlt := (Array.getElem?_eq_some_iff.1 hb).1
  have hown : X.ownsRow b 9 1 (.slice (some ⟨b, 0, none⟩) 0 0) 0 [] := ⟨rfl, .inr ⟨b, 0, #[], rfl, Nat.le_refl _, hb, Nat.le_refl _, Nat.zero_le _, rfl, rfl⟩⟩
  rcases h with ⟨rfl, hv⟩ | ⟨g, o, cap, hv, hc, hs, hu⟩
  · simp only [Value.slice.injEq] at hv
    obtain ⟨rfl, rfl, rfl⟩ := hv
    exact ⟨some ⟨b, 0, none⟩, 0, _, fun ty => run_append_owned_none _ b 39 ty 9 i0 1 Tryz.underlying39 hi _ 0 [] hown, by simpa using hown, Only.refl _ _, fun k hk => by injection hk with hk; exact .inl hk.symm⟩
  · simp only [Value.slice.injEq] at hv
    obtain ⟨rfl, rfl, rfl⟩ := hv
    have key := fun ty => run_append_own_at (P := Tryz.prog) X b 39 ty 9 i0 z0 1 16 Tryz.underlying39 hi hz0 hz1 hz2 hz3 (by omega) _ 0 [] hown ⟨g, o, none⟩ us.length c (us.map Value.string) (by simp) (fun j u hj => by
      rw [addr_add2]
      rw [List.getElem?_map] at hj
      cases hx : us[j]? with
      | none => rw [hx] at hj; cases hj
      | some x =>
        rw [hx] at hj
        simp only [Option.map_some, Option.some.injEq] at hj
        rw [← hj]
        exact hu j x hx) (fun u hu2 => by
      obtain ⟨x, _, rfl⟩ := List.mem_map.1 hu2
      rfl) (by unfold maxLen; omega) (by omega) (by omega)
    obtain ⟨v', w', hr, own', hg, _, hat⟩ := key 0
    rw [Nat.zero_add] at own'
    obtain ⟨a, c', rfl⟩ : ∃ a c', v' = .slice a us.length c' := by
      rcases own'.2 with ⟨hv, h0⟩ | ⟨g', cp, cur, hv, _⟩
      · exact ⟨_, _, by rw [hv, h0]⟩
      · exact ⟨_, _, hv⟩
    refine ⟨a, c', w', fun ty => by rw [← hr]; rfl, by simpa using own', (Only.refl (fun k => k = b) X).grown hg (fun k e _ => by injection e with e; exact e.symm), fun k hk => ?_⟩
    rcases hat with e | e
    · rw [e] at hk; injection hk with hk; exact .inl hk.symm
    · rw [e] at hk; injection hk with hk; exact .inr hk.symm
theorem own_texts {w : World} {B n : Nat} {v : Value} {us : List ByteArray} (h : w.ownsRow B 9 1 v n (us.map Value.string)) : ∃ S, UsV w S v us ∧ ∀ b, S b → v.ownBlock = some b ∧ b < w.heap.size := by
  have hl : us.length = n := by have := h.1; simpa using this
  subst hl
  rcases h.2 with ⟨hv, h0⟩ | ⟨g, cap, cur, hv, hB, hg, hn, hcm, hcs, htk⟩
  · exact ⟨fun _ => False, .inl ⟨List.eq_nil_of_length_eq_zero h0, hv⟩, fun b hb => hb.elim⟩
  · refine ⟨fun b => b = g, .inr ⟨g, 0, cap, hv, hn, rfl, fun j x hx => ?_⟩, fun b hb => ?_⟩
    · have hc := h.cells (g := g) (by rw [hv]; rfl) j (.string x) (by simp [hx])
      rw [addr_ad] at hc
      rwa [Nat.zero_add]
    · subst hb
      exact ⟨by rw [hv]; rfl, (Array.getElem?_eq_some_iff.1 hg).1⟩
/-- a vocabulary under way: its block P -/
def MkK (w1 : World) (nm : ByteArray) (us : List ByteArray) (P : Nat) (uv : Value) (W : World) : Prop :=
  W.heap[P]? = some (.cells #[.string nm, uv, .slice none 0 0] 66) ∧ w1.heap.size ≤ P ∧ Only (fun _ => False) w1 W ∧ ∃ S2, UsV W S2 uv us ∧ ∀ b, S2 b → w1.heap.size ≤ b ∧ b ≠ P ∧ b < W.heap.size
theorem mkA {w1 X : World} {nm : ByteArray} {us : List ByteArray} {n b : Nat} {v : Value} {W : World} (o1 : Only (fun _ => False) w1 X) (hb : w1.heap.size ≤ b) (ho : W.ownsRow b 9 1 v n (us.map Value.string)) (o2 : Only (fun k => k = b) X W) : MkK w1 nm us W.heap.size v (W.alloc (.cells #[.string nm, v, .slice none 0 0] 66)) := by
  obtain ⟨S, h1, h2⟩ := own_texts ho
  have oo : Only (fun _ => False) W (W.alloc (.cells #[.string nm, v, .slice none 0 0] 66)) := (Only.refl _ W).alloc _
  have o3 : Only (fun _ => False) w1 W := o1.trans o2 (fun k hk e => by omega)
  refine ⟨alloc_at _ _ _ rfl, o3.size, o3.trans oo (fun _ _ g => g), S, h1.step (fun _ g => g) (fun a u _ hc => oo.cell hc (fun g => g)), fun x hx => ?_⟩
  have h3 := h2 x hx
  have h4 := (ho.lt x h3.1).1
  exact ⟨by omega, by omega, Nat.lt_of_lt_of_le h3.2 oo.size⟩
theorem mkB {w1 X : World} {nm : ByteArray} {us : List ByteArray} {n b P : Nat} {v : Value} {W : World} (o1 : Only (fun _ => False) w1 X) (hb : w1.heap.size ≤ b) (hP : w1.heap.size ≤ P) (hPX : P < X.heap.size) (hbP : b ≠ P) (hz : X.heap[P]? = some (.cells #[.string ⟨#[]⟩, .slice none 0 0, .slice none 0 0] 66)) (ho : W.ownsRow b 9 1 v n (us.map Value.string)) (o2 : Only (fun k => k = b) X W) (hv : ∀ k, v.ownBlock = some k → k = b ∨ k = X.heap.size) :
    MkK w1 nm us P v (((W.setCell ⟨P, 0, none⟩ (.string nm)).setCell ⟨P, 1, none⟩ v).setCell ⟨P, 2, none⟩ (.slice none 0 0)) := by
  obtain ⟨S, h1, h2⟩ := own_texts ho
  have hzW : W.heap[P]? = some (.cells #[.string ⟨#[]⟩, .slice none 0 0, .slice none 0 0] 66) := (o2.block P hPX (fun g => hbP g.symm)).trans hz
  have o3 : Only (fun _ => False) w1 W := o1.trans o2 (fun k hk e => by omega)
  have o4 := lonly3 (w := W) (B := P) (.string nm) v (.slice none 0 0)
  have hS : ∀ x, S x → w1.heap.size ≤ x ∧ x ≠ P ∧ x < W.heap.size := fun x hx => by
    have h3 := h2 x hx
    rcases hv x h3.1 with e | e
    · exact ⟨by omega, by omega, h3.2⟩
    · have := o1.size
      exact ⟨by omega, by omega, h3.2⟩
  refine ⟨lset3 hzW _ _ _, hP, o3.trans o4 (fun k hk e => by omega), S, h1.step (fun _ g => g) (fun a u hs hc => o4.cell hc (hS _ hs).2.1), fun x hx => ⟨(hS x hx).1, (hS x hx).2.1, Nat.lt_of_lt_of_le (hS x hx).2.2 o4.size⟩⟩
/-- what such a copy leaves -/
def TxF (X : World) (b n : Nat) (us : List ByteArray) (a : Option Addr) (c : Nat) (w' : World) : Prop := w'.ownsRow b 9 1 (.slice a n c) n (us.map Value.string) ∧ Only (fun k => k = b) X w' ∧ ∀ k, (Value.slice a n c).ownBlock = some k → k = b ∨ k = X.heap.size
theorem step_texts {op : Oper} {A : Act} {K : Act → World → Prop} {Q : Exit → Act → World → Prop} {ops : Array Oper} {E : Prop} {X : World} {S : Nat → Prop} {ua : Option Addr} {n c b : Nat} {us : List ByteArray} (hgd : op.guard = none) (s x : Operand) (ho : op.op = .call { callee := .builtin .append, args := #[s, x], argTypes := #[39, 39] }) (hs : A.eval s = .slice (some ⟨b, 0, none⟩) 0 0) (hx : A.eval x = .slice ua n c) (hb : X.heap[b]? = some (.cells #[] 9)) (h : UsV X S (.slice ua n c) us) (hl : us.length ≤ 1000000)
    (hK : ∀ a2 c2 w', Hid (TxF X b n us a2 c2 w') → K (A.put op.dst (.slice a2 n c2)) w') : if Region.wanted op (yielded ops A.tmps) = true then Oper.wp Tryz.prog op A X K Q else E := by
  obtain ⟨a2, c2, w', hr, h1, h2, h3⟩ := app_texts hb h hl
  exact step_append_run hgd s x 39 ho _ _ _ hs hx hr (hK a2 c2 w' ⟨h1, h2, h3⟩)
theorem gr_app2 {α : Type} {K : World → Nat → Prop} {z : Nat} {P : World → (Nat → Prop) → α → List Value → Prop} (hK : Bk K) (hP : El z P) {T sT : TypeId} {by' : Nat} (hI : ∃ i zz, Tryz.prog.info? T = some i ∧ i.zero = some zz ∧ i.size = z ∧ i.bytes = by' ∧ zz.cells.size = z) (hT : Tryz.prog.underlying sT = some (.slice T)) (hz : 0 < z) (hby : by' ≤ 1000) {X : World} {B C b n c : Nat} {ao : Option Addr} {acc : List α} {x : α} {cs : List Value} {T2 : TypeId}
    (hb : X.heap[b]? = some (.cells cs.toArray T2)) (hf : GrAt K T z P X B (.slice ao n c) acc) (hn : GnAt K P X C x cs) (hC : B ≤ C) (hv : ∀ k, (Value.slice ao n c).ownBlock = some k → k < C) (hB : B ≤ X.heap.size) (hl : acc.length ≤ 1000000) :
    ∃ a' c' w', (∀ ty, (Builtin.append_ #[sT, sT] ty #[.slice ao n c, .slice (some ⟨b, 0, none⟩) 1 1]).run Tryz.prog X = .ok (.slice a' (n + 1) c') w') ∧ GrAt K T z P w' B (.slice a' (n + 1) c') (acc ++ [x]) ∧ Only (fun k => (Value.slice ao n c).ownBlock = some k) X w' := by
  obtain ⟨i0, z0, hi, hz0, hz1, hz2, hz3⟩ := hI
  obtain ⟨ao', cap', hvf⟩ := hf.form
  simp only [Value.slice.injEq] at hvf
  obtain ⟨rfl, rfl, rfl⟩ := hvf
  obtain ⟨us, S, ho, ht, hS⟩ := hf
  obtain ⟨S1, h1, hs1⟩ := id hn
  have key := fun ty => run_append_own_at (P := Tryz.prog) X B sT ty T i0 z0 z by' hT hi hz0 hz1 hz2 hz3 hz (.slice ao acc.length c) acc.length us ho ⟨b, 0, none⟩ 1 1 cs (by rw [hP.len h1]; omega) (by
      intro j u hj
      rw [addr_ad, blk_cells hb]
      simpa using hj) (hP.one h1) (by unfold maxLen; omega) (by
      have : (acc.length + 1) * by' ≤ 1000001 * 1000 := Nat.mul_le_mul (by omega) hby
      omega) hB
  obtain ⟨v', w', hr, own', hg, _, hat⟩ := key 0
  have hsn := GrAt.snoc hK hP hg ho ht hS hn hC hv own' hat
  obtain ⟨a', c', hv'⟩ := hsn.form
  rw [List.length_append] at hv'
  subst hv'
  exact ⟨a', c', w', fun ty => by refine Eq.trans ?_ hr; rfl, hsn, (Only.refl _ X).grown hg (fun k e _ => e)⟩
theorem step_gr {op : Oper} {A : Act} {K0 : Act → World → Prop} {Q : Exit → Act → World → Prop} {ops : Array Oper} {E : Prop} {α : Type} {K : World → Nat → Prop} {z : Nat} {P : World → (Nat → Prop) → α → List Value → Prop} (hK : Bk K) (hP : El z P) {T sT : TypeId} {by' : Nat} (hI : ∃ i zz, Tryz.prog.info? T = some i ∧ i.zero = some zz ∧ i.size = z ∧ i.bytes = by' ∧ zz.cells.size = z) (hT : Tryz.prog.underlying sT = some (.slice T)) (hz : 0 < z) (hby : by' ≤ 1000) {X : World} {B C b n c : Nat} {ao : Option Addr} {acc : List α} {x : α} {cs : List Value} {T2 : TypeId} (hgd : op.guard = none) (s y : Operand) (ho : op.op = .call { callee := .builtin .append, args := #[s, y], argTypes := #[sT, sT] }) (hs : A.eval s = .slice ao n c) (hy : A.eval y = .slice (some ⟨b, 0, none⟩) 1 1)
    (hb : X.heap[b]? = some (.cells cs.toArray T2)) (hf : GrAt K T z P X B (.slice ao n c) acc) (hn : GnAt K P X C x cs) (hC : B ≤ C) (hv : ∀ k, (Value.slice ao n c).ownBlock = some k → k < C) (hB : B ≤ X.heap.size) (hl : acc.length ≤ 1000000)
    (hk : ∀ a' c' w', Hid (GrAt K T z P w' B (.slice a' (n + 1) c') (acc ++ [x]) ∧ Only (fun k => (Value.slice ao n c).ownBlock = some k) X w') → K0 (A.put op.dst (.slice a' (n + 1) c')) w') : if Region.wanted op (yielded ops A.tmps) = true then Oper.wp Tryz.prog op A X K0 Q else E := by
  obtain ⟨a', c', w', hr, h1, h2⟩ := gr_app2 hK hP hI hT hz hby hb hf hn hC hv hB hl
  exact step_append_run hgd s y sT ho _ _ _ hs hy hr (hk a' c' w' ⟨h1, h2⟩)
set_option maxRecDepth 100000 in
set_option maxHeartbeats 8000000 in
theorem of_any {w : World} {S : Nat → Prop} {ms : List Mf} {ao : Option Addr} {cap : Nat} (h : GvAt 3 McP w S (.slice ao ms.length cap) ms) (hS : ∀ b, S b → b < w.heap.size) (hl : ms.length ≤ 100000) (hw : ∀ m ∈ ms, m.us.length ≤ 1000000 ∧ m.ds.length ≤ 1000000 ∧ ∀ fm ∈ m.ds, Wff fm) :
    Calls Tryz.prog 10 #[.slice ao ms.length cap] w fun e w' => ∃ a c, e = .returned (.slice a ms.length c) ∧ Hid (GrAt Ltb 66 3 RmP w' w.heap.size (.slice a ms.length c) ms ∧ Only (fun _ => False) w w') := by
  have HE : Hid (∀ w1, Only (fun _ => False) w w1 → ∀ (j : Nat) (m : Mf), ms[j]? = some m → ∃ g ua un uc da dc, ao = some ⟨g, 0, none⟩ ∧ w1.cell? ⟨g, j * 3, none⟩ = some (.string m.nm) ∧ w1.cell? ⟨g, j * 3 + 1, none⟩ = some (.slice ua un uc) ∧ w1.cell? ⟨g, j * 3 + 2, none⟩ = some (.slice da m.ds.length dc) ∧ UsV w1 S (.slice ua un uc) m.us ∧ GvAt 4 DcP w1 S (.slice da m.ds.length dc) m.ds) := fun w1 o1 j m hx => by
    obtain ⟨ao', cap', hv, _, hel⟩ := GvAt.only el_mc h o1 (fun _ _ e => e)
    simp only [Value.slice.injEq] at hv
    obtain ⟨rfl, _, rfl⟩ := hv
    obtain ⟨g, cs, e1, _, e2, uv, dv, rfl, e3, e4⟩ := hel j m hx
    obtain ⟨a1, c1, rfl⟩ := e3.form
    obtain ⟨a2, c2, hdv⟩ := e4.form
    subst hdv
    exact ⟨g, a1, _, c1, a2, c2, e1, e2 0 _ rfl, e2 1 _ rfl, e2 2 _ rfl, e3, e4⟩
  obtain ⟨L, hL⟩ : ∃ L, L = ms.length := ⟨_, rfl⟩
  have HLL : Hid (L = ms.length ∧ L ≤ 100000) := ⟨hL, by omega⟩
  have HW : Hid (∀ m ∈ ms, m.us.length ≤ 1000000 ∧ m.ds.length ≤ 1000000 ∧ ∀ fm ∈ m.ds, Wff fm) := hw
  have HSS : Hid (∀ b, S b → b < w.heap.size) := hS
  rw [← hL]
  clear h hl hw hL hS
  go_enter Tryz.func10, Tryz.ntmps10
  go_wp2
  go_loopw [3, 4] (fun r3 r4 wr => ∃ (i : Nat) (a : Option Addr) (c : Nat), r3 = .slice a i c ∧ r4 = .int .i64 (i : Int) ∧ i ≤ L ∧ Hid (GrAt Ltb 66 3 RmP wr w.heap.size (.slice a i c) (ms.take i) ∧ Only (fun _ => False) w wr)) (fun _ r4 _ => L - mnU r4)
  case atStart => exact ⟨0, none, 0, rfl, rfl, Nat.zero_le _, gr_nil _ _ _ _ _ _, Only.refl _ _⟩
  case round =>
    obtain ⟨i, a, c, rfl, rfl, hi, HI⟩ := hrel
    obtain ⟨w1, hw1⟩ : ∃ w1, w1 = wr := ⟨_, rfl⟩
    rw [← hw1] at HI ⊢
    clear hw1
    have hNl := HLL.out.1
    have hN4 := HLL.out.2
    by_cases hiN : i < L
    · obtain ⟨m, hx⟩ : ∃ x, ms[i]? = some x := ⟨ms[i]'(by omega), List.getElem?_eq_getElem (by omega)⟩
      obtain ⟨g, ua, un, uc, da, dc, rfl, c0, c1, c2, hus, hds⟩ := HE.out w1 HI.out.2 i m hx
      have i1 : (i : Int) < (L : Int) := by omega
      have i0 : (0 : Int) ≤ (i : Int) := by omega
      have i4 : i ≤ 100000 := by omega
      clear hNl hN4
      go_wp2
      have HS : Hid (∀ w', Only (fun _ => False) w1 w' → w'.cell? ⟨g, i * 3, none⟩ = some (.string m.nm) ∧ w'.cell? ⟨g, i * 3 + 1, none⟩ = some (.slice ua un uc)) := fun w' o => ⟨o.cell c0 (fun g => g), o.cell c1 (fun g => g)⟩
      have OR : Hid (Only (fun _ => False) w1 w1) := Only.refl _ _
      have hml := HW.out m (List.mem_of_getElem? hx)
      have oE : Only (fun _ => False) w1 (w1.alloc (.cells #[] 9)).drew := ((Only.refl _ w1).alloc _).drew
      have oZ : Only (fun _ => False) w1 (w1.alloc (.cells #[.string ⟨#[]⟩, .slice none 0 0, .slice none 0 0] 66)) := (Only.refl _ w1).alloc _
      have oZE : Only (fun _ => False) w1 ((w1.alloc (.cells #[.string ⟨#[]⟩, .slice none 0 0, .slice none 0 0] 66)).alloc (.cells #[] 9)).drew := (oZ.alloc _).drew
      have oEZ : Only (fun _ => False) w1 ((w1.alloc (.cells #[] 9)).alloc (.cells #[.string ⟨#[]⟩, .slice none 0 0, .slice none 0 0] 66)).drew := (((Only.refl _ w1).alloc _).alloc _).drew
      have bE : (w1.alloc (.cells #[] 9)).drew.heap[w1.heap.size]? = some (.cells #[] 9) := alloc_at w1 _ _ rfl
      have bZ : (w1.alloc (.cells #[.string ⟨#[]⟩, .slice none 0 0, .slice none 0 0] 66)).heap[w1.heap.size]? = some (.cells #[.string ⟨#[]⟩, .slice none 0 0, .slice none 0 0] 66) := alloc_at w1 _ _ rfl
      have bZE : ((w1.alloc (.cells #[.string ⟨#[]⟩, .slice none 0 0, .slice none 0 0] 66)).alloc (.cells #[] 9)).drew.heap[w1.heap.size + 1]? = some (.cells #[] 9) := alloc_at _ _ _ (by simp)
      have bZE2 : ((w1.alloc (.cells #[.string ⟨#[]⟩, .slice none 0 0, .slice none 0 0] 66)).alloc (.cells #[] 9)).drew.heap[w1.heap.size]? = some (.cells #[.string ⟨#[]⟩, .slice none 0 0, .slice none 0 0] 66) := (((Only.refl (fun _ => False) _).alloc _).block _ (Array.getElem?_eq_some_iff.1 bZ).1 (fun g => g)).trans bZ
      have bEZ : ((w1.alloc (.cells #[] 9)).alloc (.cells #[.string ⟨#[]⟩, .slice none 0 0, .slice none 0 0] 66)).drew.heap[w1.heap.size]? = some (.cells #[] 9) := (((Only.refl (fun _ => False) _).alloc _).block _ (Array.getElem?_eq_some_iff.1 bE).1 (fun g => g)).trans bE
      have bEZ2 : ((w1.alloc (.cells #[] 9)).alloc (.cells #[.string ⟨#[]⟩, .slice none 0 0, .slice none 0 0] 66)).drew.heap[w1.heap.size + 1]? = some (.cells #[.string ⟨#[]⟩, .slice none 0 0, .slice none 0 0] 66) := alloc_at _ _ _ (by simp)
      have kU : ∀ X, Only (fun _ => False) w1 X → UsV X S (.slice ua un uc) m.us := fun X o => hus.step (fun _ g => g) (fun a u _ hc => o.cell hc (fun g => g))
      have hml1 := hml.1
      have HKS : Hid (∀ w', Only (fun k => k = w1.heap.size ∨ k = w1.heap.size + 1) w1 w' → w'.cell? ⟨g, i * 3, none⟩ = some (.string m.nm) ∧ w'.cell? ⟨g, i * 3 + 1, none⟩ = some (.slice ua un uc)) := fun w' o => by
        have hg := World.block_lt_of_cell? w1 _ c0
        exact ⟨o.cell c0 (fun e => by simp only at e hg; omega), o.cell c1 (fun e => by simp only at e hg; omega)⟩
      have HEE : Hid (∀ a2 c2 w2, Hid (TxF (w1.alloc (.cells #[] 9)).drew w1.heap.size un m.us a2 c2 w2) → Only (fun k => k = w1.heap.size ∨ k = w1.heap.size + 1) w1 w2 ∧ Hid (MkK w1 m.nm m.us w2.heap.size (.slice a2 un c2) (w2.alloc (.cells #[.string m.nm, .slice a2 un c2, .slice none 0 0] 66)))) := fun a2 c2 w2 h => ⟨(oE.mono (bs' := fun k => k = w1.heap.size ∨ k = w1.heap.size + 1) (fun _ _ g => g.elim)).trans h.out.2.1 (fun k hk e => .inl e), mkA oE (Nat.le_refl _) h.out.1 h.out.2.1⟩
      have HZE : Hid (∀ a2 c2 w2, Hid (TxF ((w1.alloc (.cells #[.string ⟨#[]⟩, .slice none 0 0, .slice none 0 0] 66)).alloc (.cells #[] 9)).drew (w1.heap.size + 1) un m.us a2 c2 w2) → Only (fun k => k = w1.heap.size ∨ k = w1.heap.size + 1) w1 w2 ∧ w2.heap[w1.heap.size]? = some (.cells #[.string ⟨#[]⟩, .slice none 0 0, .slice none 0 0] 66) ∧ Hid (MkK w1 m.nm m.us w1.heap.size (.slice a2 un c2) (((w2.setCell ⟨w1.heap.size, 0, none⟩ (.string m.nm)).setCell ⟨w1.heap.size, 1, none⟩ (.slice a2 un c2)).setCell ⟨w1.heap.size, 2, none⟩ (.slice none 0 0)))) := fun a2 c2 w2 h => ⟨(oZE.mono (bs' := fun k => k = w1.heap.size ∨ k = w1.heap.size + 1) (fun _ _ g => g.elim)).trans h.out.2.1 (fun k hk e => .inr e), (h.out.2.1.block w1.heap.size (Array.getElem?_eq_some_iff.1 bZE2).1 (by omega)).trans bZE2, mkB oZE (by omega) (Nat.le_refl _) (Array.getElem?_eq_some_iff.1 bZE2).1 (by omega) bZE2 h.out.1 h.out.2.1 h.out.2.2⟩
      have HEZ : Hid (∀ a2 c2 w2, Hid (TxF ((w1.alloc (.cells #[] 9)).alloc (.cells #[.string ⟨#[]⟩, .slice none 0 0, .slice none 0 0] 66)).drew w1.heap.size un m.us a2 c2 w2) → Only (fun k => k = w1.heap.size ∨ k = w1.heap.size + 1) w1 w2 ∧ w2.heap[w1.heap.size + 1]? = some (.cells #[.string ⟨#[]⟩, .slice none 0 0, .slice none 0 0] 66) ∧ Hid (MkK w1 m.nm m.us (w1.heap.size + 1) (.slice a2 un c2) (((w2.setCell ⟨w1.heap.size + 1, 0, none⟩ (.string m.nm)).setCell ⟨w1.heap.size + 1, 1, none⟩ (.slice a2 un c2)).setCell ⟨w1.heap.size + 1, 2, none⟩ (.slice none 0 0)))) := fun a2 c2 w2 h => ⟨(oEZ.mono (bs' := fun k => k = w1.heap.size ∨ k = w1.heap.size + 1) (fun _ _ g => g.elim)).trans h.out.2.1 (fun k hk e => .inl e), (h.out.2.1.block (w1.heap.size + 1) (Array.getElem?_eq_some_iff.1 bEZ2).1 (by omega)).trans bEZ2, mkB oEZ (Nat.le_refl _) (by omega) (Array.getElem?_eq_some_iff.1 bEZ2).1 (by omega) bEZ2 h.out.1 h.out.2.1 h.out.2.2⟩
      have HUE : Hid (((w1.alloc (.cells #[] 9)).drew.heap[w1.heap.size]? = some (.cells #[] 9)) ∧ UsV (w1.alloc (.cells #[] 9)).drew S (.slice ua un uc) m.us) := ⟨bE, kU _ oE⟩
      have HUZ : Hid ((((w1.alloc (.cells #[.string ⟨#[]⟩, .slice none 0 0, .slice none 0 0] 66)).alloc (.cells #[] 9)).drew.heap[w1.heap.size + 1]? = some (.cells #[] 9)) ∧ UsV ((w1.alloc (.cells #[.string ⟨#[]⟩, .slice none 0 0, .slice none 0 0] 66)).alloc (.cells #[] 9)).drew S (.slice ua un uc) m.us) := ⟨bZE, kU _ oZE⟩
      have HUC : Hid ((((w1.alloc (.cells #[] 9)).alloc (.cells #[.string ⟨#[]⟩, .slice none 0 0, .slice none 0 0] 66)).drew.heap[w1.heap.size]? = some (.cells #[] 9)) ∧ UsV ((w1.alloc (.cells #[] 9)).alloc (.cells #[.string ⟨#[]⟩, .slice none 0 0, .slice none 0 0] 66)).drew S (.slice ua un uc) m.us) := ⟨bEZ, kU _ oEZ⟩
      have OR2 : Hid (Only (fun k => k = w1.heap.size ∨ k = w1.heap.size + 1) w1 w1) := Only.refl _ _
      have HXX : Hid (ms[i]? = some m ∧ i < L ∧ GvAt 4 DcP w1 S (.slice da m.ds.length dc) m.ds ∧ m.ds.length ≤ 1000000 ∧ ∀ fm ∈ m.ds, Wff fm) := ⟨hx, hiN, hds, hml.2⟩
      have HML : Hid (m.us.length ≤ 1000000) := hml1
      clear hml oE oZ oZE oEZ bE bZ bZE bZE2 bEZ bEZ2 kU hx hiN hds hus hi HS OR hml1
      refine wp_region_post (R := fun a' W' => ∃ P b18 a2 c2, a' = { tmps := #[.slice (some ⟨g, 0, none⟩) L cap, undef, .slice none 0 0, .slice a i c, .int .i64 (i : Int), .pointer (some ⟨P, 0, none⟩), u6, .int .i64 (i : Int), .slice (some ⟨g, 0, none⟩) L cap, .int .i64 (L : Int), .bool true, u11, u12, .slice (some ⟨g, 0, none⟩) L cap, .int .i64 (i : Int), .pointer (some ⟨g, i * 3, none⟩), .pointer (some ⟨g, i * 3, none⟩), .string m.nm, .slice (some ⟨b18, 0, none⟩) 0 0, .slice (some ⟨g, 0, none⟩) L cap, .int .i64 (i : Int), .pointer (some ⟨g, i * 3, none⟩), .pointer (some ⟨g, i * 3 + 1, none⟩), .slice ua un uc, .slice a2 un c2, .agg #[.string m.nm, .slice a2 un c2, .slice none 0 0], u26, u27, u28, u29, u30, u31, u32, u33, u34, u35, u36, u37, u38, u39, u40, u41, u42, u43, u44, u45, u46, u47, u48, u49, u50, u51, u52, u53, undef], defers := [] } ∧ Hid (MkK w1 m.nm m.us P (.slice a2 un c2) W')) ?_ ?_
      · go_region_held3 (fun w' => w'.cell? ⟨g, i * 3, none⟩ = some (.string m.nm) ∧ w'.cell? ⟨g, i * 3 + 1, none⟩ = some (.slice ua un uc)) (first | (with_reducible exact HKS.out _ hf2.1) | (with_reducible exact HKS.out _ (hf2.1.alloc _)) | (exact HKS.out _ (((hf2.1.setCell _ _ (fun _ => .inl rfl)).setCell _ _ (fun _ => .inl rfl)).setCell _ _ (fun _ => .inl rfl))) | (exact HKS.out _ (((hf2.1.setCell _ _ (fun _ => .inr rfl)).setCell _ _ (fun _ => .inr rfl)).setCell _ _ (fun _ => .inr rfl))) | (refine HKS.out _ ?_; (repeat' first | with_reducible exact OR2.out | with_reducible apply Only.alloc | with_reducible apply Only.drew); done)) (first | (refine step_texts (by rfl) _ _ (by rfl) (by rfl) (by rfl) HUE.out.1 HUE.out.2 HML.out ?_; intro a2 c2 w2 hf; have hf2 := HEE.out a2 c2 w2 hf; clear hf) | (refine step_texts (by rfl) _ _ (by rfl) (by rfl) (by rfl) HUZ.out.1 HUZ.out.2 HML.out ?_; intro a2 c2 w2 hf; have hf2 := HZE.out a2 c2 w2 hf; have y0 : w2.cell? ⟨w1.heap.size, 0, none⟩ = some (.string ⟨#[]⟩) := blk_cells hf2.2.1 0; have y1 : w2.cell? ⟨w1.heap.size, 1, none⟩ = some (.slice none 0 0) := blk_cells hf2.2.1 1; have y2 : w2.cell? ⟨w1.heap.size, 2, none⟩ = some (.slice none 0 0) := blk_cells hf2.2.1 2; have x0 := blk_froz hf2.2.1 0; have x1 := blk_froz hf2.2.1 1; have x2 := blk_froz hf2.2.1 2; clear hf) | (refine step_texts (by rfl) _ _ (by rfl) (by rfl) (by rfl) HUC.out.1 HUC.out.2 HML.out ?_; intro a2 c2 w2 hf; have hf2 := HEZ.out a2 c2 w2 hf; have y0 : w2.cell? ⟨w1.heap.size + 1, 0, none⟩ = some (.string ⟨#[]⟩) := blk_cells hf2.2.1 0; have y1 : w2.cell? ⟨w1.heap.size + 1, 1, none⟩ = some (.slice none 0 0) := blk_cells hf2.2.1 1; have y2 : w2.cell? ⟨w1.heap.size + 1, 2, none⟩ = some (.slice none 0 0) := blk_cells hf2.2.1 2; have x0 := blk_froz hf2.2.1 0; have x1 := blk_froz hf2.2.1 1; have x2 := blk_froz hf2.2.1 2; clear hf))
        all_goals first | exact ⟨rfl, _, _, _, _, rfl, hf2.2⟩ | exact ⟨rfl, _, _, _, _, rfl, hf2.2.2⟩
      · rintro a' W ⟨P, b18, a2, c2', rfl, HM⟩
        have HW1 : Hid (Only (fun _ => False) w w1 ∧ GrAt Ltb 66 3 RmP w1 w.heap.size (.slice a i c) (ms.take i)) := ⟨HI.out.2, HI.out.1⟩
        obtain ⟨DL, hDL⟩ : ∃ DL, DL = m.ds.length := ⟨_, rfl⟩
        have HDL : Hid (DL = m.ds.length) := hDL
        have HGR : Hid (∀ w2, Only (fun x => x = P) W w2 → w2.cell? ⟨g, i * 3 + 2, none⟩ = some (.slice da DL dc) ∧ GvAt 4 DcP w2 S (.slice da DL dc) m.ds ∧ Only (fun x => x = P) w1 w2) := fun w2 o2 => by
          have o12 : Only (fun x => x = P) w1 w2 := (HM.out.2.2.1.mono (bs' := fun x => x = P) (fun _ _ g => g.elim)).trans o2 (fun _ _ g => g)
          have hg := World.block_lt_of_cell? w1 _ c2
          refine ⟨?_, ?_, o12⟩
          · rw [hDL]
            exact o12.cell c2 (fun e => by have := HM.out.2.1; simp only at e hg; omega)
          · rw [hDL]
            exact HXX.out.2.2.1.only el_dc o12 (fun b hb e => by have := HSS.out b hb; have := HI.out.2.size; have := HM.out.2.1; omega)
        clear HKS HEE HZE HEZ HUE HUZ HUC OR2 HI c0 c1 hDL HML
        go_wp2
        go_loopw [6] (fun r6 wr => ∃ (k : Nat) (av : Option Addr) (c3 : Nat), r6 = .int .i64 (k : Int) ∧ k ≤ DL ∧ Hid (wr.heap[P]? = some (.cells #[.string m.nm, .slice a2 un c2', .slice av k c3] 66) ∧ GrAt Ltb 71 4 RdP2 wr W.heap.size (.slice av k c3) (m.ds.take k) ∧ Only (fun x => x = P) W wr)) (fun r6 _ => DL - mnU r6)
        case atStart => exact ⟨0, none, 0, rfl, Nat.zero_le _, HM.out.1, gr_nil _ _ _ _ _ _, Only.refl _ _⟩
        case round =>
          obtain ⟨k, av, c3, rfl, hk, HJ⟩ := hrel
          obtain ⟨v1, hv1⟩ : ∃ v1, v1 = wr := ⟨_, rfl⟩
          rw [← hv1] at HJ ⊢
          clear hv1
          obtain ⟨bP, hG, oP⟩ := HJ.out
          obtain ⟨y2, hgv, o1v⟩ := HGR.out v1 oP
          have m2 : v1.cell? ⟨P, 2, none⟩ = some (.slice av k c3) := blk_cells bP 2
          have hdl := HDL.out
          have hdb := HXX.out.2.2.2.1
          by_cases hkD : k < DL
          · obtain ⟨fm, hfx⟩ : ∃ x, m.ds[k]? = some x := ⟨m.ds[k]'(by omega), List.getElem?_eq_getElem (by omega)⟩
            obtain ⟨da', dc', hdv, _, hel⟩ := id hgv
            simp only [Value.slice.injEq] at hdv
            obtain ⟨rfl, _, rfl⟩ := hdv
            obtain ⟨gd, cs, rfl, hSg, hcs, bo, bc, rfl, hsq⟩ := hel k fm hfx
            have e0 : v1.cell? ⟨gd, k * 4, none⟩ = some (.string fm.nm) := hcs 0 _ rfl
            have e1 : v1.cell? ⟨gd, k * 4 + 1, none⟩ = some (.int .i64 (fm.i : Int)) := hcs 1 _ rfl
            have e2 : v1.cell? ⟨gd, k * 4 + 2, none⟩ = some (.int .i64 (fm.j : Int)) := hcs 2 _ rfl
            have e3 : v1.cell? ⟨gd, k * 4 + 3, none⟩ = some (.slice bo fm.b.length bc) := hcs 3 _ rfl
            have hwf := HXX.out.2.2.2.2 fm (List.mem_of_getElem? hfx)
            have HDT : Hid (∀ X, Only (fun _ => False) v1 X → Calls Tryz.prog 19 #[.agg #[.string fm.nm, .int .i64 (fm.i : Int), .int .i64 (fm.j : Int), .slice bo fm.b.length bc]] X fun e w' => ∃ ab cb, e = .returned (.agg #[.string fm.nm, .int .i64 (fm.i : Int), .int .i64 (fm.j : Int), .slice ab fm.b.length cb]) ∧ Hid (GnAt Ltb RdP2 w' X.heap.size fm [.string fm.nm, .int .i64 (fm.i : Int), .int .i64 (fm.j : Int), .slice ab fm.b.length cb] ∧ Only (fun _ => False) v1 w')) := fun X oX => by
              have h9 := deftree_any 12400 fm.nm (fm.i : Int) (fm.j : Int) fm.b bo bc X S (hsq.step (fun _ g => g) (fun a u _ hc => oX.cell hc (fun g => g)) (Nat.le_refl _)) hwf.1 hwf.wfm.2.1
              refine h9.mono fun e w' g => ?_
              obtain ⟨ab, cb, he, g⟩ := g
              obtain ⟨S3, t1, t2⟩ := g.out.1.tree (t := bdT fm) rfl
              exact ⟨ab, cb, he, ⟨S3, ⟨ab, cb, rfl, t1⟩, t2⟩, oX.trans g.out.2 (fun _ _ g => g)⟩
            have HV : Hid (v1.heap[P]? = some (.cells #[.string m.nm, .slice a2 un c2', .slice av k c3] 66) ∧ GrAt Ltb 71 4 RdP2 v1 W.heap.size (.slice av k c3) (m.ds.take k) ∧ Only (fun x => x = P) W v1 ∧ m.ds[k]? = some fm ∧ k < DL ∧ P < W.heap.size ∧ gd < W.heap.size ∧ g < W.heap.size) := ⟨bP, hG, oP, hfx, hkD, (Array.getElem?_eq_some_iff.1 HM.out.1).1, by have := HSS.out gd hSg; have := HW1.out.1.size; have := HM.out.2.2.1.size; omega, by have : g < w1.heap.size := World.block_lt_of_cell? w1 _ c2; have := HM.out.2.2.1.size; omega⟩
            obtain ⟨BL, hBL⟩ : ∃ BL, BL = fm.b.length := ⟨_, rfl⟩
            rw [← hBL] at e3 HDT
            have HS2 : Hid (∀ w', Only (fun x => x = P ∨ W.heap.size ≤ x) v1 w' → w'.cell? ⟨g, i * 3 + 2, none⟩ = some (.slice (some ⟨gd, 0, none⟩) DL dc) ∧ w'.cell? ⟨gd, k * 4, none⟩ = some (.string fm.nm) ∧ w'.cell? ⟨gd, k * 4 + 1, none⟩ = some (.int .i64 (fm.i : Int)) ∧ w'.cell? ⟨gd, k * 4 + 2, none⟩ = some (.int .i64 (fm.j : Int)) ∧ w'.cell? ⟨gd, k * 4 + 3, none⟩ = some (.slice bo BL bc)) := fun w' o => by
              have n1 : ¬ (g = P ∨ W.heap.size ≤ g) := by have := HV.out.2.2.2.2.2.2; have : g < w1.heap.size := World.block_lt_of_cell? w1 _ c2; have := HM.out.2.1; omega
              have n2 : ¬ (gd = P ∨ W.heap.size ≤ gd) := by have := HV.out.2.2.2.2.2.2; have := HSS.out gd hSg; have := HW1.out.1.size; have := HM.out.2.1; omega
              exact ⟨o.cell y2 n1, o.cell e0 n2, o.cell e1 n2, o.cell e2 n2, o.cell e3 n2⟩
            have OV : Hid (Only (fun x => x = P ∨ W.heap.size ≤ x) v1 v1) := Only.refl _ _
            have i5 : (k : Int) < (DL : Int) := by omega
            have i6 : (0 : Int) ≤ (k : Int) := by omega
            have i7 : k ≤ 1000000 := by omega
            clear hgv hel hcs hsq hwf hfx bP hG oP o1v hdl hdb hkD hk hBL HJ hSg
            have m2d : v1.drew.cell? ⟨P, 2, none⟩ = some (.slice av k c3) := m2
            have OD : Hid (Only (fun _ => False) v1 v1.drew) := (Only.refl _ _).drew
            have HAP : Hid (∀ ab cb w3, Hid (GnAt Ltb RdP2 w3 v1.drew.heap.size fm [.string fm.nm, .int .i64 (fm.i : Int), .int .i64 (fm.j : Int), .slice ab BL cb] ∧ Only (fun _ => False) v1 w3) → w3.cell? ⟨P, 2, none⟩ = some (.slice av k c3) ∧ (w3.alloc (.cells #[.string fm.nm, .int .i64 (fm.i : Int), .int .i64 (fm.j : Int), .slice ab BL cb] 71)).cell? ⟨P, 2, none⟩ = some (.slice av k c3) ∧ Hid ((w3.alloc (.cells #[.string fm.nm, .int .i64 (fm.i : Int), .int .i64 (fm.j : Int), .slice ab BL cb] 71)).heap[w3.heap.size]? = some (.cells [.string fm.nm, .int .i64 (fm.i : Int), .int .i64 (fm.j : Int), .slice ab BL cb].toArray 71) ∧ GrAt Ltb 71 4 RdP2 (w3.alloc (.cells #[.string fm.nm, .int .i64 (fm.i : Int), .int .i64 (fm.j : Int), .slice ab BL cb] 71)) W.heap.size (.slice av k c3) (m.ds.take k) ∧ GnAt Ltb RdP2 (w3.alloc (.cells #[.string fm.nm, .int .i64 (fm.i : Int), .int .i64 (fm.j : Int), .slice ab BL cb] 71)) v1.drew.heap.size fm [.string fm.nm, .int .i64 (fm.i : Int), .int .i64 (fm.j : Int), .slice ab BL cb] ∧ W.heap.size ≤ v1.drew.heap.size ∧ (∀ x, (Value.slice av k c3).ownBlock = some x → x < v1.drew.heap.size) ∧ W.heap.size ≤ (w3.alloc (.cells #[.string fm.nm, .int .i64 (fm.i : Int), .int .i64 (fm.j : Int), .slice ab BL cb] 71)).heap.size ∧ (m.ds.take k).length ≤ 1000000)) := fun ab cb w3 hd => by
              have oX : Only (fun _ => False) v1 (w3.alloc (.cells #[.string fm.nm, .int .i64 (fm.i : Int), .int .i64 (fm.j : Int), .slice ab BL cb] 71)) := hd.out.2.alloc _
              refine ⟨hd.out.2.cell m2 (fun g => g), oX.cell m2 (fun g => g), alloc_at _ _ _ rfl, HV.out.2.1.only bk_lt el_rd oX (fun _ _ _ g => g), hd.out.1.only bk_lt el_rd ((Only.refl (fun _ => False) w3).alloc _) (fun _ _ _ g => g), HV.out.2.2.1.size, fun x hx => (HV.out.2.1.lt x hx).2, Nat.le_trans HV.out.2.2.1.size oX.size, ?_⟩
              rw [List.length_take]
              have := HDL.out
              have := HXX.out.2.2.2.1
              omega
            have HEN : Hid (∀ ab cb w3, Hid (GnAt Ltb RdP2 w3 v1.drew.heap.size fm [.string fm.nm, .int .i64 (fm.i : Int), .int .i64 (fm.j : Int), .slice ab BL cb] ∧ Only (fun _ => False) v1 w3) → ∀ a4 c4 w4, Hid (GrAt Ltb 71 4 RdP2 w4 W.heap.size (.slice a4 (k + 1) c4) (m.ds.take k ++ [fm]) ∧ Only (fun x => (Value.slice av k c3).ownBlock = some x) (w3.alloc (.cells #[.string fm.nm, .int .i64 (fm.i : Int), .int .i64 (fm.j : Int), .slice ab BL cb] 71)) w4) → Only (fun x => x = P ∨ W.heap.size ≤ x) v1 w4 ∧ w4.heap[P]? = some (.cells #[.string m.nm, .slice a2 un c2', .slice av k c3] 66) ∧ Hid ((w4.setCell ⟨P, 2, none⟩ (.slice a4 (k + 1) c4)).heap[P]? = some (.cells #[.string m.nm, .slice a2 un c2', .slice a4 (k + 1) c4] 66) ∧ GrAt Ltb 71 4 RdP2 (w4.setCell ⟨P, 2, none⟩ (.slice a4 (k + 1) c4)) W.heap.size (.slice a4 (k + 1) c4) (m.ds.take (k + 1)) ∧ Only (fun x => x = P) W (w4.setCell ⟨P, 2, none⟩ (.slice a4 (k + 1) c4)))) := fun ab cb w3 hd a4 c4 w4 h4 => by
              have oX : Only (fun _ => False) v1 (w3.alloc (.cells #[.string fm.nm, .int .i64 (fm.i : Int), .int .i64 (fm.j : Int), .slice ab BL cb] 71)) := hd.out.2.alloc _
              have hlt := HV.out.2.1.lt
              have hP : P < W.heap.size := HV.out.2.2.2.2.2.1
              have hsz := HV.out.2.2.1.size
              have o4 : Only (fun x => (Value.slice av k c3).ownBlock = some x) v1 w4 := (oX.mono (fun _ _ g => g.elim)).trans h4.out.2 (fun _ _ g => g)
              have hb4 : w4.heap[P]? = some (.cells #[.string m.nm, .slice a2 un c2', .slice av k c3] 66) := (o4.block P (Array.getElem?_eq_some_iff.1 HV.out.1).1 (fun g => by have := hlt P g; omega)).trans HV.out.1
              have o5 : Only (fun x => x = P) w4 (w4.setCell ⟨P, 2, none⟩ (.slice a4 (k + 1) c4)) := (Only.refl _ w4).setCell _ _ (fun _ => rfl)
              have hts : m.ds.take (k + 1) = m.ds.take k ++ [fm] := by rw [List.take_add_one, HV.out.2.2.2.1]; rfl
              refine ⟨o4.mono (fun x _ g => .inr (hlt x g).1), hb4, ?_, ?_, ?_⟩
              · exact (heap_setCell_same _ _ _ _ _ _ hb4).trans rfl
              · rw [hts]
                exact h4.out.1.only bk_lt el_rd o5 (fun b hb _ e => by omega)
              · exact (HV.out.2.2.1.trans (o4.mono (bs' := fun x => x = P ∨ W.heap.size ≤ x) (fun x _ g => .inr (hlt x g).1)) (fun x hx e => by omega)).trans o5 (fun _ _ g => g)
            go_wp2
            go_region_law (first | (go_simp; go_at_call 19; refine (HDT.out _ OD.out).mono ?_; rintro e w3 ⟨ab, cb, rfl, hd⟩; have hq := HAP.out ab cb w3 hd; obtain ⟨q0, q1, q2⟩ := hq; dsimp only) | (refine step_gr bk_lt el_rd rd_info Tryz.underlying64 (by decide) (by decide) (by rfl) _ _ (by rfl) (by rfl) (by rfl) q2.out.1 q2.out.2.1 q2.out.2.2.1 q2.out.2.2.2.1 q2.out.2.2.2.2.1 q2.out.2.2.2.2.2.1 q2.out.2.2.2.2.2.2 ?_; intro a4 c4 w4 hf4; have hf5 := HEN.out ab cb w3 hd a4 c4 w4 hf4; have y9 : w4.cell? ⟨P, 2, none⟩ = some (.slice av k c3) := blk_cells hf5.2.1 2; have x9 := blk_froz hf5.2.1 2))
            all_goals
              have HFN := hf5.2.2
              have hkl := HV.out.2.2.2.2.1
              clear hf5 hf4 hd q0 q1 q2 y9 x9 HEN HAP HDT HV HS2 e0 e1 e2 e3 m2 m2d y2 OD OV i5 i6
              go_wp2
              go_roundw
              case rel => exact ⟨k + 1, a4, c4, by go_num, by omega, HFN.out⟩
              case measure => simp only [mnU]; omega
          · obtain rfl : k = DL := by omega
            have i5 : ¬ (k : Int) < (k : Int) := by omega
            have m0 : v1.cell? ⟨P, 0, none⟩ = some (.string m.nm) := blk_cells bP 0
            have m1 : v1.cell? ⟨P, 1, none⟩ = some (.slice a2 un c2') := blk_cells bP 1
            have oX : Only (fun _ => False) v1 (v1.alloc (.cells #[.string m.nm, .slice a2 un c2', .slice av k c3] 66)) := (Only.refl _ v1).alloc _
            have hts : m.ds.take k = m.ds := by rw [hdl]; exact List.take_length
            rw [hts] at hG
            have oX' : Only (fun x => x = P) v1 (v1.alloc (.cells #[.string m.nm, .slice a2 un c2', .slice av k c3] 66)) := oX.mono (fun _ _ g => g.elim)
            have oWX : Only (fun x => x = P) W (v1.alloc (.cells #[.string m.nm, .slice a2 un c2', .slice av k c3] 66)) := oP.trans oX' (fun _ _ g => g)
            have hn : GnAt Ltb RmP (v1.alloc (.cells #[.string m.nm, .slice a2 un c2', .slice av k c3] 66)) w1.heap.size m [.string m.nm, .slice a2 un c2', .slice av k c3] := by
              obtain ⟨S2, hu, hs2⟩ := HM.out.2.2.2
              obtain ⟨S3, hg3, hs3⟩ := hG.read bk_lt el_rd
              refine ⟨fun b => S2 b ∨ S3 b, ⟨_, _, rfl, hu.step (fun _ g => .inl g) (fun a u hs hc => oWX.cell hc (hs2 _ hs).2.1), GvAt.step el_rd (fun _ g => .inr g) (fun a u hs hc => oX.cell hc (fun g => g)) hg3⟩, fun b hb => ?_⟩
              rcases hb with hb | hb
              · exact ⟨(hs2 b hb).1, Nat.lt_of_lt_of_le (hs2 b hb).2.2 oWX.size⟩
              · exact ⟨Nat.le_trans HM.out.2.2.1.size (hs3 b hb).1, Nat.lt_of_lt_of_le (hs3 b hb).2 oX.size⟩
            have o1X : Only (fun x => x = P) w1 (v1.alloc (.cells #[.string m.nm, .slice a2 un c2', .slice av k c3] 66)) := o1v.trans oX' (fun _ _ g => g)
            have hPw := HM.out.2.1
            have hf := HW1.out.2.only bk_lt el_rm o1X (fun b _ h2 e => by omega)
            have hw1 := HW1.out.1.size
            have hlt1 := HW1.out.2.lt
            obtain ⟨a4, c4, w4, hr, h1, h2⟩ := gr_app2 bk_lt el_rm rm_info Tryz.underlying27 (by decide) (by decide) (alloc_at v1 _ _ rfl) hf hn hw1 (fun x hx => (hlt1 x hx).2) (Nat.le_trans hw1 o1X.size) (by rw [List.length_take]; omega)
            have HF : Hid (GrAt Ltb 66 3 RmP w4 w.heap.size (.slice a4 (i + 1) c4) (ms.take (i + 1)) ∧ Only (fun _ => False) w w4) := by
              refine ⟨?_, ?_⟩
              · rw [List.take_add_one, HXX.out.1]
                exact h1
              · refine (HW1.out.1.trans o1X (fun x hx e => by omega)).trans h2 (fun x hx e => by have := hlt1 x e; omega)
            have hiL := HXX.out.2.1
            clear hgv hG hts oX oX' oWX hn o1X hf h1 h2 hlt1 hw1 hPw oP o1v hk hkD hdl hdb bP HJ HM HW1 HGR HXX HSS HW HE
            go_wp2_with (at_builtin; refine wpList_append_run (by rfl) _ _ 27 (by rfl) _ _ (.slice a4 (i + 1) c4) (by rfl) (by rfl) hr ?_)
            go_roundw
            case rel => exact ⟨i + 1, a4, c4, rfl, by go_num, by omega, HF.out⟩
            case measure => simp only [mnU]; omega
    · obtain rfl : i = L := by omega
      have i1 : ¬ (i : Int) < (i : Int) := by omega
      have F9 : Hid (GrAt Ltb 66 3 RmP w1 w.heap.size (.slice a i c) ms ∧ Only (fun _ => False) w w1) := by
        have := HI.out
        rwa [show ms.take i = ms from by rw [hNl]; exact List.take_length] at this
      clear HI HE HW HSS hNl hN4 hi hiN
      go_wp2
      go_ret
      exact ⟨a, c, rfl, F9.out⟩
end Go.Proofs.YtfecmpebnianpaaGreatDoor
namespace Go.Proofs.YtfecmpebnianpaaGreatDoor
open Go.RowKit
set_option linter.unusedSimpArgs false
set_option linter.unusedVariables false
theorem UsV.cells {w : World} {S : Nat → Prop} {a : Option Addr} {n c : Nat} {us : List ByteArray} (h : UsV w S (.slice a n c) us) : n = us.length ∧ ∀ (j : Nat) (x : ByteArray), us[j]? = some x → ∃ g o, a = some ⟨g, o, none⟩ ∧ S g ∧ w.cell? ⟨g, o + j, none⟩ = some (.string x) := by
  rcases h with ⟨rfl, hv⟩ | ⟨g, o, cap, hv, hc, hs, hu⟩
  · simp only [Value.slice.injEq] at hv
    obtain ⟨rfl, rfl, rfl⟩ := hv
    exact ⟨rfl, fun j x hx => by cases hx⟩
  · simp only [Value.slice.injEq] at hv
    obtain ⟨rfl, rfl, rfl⟩ := hv
    exact ⟨rfl, fun j x hx => ⟨g, o, rfl, hs, hu j x hx⟩⟩
theorem sametexts_any {w : World} {S S' : Nat → Prop} {us : List ByteArray} {a b : Option Addr} {n c e : Nat} (h1 : UsV w S (.slice a n c) us) (h2 : UsV w S' (.slice b n e) us) (hl : us.length ≤ 1000000) : Calls Tryz.prog 17 #[.slice a n c, .slice b n e] w fun e w' => e = .returned (.bool true) ∧ Only (fun _ => False) w w' := by
  have hn := h1.cells.1
  have HE : Hid (∀ w1, Only (fun _ => False) w w1 → ∀ (j : Nat) (x : ByteArray), us[j]? = some x → ∃ g q g' q', a = some ⟨g, q, none⟩ ∧ b = some ⟨g', q', none⟩ ∧ w1.cell? ⟨g, q + j, none⟩ = some (.string x) ∧ w1.cell? ⟨g', q' + j, none⟩ = some (.string x)) := fun w1 o j x hx => by
    obtain ⟨g, q, e1, _, e2⟩ := h1.cells.2 j x hx
    obtain ⟨g', q', f1, _, f2⟩ := h2.cells.2 j x hx
    exact ⟨g, q, g', q', e1, f1, o.cell e2 (fun g => g), o.cell f2 (fun g => g)⟩
  have HNN : Hid (n = us.length ∧ n ≤ 1000000) := ⟨hn, by omega⟩
  clear h1 h2 hl hn
  go_enter Tryz.func17, Tryz.ntmps17
  go_wp2
  go_loopw [5] (fun r5 wr => ∃ i : Nat, r5 = .int .i64 (i : Int) ∧ i ≤ n ∧ Hid (Only (fun _ => False) w wr)) (fun r5 _ => n - uOf r5)
  case atStart => exact ⟨0, rfl, Nat.zero_le _, Only.refl _ _⟩
  case round =>
    obtain ⟨i, rfl, hi, HI⟩ := hrel
    obtain ⟨w1, hw1⟩ : ∃ w1, w1 = wr := ⟨_, rfl⟩
    rw [← hw1] at HI ⊢
    clear hw1
    have hNl := HNN.out
    by_cases hiN : i < n
    · obtain ⟨x, hx⟩ : ∃ x, us[i]? = some x := ⟨us[i]'(by omega), List.getElem?_eq_getElem (by omega)⟩
      obtain ⟨g, q, g', q', rfl, rfl, c0, c1⟩ := HE.out w1 HI.out i x hx
      have i1 : (i : Int) < (n : Int) := by omega
      have i0 : (0 : Int) ≤ (i : Int) := by omega
      have hi4 : i ≤ 1000000 := by omega
      have HB : Hid (i < n) := hiN
      have HS : Hid (∀ w', Only (fun _ => False) w1 w' → w'.cell? ⟨g, q + i, none⟩ = some (.string x) ∧ w'.cell? ⟨g', q' + i, none⟩ = some (.string x)) := fun w' o => ⟨o.cell c0 (fun g => g), o.cell c1 (fun g => g)⟩
      have OR : Hid (Only (fun _ => False) w1 w1) := Only.refl _ _
      clear hNl hiN hx HE hi
      go_wp2_with fail
      go_region_held3 (fun w' => w'.cell? ⟨g, q + i, none⟩ = some (.string x) ∧ w'.cell? ⟨g', q' + i, none⟩ = some (.string x)) (first | with_reducible exact HS.out _ OR.out.drew | with_reducible exact HS.out _ OR.out) (fail)
      have HK : Hid (Only (fun _ => False) w w1.drew) := HI.out.drew
      clear HI HS OR c0 c1
      go_wp2
      go_roundw
      case rel => exact ⟨i + 1, by go_num, by have := HB.out; omega, HK⟩
      case measure => simp only [uOf]; have := HB.out; omega
    · obtain rfl : i = n := by omega
      have i1 : ¬ (i : Int) < (i : Int) := by omega
      clear HE hNl hi hiN
      go_wp2
      go_ret
      exact ⟨rfl, HI.out⟩
end Go.Proofs.YtfecmpebnianpaaGreatDoor
