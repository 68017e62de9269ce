import Derived.Test.YtlcglapcmdpkfaaGreatRows
import Derived.Test.YtlcglapcmdpkfaaGreatBase
import Derived.ProofKit
import Derived.SizedLaws
import Derived.Deep.Slices
import Derived.Deep.Grids
namespace Go.Proofs.YtlcglapcmdpkfaaGreat
open Go.RowKit Go.ChangeShapes Go.WideShapes
set_option linter.unusedVariables false
def RowAt (W : World) (v : Value) (k size : Nat) (f : Nat → Value) : Prop :=
 (v = .slice none 0 0 ∧ k = 0) ∨ ∃ ad c, v = .slice (some ad) k c ∧ k ≤ c ∧ ∀ j, j < k * size → W.cell? (ad.add j) = some (f j)
theorem RowAt.frame {W W' : World} {v : Value} {k size : Nat} {f : Nat → Value} {bs : Nat → Prop} (h : RowAt W v k size f) (ho : Only bs W W') (hn : ∀ b, bs b → W.heap.size ≤ b) : RowAt W' v k size f := by
 rcases h with h | ⟨ad, c, hv, hkc, hc⟩
 ·exact .inl h
 ·exact .inr ⟨ad, c, hv, hkc, fun j hj => ho.cell (hc j hj) (fun e => by have := hn _ e; have := World.block_lt_of_cell? W _ (hc j hj); omega)⟩
theorem RowAt.at {W : World} {v : Value} {k size : Nat} {f : Nat → Value} (h : RowAt W v k size f) (hk : 0 < k * size) : ∃ g o c, v = .slice (some ⟨g, o, none⟩) k c ∧ (∀ j, j < k * size → W.cell? ⟨g, o + j, none⟩ = some (f j)) ∧ g < W.heap.size := by
 rcases h with ⟨_, h0⟩ | ⟨ad, c, hv, hkc, hc⟩
 ·subst h0; simp at hk
 ·have h0 := hc 0 hk
  have e0 : ad.add 0 = ad := by simp [Addr.add]
  rw [e0] at h0
  obtain ⟨g, o, spot⟩ := ad
  have hs : spot = none := World.cell?_spot h0
  subst hs
  exact ⟨g, o, c, hv, fun j hj => by rw [← Addr.add_mid]; exact hc j hj, World.block_lt_of_cell? W _ h0⟩
def BL (zs : List Nat) : List Value := zs.map fun z => .int .u8 (z : Nat)
theorem BL_length (zs : List Nat) : (BL zs).length = zs.length := by simp [BL]
theorem BL_get (zs : List Nat) (j : Nat) (h : j < zs.length) : (BL zs)[j]? = some (.int .u8 (zs[j] : Nat)) := by simp [BL, h]
theorem BL_getD (zs : List Nat) : BL zs = (List.range zs.length).map fun j => .int .u8 (zs.getD j 0 : Nat) := by
 apply List.ext_getElem
 ·simp [BL]
 ·intro i h1 h2
  simp [BL] at h1
  simp [BL, List.getD, h1]
theorem BL_append (a b : List Nat) : BL (a ++ b) = BL a ++ BL b := by simp [BL]
theorem BL_one (zs : List Nat) : ∀ v ∈ BL zs, v.oneCell' = true := by
 intro v hv
 simp only [BL, List.mem_map] at hv
 obtain ⟨j, _, rfl⟩ := hv
 rfl
def BytesAt (W : World) (v : Value) (zs : List Nat) : Prop := RowAt W v zs.length 1 (fun j => .int .u8 (zs.getD j 0 : Nat)) ∧ zs.length ≤ 140737488355328 ∧ ∀ z ∈ zs, z < 256
theorem BytesAt.frame {W W' : World} {v : Value} {zs : List Nat} (h : BytesAt W v zs) (ho : Only (fun _ => False) W W') : BytesAt W' v zs := ⟨h.1.frame ho (fun _ e => e.elim), h.2⟩
theorem BytesAt.form {W : World} {v : Value} {zs : List Nat} (h : BytesAt W v zs) : ∃ a c, v = .slice a zs.length c ∧ zs.length ≤ c ∧ ∀ j, j < zs.length → ∃ g o, a = some ⟨g, o, none⟩ ∧ W.cell? ⟨g, o + j, none⟩ = some (.int .u8 (zs.getD j 0 : Nat)) := by
 rcases h.1 with ⟨rfl, h0⟩ | ⟨ad, c, rfl, hkc, hc⟩
 ·exact ⟨none, 0, by rw [h0], by omega, fun j hj => by omega⟩
 ·refine ⟨some ad, c, rfl, hkc, fun j hj => ?_⟩
  obtain ⟨g, o, c', hv, hc', _⟩ := h.1.at (by omega)
  simp only [Value.slice.injEq, Option.some.injEq] at hv
  obtain ⟨rfl, _, rfl⟩ := hv
  exact ⟨g, o, rfl, hc' j (by omega)⟩
section
variable {H : Type} {enc : TypeId × Value → H} {w : World} {base fuel : Nat} {held : Bool}
theorem cells5 : Tryz.prog.cellsOf 5 = 1 := by kernel_rfl
theorem bytes5 : Tryz.prog.bytesOf 5 = 1 := by kernel_rfl
theorem u8_bounds {z : Int} (h : (Lit.int .u8 z).wf = true) : 0 ≤ z ∧ z ≤ 255 := by
 have h' : IntKind.u8.min ≤ z ∧ z ≤ IntKind.u8.max := by simpa [Lit.wf] using h
 exact h'
def InAt (W : World) (v : Value) (zs : List Nat) : Prop := BytesAt W v zs ∧ zs.length ≤ 140737488351232
theorem read_bytes {v : Value} {x : DataW H × List MemPlace} (h : DataW.trod enc Tryz.prog w base (fun _ => true) held fuel 37 [v] = some x) (hw : ∀ n ∈ x.1.weights Tryz.prog 37, n ≤ reachBytes) : ∃ zs, InAt w v zs := by
 rcases open_ints Tryz.underlying37 Tryz.underlying5 cells5 h with ⟨hcs, _⟩ | ⟨a, len, cap, zs, hcs, _, hl, hm, hz, hx, hcell, hwz⟩
 ·simp at hcs
  exact ⟨[], ⟨.inl ⟨hcs, rfl⟩, Nat.zero_le _, fun _ h => by cases h⟩, Nat.zero_le _⟩
 ·simp at hcs
  rw [if_pos rfl] at hz
  have hb := hw _ (by rw [hx]; simp only [DataW.weights, Tryz.underlying37]; exact List.mem_cons_self ..)
  rw [bytes5] at hb
  simp only [lits, List.length_map, List.length_take, List.length_drop, reachBytes] at hb
  have hlen : ((zs.take len).map Int.toNat).length = len := by rw [List.length_map, List.length_take]; omega
  refine ⟨(zs.take len).map Int.toNat, ⟨.inr ⟨a, cap, by rw [hlen]; exact hcs, by rw [hlen]; exact hl, fun j hj => ?_⟩, by rw [hlen]; omega, fun z hz' => ?_⟩, by rw [hlen]; omega⟩
  ·rw [hlen] at hj
   rw [hcell j (by omega)]
   have hj2 : j < zs.length := by omega
   have : ((zs.take len).map Int.toNat).getD j 0 = (zs.getD j 0).toNat := by
    simp only [List.getD]
    rw [List.getElem?_map, List.getElem?_take_of_lt (by omega), List.getElem?_eq_getElem hj2]
    rfl
   have hz0 := u8_bounds (hwz (zs[j]) (List.getElem_mem hj2))
   show some (Value.int IntKind.u8 (zs.getD j 0)) = some (Value.int IntKind.u8 ((((zs.take len).map Int.toNat).getD j 0 : Nat) : Int))
   rw [this]
   simp only [List.getD, List.getElem?_eq_getElem hj2, Option.getD_some]
   rw [Int.toNat_of_nonneg hz0.1]
  ·obtain ⟨y, hy, rfl⟩ := List.mem_map.1 hz'
   have := u8_bounds (hwz y (List.mem_of_mem_take hy))
   omega
end
theorem info_parts {t : TypeId} {z : Value} {s b : Nat} (h : (Tryz.prog.info? t).map (fun i => (i.zero, i.size, i.bytes)) = some (some z, s, b)) : ∃ i, Tryz.prog.info? t = some i ∧ i.zero = some z ∧ i.size = s ∧ i.bytes = b := by
 cases hi : Tryz.prog.info? t with
 | none => rw [hi] at h; simp at h
 | some i => rw [hi] at h; simp at h; exact ⟨i, rfl, h.1, h.2.1, h.2.2⟩
theorem info5 : (Tryz.prog.info? 5).map (fun i => (i.zero, i.size, i.bytes)) = some (some (.int .u8 0), 1, 1) := by kernel_rfl
theorem empty23 (w : World) : (Instr.buildSlice 37 0 #[]).run Tryz.prog w = .ok (.slice (some ⟨w.heap.size, 0, none⟩) 0 0) (w.alloc (.cells #[] 5)) := by kernel_rfl
section
variable {P : Program} {op : Oper} {a : Act} {w w' : World} {K : Act → World → Prop} {Q : Exit → Act → World → Prop}
theorem wp_append_run (s x : Operand) (t : TypeId) (ho : op.op = .call { callee := .builtin .append, args := #[s, x], argTypes := #[t, t] }) (v1 v2 v' : Value) (hs : a.eval s = v1) (hx : a.eval x = v2)
  (hr : (Builtin.append_ #[t, t] op.type #[v1, v2]).run P w = .ok v' w') (h : K (a.put op.dst v') w') : op.wp P a w K Q := by
 unfold Oper.wp
 simp [execOp, ho, resolve, invoke, builtin, hs, hx, hr, Result.andThen]
 exact h
theorem step_append_run {ops : Array Oper} {E : Prop} (hgd : op.guard = none) (s x : Operand) (t : TypeId) (ho : op.op = .call { callee := .builtin .append, args := #[s, x], argTypes := #[t, t] }) (v1 v2 v' : Value) (hs : a.eval s = v1) (hx : a.eval x = v2)
  (hr : ∀ ty, (Builtin.append_ #[t, t] ty #[v1, v2]).run P w = .ok v' w') (h : K (a.put op.dst v') w') : if Region.wanted op (yielded ops a.tmps) = true then Oper.wp P op a w K Q else E := by
 have hw : Region.wanted op (yielded ops a.tmps) = true := by simp [Region.wanted, hgd]
 rw [if_pos hw]
 exact wp_append_run s x t ho v1 v2 v' hs hx (hr _) h
theorem wpList_append_run {ops : Array Oper} {rest : List Oper} (hgd : op.guard = none) (s x : Operand) (t : TypeId) (ho : op.op = .call { callee := .builtin .append, args := #[s, x], argTypes := #[t, t] }) (v1 v2 v' : Value) (hs : a.eval s = v1) (hx : a.eval x = v2)
  (hr : ∀ ty, (Builtin.append_ #[t, t] ty #[v1, v2]).run P w = .ok v' w') (h : wpList P ops Q rest (a.put op.dst v') w') : wpList P ops Q (op :: rest) a w :=
 wpList_plain hgd fun _ hK => wp_append_run s x t ho v1 v2 v' hs hx (hr _) (hK _ _ h)
end
theorem app_copy (t e : TypeId) (i : TypeInfo) (z : Value) (bytes : Nat) (ht : Tryz.prog.underlying t = some (.slice e)) (hi : Tryz.prog.info? e = some i) (hz : i.zero = some z) (hsize : i.size = 1) (hby : i.bytes = bytes) (hzs : z.cells.size = 1) (hb1 : bytes = 1)
  (w : World) (v : Value) (m : Nat) (f : Nat → Value) (hv : RowAt w v m 1 f) (ho : ∀ j, (f j).oneCell' = true) (hm : m ≤ 140737488355328) :
  ∃ a cap w', (∀ ty, (Builtin.append_ #[t, t] ty #[.slice (some ⟨w.heap.size, 0, none⟩) 0 0, v]).run Tryz.prog (w.alloc (.cells #[] e)) = .ok (.slice a m cap) w') ∧ w'.ownsRow w.heap.size e 1 (.slice a m cap) m ((List.range m).map f) ∧ Only (fun _ => False) w w' := by
 have hown : (w.alloc (.cells #[] e)).ownsRow w.heap.size e 1 (.slice (some ⟨w.heap.size, 0, none⟩) 0 0) 0 [] := World.ownsRow_made w #[] 0 (Nat.le_refl _) (Nat.zero_le _) rfl
 have oA : Only (fun _ => False) w (w.alloc (.cells #[] e)) := (Only.refl _ w).alloc _
 rcases hv with ⟨rfl, rfl⟩ | ⟨ad, c, rfl, hkc, hc⟩
 ·exact ⟨some ⟨w.heap.size, 0, none⟩, 0, _, fun ty => run_append_owned_none _ w.heap.size t ty e i 1 ht hi _ 0 [] hown, by simpa using hown, oA⟩
 ·have hnews : ∀ j u, ((List.range m).map f)[j]? = some u → (w.alloc (.cells #[] e)).cell? (ad.add j) = some u := fun j u hu => by
   have hj : j < m := by have := (List.getElem?_eq_some_iff.1 hu).1; simpa using this
   simp [hj] at hu
   rw [← hu]
   exact oA.cell (hc j (by omega)) (fun e => e)
  have h1 : ∀ u ∈ (List.range m).map f, u.oneCell' = true := fun u hu => by obtain ⟨j, _, rfl⟩ := List.mem_map.1 hu; exact ho j
  have key := fun ty => run_append_own_at (P := Tryz.prog) (w.alloc (.cells #[] e)) w.heap.size t ty e i z 1 bytes ht hi hz hsize hby hzs (by omega) _ 0 [] hown ad m c ((List.range m).map f) (by simp) hnews h1 (by unfold maxLen; omega) (by subst hb1; omega) (by simp)
  obtain ⟨v', w', hr, own', hg, _, _⟩ := key 0
  obtain ⟨a, cap, rfl⟩ := ownsRow_slice own'
  rw [Nat.zero_add] at own' hr
  refine ⟨a, cap, w', fun ty => ?_, by simpa using own', oA.grown hg (fun k e hk => by simp [Value.ownBlock] at e; omega)⟩
  rw [← hr]
  rfl
theorem rowAt_own {w : World} {B e m cap : Nat} {a : Option Addr} {f : Nat → Value} (h : w.ownsRow B e 1 (.slice a m cap) m ((List.range m).map f)) : RowAt w (.slice a m cap) m 1 f := by
 rcases h.2 with ⟨h1, h2⟩ | ⟨g, c2, cur, hv, _, _, hmc, _⟩
 ·exact .inl ⟨h1, h2⟩
 ·simp only [Value.slice.injEq] at hv
  obtain ⟨rfl, _, rfl⟩ := hv
  refine .inr ⟨⟨g, 0, none⟩, cap, rfl, hmc, fun j hj => ?_⟩
  rw [Addr.add_mid, Nat.zero_add, h.cellAt j (by omega)]
  have hj' : j < m := by omega
  simp [hj']
def Fresh (w : World) (B : Nat) (v : Value) (zs : List Nat) : Prop := w.ownsRow B 5 1 v zs.length (BL zs) ∧ zs.length ≤ 140737488355328 ∧ ∀ z ∈ zs, z < 256
theorem Fresh.bytes {w : World} {B : Nat} {v : Value} {zs : List Nat} (h : Fresh w B v zs) : BytesAt w v zs := by
 obtain ⟨a, c, rfl⟩ := ownsRow_slice h.1
 exact ⟨rowAt_own (by rw [← BL_getD]; exact h.1), h.2⟩
theorem Fresh.frame {w w' : World} {B : Nat} {v : Value} {zs : List Nat} (h : Fresh w B v zs) (ho : Only (fun _ => False) w w') : Fresh w' B v zs := ⟨ho.owns h.1 (fun _ _ e => e), h.2⟩
theorem Fresh.more {w : World} {B : Nat} {v : Value} {zs l : List Nat} (h : w.ownsRow B 5 1 v (zs.length + l.length) (BL zs ++ BL l)) (hm : zs.length + l.length ≤ 140737488355328) (hz : ∀ z ∈ zs, z < 256) (hl : ∀ z ∈ l, z < 256) : Fresh w B v (zs ++ l) :=
 ⟨by rw [BL_append, List.length_append]; exact h, by rw [List.length_append]; exact hm, fun z h => (List.mem_append.1 h).elim (hz z) (hl z)⟩
theorem Fresh.form {w : World} {B : Nat} {v : Value} {zs : List Nat} (h : Fresh w B v zs) : ∃ a c, v = .slice a zs.length c := ownsRow_slice h.1
end Go.Proofs.YtlcglapcmdpkfaaGreat
