/- How bytes lie in memory, those that come in and those that are made; a copy of them. What own, Sum, the document's Sum and SameBytes of the same bytes answer. What the document's Sum answers: the same. Slices with all their room, appended to one element at a time; lists that lie apart from each other. Slices of bytes cut short, made anew. Two lists of bytes that differ within four bytes side by side have different sums. A page's bytes as numbers: what they are, and which bytes are a page. No program in it. -/
import Derived.Test.YtpoakkdkibameaaGreatRows
import Derived.Test.YtpoakkdkibameaaGreatGaa
import Derived.ProofKit
import Derived.SizedLaws
import Derived.Deep.Slices
import Derived.Deep.Grids
import Derived.Test.YtpoakkdkibameaaGreatGab
import Derived.ArgAppend
import Derived.Laws.CopyOwn
namespace Go.Proofs.YtpoakkdkibameaaGreat
open Go.RowKit Go.ChangeShapes Go.WideShapes
set_option linter.unusedVariables false

/-- A slice of k elements of size cells each, whose cells are f's. -/
def RowAt (W : World) (v : Value) (k size : Nat) (f : Nat → Value) : Prop :=
  (v = .slice none 0 0 ∧ k = 0) ∨ ∃ ad c, v = .slice (some ad) k c ∧ k ≤ c ∧ ∀ j, j < k * size → W.cell? (ad.add j) = some (f j)
theorem RowAt.frame {W W' : World} {v : Value} {k size : Nat} {f : Nat → Value} {bs : Nat → Prop} (h : RowAt W v k size f) (ho : Only bs W W') (hn : ∀ b, bs b → W.heap.size ≤ b) : RowAt W' v k size f := by
  rcases h with h | ⟨ad, c, hv, hkc, hc⟩
  · exact .inl h
  · exact .inr ⟨ad, c, hv, hkc, fun j hj => ho.cell (hc j hj) (fun e => by have := hn _ e; have := World.block_lt_of_cell? W _ (hc j hj); omega)⟩
theorem RowAt.at {W : World} {v : Value} {k size : Nat} {f : Nat → Value} (h : RowAt W v k size f) (hk : 0 < k * size) : ∃ g o c, v = .slice (some ⟨g, o, none⟩) k c ∧ (∀ j, j < k * size → W.cell? ⟨g, o + j, none⟩ = some (f j)) ∧ g < W.heap.size := by
  rcases h with ⟨_, h0⟩ | ⟨ad, c, hv, hkc, hc⟩
  · subst h0; simp at hk
  · have h0 := hc 0 hk
    have e0 : ad.add 0 = ad := by simp [Addr.add]
    rw [e0] at h0
    obtain ⟨g, o, spot⟩ := ad
    have hs : spot = none := World.cell?_spot h0
    subst hs
    exact ⟨g, o, c, hv, fun j hj => by rw [← Addr.add_mid]; exact hc j hj, World.block_lt_of_cell? W _ h0⟩


/-- Bytes as cells. -/
def BL (zs : List Nat) : List Value := zs.map fun z => .int .u8 (z : Nat)
theorem BL_length (zs : List Nat) : (BL zs).length = zs.length := by simp [BL]
theorem BL_get (zs : List Nat) (j : Nat) (h : j < zs.length) : (BL zs)[j]? = some (.int .u8 (zs[j] : Nat)) := by simp [BL, h]
theorem BL_getD (zs : List Nat) : BL zs = (List.range zs.length).map fun j => .int .u8 (zs.getD j 0 : Nat) := by
  apply List.ext_getElem
  · simp [BL]
  · intro i h1 h2
    simp [BL] at h1
    simp [BL, List.getD, h1]
theorem BL_append (a b : List Nat) : BL (a ++ b) = BL a ++ BL b := by simp [BL]
theorem BL_one (zs : List Nat) : ∀ v ∈ BL zs, v.oneCell' = true := by
  intro v hv
  simp only [BL, List.mem_map] at hv
  obtain ⟨j, _, rfl⟩ := hv
  rfl
/-- The slice v holds the bytes zs. -/
def BytesAt (W : World) (v : Value) (zs : List Nat) : Prop := RowAt W v zs.length 1 (fun j => .int .u8 (zs.getD j 0 : Nat)) ∧ zs.length ≤ 140737488355328 ∧ ∀ z ∈ zs, z < 256
theorem BytesAt.frame {W W' : World} {v : Value} {zs : List Nat} (h : BytesAt W v zs) (ho : Only (fun _ => False) W W') : BytesAt W' v zs := ⟨h.1.frame ho (fun _ e => e.elim), h.2⟩
theorem BytesAt.form {W : World} {v : Value} {zs : List Nat} (h : BytesAt W v zs) : ∃ a c, v = .slice a zs.length c ∧ zs.length ≤ c ∧ ∀ j, j < zs.length → ∃ g o, a = some ⟨g, o, none⟩ ∧ W.cell? ⟨g, o + j, none⟩ = some (.int .u8 (zs.getD j 0 : Nat)) := by
  rcases h.1 with ⟨rfl, h0⟩ | ⟨ad, c, rfl, hkc, hc⟩
  · exact ⟨none, 0, by rw [h0], by omega, fun j hj => by omega⟩
  · refine ⟨some ad, c, rfl, hkc, fun j hj => ?_⟩
    obtain ⟨g, o, c', hv, hc', _⟩ := h.1.at (by omega)
    simp only [Value.slice.injEq, Option.some.injEq] at hv
    obtain ⟨rfl, _, rfl⟩ := hv
    exact ⟨g, o, rfl, hc' j (by omega)⟩

section
variable {H : Type} {enc : TypeId × Value → H} {w : World} {base fuel : Nat} {held : Bool}
theorem cells5 : Tryz.prog.cellsOf 5 = 1 := by kernel_rfl
theorem bytes5 : Tryz.prog.bytesOf 5 = 1 := by kernel_rfl
theorem u8_bounds {z : Int} (h : (Lit.int .u8 z).wf = true) : 0 ≤ z ∧ z ≤ 255 := by
  have h' : IntKind.u8.min ≤ z ∧ z ≤ IntKind.u8.max := by simpa [Lit.wf] using h
  exact h'
/-- Bytes that come in: not as many as 2^47. -/
def InAt (W : World) (v : Value) (zs : List Nat) : Prop := BytesAt W v zs ∧ zs.length ≤ 140737488351232
theorem read_bytes {v : Value} {x : DataW H × List MemPlace} (h : DataW.trod enc Tryz.prog w base (fun _ => true) held fuel 37 [v] = some x) (hw : ∀ n ∈ x.1.weights Tryz.prog 37, n ≤ reachBytes) : ∃ zs, InAt w v zs := by
  rcases open_ints Tryz.underlying37 Tryz.underlying5 cells5 h with ⟨hcs, _⟩ | ⟨a, len, cap, zs, hcs, _, hl, hm, hz, hx, hcell, hwz⟩
  · simp at hcs
    exact ⟨[], ⟨.inl ⟨hcs, rfl⟩, Nat.zero_le _, fun _ h => by cases h⟩, Nat.zero_le _⟩
  · simp at hcs
    rw [if_pos rfl] at hz
    have hb := hw _ (by rw [hx]; simp only [DataW.weights, Tryz.underlying37]; exact List.mem_cons_self ..)
    rw [bytes5] at hb
    simp only [lits, List.length_map, List.length_take, List.length_drop, reachBytes] at hb
    have hlen : ((zs.take len).map Int.toNat).length = len := by rw [List.length_map, List.length_take]; omega
    refine ⟨(zs.take len).map Int.toNat, ⟨.inr ⟨a, cap, by rw [hlen]; exact hcs, by rw [hlen]; exact hl, fun j hj => ?_⟩, by rw [hlen]; omega, fun z hz' => ?_⟩, by rw [hlen]; omega⟩
    · rw [hlen] at hj
      rw [hcell j (by omega)]
      have hj2 : j < zs.length := by omega
      have : ((zs.take len).map Int.toNat).getD j 0 = (zs.getD j 0).toNat := by
        simp only [List.getD]
        rw [List.getElem?_map, List.getElem?_take_of_lt (by omega), List.getElem?_eq_getElem hj2]
        rfl
      have hz0 := u8_bounds (hwz (zs[j]) (List.getElem_mem hj2))
      show some (Value.int IntKind.u8 (zs.getD j 0)) = some (Value.int IntKind.u8 ((((zs.take len).map Int.toNat).getD j 0 : Nat) : Int))
      rw [this]
      simp only [List.getD, List.getElem?_eq_getElem hj2, Option.getD_some]
      rw [Int.toNat_of_nonneg hz0.1]
    · obtain ⟨y, hy, rfl⟩ := List.mem_map.1 hz'
      have := u8_bounds (hwz y (List.mem_of_mem_take hy))
      omega
end

theorem info_parts {t : TypeId} {z : Value} {s b : Nat} (h : (Tryz.prog.info? t).map (fun i => (i.zero, i.size, i.bytes)) = some (some z, s, b)) : ∃ i, Tryz.prog.info? t = some i ∧ i.zero = some z ∧ i.size = s ∧ i.bytes = b := by
  cases hi : Tryz.prog.info? t with
  | none => rw [hi] at h; simp at h
  | some i => rw [hi] at h; simp at h; exact ⟨i, rfl, h.1, h.2.1, h.2.2⟩
theorem info5 : (Tryz.prog.info? 5).map (fun i => (i.zero, i.size, i.bytes)) = some (some (.int .u8 0), 1, 1) := by kernel_rfl
theorem info23 : (Tryz.prog.info? 37).map (fun i => (i.zero, i.size, i.bytes)) = some (some (.slice none 0 0), 1, 24) := by kernel_rfl
theorem empty23 (w : World) : (Instr.buildSlice 37 0 #[]).run Tryz.prog w = .ok (.slice (some ⟨w.heap.size, 0, none⟩) 0 0) (w.alloc (.cells #[] 5)) := by kernel_rfl
section
variable {P : Program} {op : Oper} {a : Act} {w w' : World} {K : Act → World → Prop} {Q : Exit → Act → World → Prop}
theorem wp_append_run (s x : Operand) (t : TypeId) (ho : op.op = .call { callee := .builtin .append, args := #[s, x], argTypes := #[t, t] }) (v1 v2 v' : Value) (hs : a.eval s = v1) (hx : a.eval x = v2)
    (hr : (Builtin.append_ #[t, t] op.type #[v1, v2]).run P w = .ok v' w') (h : K (a.put op.dst v') w') : op.wp P a w K Q := by
  unfold Oper.wp
  simp [execOp, ho, resolve, invoke, builtin, hs, hx, hr, Result.andThen]
  exact h
theorem step_append_run {ops : Array Oper} {E : Prop} (hgd : op.guard = none) (s x : Operand) (t : TypeId) (ho : op.op = .call { callee := .builtin .append, args := #[s, x], argTypes := #[t, t] }) (v1 v2 v' : Value) (hs : a.eval s = v1) (hx : a.eval x = v2)
    (hr : ∀ ty, (Builtin.append_ #[t, t] ty #[v1, v2]).run P w = .ok v' w') (h : K (a.put op.dst v') w') : if Region.wanted op (yielded ops a.tmps) = true then Oper.wp P op a w K Q else E := by
  have hw : Region.wanted op (yielded ops a.tmps) = true := by simp [Region.wanted, hgd]
  rw [if_pos hw]
  exact wp_append_run s x t ho v1 v2 v' hs hx (hr _) h
theorem wpList_append_run {ops : Array Oper} {rest : List Oper} (hgd : op.guard = none) (s x : Operand) (t : TypeId) (ho : op.op = .call { callee := .builtin .append, args := #[s, x], argTypes := #[t, t] }) (v1 v2 v' : Value) (hs : a.eval s = v1) (hx : a.eval x = v2)
    (hr : ∀ ty, (Builtin.append_ #[t, t] ty #[v1, v2]).run P w = .ok v' w') (h : wpList P ops Q rest (a.put op.dst v') w') : wpList P ops Q (op :: rest) a w :=
  wpList_plain hgd fun _ hK => wp_append_run s x t ho v1 v2 v' hs hx (hr _) (hK _ _ h)
end

/-- append(T{}, v...): a copy in new memory, of one-cell elements. -/
theorem app_copy (t e : TypeId) (i : TypeInfo) (z : Value) (bytes : Nat) (ht : Tryz.prog.underlying t = some (.slice e)) (hi : Tryz.prog.info? e = some i) (hz : i.zero = some z) (hsize : i.size = 1) (hby : i.bytes = bytes) (hzs : z.cells.size = 1) (hb1 : bytes = 1)
    (w : World) (v : Value) (m : Nat) (f : Nat → Value) (hv : RowAt w v m 1 f) (ho : ∀ j, (f j).oneCell' = true) (hm : m ≤ 140737488355328) :
    ∃ a cap w', (∀ ty, (Builtin.append_ #[t, t] ty #[.slice (some ⟨w.heap.size, 0, none⟩) 0 0, v]).run Tryz.prog (w.alloc (.cells #[] e)) = .ok (.slice a m cap) w') ∧ w'.ownsRow w.heap.size e 1 (.slice a m cap) m ((List.range m).map f) ∧ Only (fun _ => False) w w' := by
  have hown : (w.alloc (.cells #[] e)).ownsRow w.heap.size e 1 (.slice (some ⟨w.heap.size, 0, none⟩) 0 0) 0 [] := World.ownsRow_made w #[] 0 (Nat.le_refl _) (Nat.zero_le _) rfl
  have oA : Only (fun _ => False) w (w.alloc (.cells #[] e)) := (Only.refl _ w).alloc _
  rcases hv with ⟨rfl, rfl⟩ | ⟨ad, c, rfl, hkc, hc⟩
  · exact ⟨some ⟨w.heap.size, 0, none⟩, 0, _, fun ty => run_append_owned_none _ w.heap.size t ty e i 1 ht hi _ 0 [] hown, by simpa using hown, oA⟩
  · have hnews : ∀ j u, ((List.range m).map f)[j]? = some u → (w.alloc (.cells #[] e)).cell? (ad.add j) = some u := fun j u hu => by
      have hj : j < m := by have := (List.getElem?_eq_some_iff.1 hu).1; simpa using this
      simp [hj] at hu
      rw [← hu]
      exact oA.cell (hc j (by omega)) (fun e => e)
    have h1 : ∀ u ∈ (List.range m).map f, u.oneCell' = true := fun u hu => by obtain ⟨j, _, rfl⟩ := List.mem_map.1 hu; exact ho j
    have key := fun ty => run_append_own_at (P := Tryz.prog) (w.alloc (.cells #[] e)) w.heap.size t ty e i z 1 bytes ht hi hz hsize hby hzs (by omega) _ 0 [] hown ad m c ((List.range m).map f) (by simp) hnews h1 (by unfold maxLen; omega) (by subst hb1; omega) (by simp)
    obtain ⟨v', w', hr, own', hg, _, _⟩ := key 0
    obtain ⟨a, cap, rfl⟩ := ownsRow_slice own'
    rw [Nat.zero_add] at own' hr
    refine ⟨a, cap, w', fun ty => ?_, by simpa using own', oA.grown hg (fun k e hk => by simp [Value.ownBlock] at e; omega)⟩
    rw [← hr]
    rfl
theorem rowAt_own {w : World} {B e m cap : Nat} {a : Option Addr} {f : Nat → Value} (h : w.ownsRow B e 1 (.slice a m cap) m ((List.range m).map f)) : RowAt w (.slice a m cap) m 1 f := by
  rcases h.2 with ⟨h1, h2⟩ | ⟨g, c2, cur, hv, _, _, hmc, _⟩
  · exact .inl ⟨h1, h2⟩
  · simp only [Value.slice.injEq] at hv
    obtain ⟨rfl, _, rfl⟩ := hv
    refine .inr ⟨⟨g, 0, none⟩, cap, rfl, hmc, fun j hj => ?_⟩
    rw [Addr.add_mid, Nat.zero_add, h.cellAt j (by omega)]
    have hj' : j < m := by omega
    simp [hj']


/-- Bytes that were made since B. -/
def Fresh (w : World) (B : Nat) (v : Value) (zs : List Nat) : Prop := w.ownsRow B 5 1 v zs.length (BL zs) ∧ zs.length ≤ 140737488355328 ∧ ∀ z ∈ zs, z < 256
theorem Fresh.bytes {w : World} {B : Nat} {v : Value} {zs : List Nat} (h : Fresh w B v zs) : BytesAt w v zs := by
  obtain ⟨a, c, rfl⟩ := ownsRow_slice h.1
  exact ⟨rowAt_own (by rw [← BL_getD]; exact h.1), h.2⟩
theorem Fresh.frame {w w' : World} {B : Nat} {v : Value} {zs : List Nat} (h : Fresh w B v zs) (ho : Only (fun _ => False) w w') : Fresh w' B v zs := ⟨ho.owns h.1 (fun _ _ e => e), h.2⟩
theorem Fresh.more {w : World} {B : Nat} {v : Value} {zs l : List Nat} (h : w.ownsRow B 5 1 v (zs.length + l.length) (BL zs ++ BL l)) (hm : zs.length + l.length ≤ 140737488355328) (hz : ∀ z ∈ zs, z < 256) (hl : ∀ z ∈ l, z < 256) : Fresh w B v (zs ++ l) :=
  ⟨by rw [BL_append, List.length_append]; exact h, by rw [List.length_append]; exact hm, fun z h => (List.mem_append.1 h).elim (hz z) (hl z)⟩
theorem Fresh.form {w : World} {B : Nat} {v : Value} {zs : List Nat} (h : Fresh w B v zs) : ∃ a c, v = .slice a zs.length c := ownsRow_slice h.1
end Go.Proofs.YtpoakkdkibameaaGreat
namespace Go.Proofs.YtpoakkdkibameaaGreat
open Go.RowKit
set_option linter.unusedSimpArgs false
set_option linter.unusedVariables false

set_option maxHeartbeats 400000 in
theorem own_any (v : Value) (zs : List Nat) (w : World) (h : BytesAt w v zs) :
    Calls Tryz.prog 35 #[v] w fun e w' => ∃ u, e = .returned u ∧ Fresh w' w.heap.size u zs ∧ Only (fun _ => False) w w' := by
  obtain ⟨i0, hi0, hz0, hz1, hz2⟩ := info_parts info5
  obtain ⟨a, cap, w', hr, own, ho⟩ := app_copy 37 5 i0 _ 1 Tryz.underlying37 hi0 hz0 hz1 hz2 rfl rfl w v zs.length _ h.1 (fun j => rfl) h.2.1
  rw [← BL_getD] at own
  have HR : Hid _ := hr
  have HF : Hid (Fresh w' w.heap.size (.slice a zs.length cap) zs) := ⟨own, h.2⟩
  have HO : Hid (Only (fun _ => False) w w') := ho
  have hem := empty23
  clear hr own ho h
  go_enter Tryz.func35, Tryz.ntmps35
  go_wp2_with (at_builtin; refine wpList_append_run rfl _ _ 37 rfl _ _ (.slice a zs.length cap) rfl rfl HR.out ?_)
  go_ret
  exact ⟨_, rfl, HF.out, HO.out⟩

theorem fold_take (zs : List Nat) (k : Nat) (h : k < zs.length) : (zs.take (k + 1)).foldl eat 4294967295 = eat ((zs.take k).foldl eat 4294967295) (zs.getD k 0) := by
  rw [List.take_succ_eq_append_getElem h, List.foldl_append]
  simp [List.getD, h]
theorem getD_lt {zs : List Nat} (h : ∀ z ∈ zs, z < 256) (k : Nat) : zs.getD k 0 < 256 := by
  simp only [List.getD]
  rcases Nat.lt_or_ge k zs.length with hk | hk
  · rw [List.getElem?_eq_getElem hk]; exact h _ (List.getElem_mem hk)
  · rw [List.getElem?_eq_none hk]; decide

set_option maxHeartbeats 400000 in
theorem sum_any (v : Value) (zs : List Nat) (w : World) (h : BytesAt w v zs) :
    Calls Tryz.prog 131 #[v] w fun e w' => e = .returned (.int .u32 (sumN zs : Nat)) ∧ w' = w := by
  obtain ⟨a, c, rfl, hcap, hc⟩ := h.form
  have hlt := h.2.2
  have HL : Hid (∀ z ∈ zs, z < 256) := hlt
  have HC : Hid _ := hc
  obtain ⟨m, hm⟩ : ∃ m, m = zs.length := ⟨_, rfl⟩
  have HM : Hid (m = zs.length) := hm
  have hm2 : m ≤ 140737488355328 := hm ▸ h.2.1
  rw [← hm]
  clear h hc hlt hm hcap
  go_enter Tryz.func131, Tryz.ntmps131
  go_wp2
  go_loopw [3, 8] (fun r t wr => ∃ k : Nat, k ≤ m ∧ t = .int .i64 k ∧ r = .int .u32 ((zs.take k).foldl eat 4294967295 : Nat) ∧ w = wr) (fun _ t _ => m - (intOf t).toNat)
  case atStart => exact ⟨0, Nat.zero_le _, rfl, rfl, rfl⟩
  case round =>
    obtain ⟨k, hk, rfl, rfl, rfl⟩ := hrel
    by_cases hlt : k < m
    · have k0 : (0 : Int) ≤ (k : Int) := Int.natCast_nonneg _
      have k1 : (k : Int) < (m : Int) := by omega
      obtain ⟨g, o, rfl, hcell⟩ := HC.out k (by have := HM.out; omega)
      have HF : Hid _ := fold_take zs k (by have := HM.out; omega)
      have hz := getD_lt HL.out k
      have hx : (zs.take k).foldl eat 4294967295 < 4294967296 := fold_lt _ _ (by omega) (fun z hz => HL.out z (List.mem_of_mem_take hz))
      obtain ⟨x, hxx⟩ : ∃ x, x = (zs.take k).foldl eat 4294967295 := ⟨_, rfl⟩
      obtain ⟨z, hzz⟩ : ∃ z, z = zs.getD k 0 := ⟨_, rfl⟩
      rw [← hxx] at hx HF
      rw [← hzz] at hz hcell HF
      rw [← hxx]
      clear hxx hzz
      have hb := bx32 x z hx (by omega)
      have hs : x ^^^ z < 4294967296 := Nat.xor_lt_two_pow (n := 32) hx (by omega)
      go_wp2_with (go_at_call 141; refine (shift_any _ _ hs).mono ?_; rintro e w' ⟨rfl, rfl⟩)
      go_roundw
      case rel => exact ⟨k + 1, by omega, by go_num, by rw [HF.out]; rfl, trivial⟩
      case measure => simp [intOf]; omega
    · obtain rfl : k = m := by omega
      have hx : reg zs < 4294967296 := reg_lt zs HL.out
      have hb : bits .xor .u32 ((zs.take k).foldl eat 4294967295 : Nat) 4294967295 = (sumN zs : Nat) := by
        rw [HM.out, List.take_length]
        exact bx32 (reg zs) 4294967295 hx (by omega)
      go_wp2
      go_ret
      exact ⟨rfl, rfl⟩

/-- The register behind k bits of a byte c. -/
theorem it_bit (r c : Nat) (k : Nat) : (it k (r ^^^ c)) = it k r ^^^ it k c := it_xor r c k
end Go.Proofs.YtpoakkdkibameaaGreat
namespace Go.Proofs.YtpoakkdkibameaaGreat
open Go.RowKit
set_option linter.unusedSimpArgs false
set_option linter.unusedVariables false

/-- The register that takes the bits of c one by one. -/
def rr (k r c : Nat) : Nat := it k (r ^^^ c) ^^^ c / 2 ^ k
theorem rr_zero (r c : Nat) : rr 0 r c = r := by simp [rr, it, Nat.xor_assoc]
theorem rr_bit (k r c : Nat) : (rr k r c ^^^ c / 2 ^ k) = it k (r ^^^ c) := by simp [rr, Nat.xor_assoc]
theorem rr_succ (k r c : Nat) : rr (k + 1) r c = if (rr k r c ^^^ c / 2 ^ k) % 2 = 1 then rr k r c / 2 ^^^ 3988292384 else rr k r c / 2 := by
  rw [rr_bit]
  have e1 : rr k r c / 2 = it k (r ^^^ c) / 2 ^^^ c / 2 ^ (k + 1) := by
    unfold rr
    rw [xor_half, Nat.div_div_eq_div_mul, ← Nat.pow_succ]
  rw [e1]
  show st (it k (r ^^^ c)) ^^^ c / 2 ^ (k + 1) = _
  unfold st
  split
  · rw [Nat.xor_assoc, Nat.xor_assoc, Nat.xor_comm 3988292384]
  · rfl
theorem rr_eight (r c : Nat) (h : c < 256) : rr 8 r c = eat r c := by
  have : c / 2 ^ 8 = 0 := by omega
  simp [rr, this, eat]
theorem half_le (c k : Nat) : c / 2 ^ k ≤ c := Nat.div_le_self _ _
theorem rr_lt (k r c : Nat) (hr : r < 4294967296) (hc : c < 256) : rr k r c < 4294967296 :=
  Nat.xor_lt_two_pow (n := 32) (it_lt (Nat.xor_lt_two_pow (n := 32) hr (by omega)) k) (by have := half_le c k; omega)

set_option maxHeartbeats 400000 in
theorem rsum_any (v : Value) (zs : List Nat) (w : World) (h : BytesAt w v zs) :
    Calls Tryz.prog 137 #[v] w fun e w' => e = .returned (.int .u32 (sumN zs : Nat)) ∧ w' = w := by
  obtain ⟨a, c, rfl, hcap, hc⟩ := h.form
  have hlt := h.2.2
  have HL : Hid (∀ z ∈ zs, z < 256) := hlt
  have HC : Hid _ := hc
  obtain ⟨m, hm⟩ : ∃ m, m = zs.length := ⟨_, rfl⟩
  have HM : Hid (m = zs.length) := hm
  have hm2 : m ≤ 140737488355328 := hm ▸ h.2.1
  rw [← hm]
  clear h hc hlt hm hcap
  go_enter Tryz.func137, Tryz.ntmps137
  go_wp2
  go_loopw [3, 4] (fun r t wr => ∃ k : Nat, k ≤ m ∧ t = .int .i64 k ∧ r = .int .u32 ((zs.take k).foldl eat 4294967295 : Nat) ∧ w = wr) (fun _ t _ => m - (intOf t).toNat)
  case atStart => exact ⟨0, Nat.zero_le _, rfl, rfl, rfl⟩
  case round =>
    obtain ⟨k, hk, rfl, rfl, rfl⟩ := hrel
    by_cases hlt : k < m
    · have k0 : (0 : Int) ≤ (k : Int) := Int.natCast_nonneg _
      have k1 : (k : Int) < (m : Int) := by omega
      obtain ⟨g, o, rfl, hcell⟩ := HC.out k (by have := HM.out; omega)
      have HF : Hid _ := fold_take zs k (by have := HM.out; omega)
      have hz := getD_lt HL.out k
      have hx : (zs.take k).foldl eat 4294967295 < 4294967296 := fold_lt _ _ (by omega) (fun z hz => HL.out z (List.mem_of_mem_take hz))
      obtain ⟨x, hxx⟩ : ∃ x, x = (zs.take k).foldl eat 4294967295 := ⟨_, rfl⟩
      obtain ⟨z, hzz⟩ : ∃ z, z = zs.getD k 0 := ⟨_, rfl⟩
      rw [← hxx] at hx HF
      rw [← hzz] at hz hcell HF
      rw [← hxx]
      clear hxx hzz
      go_wp2_with fail
      go_loopw [3, 5] (fun r t wr => ∃ q : Nat, q ≤ 8 ∧ t = .int .i64 q ∧ r = .int .u32 (rr q x z : Nat) ∧ w = wr) (fun _ t _ => 8 - (intOf t).toNat)
      case atStart => exact ⟨0, Nat.zero_le _, rfl, by rw [rr_zero], rfl⟩
      case round =>
        obtain ⟨q, hq, rfl, rfl, rfl⟩ := hrel
        by_cases hlq : q < 8
        · have q0 : (0 : Int) ≤ (q : Int) := Int.natCast_nonneg _
          have q1 : (q : Int) < 8 := by omega
          have HS : Hid _ := rr_succ q x z
          have hr := rr_lt q x z hx hz
          obtain ⟨r, hrr⟩ : ∃ r, r = rr q x z := ⟨_, rfl⟩
          rw [← hrr] at hr HS
          rw [← hrr]
          clear hrr
          obtain ⟨y, hy⟩ : ∃ y, y = z / 2 ^ q := ⟨_, rfl⟩
          have hyi : (z : Int) / 2 ^ q = (y : Nat) := by rw [hy]; simp
          have hy2 : y < 256 := by have := half_le z q; omega
          rw [← hy] at HS
          have hb := bx32 r y hr (by omega)
          clear hy
          by_cases h1 : (r ^^^ y) % 2 = 1
          · have hm1 : ((r ^^^ y : Nat) : Int) % 2 = 1 := by omega
            have hs : bits .xor .u32 ((r : Int) / 2) 3988292384 = ((rr (q + 1) x z : Nat) : Int) := by
              have := bx32 (r / 2) 3988292384 (by omega) (by omega)
              rw [HS.out, if_pos h1, ← this]; rfl
            clear h1
            go_wp2
            go_roundw
            case rel => exact ⟨q + 1, by omega, by go_num, by rfl, trivial⟩
            case measure => simp [intOf]; omega
          · have hm1 : ((r ^^^ y : Nat) : Int) % 2 = 0 := by omega
            have hs : (r : Int) / 2 = ((rr (q + 1) x z : Nat) : Int) := by
              rw [HS.out, if_neg h1]; rfl
            clear h1
            go_wp2
            go_roundw
            case rel => exact ⟨q + 1, by omega, by go_num, by rfl, trivial⟩
            case measure => simp [intOf]; omega
        · obtain rfl : q = 8 := by omega
          rw [rr_eight x z hz]
          go_wp2
          go_roundw
          case rel => exact ⟨k + 1, by omega, by go_num, by rw [HF.out], trivial⟩
          case measure => simp [intOf]; omega
    · obtain rfl : k = m := by omega
      have hx : reg zs < 4294967296 := reg_lt zs HL.out
      have hb : bits .xor .u32 ((zs.take k).foldl eat 4294967295 : Nat) 4294967295 = (sumN zs : Nat) := by
        rw [HM.out, List.take_length]
        exact bx32 (reg zs) 4294967295 hx (by omega)
      go_wp2
      go_ret
      exact ⟨rfl, rfl⟩
end Go.Proofs.YtpoakkdkibameaaGreat
namespace Go.Proofs.YtpoakkdkibameaaGreat
open Go.RowKit
set_option linter.unusedSimpArgs false
set_option linter.unusedVariables false

/-- A slice of n elements of one cell each, f 0, f 1, ..; all its room is there. -/
def Whole (w : World) (v : Value) (n : Nat) (f : Nat → Value) : Prop :=
  ∃ a c, v = .slice a n c ∧ n ≤ c ∧ c ≤ maxLen ∧ (a = none → c = 0) ∧ (0 < c → ∃ g o, a = some ⟨g, o, none⟩ ∧ w.there g o c ∧ ∀ j, j < n → w.cell? ⟨g, o + j, none⟩ = some (f j))
theorem Whole.frame {w w' : World} {v : Value} {n : Nat} {f : Nat → Value} {bs : Nat → Prop} (h : Whole w v n f) (ho : Only bs w w') (hn : ∀ b, v.ownBlock = some b → ¬ bs b) : Whole w' v n f := by
  obtain ⟨a, c, rfl, h1, h2, h3, h4⟩ := h
  refine ⟨a, c, rfl, h1, h2, h3, fun hc => ?_⟩
  obtain ⟨g, o, rfl, ht, hf⟩ := h4 hc
  have hg := hn g rfl
  exact ⟨g, o, rfl, ho.there ht hg, fun j hj => ho.cell (hf j hj) hg⟩
theorem Whole.nil (w : World) (f : Nat → Value) : Whole w (.slice none 0 0) 0 f := ⟨none, 0, rfl, Nat.le_refl _, by unfold maxLen; omega, fun _ => rfl, fun h => by omega⟩
theorem Whole.congr {w : World} {v : Value} {n : Nat} {f f' : Nat → Value} (h : Whole w v n f) (he : ∀ j, j < n → f' j = f j) : Whole w v n f' := by
  obtain ⟨a, c, rfl, h1, h2, h3, h4⟩ := h
  refine ⟨a, c, rfl, h1, h2, h3, fun hc => ?_⟩
  obtain ⟨g, o, rfl, ht, hf⟩ := h4 hc
  exact ⟨g, o, rfl, ht, fun j hj => by rw [he j hj]; exact hf j hj⟩
theorem Whole.len {w : World} {v : Value} {n : Nat} {f : Nat → Value} (h : Whole w v n f) : n ≤ maxLen := by
  obtain ⟨a, c, rfl, h1, h2, _⟩ := h
  omega
theorem Whole.form {w : World} {v : Value} {n : Nat} {f : Nat → Value} (h : Whole w v n f) (hn : 0 < n) : ∃ g o c, v = .slice (some ⟨g, o, none⟩) n c ∧ (∀ j, j < n → w.cell? ⟨g, o + j, none⟩ = some (f j)) ∧ (∀ j, j < n → w.frozen? ⟨g, o + j, none⟩ = false) := by
  obtain ⟨a, c, rfl, h1, h2, h3, h4⟩ := h
  obtain ⟨g, o, rfl, ht, hf⟩ := h4 (by omega)
  exact ⟨g, o, c, rfl, hf, fun j hj => (ht j (by omega)).2⟩
theorem Whole.slice {w : World} {v : Value} {n : Nat} {f : Nat → Value} (h : Whole w v n f) : ∃ a c, v = .slice a n c := by
  obtain ⟨a, c, rfl, _⟩ := h
  exact ⟨a, c, rfl⟩
theorem Whole.ofOwn {w : World} {B e n : Nat} {v : Value} {xs : List Value} {f : Nat → Value} (h : w.ownsRow B e 1 v n xs) (hf : ∀ j, j < n → xs[j]? = some (f j)) : Whole w v n f := by
  rcases h.2 with ⟨rfl, rfl⟩ | ⟨g, cap, cur, rfl, hb, hg, h1, h2, h3, h4⟩
  · exact Whole.nil w f
  · refine ⟨_, cap, rfl, h1, h2, fun e => (by cases e), fun hc => ⟨g, 0, rfl, fun j hj => ⟨?_, ?_⟩, fun j hj => ?_⟩⟩
    · rw [Nat.zero_add, cell_of_row _ _ _ _ _ _ hg]
      simp [h3, hj]
    · rw [Nat.zero_add]; exact h.frozenAt j
    · rw [Nat.zero_add, h.cellAt j (by omega)]; exact hf j hj
theorem Whole.setCell {w : World} {n c g o : Nat} {f : Nat → Value} (h : Whole w (.slice (some ⟨g, o, none⟩) n c) n f) (j : Nat) (hj : j < n) (u : Value) : Whole (w.setCell ⟨g, o + j, none⟩ u) (.slice (some ⟨g, o, none⟩) n c) n (fun q => if q = j then u else f q) := by
  obtain ⟨a, c', hv, h1, h2, h3, h4⟩ := h
  simp only [Value.slice.injEq] at hv
  obtain ⟨rfl, _, rfl⟩ := hv
  refine ⟨_, c, rfl, h1, h2, h3, fun hc => ?_⟩
  obtain ⟨g', o', hg, ht, hf⟩ := h4 hc
  simp only [Option.some.injEq, Addr.mk.injEq, and_true] at hg
  obtain ⟨rfl, rfl⟩ := hg
  have hs : w.setCell ⟨g, o + j, none⟩ u = w.setCells g (o + j) [u] := rfl
  refine ⟨g, o, rfl, by rw [hs]; exact World.there_setCells ht _ _ _, fun q hq => ?_⟩
  by_cases e : q = j
  · subst e
    simp only [if_true]
    rw [hs]
    have := World.cell?_setCells_in g [u] (o + q) w (fun i hi => by simp at hi; subst hi; exact (ht q (by omega)).1) 0 (by simp)
    simpa using this
  · simp only [if_neg e]
    rw [hs, World.cell?_setCells_out g _ _ _ _ (fun _ _ => by simp; omega)]
    exact hf q hq

/-- All the room that was there still is. -/
def Th (w w' : World) : Prop := ∀ g o c, w.there g o c → w'.there g o c
theorem Th.refl (w : World) : Th w w := fun _ _ _ h => h
theorem Th.trans {a b c : World} (h : Th a b) (h' : Th b c) : Th a c := fun g o n k => h' g o n (h g o n k)
theorem Only.th {w w' : World} (h : Only (fun _ => False) w w') : Th w w' := fun _ _ _ k => h.there k (fun e => e)
theorem Th.setCells (w : World) (g o : Nat) (vs : List Value) : Th w (w.setCells g o vs) := fun _ _ _ k => World.there_setCells k _ _ _

section
variable {P : Program}
/-- One element more. -/
theorem run_append_whole (w : World) (t ty e : TypeId) (i : TypeInfo) (z : Value) (bytes : Nat) (ht : P.underlying t = some (.slice e)) (hi : P.info? e = some i) (hz : i.zero = some z) (hsize : i.size = 1) (hby : i.bytes = bytes) (hzs : z.cells.size = 1)
    (v : Value) (n : Nat) (f : Nat → Value) (h : Whole w v n f) (ad : Addr) (x : Value) (hx : ∀ j u, [x][j]? = some u → w.cell? (ad.add j) = some u) (h1 : x.oneCell' = true) (hm : n + 1 ≤ maxLen) (hb : (n + 1) * bytes ≤ 140737488355328) :
    ∃ v' w', (Builtin.append_ #[t, t] ty #[v, .slice (some ad) 1 1]).run P w = .ok v' w' ∧ Whole w' v' (n + 1) (fun j => if j = n then x else f j) ∧ w.grownBy w' v.ownBlock ∧ (v'.ownBlock = v.ownBlock ∨ ∀ b, v'.ownBlock = some b → w.heap.size ≤ b ∧ b < w'.heap.size) ∧ Th w w' := by
  obtain ⟨a, c, rfl, h2, h3, h4, h5⟩ := h
  have g1 : ∀ u ∈ [x], u.oneCell' = true := fun u hu => by simp at hu; rw [hu]; exact h1
  have fin : ∀ v' w', (Builtin.append_ #[t, t] ty #[.slice a n c, .slice (some ad) 1 1]).run P w = .ok v' w' → w'.ownsRow w.heap.size e 1 v' (n + 1) ((List.range n).map f ++ [x]) → w.grownBy w' none →
      ∃ v' w', (Builtin.append_ #[t, t] ty #[.slice a n c, .slice (some ad) 1 1]).run P w = .ok v' w' ∧ Whole w' v' (n + 1) (fun j => if j = n then x else f j) ∧ w.grownBy w' (Value.slice a n c).ownBlock ∧ (v'.ownBlock = (Value.slice a n c).ownBlock ∨ ∀ b, v'.ownBlock = some b → w.heap.size ≤ b ∧ b < w'.heap.size) ∧ Th w w' := by
    intro v' w' hr own hg
    refine ⟨v', w', hr, Whole.ofOwn own (fun j hj => ?_), ⟨hg.os, hg.tape, hg.output, hg.size, fun k hk _ => hg.block k hk (by simp)⟩, ?_, ((Only.refl (fun _ => False) w).grown hg (by simp)).th⟩
    · by_cases ej : j = n
      · subst ej; simp
      · have hjn : j < n := by omega
        rw [List.getElem?_append_left (by simpa using hjn)]
        simp [hjn, ej]
    · exact .inr (fun b hb => own.lt b hb)
  by_cases hroom : n + 1 ≤ c
  · obtain ⟨g, o, rfl, hth, hf⟩ := h5 (by omega)
    have hrun := run_append_room_cells (P := P) w t ty e i ht hi g o n c ad 1 1 [x] (by simp [hsize]) hx g1 hroom (fun j hj => by simp at hj; subst hj; rw [hsize]; simpa using (hth n (by omega)).1) (fun j hj => by simp at hj; subst hj; rw [hsize]; simpa using (hth n (by omega)).2)
    rw [hsize, Nat.mul_one] at hrun
    refine ⟨_, _, hrun, ⟨_, c, rfl, hroom, h3, fun e => (by cases e), fun hc => ⟨g, o, rfl, World.there_setCells hth _ _ _, fun j hj => ?_⟩⟩, ?_, .inl rfl, Th.setCells _ _ _ _⟩
    · by_cases ej : j = n
      · subst ej
        simp only [if_true]
        have := World.cell?_setCells_in g [x] (o + j) w (fun i hi => by simp at hi; subst hi; exact (hth j (by omega)).1) 0 (by simp)
        simpa using this
      · simp only [if_neg ej]
        rw [World.cell?_setCells_out g _ _ _ _ (fun _ _ => by simp; omega)]
        exact hf j (by omega)
    · obtain ⟨s1, s2, s3, s4⟩ := setCells_same g [x] (o + n) w
      exact ⟨s1, s2, s3, Nat.le_of_eq s4.symm, fun k hk hne => World.heap_setCells_other w g _ _ hk (fun e => hne (by rw [e]; rfl))⟩
  · obtain rfl : n = c := by omega
    cases a with
    | none =>
      obtain rfl : n = 0 := h4 rfl
      obtain ⟨v', w', hr, r1, r2, _⟩ := run_append_own (P := P) w w.heap.size t ty e i z 1 bytes ht hi hz hsize hby hzs (by omega) (.slice none 0 0) 0 [] (World.ownsRow_nil w _ e 1) ad 1 1 [x] rfl hx g1 hm hb (Nat.le_refl _)
      exact fin v' w' hr r1 r2
    | some b =>
      obtain ⟨v', w', hr, r1, r2⟩ := run_append_arg_grows (P := P) w t ty e i z 1 bytes ht hi hz hsize hby hzs (by omega) b n n ((List.range n).map f) (by simp) (fun j u hu => by
        obtain ⟨hj, hu⟩ := List.getElem?_eq_some_iff.1 hu
        simp at hj hu
        obtain ⟨g, o, hb, hth, hf⟩ := h5 (by omega)
        obtain rfl : b = ⟨g, o, none⟩ := by simpa using hb
        rw [Addr.add_mid, ← hu]; exact hf j hj) ad 1 1 [x] rfl hx (by omega) hm hb
      exact fin v' w' hr r1 r2
end
end Go.Proofs.YtpoakkdkibameaaGreat
namespace Go.Proofs.YtpoakkdkibameaaGreat
open Go.RowKit
set_option linter.unusedSimpArgs false
set_option linter.unusedVariables false

theorem BytesAt.take {w : World} {a : Option Addr} {m c n : Nat} {zs : List Nat} (h : BytesAt w (.slice a m c) zs) (hn : n ≤ m) : BytesAt w (.slice a n c) (zs.take n) := by
  have hl : (zs.take n).length ≤ zs.length := by rw [List.length_take]; omega
  have hz : ∀ z ∈ zs.take n, z < 256 := fun z hz => h.2.2 z (List.mem_of_mem_take hz)
  rcases h.1 with ⟨hv, h0⟩ | ⟨ad, c', hv, hkc, hc⟩
  · simp only [Value.slice.injEq] at hv
    obtain ⟨rfl, rfl, rfl⟩ := hv
    obtain rfl : n = 0 := by omega
    exact ⟨.inl ⟨rfl, by simp⟩, by have := h.2.1; omega, hz⟩
  · simp only [Value.slice.injEq] at hv
    obtain ⟨rfl, rfl, rfl⟩ := hv
    have e : (zs.take n).length = n := by rw [List.length_take]; omega
    refine ⟨.inr ⟨ad, c, by rw [e], by omega, fun j hj => ?_⟩, by have := h.2.1; omega, hz⟩
    rw [e] at hj
    rw [hc j (by omega)]
    have : (zs.take n).getD j 0 = zs.getD j 0 := by simp only [List.getD]; rw [List.getElem?_take_of_lt (by omega)]
    simp only [this]
theorem Whole.bytes {w : World} {v : Value} {n : Nat} {f : Nat → Nat} (h : Whole w v n (fun j => .int .u8 (f j : Nat))) (hn : n ≤ 140737488355328) (hf : ∀ j, j < n → f j < 256) : BytesAt w v ((List.range n).map f) := by
  obtain ⟨a, c, rfl, h1, h2, h3, h4⟩ := h
  have hz : ∀ z ∈ (List.range n).map f, z < 256 := fun z hz => by obtain ⟨j, hj, rfl⟩ := List.mem_map.1 hz; exact hf j (by simpa using hj)
  by_cases hc : c = 0
  · obtain rfl : n = 0 := by omega
    cases a with
    | none => subst hc; exact ⟨.inl ⟨rfl, by simp⟩, by simp, hz⟩
    | some ad => exact ⟨.inr ⟨ad, c, by simp, by simp, fun j hj => by simp at hj⟩, by simp, hz⟩
  · obtain ⟨g, o, rfl, ht, hcell⟩ := h4 (by omega)
    refine ⟨.inr ⟨⟨g, o, none⟩, c, by simp, by simpa using h1, fun j hj => ?_⟩, by simpa using hn, hz⟩
    simp at hj
    rw [Addr.add_mid, hcell j hj]
    simp [List.getD, hj]
theorem make23 (n : Nat) (hn : n ≤ 140737488355328) (w : World) : (Instr.makeSlice 37 (.int .i64 n) (.int .i64 n)).run Tryz.prog w = .ok (.slice (some ⟨w.heap.size, 0, none⟩) n n) (w.alloc (.cells (madeCells (Value.int .u8 0).cells n) 5)) := by
  obtain ⟨i0, hi0, hz0, hz1, hz2⟩ := info_parts info5
  have := run_make (P := Tryz.prog) w 37 5 i0 _ Tryz.underlying37 hi0 hz0 .i64 .i64 (n : Int) (n : Int) (by omega) (Int.le_refl _) (by rw [hz2]; omega) (by omega)
  rw [hz1, show ((n : Int)).toNat = n by omega, Nat.mul_one] at this
  exact this
theorem made_whole (n : Nat) (hn : n ≤ 140737488355328) (w : World) : Whole (w.alloc (.cells (madeCells (Value.int .u8 0).cells n) 5)) (.slice (some ⟨w.heap.size, 0, none⟩) n n) n (fun _ => .int .u8 ((0 : Nat) : Int)) := by
  have hS := heap_alloc_new w (.cells (madeCells (Value.int .u8 0).cells n) 5)
  have hcell : ∀ j, j < n → (madeCells (Value.int .u8 0).cells n)[j]? = some (.int .u8 ((0 : Nat) : Int)) := by
    intro j hj
    simp [madeCells, hj, Value.cells, Nat.mod_one]
  refine ⟨_, n, rfl, Nat.le_refl _, by unfold maxLen; omega, fun e => (by cases e), fun hc => ⟨_, 0, rfl, fun j hj => ?_, fun j hj => ?_⟩⟩
  · rw [Nat.zero_add]
    refine ⟨?_, frozen_of_row _ _ _ _ _ hS⟩
    rw [cell_of_row _ _ _ _ _ _ hS, hcell _ hj]; rfl
  · rw [Nat.zero_add, cell_of_row _ _ _ _ _ _ hS, hcell _ hj]

/-- make of n bytes. -/
theorem made_any (n : Nat) (hn : n ≤ 140737488355328) : ∃ M : Array Value, (∀ w, (Instr.makeSlice 37 (.int .i64 n) (.int .i64 n)).run Tryz.prog w = .ok (.slice (some ⟨w.heap.size, 0, none⟩) n n) (w.alloc (.cells M 5))) ∧
    ∀ w : World, Whole (w.alloc (.cells M 5)) (.slice (some ⟨w.heap.size, 0, none⟩) n n) n (fun _ => .int .u8 ((0 : Nat) : Int)) := ⟨_, make23 n hn, made_whole n hn⟩

end Go.Proofs.YtpoakkdkibameaaGreat
namespace Go.Proofs.YtpoakkdkibameaaGreat
set_option linter.unusedVariables false

theorem eat_xor (r s c d : Nat) : eat r c ^^^ eat s d = eat (r ^^^ s) (c ^^^ d) := by
  unfold eat
  rw [← it_xor]
  congr 1
  ac_rfl
/-- What two registers differ by. -/
theorem fold_xor : ∀ (l l' : List Nat) (r s : Nat), l.length = l'.length → l.foldl eat r ^^^ l'.foldl eat s = (List.zipWith (· ^^^ ·) l l').foldl eat (r ^^^ s)
  | [], [], r, s, _ => rfl
  | c :: l, d :: l', r, s, h => by
    simp only [List.foldl_cons, List.zipWith_cons_cons]
    rw [fold_xor l l' _ _ (by simpa using h), eat_xor]
  | [], _ :: _, _, _, h => by simp at h
  | _ :: _, [], _, _, h => by simp at h
theorem fold_nil : ∀ (l : List Nat) (r : Nat), (∀ z ∈ l, z = 0) → l.foldl eat r = it (8 * l.length) r
  | [], _, _ => rfl
  | c :: l, r, h => by
    rw [List.foldl_cons, fold_nil l _ (fun z hz => h z (List.mem_cons_of_mem _ hz)), h c List.mem_cons_self, List.length_cons]
    unfold eat
    rw [Nat.xor_zero, ← it_add]
    congr 1
    omega
theorem xor_add (a d k : Nat) (h : a < 2 ^ k) : a ^^^ (d * 2 ^ k) = a + 2 ^ k * d := by
  have h1 : (a ^^^ (d * 2 ^ k)) % 2 ^ k = a := by
    rw [Nat.xor_mod_two_pow, Nat.mul_mod_left, Nat.xor_zero, Nat.mod_eq_of_lt h]
  have h2 : (a ^^^ (d * 2 ^ k)) / 2 ^ k = d := by
    have := Nat.shiftRight_xor_distrib (a := a) (b := d * 2 ^ k) (i := k)
    rw [Nat.shiftRight_eq_div_pow, Nat.shiftRight_eq_div_pow, Nat.shiftRight_eq_div_pow, Nat.div_eq_of_lt h, Nat.mul_div_cancel _ (Nat.two_pow_pos k), Nat.zero_xor] at this
    exact this
  have := Nat.mod_add_div (a ^^^ (d * 2 ^ k)) (2 ^ k)
  rw [h1, h2] at this
  exact this.symm
/-- The byte number i of x. -/
def byteOf (x i : Nat) : Nat := x / 2 ^ (8 * i) % 256
theorem byteOf_lt (x i : Nat) : byteOf x i < 256 := Nat.mod_lt _ (by decide)
theorem low_succ (x m : Nat) : x % 2 ^ (8 * (m + 1)) = x % 2 ^ (8 * m) + 2 ^ (8 * m) * byteOf x m := by
  rw [show 8 * (m + 1) = 8 * m + 8 by omega, Nat.pow_add, Nat.mod_mul]
  rfl
theorem low_zero (x m : Nat) : x % 2 ^ (8 * (m + 1)) = 0 ↔ x % 2 ^ (8 * m) = 0 ∧ byteOf x m = 0 := by
  rw [low_succ]
  have := Nat.two_pow_pos (8 * m)
  constructor
  · intro h
    refine ⟨by omega, ?_⟩
    have h2 : 2 ^ (8 * m) * byteOf x m = 0 := by omega
    rcases Nat.mul_eq_zero.1 h2 with h2 | h2
    · omega
    · exact h2
  · rintro ⟨h1, h2⟩
    rw [h1, h2]; rfl
theorem fold_bytes (x : Nat) : ∀ m, ((List.range m).map (byteOf x)).foldl eat 0 = it (8 * m) (x % 2 ^ (8 * m))
  | 0 => by simp [it, Nat.mod_one]
  | m + 1 => by
    rw [List.range_succ, List.map_append, List.foldl_append, fold_bytes x m]
    simp only [List.map_cons, List.map_nil, List.foldl_cons, List.foldl_nil]
    unfold eat
    have e : byteOf x m = it (8 * m) (byteOf x m * 2 ^ (8 * m)) := (it_pow _ _).symm
    rw [e, ← it_xor, xor_add _ _ _ (Nat.mod_lt _ (Nat.two_pow_pos _)), ← low_succ, ← it_add]
    congr 1
/-- b with k bytes from p on xored with those of x. -/
def turned (b : Nat → Nat) (x p k : Nat) : Nat → Nat := fun j => if p ≤ j ∧ j < p + k then b j ^^^ byteOf x (j - p) else b j
theorem sum_turned (b : Nat → Nat) (x p k n : Nat) (hk : k ≤ 4) (hn : p + k ≤ n) : sumN ((List.range n).map b) = sumN ((List.range n).map (turned b x p k)) ↔ x % 2 ^ (8 * k) = 0 := by
  have hlt : x % 2 ^ (8 * k) < 4294967296 := by
    have h1 := Nat.mod_lt x (Nat.two_pow_pos (8 * k))
    have h2 : 2 ^ (8 * k) ≤ 2 ^ 32 := Nat.pow_le_pow_right (by decide) (by omega)
    omega
  have hx : sumN ((List.range n).map b) ^^^ sumN ((List.range n).map (turned b x p k)) = it (8 * (n - (p + k))) (it (8 * k) (x % 2 ^ (8 * k))) := by
    unfold sumN
    have e : ∀ a c o : Nat, a ^^^ o ^^^ (c ^^^ o) = a ^^^ c ^^^ (o ^^^ o) := fun a c o => by ac_rfl
    rw [e, Nat.xor_self, Nat.xor_zero]
    unfold reg
    rw [fold_xor _ _ _ _ (by simp), Nat.xor_self]
    have z : List.zipWith (· ^^^ ·) ((List.range n).map b) ((List.range n).map (turned b x p k)) = List.replicate p 0 ++ (List.range k).map (byteOf x) ++ List.replicate (n - (p + k)) 0 := by
      apply List.ext_getElem
      · simp; omega
      · intro i h1 h2
        simp at h1
        simp only [List.getElem_zipWith, List.getElem_map, List.getElem_range]
        unfold turned
        by_cases c1 : i < p
        · rw [if_neg (by omega), Nat.xor_self, List.getElem_append_left (by simp; omega), List.getElem_append_left (by simpa using c1), List.getElem_replicate]
        · by_cases c2 : i < p + k
          · rw [if_pos (by omega), List.getElem_append_left (by simp; omega), List.getElem_append_right (by simp; omega)]
            simp [← Nat.xor_assoc]
          · rw [if_neg (by omega), Nat.xor_self, List.getElem_append_right (by simp; omega), List.getElem_replicate]
    rw [z, List.foldl_append, List.foldl_append, fold_nil (List.replicate p 0) 0 (fun z hz => List.eq_of_mem_replicate hz), it_zero, fold_bytes, fold_nil _ _ (fun z hz => List.eq_of_mem_replicate hz), List.length_replicate]
  constructor
  · intro h
    rw [h, Nat.xor_self] at hx
    exact it_ker hlt (8 * k) (it_ker (it_lt hlt _) _ hx.symm)
  · intro h
    rw [h, it_zero, it_zero] at hx
    exact xor_eq hx
end Go.Proofs.YtpoakkdkibameaaGreat
namespace Go.Proofs.YtpoakkdkibameaaGreat
set_option linter.unusedVariables false

/-- A number as four bytes, the lowest first. -/
def lay4 (n : Nat) : List Nat := [n % 256, n / 256 % 256, n / 65536 % 256, n / 16777216 % 256]
/-- The number that four bytes from p on write. -/
def val4 (zs : List Nat) (p : Nat) : Nat := zs.getD p 0 + 256 * zs.getD (p + 1) 0 + 65536 * zs.getD (p + 2) 0 + 16777216 * zs.getD (p + 3) 0
theorem lay4_length (n : Nat) : (lay4 n).length = 4 := rfl
theorem lay4_lt (n : Nat) : ∀ z ∈ lay4 n, z < 256 := by
  intro z hz
  simp only [lay4, List.mem_cons, List.not_mem_nil, or_false] at hz
  omega
theorem getD_byte {zs : List Nat} (h : ∀ z ∈ zs, z < 256) (k : Nat) : zs.getD k 0 < 256 := by
  simp only [List.getD]
  rcases Nat.lt_or_ge k zs.length with hk | hk
  · rw [List.getElem?_eq_getElem hk]; exact h _ (List.getElem_mem hk)
  · rw [List.getElem?_eq_none hk]; decide
theorem val4_lt {zs : List Nat} (h : ∀ z ∈ zs, z < 256) (p : Nat) : val4 zs p < 4294967296 := by
  have h0 := getD_byte h p
  have h1 := getD_byte h (p + 1)
  have h2 := getD_byte h (p + 2)
  have h3 := getD_byte h (p + 3)
  unfold val4
  omega
theorem lay4_val4 {zs : List Nat} (h : ∀ z ∈ zs, z < 256) (p : Nat) (hp : p + 4 ≤ zs.length) : lay4 (val4 zs p) = (zs.drop p).take 4 := by
  have h0 := getD_byte h p
  have h1 := getD_byte h (p + 1)
  have h2 := getD_byte h (p + 2)
  have h3 := getD_byte h (p + 3)
  have e : (zs.drop p).take 4 = [zs.getD p 0, zs.getD (p + 1) 0, zs.getD (p + 2) 0, zs.getD (p + 3) 0] := by
    apply List.ext_getElem
    · simp; omega
    · intro i h4 h5
      simp at h5
      have hi : p + i < zs.length := by omega
      simp only [List.getElem_take, List.getElem_drop]
      match i, h5 with
      | 0, _ => simp [List.getD, show p < zs.length by omega]
      | 1, _ => simp [List.getD, show p + 1 < zs.length by omega]
      | 2, _ => simp [List.getD, show p + 2 < zs.length by omega]
      | 3, _ => simp [List.getD, show p + 3 < zs.length by omega]
  rw [e]
  unfold lay4 val4
  generalize zs.getD p 0 = a at *
  generalize zs.getD (p + 1) 0 = b at *
  generalize zs.getD (p + 2) 0 = c at *
  generalize zs.getD (p + 3) 0 = d at *
  simp only [List.cons.injEq, and_true]
  omega
theorem val4_lay4 (n : Nat) (h : n < 4294967296) (l : List Nat) : val4 (lay4 n ++ l) 0 = n := by
  simp only [val4, lay4, List.cons_append, List.nil_append, List.getD, List.getElem?_cons_zero, List.getElem?_cons_succ, Option.getD_some]
  omega
theorem val4_drop (zs : List Nat) (p : Nat) : val4 (zs.drop p) 0 = val4 zs p := by
  simp [val4, List.getD]
theorem lay4_inj {a b : Nat} (ha : a < 4294967296) (hb : b < 4294967296) (h : lay4 a = lay4 b) : a = b := by
  have h1 := val4_lay4 a ha []
  have h2 := val4_lay4 b hb []
  rw [h] at h1
  omega

/-- What follows a page's sum. -/
def rest (id : Nat) (D : List Nat) : List Nat := lay4 id ++ (lay4 D.length ++ (D ++ List.replicate (116 - D.length) 0))
/-- A page's bytes. -/
def page (id : Nat) (D : List Nat) : List Nat := lay4 (sumN (rest id D)) ++ rest id D
theorem rest_length (id : Nat) (D : List Nat) (h : D.length ≤ 116) : (rest id D).length = 124 := by
  simp only [rest, List.length_append, lay4_length, List.length_replicate]
  omega
theorem page_length (id : Nat) (D : List Nat) (h : D.length ≤ 116) : (page id D).length = 128 := by
  simp only [page, List.length_append, lay4_length, rest_length id D h]
theorem rest_lt (id : Nat) (D : List Nat) (h : ∀ z ∈ D, z < 256) : ∀ z ∈ rest id D, z < 256 := by
  intro z hz
  simp only [rest, List.mem_append] at hz
  rcases hz with hz | hz | hz | hz
  · exact lay4_lt _ z hz
  · exact lay4_lt _ z hz
  · exact h z hz
  · rw [List.eq_of_mem_replicate hz]; omega
theorem page_lt (id : Nat) (D : List Nat) (h : ∀ z ∈ D, z < 256) : ∀ z ∈ page id D, z < 256 := by
  intro z hz
  simp only [page, List.mem_append] at hz
  rcases hz with hz | hz
  · exact lay4_lt _ z hz
  · exact rest_lt id D h z hz
theorem page_drop (id : Nat) (D : List Nat) : (page id D).drop 4 = rest id D := by simp [page, lay4]

/-- What a page of 128 bytes holds. -/
def unp (b : List Nat) : Option (Nat × List Nat) :=
  if val4 b 0 = sumN (b.drop 4) then
    if 116 < val4 b 8 then none
    else if (b.drop (12 + val4 b 8)).all (· == 0) then some (val4 b 4, (b.drop 12).take (val4 b 8)) else none
  else none
theorem all_zero_iff (l : List Nat) : l.all (· == 0) = true ↔ l = List.replicate l.length 0 := by
  constructor
  · intro h
    apply List.ext_getElem
    · simp
    · intro i h1 h2
      have := List.all_eq_true.1 h _ (List.getElem_mem h1)
      simpa using this
  · intro h
    rw [h, List.all_eq_true]
    intro x hx
    rw [List.eq_of_mem_replicate hx]; rfl
theorem cut4 (b : List Nat) (p : Nat) : b.drop p = (b.drop p).take 4 ++ b.drop (p + 4) := by
  rw [← List.drop_drop, List.take_append_drop]
/-- The bytes behind the sum, part by part. -/
theorem parts (b : List Nat) (n : Nat) (hb : b.length = 128) (hz : ∀ z ∈ b, z < 256) (hn : n ≤ 116) : b.drop 4 = lay4 (val4 b 4) ++ (lay4 (val4 b 8) ++ ((b.drop 12).take n ++ b.drop (12 + n))) := by
  rw [lay4_val4 hz 4 (by omega), lay4_val4 hz 8 (by omega), ← List.drop_drop, List.take_append_drop, ← cut4 b 8, ← cut4 b 4]
/-- The document's way: packed again, it comes to the same. -/
theorem again_iff (b : List Nat) (hb : b.length = 128) (hz : ∀ z ∈ b, z < 256) (hn : val4 b 8 ≤ 116) : page (val4 b 4) ((b.drop 12).take (val4 b 8)) = b ↔ val4 b 0 = sumN (b.drop 4) ∧ (b.drop (12 + val4 b 8)).all (· == 0) = true := by
  have hl : ((b.drop 12).take (val4 b 8)).length = val4 b 8 := by rw [List.length_take, List.length_drop]; omega
  have hp := parts b (val4 b 8) hb hz hn
  have hb4 : b = lay4 (val4 b 0) ++ b.drop 4 := by
    have := cut4 b 0
    rw [List.drop_zero, Nat.zero_add] at this
    rw [lay4_val4 hz 0 (by omega), List.drop_zero]
    exact this
  have hd : (b.drop (12 + val4 b 8)).length = 116 - val4 b 8 := by rw [List.length_drop]; omega
  have hs : ∀ z ∈ b.drop 4, z < 256 := fun z h => hz z (List.mem_of_mem_drop h)
  rw [all_zero_iff, hd]
  constructor
  · intro h
    have h4 : rest (val4 b 4) ((b.drop 12).take (val4 b 8)) = b.drop 4 := by
      rw [← page_drop, h]
    have h0 : val4 b 0 = sumN (b.drop 4) := by
      have h5 : page (val4 b 4) ((b.drop 12).take (val4 b 8)) = lay4 (sumN (b.drop 4)) ++ b.drop 4 := by
        unfold page
        rw [h4]
      rw [h, hb4] at h5
      have := List.append_inj_left h5 (by simp [lay4_length])
      rw [← hb4] at this
      exact lay4_inj (val4_lt hz 0) (sumN_lt _ hs) this
    refine ⟨h0, ?_⟩
    rw [hp] at h4
    unfold rest at h4
    rw [hl] at h4
    have h6 := List.append_inj_right h4 rfl
    have h7 := List.append_inj_right h6 rfl
    exact (List.append_inj_right h7 rfl).symm
  · rintro ⟨h0, h1⟩
    unfold page
    have : rest (val4 b 4) ((b.drop 12).take (val4 b 8)) = b.drop 4 := by
      rw [hp]
      unfold rest
      rw [hl, ← h1]
    rw [this, ← h0]
    exact hb4.symm
/-- What the document's way answers. -/
theorem unp_again (b : List Nat) (hb : b.length = 128) (hz : ∀ z ∈ b, z < 256) (hn : val4 b 8 ≤ 116) : unp b = if page (val4 b 4) ((b.drop 12).take (val4 b 8)) = b then some (val4 b 4, (b.drop 12).take (val4 b 8)) else none := by
  unfold unp
  by_cases h : page (val4 b 4) ((b.drop 12).take (val4 b 8)) = b
  · obtain ⟨h1, h2⟩ := (again_iff b hb hz hn).1 h
    rw [if_pos h, if_pos h1, if_neg (by omega), if_pos h2]
  · rw [if_neg h]
    by_cases h1 : val4 b 0 = sumN (b.drop 4)
    · rw [if_pos h1, if_neg (by omega), if_neg (fun h2 => h ((again_iff b hb hz hn).2 ⟨h1, h2⟩))]
    · rw [if_neg h1]
theorem unp_large (b : List Nat) (hn : 116 < val4 b 8) : unp b = none := by
  unfold unp
  rw [if_pos hn, ite_self]
theorem page_vals (id : Nat) (D : List Nat) (h : D.length ≤ 116) (hi : id < 4294967296) (hz : ∀ z ∈ D, z < 256) : val4 (page id D) 0 = sumN ((page id D).drop 4) ∧ val4 (page id D) 4 = id ∧ val4 (page id D) 8 = D.length ∧ (page id D).drop 12 = D ++ List.replicate (116 - D.length) 0 := by
  have e4 := page_drop id D
  have e8 : (page id D).drop 8 = lay4 D.length ++ (D ++ List.replicate (116 - D.length) 0) := by
    rw [show (8 : Nat) = 4 + 4 from rfl, ← List.drop_drop, e4]; simp [rest, lay4]
  have e12 : (page id D).drop 12 = D ++ List.replicate (116 - D.length) 0 := by
    rw [show (12 : Nat) = 8 + 4 from rfl, ← List.drop_drop, e8]; simp [lay4]
  refine ⟨?_, ?_, ?_, e12⟩
  · rw [e4]
    exact val4_lay4 _ (sumN_lt _ (rest_lt id D hz)) _
  · rw [← val4_drop, e4]
    exact val4_lay4 _ hi _
  · rw [← val4_drop, e8]
    exact val4_lay4 _ (by omega) _
theorem unp_page (id : Nat) (D : List Nat) (h : D.length ≤ 116) (hi : id < 4294967296) (hz : ∀ z ∈ D, z < 256) : unp (page id D) = some (id, D) := by
  obtain ⟨h1, h2, h3, h4⟩ := page_vals id D h hi hz
  unfold unp
  rw [if_pos h1, h3, if_neg (by omega), h2, h4, ← List.drop_drop, h4]
  simp
/-- .. with a byte changed. -/
theorem unp_turned (b : List Nat) (k x : Nat) (hb : b.length = 128) (hz : ∀ z ∈ b, z < 256) (hk : k < 128) (hx : x < 256) (hx0 : x ≠ 0) (h0 : val4 b 0 = sumN (b.drop 4)) : unp (b.set k (b.getD k 0 ^^^ x)) = none := by
  have hne : b.getD k 0 ^^^ x ≠ b.getD k 0 := by
    intro e
    apply hx0
    have : b.getD k 0 ^^^ (b.getD k 0 ^^^ x) = 0 := by rw [e, Nat.xor_self]
    rwa [← Nat.xor_assoc, Nat.xor_self, Nat.zero_xor] at this
  have hxl : b.getD k 0 ^^^ x < 256 := Nat.xor_lt_two_pow (n := 8) (getD_byte hz k) hx
  have hzs : ∀ z ∈ b.set k (b.getD k 0 ^^^ x), z < 256 := fun z h => by
    rcases List.mem_or_eq_of_mem_set h with h | rfl
    · exact hz z h
    · exact hxl
  have hget : ∀ j, (b.set k (b.getD k 0 ^^^ x)).getD j 0 = if j = k then b.getD k 0 ^^^ x else b.getD j 0 := by
    intro j
    simp only [List.getD, List.getElem?_set]
    by_cases e : k = j
    · subst e; simp [hb, hk]
    · rw [if_neg e, if_neg (fun h => e h.symm)]
  suffices hs : val4 (b.set k (b.getD k 0 ^^^ x)) 0 ≠ sumN ((b.set k (b.getD k 0 ^^^ x)).drop 4) by
    unfold unp
    rw [if_neg hs]
  by_cases h4 : k < 4
  · have e : (b.set k (b.getD k 0 ^^^ x)).drop 4 = b.drop 4 := by
      rw [List.drop_set_of_lt h4]
    rw [e, ← h0]
    unfold val4
    rw [hget, hget, hget, hget]
    have g0 := getD_byte hz 0
    have g1 := getD_byte hz 1
    have g2 := getD_byte hz 2
    have g3 := getD_byte hz 3
    simp only [Nat.zero_add]
    match k, h4 with
    | 0, _ => simp only [if_true, show ¬ (1 : Nat) = 0 by omega, show ¬ (2 : Nat) = 0 by omega, show ¬ (3 : Nat) = 0 by omega, if_false]; omega
    | 1, _ => simp only [if_true, show ¬ (0 : Nat) = 1 by omega, show ¬ (2 : Nat) = 1 by omega, show ¬ (3 : Nat) = 1 by omega, if_false]; omega
    | 2, _ => simp only [if_true, show ¬ (1 : Nat) = 2 by omega, show ¬ (0 : Nat) = 2 by omega, show ¬ (3 : Nat) = 2 by omega, if_false]; omega
    | 3, _ => simp only [if_true, show ¬ (1 : Nat) = 3 by omega, show ¬ (2 : Nat) = 3 by omega, show ¬ (0 : Nat) = 3 by omega, if_false]; omega
  · have e : val4 (b.set k (b.getD k 0 ^^^ x)) 0 = val4 b 0 := by
      unfold val4
      rw [hget, hget, hget, hget]
      rw [if_neg (by omega), if_neg (by omega), if_neg (by omega), if_neg (by omega)]
    rw [e, h0]
    have r1 : b.drop 4 = (List.range 124).map (fun i => b.getD (4 + i) 0) := by
      apply List.ext_getElem
      · simp [hb]
      · intro i h1 h2
        simp at h2
        simp [List.getD, hb, show 4 + i < 128 by omega]
    have r2 : (b.set k (b.getD k 0 ^^^ x)).drop 4 = (List.range 124).map (turned (fun i => b.getD (4 + i) 0) x (k - 4) 1) := by
      apply List.ext_getElem
      · simp [hb]
      · intro i h1 h2
        simp at h2
        simp only [List.getElem_drop, List.getElem_map, List.getElem_range, turned, List.getElem_set]
        by_cases c : k = 4 + i
        · rw [if_pos c, if_pos (by omega), ← c, show i - (k - 4) = 0 by omega]
          simp [byteOf, Nat.mod_eq_of_lt hx]
        · rw [if_neg c, if_neg (by omega)]
          simp [List.getD, hb, show 4 + i < 128 by omega]
    rw [r2, r1]
    intro h
    have := (sum_turned (fun i => b.getD (4 + i) 0) x (k - 4) 1 124 (by omega) (by omega)).1 h
    simp at this
    omega

/-- The bytes as the program lays them. -/
theorem lays (id : Nat) (D : List Nat) (h : D.length ≤ 116) : splice (splice (splice (List.replicate 128 0) 12 D) 4 (lay4 id)) 8 (lay4 D.length) = [0, 0, 0, 0] ++ rest id D := by
  have e1 : splice (List.replicate 128 0) 12 D = List.replicate 12 0 ++ (D ++ List.replicate (116 - D.length) 0) := by
    unfold splice
    rw [List.take_replicate, List.drop_replicate]
    rw [show min 12 128 = 12 from rfl, show 128 - (12 + D.length) = 116 - D.length by omega]
  rw [e1]
  rfl
theorem lays_end (id : Nat) (D : List Nat) : splice ([0, 0, 0, 0] ++ rest id D) 0 (lay4 (sumN (([0, 0, 0, 0] ++ rest id D).drop 4))) = page id D := rfl
end Go.Proofs.YtpoakkdkibameaaGreat
