/- What the words of a list name: nothing, or the object at 0. -/
import Derived.Test.YtijifabejngdbaaHn3
import Derived.Maps.AppendAt
namespace Go.Proofs.Ytijifabejngdbaa
open Go.RowKit
set_option linter.unusedSimpArgs false
set_option linter.unusedVariables false
def uOf : Value → Nat
  | .int _ m => m.toNat
  | _ => 0
/-- n words that name nothing -/
def Nums (w : World) (ao : Option Addr) (n : Nat) : Prop := ∀ j, j < n → ∃ g k x, ao = some ⟨g, k, none⟩ ∧ w.cell? ⟨g, k + j * 2, none⟩ = some (.bool false) ∧ w.cell? ⟨g, k + j * 2 + 1, none⟩ = some (.int .u64 x)
set_option maxRecDepth 100000 in
set_option maxHeartbeats 4000000 in
theorem name0 (ao : Option Addr) (n c L M O : Nat) (w : World) (hn : n ≤ 100) (hf : Nums w ao n) : Calls Try.prog 71 #[.slice ao n c, .pointer (some ⟨L, 0, none⟩), .pointer (some ⟨M, 0, none⟩), .pointer (some ⟨O, 0, none⟩)] w fun e w' => e = .returned (.tuple #[]) ∧ Only (fun _ => False) w w' := by
  have HF : Hid _ := hf
  clear hf
  go_enter Try.func71, Try.ntmps71
  go_wp2
  go_loopw [9] (fun r wr => ∃ i : Nat, r = .int .i64 (i : Int) ∧ i ≤ n ∧ Hid (Only (fun _ => False) w wr)) (fun r _ => n - uOf r)
  case atStart => exact ⟨0, rfl, Nat.zero_le _, Only.refl _ _⟩
  case round =>
    obtain ⟨i, rfl, hi, HI⟩ := hrel
    obtain ⟨w1, rfl⟩ : ∃ w1, w1 = wr := ⟨_, rfl⟩
    by_cases hin : i < n
    · obtain ⟨g, k, x, rfl, c0, c1⟩ := HF.out i hin
      have c0 := HI.out.cell c0 (fun g => g)
      have c1 := HI.out.cell c1 (fun g => g)
      have HB : Hid (i < n) := hin
      have i1 : (i : Int) < (n : Int) := by omega
      have i0 : (0 : Int) ≤ (i : Int) := by omega
      have HO : Hid (Only (fun _ => False) w (w1.alloc (.cells #[.bool false, .int .u64 x] 62))) := HI.out.alloc _
      clear HI
      go_wp2
      go_roundw
      case rel => exact ⟨i + 1, by go_num, by have := HB.out; omega, HO⟩
      case measure => simp only [uOf]; have := HB.out; omega
    · obtain rfl : i = n := by omega
      have i1 : ¬ (i : Int) < (i : Int) := by omega
      go_wp2
      go_end0
      exact ⟨rfl, HI.out⟩
theorem addr_ad (g k : Nat) : (⟨g, 0, none⟩ : Addr).add k = ⟨g, k, none⟩ := by
  show (if k = 0 then _ else _) = _
  split
  · rename_i h; rw [h]
  · simp
theorem info_parts {t : TypeId} {z : Value} {s b : Nat} (h : (Try.prog.info? t).map (fun i => (i.zero, i.size, i.bytes)) = some (some z, s, b)) : ∃ i, Try.prog.info? t = some i ∧ i.zero = some z ∧ i.size = s ∧ i.bytes = b := by
  cases hi : Try.prog.info? t with
  | none => rw [hi] at h; simp at h
  | some i => rw [hi] at h; simp at h; exact ⟨i, rfl, h.1, h.2.1, h.2.2⟩
section
variable {P : Program} {op : Oper} {a : Act} {w w' : World} {K : Act → World → Prop} {Q : Exit → Act → World → Prop}
theorem wp_append_run (s x : Operand) (t : TypeId) (ho : op.op = .call { callee := .builtin .append, args := #[s, x], argTypes := #[t, t] }) (v1 v2 v' : Value) (hs : a.eval s = v1) (hx : a.eval x = v2)
    (hr : (Builtin.append_ #[t, t] op.type #[v1, v2]).run P w = .ok v' w') (h : K (a.put op.dst v') w') : op.wp P a w K Q := by
  unfold Oper.wp
  simp [execOp, ho, resolve, invoke, builtin, hs, hx, hr, Result.andThen]
  exact h
theorem step_append_run {ops : Array Oper} {E : Prop} (hgd : op.guard = none) (s x : Operand) (t : TypeId) (ho : op.op = .call { callee := .builtin .append, args := #[s, x], argTypes := #[t, t] }) (v1 v2 v' : Value) (hs : a.eval s = v1) (hx : a.eval x = v2)
    (hr : ∀ ty, (Builtin.append_ #[t, t] ty #[v1, v2]).run P w = .ok v' w') (h : K (a.put op.dst v') w') : if Region.wanted op (yielded ops a.tmps) = true then Oper.wp P op a w K Q else E := by
  have hw : Region.wanted op (yielded ops a.tmps) = true := by simp [Region.wanted, hgd]
  rw [if_pos hw]
  exact wp_append_run s x t ho v1 v2 v' hs hx (hr _) h
theorem wpList_append_run {ops : Array Oper} {rest : List Oper} (hgd : op.guard = none) (s x : Operand) (t : TypeId) (ho : op.op = .call { callee := .builtin .append, args := #[s, x], argTypes := #[t, t] }) (v1 v2 v' : Value) (hs : a.eval s = v1) (hx : a.eval x = v2)
    (hr : ∀ ty, (Builtin.append_ #[t, t] ty #[v1, v2]).run P w = .ok v' w') (h : wpList P ops Q rest (a.put op.dst v') w') : wpList P ops Q (op :: rest) a w :=
  wpList_plain hgd fun _ hK => wp_append_run s x t ho v1 v2 v' hs hx (hr _) (hK _ _ h)
end
theorem ownsRow_base {w : World} {B B' e size n : Nat} {v : Value} {xs : List Value} (h : w.ownsRow B e size v n xs) (hb : B' ≤ B) : w.ownsRow B' e size v n xs := by
  refine ⟨h.1, h.2.imp id ?_⟩
  rintro ⟨g, cap, cur, h1, h2, rest⟩
  exact ⟨g, cap, cur, h1, by omega, rest⟩
theorem infoU : (Try.prog.info? 31).map (fun i => (i.zero, i.size, i.bytes)) = some (some (.int .u64 0), 1, 8) := by kernel_rfl
theorem infoF : (Try.prog.info? 62).map (fun i => (i.zero, i.size, i.bytes)) = some (some (.agg #[.bool false, .int .u64 0]), 2, 16) := by kernel_rfl
/-- a number is put behind a row of one's own -/
theorem app_u {w : World} {B n : Nat} {v : Value} {us : List Value} (ho : w.ownsRow B 31 1 v n us) (hB : B ≤ w.heap.size) (x : Int) (hl : n ≤ 1000000) :
    ∃ a c w', (∀ ty, (Builtin.append_ #[85, 85] ty #[v, .slice (some ⟨w.heap.size, 0, none⟩) 1 1]).run Try.prog (w.alloc (.cells #[.int .u64 x] 31)) = .ok (.slice a (n + 1) c) w') ∧ w'.ownsRow B 31 1 (.slice a (n + 1) c) (n + 1) (us ++ [.int .u64 x]) ∧ Only (fun k => v.ownBlock = some k) w w' := by
  obtain ⟨i0, hi, hz0, hz1, hz2⟩ := info_parts infoU
  obtain ⟨W, hW⟩ : ∃ W, W = w.alloc (.cells #[.int .u64 x] 31) := ⟨_, rfl⟩
  have oo : Only (fun _ => False) w W := by rw [hW]; exact (Only.refl _ w).alloc _
  have ho2 := oo.owns ho (fun _ _ g => g)
  have hblk : W.heap[w.heap.size]? = some (.cells #[.int .u64 x] 31) := by rw [hW]; exact alloc_at _ _ _ rfl
  have key := fun ty => run_append_own_at (P := Try.prog) W B 85 ty 31 i0 (.int .u64 0) 1 8 Try.underlying85 hi hz0 hz1 hz2 rfl (by omega) v n us ho2 ⟨w.heap.size, 0, none⟩ 1 1 [.int .u64 x] rfl (by
      intro j u hj
      rw [addr_ad, hb_cell hblk]
      simpa using hj) (by
      intro u hu
      simp only [List.mem_cons, List.not_mem_nil, or_false] at hu
      subst hu
      rfl) (by unfold maxLen; omega) (by omega) (by have := oo.size; omega)
  obtain ⟨v', w', hr, own', hg, _, hat⟩ := key 0
  obtain ⟨a, c, rfl⟩ := ownsRow_slice own'
  refine ⟨a, c, w', fun ty => ?_, own', (oo.mono (bs' := fun k => v.ownBlock = some k) (fun _ _ h => h.elim)).trans ((Only.refl (fun k => v.ownBlock = some k) W).grown hg (fun k e _ => e)) (fun k hk e => e)⟩
  rw [← hW, ← hr]
  rfl
/-- a word is put behind a row of one's own -/
theorem app_f {w : World} {B n : Nat} {v : Value} {us : List Value} (ho : w.ownsRow B 62 2 v n us) (hB : B ≤ w.heap.size) (r : Bool) (x : Int) (hl : n ≤ 1000000) :
    ∃ a c w', (∀ ty, (Builtin.append_ #[50, 50] ty #[v, .slice (some ⟨w.heap.size, 0, none⟩) 1 1]).run Try.prog (w.alloc (.cells #[.bool r, .int .u64 x] 62)) = .ok (.slice a (n + 1) c) w') ∧ w'.ownsRow B 62 2 (.slice a (n + 1) c) (n + 1) (us ++ [.bool r, .int .u64 x]) ∧ Only (fun k => v.ownBlock = some k) w w' := by
  obtain ⟨i0, hi, hz0, hz1, hz2⟩ := info_parts infoF
  obtain ⟨W, hW⟩ : ∃ W, W = w.alloc (.cells #[.bool r, .int .u64 x] 62) := ⟨_, rfl⟩
  have oo : Only (fun _ => False) w W := by rw [hW]; exact (Only.refl _ w).alloc _
  have ho2 := oo.owns ho (fun _ _ g => g)
  have hblk : W.heap[w.heap.size]? = some (.cells #[.bool r, .int .u64 x] 62) := by rw [hW]; exact alloc_at _ _ _ rfl
  have key := fun ty => run_append_own_at (P := Try.prog) W B 50 ty 62 i0 (.agg #[.bool false, .int .u64 0]) 2 16 Try.underlying50 hi hz0 hz1 hz2 rfl (by omega) v n us ho2 ⟨w.heap.size, 0, none⟩ 1 1 [.bool r, .int .u64 x] rfl (by
      intro j u hj
      rw [addr_ad, hb_cell hblk]
      simpa using hj) (by
      intro u hu
      simp only [List.mem_cons, List.not_mem_nil, or_false] at hu
      rcases hu with rfl | rfl <;> rfl) (by unfold maxLen; omega) (by omega) (by have := oo.size; omega)
  obtain ⟨v', w', hr, own', hg, _, hat⟩ := key 0
  obtain ⟨a, c, rfl⟩ := ownsRow_slice own'
  refine ⟨a, c, w', fun ty => ?_, own', (oo.mono (bs' := fun k => v.ownBlock = some k) (fun _ _ h => h.elim)).trans ((Only.refl (fun k => v.ownBlock = some k) W).grown hg (fun k e _ => e)) (fun k hk e => e)⟩
  rw [← hW, ← hr]
  rfl
end Go.Proofs.Ytijifabejngdbaa
