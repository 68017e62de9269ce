/- What Crash leaves of a disk; what taking back comes to. -/
import Derived.Test.YtpoakkdkibameaaD10
import Derived.Test.YtpoakkdkibameaaDw
import Derived.Test.YtpoakkdkibameaaWhole
namespace Go.Proofs.Ytpoakkdkibameaa
open Go.RowKit
set_option linter.unusedSimpArgs false
set_option linter.unusedVariables false

/-- What Crash answers, and what it leaves of a disk. -/
def DS.crash (d : DS) (ks : List Bool) (torn cut : Int) : Int × DS :=
  if cut < 0 ∨ 32 < cut then (2, d) else (0, ⟨d.n, crashTo (fun i => decide (i < ks.length) && ks.getD i false) torn cut.toNat d.pend (undoW d.pend d.sec) d.pend.length, [], -1⟩)
theorem flags_own {w : World} {B m cap S : Nat} {a : Option Addr} {f : Nat → Bool} (h : w.ownsRow B 4 1 (.slice a m cap) m ((List.range m).map fun j => .bool (f j))) (hm : m ≤ maxLen) (hS : S < B) : DFlags w (.slice a m cap) m f S := by
  refine ⟨a, cap, rfl, hm, fun i hi => ?_⟩
  rcases h.2 with ⟨_, h2⟩ | ⟨g, c2, cur, hv, hg, _⟩
  · omega
  · simp only [Value.slice.injEq] at hv
    obtain ⟨rfl, _, rfl⟩ := hv
    refine ⟨g, 0, rfl, by omega, ?_⟩
    rw [Nat.zero_add, h.cellAt i (by omega)]
    simp [hi]
def HasN (w : World) (p S n : Nat) : Prop := ∃ c, w.cell? ⟨p, 0, none⟩ = some (.slice (some ⟨S, 0, none⟩) n c)
theorem lenN (p S n : Nat) (w : World) (h : HasN w p S n) : Calls Try.prog 14 #[.pointer (some ⟨p, 0, none⟩)] w fun e w' => e = .returned (.int .i64 n) ∧ w' = w := by
  obtain ⟨c, h⟩ := h
  exact len_any p S n c w h
theorem allL_succ (k : Nat) (sec : Nat → Nat → Int) : allL (k + 1) sec = allL k sec ++ secL (sec k) := by
  simp only [allL, secL]
  rw [show (k + 1) * 32 = k * 32 + 32 by omega, List.range_add, List.map_append, List.map_map]
  congr 1
  apply List.map_congr_left
  intro j hj
  have hj' : j < 32 := by simpa using hj
  simp only [Function.comp]
  rw [show (k * 32 + j) / 32 = k by omega, show (k * 32 + j) % 32 = j by omega]
theorem allL_congr (n : Nat) (f g : Nat → Nat → Int) (h : ∀ i, i < n → ∀ j, j < 32 → f i j = g i j) : allL n f = allL n g := by
  simp only [allL]
  apply List.map_congr_left
  intro k hk
  have hk' : k < n * 32 := by simpa using hk
  rw [h (k / 32) (by omega) (k % 32) (by omega)]

theorem wpList_append_runG {P : Program} {op : Oper} {a : Act} {w w' : World} {Q : Exit → Act → World → Prop} {ops : Array Oper} {rest : List Oper} (s x : Operand) (t : TypeId) (ho : op.op = .call { callee := .builtin .append, args := #[s, x], argTypes := #[t, t] }) (hw : Region.wanted op (yielded ops a.tmps) = true) (v1 v2 v' : Value) (hs : a.eval s = v1) (hx : a.eval x = v2)
    (hr : ∀ ty, (Builtin.append_ #[t, t] ty #[v1, v2]).run P w = .ok v' w') (h : wpList P ops Q rest (a.put op.dst v') w') : wpList P ops Q (op :: rest) a w :=
  wpList_step fun _ hK => by rw [if_pos hw]; exact wp_append_run s x t ho v1 v2 v' hs hx (hr _) (hK _ _ h)

theorem upd_back (s : Nat → Nat → Int) (k : Nat) (f : Nat → Int) : upd (upd s k f) k (s k) = s := by
  funext i
  by_cases e : i = k
  · subst e; simp [upd]
  · simp [upd, e]
theorem undoW_snoc (ws : List Wr) (x : Wr) (s : Nat → Nat → Int) : undoW (ws ++ [x]) s = undoW ws (upd s x.at_ x.bef) := by simp [undoW]
theorem undoW_write (ws : List Wr) (k : Nat) (f : Nat → Int) (s : Nat → Nat → Int) : undoW (ws ++ [⟨k, s k, f⟩]) (upd s k f) = undoW ws s := by
  rw [undoW_snoc, upd_back]
theorem undoW_nil (s : Nat → Nat → Int) : undoW [] s = s := rfl
theorem crashTo_none (kp : Nat → Bool) (torn : Int) (cut : Nat) (ws : List Wr) (s : Nat → Nat → Int) (h : ∀ i, kp i = false) : ∀ m, crashTo kp torn cut ws s m = s
  | 0 => rfl
  | m + 1 => by rw [crashTo_no _ _ _ _ _ _ (h m)]; exact crashTo_none kp torn cut ws s h m
theorem crashTo_prefix (kp : Nat → Bool) (torn : Int) (cut : Nat) (ws : List Wr) (x : Wr) (s : Nat → Nat → Int) : ∀ m, m ≤ ws.length → crashTo kp torn cut (ws ++ [x]) s m = crashTo kp torn cut ws s m
  | 0, _ => rfl
  | m + 1, hm => by
    have ih := crashTo_prefix kp torn cut ws x s m (by omega)
    have e : (ws ++ [x])[m]? = ws[m]? := List.getElem?_append_left (by omega)
    simp only [crashTo, e, ih]
/-- A crash that keeps all pending writes leaves what is seen. -/
def Seen (d : DS) : Prop := ∀ (kp : Nat → Bool) (cut : Nat), (∀ i, i < d.pend.length → kp i = true) → ∀ i j, j < 32 → crashTo kp (-1) cut d.pend (undoW d.pend d.sec) d.pend.length i j = d.sec i j
theorem seen_nil (n : Nat) (s : Nat → Nat → Int) (l : Int) : Seen ⟨n, s, [], l⟩ := fun _ _ _ _ _ _ => rfl
theorem seen_write (d : DS) (k : Nat) (f : Nat → Int) (l : Int) (h : Seen d) : Seen { d with sec := upd d.sec k f, pend := d.pend ++ [⟨k, d.sec k, f⟩], life := l } := by
  intro kp cut hk i j hj
  simp only [List.length_append, List.length_cons, List.length_nil, Nat.zero_add] at hk ⊢
  rw [undoW_write]
  have hx : (d.pend ++ [(⟨k, d.sec k, f⟩ : Wr)])[d.pend.length]? = some ⟨k, d.sec k, f⟩ := by simp
  rw [crashTo_yes _ _ _ _ _ _ _ hx (hk _ (by omega)), crashTo_prefix _ _ _ _ _ _ _ (Nat.le_refl _), if_neg (by omega)]
  have ih := h kp cut (fun q hq => hk q (by omega)) i j hj
  by_cases e : i = k
  · subst e; simp [upd, mix, hj]
  · simp [upd, e]; exact ih
/-- What writes behind a barrier keep: what was at the barrier, and what is seen. -/
def Since (s0 : Nat → Nat → Int) (d : DS) : Prop := undoW d.pend d.sec = s0 ∧ Seen d
theorem since_write (s0 : Nat → Nat → Int) (d : DS) (k : Int) (f : Nat → Int) (m : Nat) (h : Since s0 d) : Since s0 (d.write k f m).2 := by
  simp only [DS.write]
  split
  · exact h
  · split
    · exact h
    · split
      · exact h
      · exact ⟨by simp only; rw [undoW_write]; exact h.1, seen_write d k.toNat f _ h.2⟩
theorem write_n (d : DS) (k : Int) (f : Nat → Int) (m : Nat) : (d.write k f m).2.n = d.n := by
  simp only [DS.write]; split; rfl; split; rfl; split; rfl; rfl
theorem write_life (d : DS) (k : Int) (f : Nat → Int) (m : Nat) (h : d.life = -1) : (d.write k f m).2.life = -1 := by
  simp only [DS.write]; split; exact h; split; exact h; split; exact h; simp [aged, h]
theorem write_len2 (d : DS) (k : Int) (f : Nat → Int) (m : Nat) : (d.write k f m).2.pend.length ≤ d.pend.length + 1 := by
  simp only [DS.write]; split; simp; split; simp; split; simp; simp

/-- m flags, the first k of them true. -/
def trueArr (m k : Nat) : Array Value := Array.ofFn (n := m) fun i => .bool (decide (i.val < k))
theorem trueArr_size (m k : Nat) : (trueArr m k).size = m := by simp [trueArr]
theorem trueArr_set (m k : Nat) : (trueArr m k).setIfInBounds k (.bool true) = trueArr m (k + 1) := by
  apply Array.ext
  · simp [trueArr]
  · intro i h1 h2
    simp [trueArr] at h1 h2
    simp [trueArr, Array.getElem_setIfInBounds, h1]
    by_cases e : k = i
    · subst e; simp
    · simp [e]; omega
theorem trueArr_zero (m : Nat) : madeCells (Value.bool false).cells (m * 1) = trueArr m 0 := by
  apply Array.ext
  · simp [trueArr, size_madeCells]
  · intro i h1 h2
    simp [trueArr, madeCells, Value.cells, Nat.mod_one]
theorem make_flags (m : Nat) (hm : m ≤ 140737488351232) (w : World) : (Instr.makeSlice 29 (.int .i64 m) (.int .i64 m)).run Try.prog w = .ok (.slice (some ⟨w.heap.size, 0, none⟩) m m) (w.alloc (.cells (trueArr m 0) 4)) := by
  obtain ⟨i0, hi0, hz0, hz1, hz2⟩ := info_parts info4
  have := run_make (P := Try.prog) w 29 4 i0 _ Try.underlying29 hi0 hz0 .i64 .i64 m m (by omega) (Int.le_refl _) (by rw [hz2]; omega) (by omega)
  rw [hz1, Int.toNat_natCast, trueArr_zero] at this
  exact this
theorem flags_true (m S : Nat) (w : World) (hm : m ≤ 140737488351232) (hS : S ≠ w.heap.size) : DFlags (w.alloc (.cells (trueArr m m) 4)) (.slice (some ⟨w.heap.size, 0, none⟩) m m) m (fun _ => true) S := by
  refine ⟨_, m, rfl, by unfold maxLen; omega, fun i hi => ⟨w.heap.size, 0, rfl, fun e => hS e.symm, ?_⟩⟩
  rw [cell_of_row _ _ _ _ _ _ (heap_alloc_new w _)]
  simp [trueArr, hi]
theorem DFlags.frame {w w' : World} {v : Value} {kl S : Nat} {kf : Nat → Bool} (h : DFlags w v kl kf S) (S' : Nat) (ho : Only (fun _ => False) w w') (hS : w.heap.size ≤ S') : DFlags w' v kl kf S' := by
  obtain ⟨ka, kc, hv, hm, hk⟩ := h
  refine ⟨ka, kc, hv, hm, fun i hi => ?_⟩
  obtain ⟨kb, ko, h1, h2, h3⟩ := hk i hi
  refine ⟨kb, ko, h1, ?_, ho.cell h3 (fun e => e)⟩
  have : kb < w.heap.size := World.block_lt_of_cell? w _ h3
  omega
theorem range_lt {w : World} {g n : Nat} {s : Nat → Nat → Int} (hn : 1 ≤ n) (h : w.rangeAt g 0 (allL n s)) : g < w.heap.size :=
  World.block_lt_of_cell? w ⟨g, 0 + 0, none⟩ (h 0 (.int .u8 (s 0 0)) (by simpa using allL_get n s 0 0 (by omega) (by omega)))
end Go.Proofs.Ytpoakkdkibameaa
