/- What Crash leaves of a disk; what taking back comes to. Writes that are pending, done again and taken back. What layNumber, numberAt and allZero do. What numberAt and allZero answer. What Pack answers. Pages on a disk as numbers: what Write leaves, what is read. No program in it. What Count, reach and Write of pages do on a disk, here and in the document. -/
import Derived.Test.YtpoakkdkibameaaGreatGag
import Derived.Test.YtpoakkdkibameaaGreatGad
import Derived.Test.YtpoakkdkibameaaGreatGac
import Derived.Test.YtpoakkdkibameaaGreatGae
namespace Go.Proofs.YtpoakkdkibameaaGreat
open Go.RowKit
set_option linter.unusedSimpArgs false
set_option linter.unusedVariables false

/-- What Crash answers, and what it leaves of a disk. -/
def DS.crash (d : DS) (ks : List Bool) (torn cut : Int) : Int × DS :=
  if cut < 0 ∨ 32 < cut then (2, d) else (0, ⟨d.n, crashTo (fun i => decide (i < ks.length) && ks.getD i false) torn cut.toNat d.pend (undoW d.pend d.sec) d.pend.length, [], -1⟩)
theorem crash_all (p S B : Nat) (pv kv : Value) (d : DS) (ks : List Bool) (torn cut : Int) (w : World) (h : DiskAt w B p S pv d) (hk : DFlags w kv ks.length (fun j => ks.getD j false) S) :
    Calls Tryz.prog 19 #[.pointer (some ⟨p, 0, none⟩), kv, .int .i64 torn, .int .i64 cut] w fun e w' => e = .returned (.int .i64 (d.crash ks torn cut).1) ∧ ∃ pv', DiskAt w' B p S pv' (d.crash ks torn cut).2 ∧ Only (fun i => i = p ∨ i = S) w w' ∧ (∀ b, pv'.ownBlock = some b → pv.ownBlock = some b) := by
  by_cases e : cut < 0 ∨ 32 < cut
  · have hw : d.crash ks torn cut = (2, d) := by simp [DS.crash, e]
    rw [hw]
    refine (crash_bad p kv torn cut w e).mono ?_
    rintro e' w' ⟨rfl, rfl⟩
    exact ⟨rfl, pv, h, Only.refl _ _, fun _ hb => hb⟩
  · have hw : d.crash ks torn cut = (0, ⟨d.n, crashTo (fun i => decide (i < ks.length) && ks.getD i false) torn cut.toNat d.pend (undoW d.pend d.sec) d.pend.length, [], -1⟩) := by simp [DS.crash, e]
    rw [hw]
    have hc : cut = (cut.toNat : Int) := by omega
    have := crash_any p S B ks.length cut.toNat pv kv (fun j => ks.getD j false) torn d w h (by omega) hk
    rw [← hc] at this
    refine this.mono ?_
    rintro e' w' ⟨he, hd, ho⟩
    exact ⟨he, _, hd, ho, fun b hb => by simp [Value.ownBlock] at hb⟩
theorem flags_own {w : World} {B m cap S : Nat} {a : Option Addr} {f : Nat → Bool} (h : w.ownsRow B 4 1 (.slice a m cap) m ((List.range m).map fun j => .bool (f j))) (hm : m ≤ maxLen) (hS : S < B) : DFlags w (.slice a m cap) m f S := by
  refine ⟨a, cap, rfl, hm, fun i hi => ?_⟩
  rcases h.2 with ⟨_, h2⟩ | ⟨g, c2, cur, hv, hg, _⟩
  · omega
  · simp only [Value.slice.injEq] at hv
    obtain ⟨rfl, _, rfl⟩ := hv
    refine ⟨g, 0, rfl, by omega, ?_⟩
    rw [Nat.zero_add, h.cellAt i (by omega)]
    simp [hi]
def HasN (w : World) (p S n : Nat) : Prop := ∃ c, w.cell? ⟨p, 0, none⟩ = some (.slice (some ⟨S, 0, none⟩) n c)
theorem lenN (p S n : Nat) (w : World) (h : HasN w p S n) : Calls Tryz.prog 85 #[.pointer (some ⟨p, 0, none⟩)] w fun e w' => e = .returned (.int .i64 n) ∧ w' = w := by
  obtain ⟨c, h⟩ := h
  exact len_any p S n c w h
theorem allL_succ (k : Nat) (sec : Nat → Nat → Int) : allL (k + 1) sec = allL k sec ++ secL (sec k) := by
  simp only [allL, secL]
  rw [show (k + 1) * 32 = k * 32 + 32 by omega, List.range_add, List.map_append, List.map_map]
  congr 1
  apply List.map_congr_left
  intro j hj
  have hj' : j < 32 := by simpa using hj
  simp only [Function.comp]
  rw [show (k * 32 + j) / 32 = k by omega, show (k * 32 + j) % 32 = j by omega]
theorem allL_congr (n : Nat) (f g : Nat → Nat → Int) (h : ∀ i, i < n → ∀ j, j < 32 → f i j = g i j) : allL n f = allL n g := by
  simp only [allL]
  apply List.map_congr_left
  intro k hk
  have hk' : k < n * 32 := by simpa using hk
  rw [h (k / 32) (by omega) (k % 32) (by omega)]

theorem wpList_append_runG {P : Program} {op : Oper} {a : Act} {w w' : World} {Q : Exit → Act → World → Prop} {ops : Array Oper} {rest : List Oper} (s x : Operand) (t : TypeId) (ho : op.op = .call { callee := .builtin .append, args := #[s, x], argTypes := #[t, t] }) (hw : Region.wanted op (yielded ops a.tmps) = true) (v1 v2 v' : Value) (hs : a.eval s = v1) (hx : a.eval x = v2)
    (hr : ∀ ty, (Builtin.append_ #[t, t] ty #[v1, v2]).run P w = .ok v' w') (h : wpList P ops Q rest (a.put op.dst v') w') : wpList P ops Q (op :: rest) a w :=
  wpList_step fun _ hK => by rw [if_pos hw]; exact wp_append_run s x t ho v1 v2 v' hs hx (hr _) (hK _ _ h)

theorem upd_back (s : Nat → Nat → Int) (k : Nat) (f : Nat → Int) : upd (upd s k f) k (s k) = s := by
  funext i
  by_cases e : i = k
  · subst e; simp [upd]
  · simp [upd, e]
theorem undoW_snoc (ws : List Wr) (x : Wr) (s : Nat → Nat → Int) : undoW (ws ++ [x]) s = undoW ws (upd s x.at_ x.bef) := by simp [undoW]
theorem undoW_write (ws : List Wr) (k : Nat) (f : Nat → Int) (s : Nat → Nat → Int) : undoW (ws ++ [⟨k, s k, f⟩]) (upd s k f) = undoW ws s := by
  rw [undoW_snoc, upd_back]
theorem undoW_nil (s : Nat → Nat → Int) : undoW [] s = s := rfl
theorem crashTo_none (kp : Nat → Bool) (torn : Int) (cut : Nat) (ws : List Wr) (s : Nat → Nat → Int) (h : ∀ i, kp i = false) : ∀ m, crashTo kp torn cut ws s m = s
  | 0 => rfl
  | m + 1 => by rw [crashTo_no _ _ _ _ _ _ (h m)]; exact crashTo_none kp torn cut ws s h m
theorem crashTo_prefix (kp : Nat → Bool) (torn : Int) (cut : Nat) (ws : List Wr) (x : Wr) (s : Nat → Nat → Int) : ∀ m, m ≤ ws.length → crashTo kp torn cut (ws ++ [x]) s m = crashTo kp torn cut ws s m
  | 0, _ => rfl
  | m + 1, hm => by
    have ih := crashTo_prefix kp torn cut ws x s m (by omega)
    have e : (ws ++ [x])[m]? = ws[m]? := List.getElem?_append_left (by omega)
    simp only [crashTo, e, ih]
/-- A crash that keeps all pending writes leaves what is seen. -/
def Seen (d : DS) : Prop := ∀ (kp : Nat → Bool) (cut : Nat), (∀ i, i < d.pend.length → kp i = true) → ∀ i j, j < 32 → crashTo kp (-1) cut d.pend (undoW d.pend d.sec) d.pend.length i j = d.sec i j
theorem seen_nil (n : Nat) (s : Nat → Nat → Int) (l : Int) : Seen ⟨n, s, [], l⟩ := fun _ _ _ _ _ _ => rfl
theorem seen_write (d : DS) (k : Nat) (f : Nat → Int) (l : Int) (h : Seen d) : Seen { d with sec := upd d.sec k f, pend := d.pend ++ [⟨k, d.sec k, f⟩], life := l } := by
  intro kp cut hk i j hj
  simp only [List.length_append, List.length_cons, List.length_nil, Nat.zero_add] at hk ⊢
  rw [undoW_write]
  have hx : (d.pend ++ [(⟨k, d.sec k, f⟩ : Wr)])[d.pend.length]? = some ⟨k, d.sec k, f⟩ := by simp
  rw [crashTo_yes _ _ _ _ _ _ _ hx (hk _ (by omega)), crashTo_prefix _ _ _ _ _ _ _ (Nat.le_refl _), if_neg (by omega)]
  have ih := h kp cut (fun q hq => hk q (by omega)) i j hj
  by_cases e : i = k
  · subst e; simp [upd, mix, hj]
  · simp [upd, e]; exact ih
/-- What writes behind a barrier keep: what was at the barrier, and what is seen. -/
def Since (s0 : Nat → Nat → Int) (d : DS) : Prop := undoW d.pend d.sec = s0 ∧ Seen d
theorem since_write (s0 : Nat → Nat → Int) (d : DS) (k : Int) (f : Nat → Int) (m : Nat) (h : Since s0 d) : Since s0 (d.write k f m).2 := by
  simp only [DS.write]
  split
  · exact h
  · split
    · exact h
    · split
      · exact h
      · exact ⟨by simp only; rw [undoW_write]; exact h.1, seen_write d k.toNat f _ h.2⟩
theorem write_n (d : DS) (k : Int) (f : Nat → Int) (m : Nat) : (d.write k f m).2.n = d.n := by
  simp only [DS.write]; split; rfl; split; rfl; split; rfl; rfl
theorem write_life (d : DS) (k : Int) (f : Nat → Int) (m : Nat) (h : d.life = -1) : (d.write k f m).2.life = -1 := by
  simp only [DS.write]; split; exact h; split; exact h; split; exact h; simp [aged, h]
theorem write_len2 (d : DS) (k : Int) (f : Nat → Int) (m : Nat) : (d.write k f m).2.pend.length ≤ d.pend.length + 1 := by
  simp only [DS.write]; split; simp; split; simp; split; simp; simp

/-- m flags, the first k of them true. -/
def trueArr (m k : Nat) : Array Value := Array.ofFn (n := m) fun i => .bool (decide (i.val < k))
theorem trueArr_size (m k : Nat) : (trueArr m k).size = m := by simp [trueArr]
theorem trueArr_set (m k : Nat) : (trueArr m k).setIfInBounds k (.bool true) = trueArr m (k + 1) := by
  apply Array.ext
  · simp [trueArr]
  · intro i h1 h2
    simp [trueArr] at h1 h2
    simp [trueArr, Array.getElem_setIfInBounds, h1]
    by_cases e : k = i
    · subst e; simp
    · simp [e]; omega
theorem trueArr_zero (m : Nat) : madeCells (Value.bool false).cells (m * 1) = trueArr m 0 := by
  apply Array.ext
  · simp [trueArr, size_madeCells]
  · intro i h1 h2
    simp [trueArr, madeCells, Value.cells, Nat.mod_one]
theorem make_flags (m : Nat) (hm : m ≤ 140737488351232) (w : World) : (Instr.makeSlice 38 (.int .i64 m) (.int .i64 m)).run Tryz.prog w = .ok (.slice (some ⟨w.heap.size, 0, none⟩) m m) (w.alloc (.cells (trueArr m 0) 4)) := by
  obtain ⟨i0, hi0, hz0, hz1, hz2⟩ := info_parts info4
  have := run_make (P := Tryz.prog) w 38 4 i0 _ Tryz.underlying38 hi0 hz0 .i64 .i64 m m (by omega) (Int.le_refl _) (by rw [hz2]; omega) (by omega)
  rw [hz1, Int.toNat_natCast, trueArr_zero] at this
  exact this
theorem flags_true (m S : Nat) (w : World) (hm : m ≤ 140737488351232) (hS : S ≠ w.heap.size) : DFlags (w.alloc (.cells (trueArr m m) 4)) (.slice (some ⟨w.heap.size, 0, none⟩) m m) m (fun _ => true) S := by
  refine ⟨_, m, rfl, by unfold maxLen; omega, fun i hi => ⟨w.heap.size, 0, rfl, fun e => hS e.symm, ?_⟩⟩
  rw [cell_of_row _ _ _ _ _ _ (heap_alloc_new w _)]
  simp [trueArr, hi]
theorem DFlags.frame {w w' : World} {v : Value} {kl S : Nat} {kf : Nat → Bool} (h : DFlags w v kl kf S) (S' : Nat) (ho : Only (fun _ => False) w w') (hS : w.heap.size ≤ S') : DFlags w' v kl kf S' := by
  obtain ⟨ka, kc, hv, hm, hk⟩ := h
  refine ⟨ka, kc, hv, hm, fun i hi => ?_⟩
  obtain ⟨kb, ko, h1, h2, h3⟩ := hk i hi
  refine ⟨kb, ko, h1, ?_, ho.cell h3 (fun e => e)⟩
  have : kb < w.heap.size := World.block_lt_of_cell? w _ h3
  omega
theorem range_lt {w : World} {g n : Nat} {s : Nat → Nat → Int} (hn : 1 ≤ n) (h : w.rangeAt g 0 (allL n s)) : g < w.heap.size :=
  World.block_lt_of_cell? w ⟨g, 0 + 0, none⟩ (h 0 (.int .u8 (s 0 0)) (by simpa using allL_get n s 0 0 (by omega) (by omega)))
end Go.Proofs.YtpoakkdkibameaaGreat
namespace Go.Proofs.YtpoakkdkibameaaGreat
open Go.RowKit
set_option linter.unusedSimpArgs false
set_option linter.unusedVariables false

/-- The writes are done, in their order. -/
def doAll (l : List Wr) (s : Nat → Nat → Int) : Nat → Nat → Int := l.foldl (fun s x => upd s x.at_ x.aft) s
theorem doAll_snoc (l : List Wr) (x : Wr) (s : Nat → Nat → Int) : doAll (l ++ [x]) s = upd (doAll l s) x.at_ x.aft := by simp [doAll]
theorem doAll_append (l l' : List Wr) (s : Nat → Nat → Int) : doAll (l ++ l') s = doAll l' (doAll l s) := by simp [doAll]
theorem doAll_keep : ∀ (l : List Wr) (s : Nat → Nat → Int) (k : Nat), (∀ x ∈ l, x.at_ ≠ k) → doAll l s k = s k
  | [], _, _, _ => rfl
  | x :: r, s, k, h => by
    have e : doAll (x :: r) s = doAll r (upd s x.at_ x.aft) := rfl
    rw [e, doAll_keep r _ k (fun y hy => h y (List.mem_cons_of_mem _ hy))]
    simp [upd, Ne.symm (h x (List.mem_cons_self ..))]
theorem doAll_take (l : List Wr) (s : Nat → Nat → Int) (i : Nat) (h : i < l.length) : doAll (l.take (i + 1)) s = upd (doAll (l.take i) s) (l[i]).at_ (l[i]).aft := by
  have e : l.take (i + 1) = l.take i ++ [l[i]] := by rw [List.take_add_one, List.getElem?_eq_getElem h]; rfl
  rw [e, doAll_snoc]
theorem doAll_last (l : List Wr) (s : Nat → Nat → Int) (i : Nat) (h : i < l.length) (hl : ∀ j (hj : j < l.length), i < j → (l[j]).at_ ≠ (l[i]).at_) : doAll l s (l[i]).at_ = (l[i]).aft := by
  have e : l = l.take (i + 1) ++ l.drop (i + 1) := (List.take_append_drop _ _).symm
  have : doAll l s = doAll (l.drop (i + 1)) (doAll (l.take (i + 1)) s) := by
    conv => lhs; rw [e]
    exact doAll_append _ _ _
  rw [this, doAll_keep _ _ _ (fun x hx => ?_), doAll_take l s i h]
  · simp [upd]
  · obtain ⟨j, hj, rfl⟩ := List.getElem_of_mem hx
    simp only [List.length_drop] at hj
    rw [List.getElem_drop]
    exact hl _ (by omega) (by omega)
/-- What is seen is what is kept with the pending writes done. -/
def Good (d : DS) : Prop := doAll d.pend (undoW d.pend d.sec) = d.sec
theorem Good.nil (n : Nat) (s : Nat → Nat → Int) (l : Int) : Good ⟨n, s, [], l⟩ := rfl
theorem Good.write {d : DS} (h : Good d) (k : Int) (f : Nat → Int) (m : Nat) : Good (d.write k f m).2 := by
  simp only [DS.write]
  split
  · exact h
  · split
    · exact h
    · split
      · exact h
      · show doAll (d.pend ++ [_]) (undoW (d.pend ++ [_]) _) = _
        rw [undoW_write, doAll_snoc]
        simp only
        rw [show doAll d.pend (undoW d.pend d.sec) = d.sec from h]
theorem Good.crash {d : DS} (h : Good d) (ks : List Bool) (torn cut : Int) : Good (d.crash ks torn cut).2 := by
  simp only [DS.crash]
  split
  · exact h
  · rfl

end Go.Proofs.YtpoakkdkibameaaGreat
namespace Go.Proofs.YtpoakkdkibameaaGreat
open Go.RowKit
set_option linter.unusedSimpArgs false
set_option linter.unusedVariables false

set_option maxRecDepth 100000 in
set_option maxHeartbeats 1000000 in
/-- A number is laid into a block of bytes. -/
theorem laynum_any (g n c p x : Nat) (zs : List Nat) (w : World) (h : Blk w g zs) (hp : p + 4 ≤ zs.length) (hc : zs.length ≤ c) (hc2 : c ≤ 140737488355328) (hx : x < 4294967296) :
    Calls Tryz.prog 130 #[.slice (some ⟨g, 0, none⟩) n c, .int .i64 p, .int .u32 x] w fun e w' => e = .returned (.tuple #[]) ∧ Blk w' g (splice zs p (lay4 x)) ∧ Only (fun i => g ≤ i) w w' := by
  have hb := build4 ((x % 256 : Nat) : Int) ((x / 256 % 256 : Nat) : Int) ((x / 65536 % 256 : Nat) : Int) ((x / 16777216 % 256 : Nat) : Int)
  obtain ⟨x0, h0⟩ : ∃ y, y = x % 256 := ⟨_, rfl⟩
  obtain ⟨x1, h1⟩ : ∃ y, y = x / 256 % 256 := ⟨_, rfl⟩
  obtain ⟨x2, h2⟩ : ∃ y, y = x / 65536 % 256 := ⟨_, rfl⟩
  obtain ⟨x3, h3⟩ : ∃ y, y = x / 16777216 % 256 := ⟨_, rfl⟩
  have c0 : (x : Int) % 256 = (x0 : Int) := by omega
  have c1 : (x : Int) / 256 % 256 = (x1 : Int) := by omega
  have c2 : (x : Int) / 65536 % 256 = (x2 : Int) := by omega
  have c3 : (x : Int) / 16777216 = (x3 : Int) := by omega
  rw [← h0, ← h1, ← h2, ← h3] at hb
  have HL : Hid (BL (lay4 x) = [.int .u8 (x0 : Int), .int .u8 (x1 : Int), .int .u8 (x2 : Int), .int .u8 (x3 : Int)]) := (by rw [BL4, ← h0, ← h1, ← h2, ← h3] : _ = _)
  have HB : Hid (Blk w g zs) := h
  have HP := piece_pos g 0 n c p 4 w (by omega) (by omega) (by omega)
  rw [Nat.zero_add] at HP
  clear h h0 h1 h2 h3
  go_enter Tryz.func130, Tryz.ntmps130
  go_wp2_with fail
  refine HP.mono ?_
  rintro e w1 ⟨rfl, rfl⟩
  clear HP
  have o2 : Only (fun _ => False) w1 (w1.alloc (.cells #[.int .u8 (x0 : Int), .int .u8 (x1 : Int), .int .u8 (x2 : Int), .int .u8 (x3 : Int)] 5)) := (Only.refl _ _).alloc _
  have HO2 : Hid (Only (fun _ => False) w1 (w1.alloc (.cells #[.int .u8 (x0 : Int), .int .u8 (x1 : Int), .int .u8 (x2 : Int), .int .u8 (x3 : Int)] 5))) := o2
  have HB2 : Hid (Blk (w1.alloc (.cells #[.int .u8 (x0 : Int), .int .u8 (x1 : Int), .int .u8 (x2 : Int), .int .u8 (x3 : Int)] 5)) g zs) := HB.out.frame o2 (fun e => e)
  have HSRC : Hid (∀ j u, (BL (lay4 x))[j]? = some u → (w1.alloc (.cells #[.int .u8 (x0 : Int), .int .u8 (x1 : Int), .int .u8 (x2 : Int), .int .u8 (x3 : Int)] 5)).cell? ((⟨w1.heap.size, 0, none⟩ : Addr).add j) = some u) := by
    rw [HL.out]
    exact World.news_of_block (heap_alloc_new w1 _)
  clear hb o2
  obtain ⟨Y, hY⟩ : ∃ Y, Y = BL (lay4 x) := ⟨_, rfl⟩
  have HY : Hid (Y = BL (lay4 x)) := hY
  rw [← hY] at HSRC
  have HYL : Hid (Y.length = 4) := (by rw [hY, BL_length, lay4_length] : _ = _)
  clear hY
  go_wp2_with ((refine wpList_copy_splice rfl _ _ 37 37 rfl 5 Tryz.underlying37 size5 _ _ _ _ _ _ rfl rfl g p (BL zs) 5 HB2.out.1 Y HYL.out (fun _ => ⟨rfl, _, rfl, HSRC.out⟩) (by rw [HYL.out, BL_length]; exact hp) (by rw [HY.out]; exact BL_one _) g _ (Below.refl _ _) (Nat.le_refl _) ?_); intro w3 HG3 hB3)
  have HE : Hid (Blk w3 g (splice zs p (lay4 x)) ∧ Only (fun i => g ≤ i) w1 w3) := ⟨Blk.spliced HB2.out (lay4_lt x) (by rw [lay4_length]; exact hp) (by have := HG3.out; rwa [HY.out] at this), (HO2.out.mono (fun _ _ e => e.elim)).trans (Below.only hB3) (fun i hi e => e)⟩
  clear HG3 hB3
  go_end0
  exact ⟨rfl, HE.out⟩
end Go.Proofs.YtpoakkdkibameaaGreat
namespace Go.Proofs.YtpoakkdkibameaaGreat
open Go.RowKit
set_option linter.unusedSimpArgs false
set_option linter.unusedVariables false

theorem bor32 (m e s : Nat) (hm : m < 2 ^ s) (hb : m + e * 2 ^ s < 4294967296) : bits .or .u32 (m : Int) ((e * 2 ^ s : Nat) : Int) = ((m + e * 2 ^ s : Nat) : Int) := by
  have e1 : m % 2 ^ IntKind.u32.bits = m := Nat.mod_eq_of_lt (show m < 4294967296 by omega)
  have e2 : (e * 2 ^ s) % 2 ^ IntKind.u32.bits = e * 2 ^ s := Nat.mod_eq_of_lt (show e * 2 ^ s < 4294967296 by omega)
  simp only [bits, BitVec.ofInt_natCast, BitVec.toNat_or, BitVec.toNat_ofNat, e1, e2]
  rw [Nat.or_comm, Nat.mul_comm e, ← Nat.two_pow_add_eq_or_of_lt hm, Nat.add_comm, IntKind.wrap_u32, Nat.mul_comm (2 ^ s)]
  omega
/-- The number of the first k bytes from p on. -/
def acc4 (zs : List Nat) (p : Nat) : Nat → Nat
  | 0 => 0
  | k + 1 => acc4 zs p k + zs.getD (p + k) 0 * 2 ^ (8 * k)
theorem acc4_lt {zs : List Nat} (h : ∀ z ∈ zs, z < 256) (p : Nat) : ∀ k, acc4 zs p k < 2 ^ (8 * k)
  | 0 => by simp [acc4]
  | k + 1 => by
    have h1 := acc4_lt h p k
    have h2 := getD_lt h (p + k)
    have h3 : zs.getD (p + k) 0 * 2 ^ (8 * k) ≤ 255 * 2 ^ (8 * k) := Nat.mul_le_mul_right _ (by omega)
    have h4 : 2 ^ (8 * (k + 1)) = 256 * 2 ^ (8 * k) := by rw [show 8 * (k + 1) = 8 * k + 8 by omega, Nat.pow_add]; omega
    simp only [acc4]
    omega
theorem acc4_four (zs : List Nat) (p : Nat) : acc4 zs p 4 = val4 zs p := by
  simp only [acc4, val4, Nat.add_zero]
  omega

set_option maxRecDepth 100000 in
set_option maxHeartbeats 1000000 in
theorem numat_any (v : Value) (zs : List Nat) (p : Nat) (w : World) (h : BytesAt w v zs) (hp : p + 4 ≤ zs.length) :
    Calls Tryz.prog 154 #[v, .int .i64 p] w fun e w' => e = .returned (.int .u32 (val4 zs p : Nat)) ∧ w' = w := by
  obtain ⟨a, c, rfl, hcap, hc⟩ := h.form
  have HL : Hid (∀ z ∈ zs, z < 256) := h.2.2
  have HC : Hid _ := hc
  obtain ⟨n, hn⟩ : ∃ m, m = zs.length := ⟨_, rfl⟩
  have HM : Hid (n = zs.length) := hn
  have hn2 : n ≤ 140737488355328 := hn ▸ h.2.1
  rw [← hn]
  rw [← hn] at hp
  clear h hc hn hcap
  go_enter Tryz.func154, Tryz.ntmps154
  go_wp2
  go_loopw [5, 7] (fun r t wr => ∃ k : Nat, k ≤ 4 ∧ t = .int .i64 k ∧ r = .int .u32 (acc4 zs p k : Nat) ∧ w = wr) (fun _ t _ => 4 - (intOf t).toNat)
  case atStart => exact ⟨0, by omega, rfl, rfl, rfl⟩
  case round =>
    obtain ⟨k, hk, rfl, rfl, rfl⟩ := hrel
    by_cases hlt : k < 4
    · have k1 : (k : Int) < 4 := by omega
      have hwp : IntKind.i64.wrap ((p : Int) + (k : Int)) = (p : Int) + (k : Int) := by rw [IntKind.wrap_i64]; omega
      have hz2 : (p : Int) + (k : Int) < (n : Int) := by omega
      have hz3 : (0 : Int) ≤ (p : Int) + (k : Int) := by omega
      have htn : ((p : Int) + (k : Int)).toNat = p + k := by omega
      have hm8 : IntKind.i64.wrap (8 * (k : Int)) = 8 * (k : Int) := by rw [IntKind.wrap_i64]; omega
      obtain ⟨s, hs⟩ : ∃ s, s = 8 * k := ⟨_, rfl⟩
      have hs8 : 8 * (k : Int) = (s : Int) := by omega
      rw [hs8] at hm8
      have HS8 : Hid (8 * (k : Int) = (s : Int)) := hs8
      have s1 : (s : Int) < 32 := by omega
      have s0 : (0 : Int) ≤ (s : Int) := by omega
      obtain ⟨g, o, rfl, hcell⟩ := HC.out (p + k) (by have := HM.out; omega)
      have hx := acc4_lt HL.out p k
      have hx1 := acc4_lt HL.out p (k + 1)
      have hpw : 2 ^ (8 * (k + 1)) ≤ 4294967296 := Nat.le_trans (Nat.pow_le_pow_right (by omega) (show 8 * (k + 1) ≤ 32 by omega)) (by decide)
      have HS : Hid (acc4 zs p (k + 1) = acc4 zs p k + zs.getD (p + k) 0 * 2 ^ (8 * k)) := rfl
      rw [HS.out] at hx1
      have hz := getD_lt HL.out (p + k)
      rw [← hs] at hx hx1 HS
      obtain ⟨x, hxx⟩ : ∃ x, x = acc4 zs p k := ⟨_, rfl⟩
      obtain ⟨z, hzz⟩ : ∃ z, z = zs.getD (p + k) 0 := ⟨_, rfl⟩
      rw [← hxx, ← hzz] at HS hx1
      rw [← hxx] at hx
      rw [← hzz] at hz hcell
      rw [← hxx]
      have hb := bor32 x z s hx (by omega)
      obtain ⟨d, hd⟩ : ∃ d, d = z * 2 ^ s := ⟨_, rfl⟩
      rw [← hd] at hb HS hx1
      have hd2 : (z : Int) * 2 ^ s = (d : Int) := by rw [hd]; simp
      have hdl : d < 4294967296 := by omega
      have hwr : IntKind.u32.wrap (d : Int) = (d : Int) := by rw [IntKind.wrap_u32]; omega
      clear hxx hzz hd hpw hx hx1 hs
      go_wp2
      go_roundw
      case rel => exact ⟨k + 1, by omega, by go_num, by rw [HS.out]; simp, trivial⟩
      case measure => simp [intOf]; omega
    · obtain rfl : k = 4 := by omega
      go_wp2
      go_ret
      exact ⟨by rw [← acc4_four]; rfl, rfl⟩

theorem all_take (zs : List Nat) (k : Nat) (h : k < zs.length) : (zs.take (k + 1)).all (· == 0) = ((zs.take k).all (· == 0) && zs.getD k 0 == 0) := by
  rw [List.take_succ_eq_append_getElem h, List.all_append]
  simp [List.getD, h]
set_option maxRecDepth 100000 in
set_option maxHeartbeats 1000000 in
theorem allzero_any (v : Value) (zs : List Nat) (w : World) (h : BytesAt w v zs) :
    Calls Tryz.prog 155 #[v] w fun e w' => e = .returned (.bool (zs.all (· == 0))) ∧ w' = w := by
  obtain ⟨a, c, rfl, hcap, hc⟩ := h.form
  have HC : Hid _ := hc
  obtain ⟨n, hn⟩ : ∃ m, m = zs.length := ⟨_, rfl⟩
  have HM : Hid (n = zs.length) := hn
  have hn2 : n ≤ 140737488355328 := hn ▸ h.2.1
  rw [← hn]
  clear h hc hn hcap
  go_enter Tryz.func155, Tryz.ntmps155
  go_wp2
  go_loopw [7] (fun t wr => ∃ k : Nat, k ≤ n ∧ t = .int .i64 k ∧ (zs.take k).all (· == 0) = true ∧ w = wr) (fun t _ => n - (intOf t).toNat)
  case atStart => exact ⟨0, by omega, rfl, by simp, rfl⟩
  case round =>
    obtain ⟨k, hk, rfl, hal, rfl⟩ := hrel
    have HAL : Hid ((zs.take k).all (· == 0) = true) := hal
    clear hal
    by_cases hlt : k < n
    · have k1 : (k : Int) < (n : Int) := by omega
      have k0 : (0 : Int) ≤ (k : Int) := by omega
      obtain ⟨g, o, rfl, hcell⟩ := HC.out k (by have := HM.out; omega)
      have HT : Hid _ := all_take zs k (by have := HM.out; omega)
      obtain ⟨z, hzz⟩ : ∃ z, z = zs.getD k 0 := ⟨_, rfl⟩
      rw [← hzz] at hcell HT
      by_cases hz0 : z = 0
      · have zz : ((z : Int) != 0) = false := by simp [hz0]
        have HZ0 : Hid (z = 0) := hz0
        clear hz0 hzz
        go_wp2
        go_roundw
        case rel => exact ⟨k + 1, by omega, by go_num, by rw [HT.out, HAL.out, HZ0.out]; rfl, trivial⟩
        case measure => simp [intOf]; omega
      · have zz : ((z : Int) != 0) = true := by simp [hz0]
        have HZ0 : Hid (zs.all (· == 0) = false) := by
          show _ = _
          have : ¬ zs.all (· == 0) = true := fun e => by
            have := List.all_eq_true.1 e (zs.getD k 0) (by
              have hk2 : k < zs.length := by have := HM.out; omega
              simp [List.getD, hk2])
            rw [← hzz] at this
            simp [hz0] at this
          simpa using this
        clear hz0 hzz
        go_wp2
        go_ret
        exact ⟨by rw [HZ0.out]; rfl, rfl⟩
    · obtain rfl : k = n := by omega
      go_wp2
      go_ret
      refine ⟨?_, rfl⟩
      have := HAL.out
      rw [HM.out, List.take_length] at this
      rw [this]; rfl
end Go.Proofs.YtpoakkdkibameaaGreat
namespace Go.Proofs.YtpoakkdkibameaaGreat
open Go.RowKit
set_option linter.unusedSimpArgs false
set_option linter.unusedVariables false

set_option maxHeartbeats 400000 in
theorem pack_large (id : Int) (a : Option Addr) (n c : Nat) (w : World) (h : 116 < n) :
    Calls Tryz.prog 109 #[.int .u32 id, .slice a n c] w fun e w' => e = .returned (.tuple #[.slice none 0 0, .int .i64 11]) ∧ w' = w := by
  have h1 : (116 : Int) < (n : Int) := by omega
  go_enter Tryz.func109, Tryz.ntmps109
  go_wp2
  go_ret2
  exact ⟨rfl, rfl⟩

set_option maxRecDepth 100000 in
set_option maxHeartbeats 1000000 in
theorem pack_ok (id : Nat) (v : Value) (D : List Nat) (w : World) (h : BytesAt w v D) (hD : D.length ≤ 116) (hid : id < 4294967296) :
    Calls Tryz.prog 109 #[.int .u32 id, v] w fun e w' => e = .returned (.tuple #[.slice (some ⟨w.heap.size, 0, none⟩) 128 128, .int .i64 0]) ∧ Blk w' w.heap.size (page id D) ∧ Only (fun _ => False) w w' := by
  have hmk : (Instr.makeSlice 37 (.int .i64 128) (.int .i64 128)).run Tryz.prog w = .ok (.slice (some ⟨w.heap.size, 0, none⟩) 128 128) (w.alloc (.cells (BL (List.replicate 128 0)).toArray 5)) := make_blk 128 (by omega) w
  have hbz := blk_zeros 128 (by omega) w
  obtain ⟨M, hM⟩ : ∃ M, M = BL (List.replicate 128 0) := ⟨_, rfl⟩
  have HM : Hid (M = BL (List.replicate 128 0)) := hM
  rw [← hM] at hmk hbz
  have HBZ : Hid (Blk (w.alloc (.cells M.toArray 5)) w.heap.size (List.replicate 128 0)) := hbz
  obtain ⟨a, c, rfl, hcap, hc⟩ := h.form
  have HBY : Hid (BytesAt w (.slice a D.length c) D) := h
  have HC : Hid _ := hc
  obtain ⟨n, hn⟩ : ∃ m, m = D.length := ⟨_, rfl⟩
  have HN : Hid (n = D.length) := hn
  have n1 : ¬ (116 : Int) < (n : Int) := by omega
  have hw32 : IntKind.u32.wrap (n : Int) = (n : Int) := by rw [IntKind.wrap_u32]; omega
  have n2 : n ≤ 116 := by omega
  have HML : Hid (M.length = 128) := (by rw [hM, BL_length]; simp : _ = _)
  rw [← hn] at HBY
  rw [← hn]
  obtain ⟨Y, hY⟩ : ∃ Y, Y = BL D := ⟨_, rfl⟩
  have HY : Hid (Y = BL D) := hY
  have HYL : Hid (Y.length = n) := (by rw [hY, BL_length, hn] : _ = _)
  have HOA : Hid (Only (fun _ => False) w (w.alloc (.cells M.toArray 5))) := (Only.refl _ w).alloc _
  have HSRC : Hid (0 < Y.length → ∃ ad, a = some ad ∧ ∀ j u, Y[j]? = some u → (w.alloc (.cells M.toArray 5)).cell? (ad.add j) = some u) := fun hp => by
    have hp2 : 0 < D.length := by have := HYL.out; omega
    obtain ⟨g, o, rfl, _⟩ := HC.out 0 hp2
    refine ⟨_, rfl, fun j u hu => ?_⟩
    rw [hY] at hu
    have hj : j < D.length := by have := (List.getElem?_eq_some_iff.1 hu).1; rwa [BL_length] at this
    obtain ⟨g', o', e', hcell⟩ := HC.out j hj
    simp only [Option.some.injEq, Addr.mk.injEq, and_true] at e'
    obtain ⟨rfl, rfl⟩ := e'
    rw [Addr.add_mid, HOA.out.cell hcell (fun e => e)]
    rw [BL_get _ _ hj] at hu
    rw [← hu]
    simp [List.getD, hj]
  have hsz : (w.alloc (.cells M.toArray 5)).heap.size = w.heap.size + 1 := by simp
  clear h hc hn hcap hM hbz hY hD
  go_enter Tryz.func109, Tryz.ntmps109
  go_wp2_with ((refine wpList_copy_splice rfl _ _ 37 37 rfl 5 Tryz.underlying37 size5 _ _ _ _ _ _ rfl rfl w.heap.size 12 M 5 (heap_alloc_new w _) Y (by have := HYL.out; show Y.length = min n 116; omega) (fun hp => ⟨rfl, HSRC.out hp⟩) (by have := HML.out; have := HYL.out; omega) (by rw [HY.out]; exact BL_one _) w.heap.size (w.alloc (.cells M.toArray 5)) (Below.refl _ _) (Nat.le_refl _) ?_); intro w1 HG1 hB1)
  have HB1 : Hid (Blk w1 w.heap.size (splice (List.replicate 128 0) 12 D)) := Blk.spliced HBZ.out HBY.out.2.2 (by have := HN.out; simp; omega) (by have := HG1.out; rwa [HM.out, HY.out] at this)
  have HO1 : Hid (Only (fun _ => False) w w1) := HOA.out.trans (Below.only hB1) (fun i hi e => by omega)
  clear HG1 hB1 HSRC hmk
  have hz1 : (splice (List.replicate 128 0) 12 D).length = 128 := by rw [length_splice _ _ _ (by have := HN.out; simp; omega)]; simp
  obtain ⟨Z1, hZ1⟩ : ∃ Z, Z = splice (List.replicate 128 0) 12 D := ⟨_, rfl⟩
  rw [← hZ1] at HB1 hz1
  have HZ1 : Hid (Z1 = splice (List.replicate 128 0) 12 D) := hZ1
  clear hZ1
  go_wp2_with fail
  refine (laynum_any w.heap.size 128 128 4 id Z1 w1 HB1.out (by omega) (by omega) (by omega) hid).mono ?_
  rintro e w2 ⟨rfl, hb2, ho2⟩
  have HB2 : Hid (Blk w2 w.heap.size (splice Z1 4 (lay4 id))) := hb2
  have HO2 : Hid (Only (fun _ => False) w w2) := HO1.out.trans ho2 (fun i hi e => by omega)
  clear hb2 ho2 HB1 HO1
  have hz2 : (splice Z1 4 (lay4 id)).length = 128 := by rw [length_splice _ _ _ (by rw [lay4_length]; omega)]; exact hz1
  obtain ⟨Z2, hZ2⟩ : ∃ Z, Z = splice Z1 4 (lay4 id) := ⟨_, rfl⟩
  rw [← hZ2] at HB2 hz2
  have HZ2 : Hid (Z2 = splice Z1 4 (lay4 id)) := hZ2
  clear hZ2
  go_wp2_with fail
  refine (laynum_any w.heap.size 128 128 8 n Z2 w2 HB2.out (by omega) (by omega) (by omega) (by omega)).mono ?_
  rintro e w3 ⟨rfl, hb3, ho3⟩
  have HO3 : Hid (Only (fun _ => False) w w3) := HO2.out.trans ho3 (fun i hi e => by omega)
  have hz3 : splice Z2 8 (lay4 n) = [0, 0, 0, 0] ++ rest id D := by
    rw [HZ2.out, HZ1.out, HN.out]
    exact lays id D (by have := HN.out; omega)
  rw [hz3] at hb3
  have hl3 : ([0, 0, 0, 0] ++ rest id D).length = 128 := by rw [List.length_append, rest_length id D (by have := HN.out; omega)]; rfl
  have HE : Hid (∀ x, x = sumN (([0, 0, 0, 0] ++ rest id D).drop 4) → splice ([0, 0, 0, 0] ++ rest id D) 0 (lay4 x) = page id D) := fun x hx => by rw [hx]; exact lays_end id D
  obtain ⟨Z3, hZ3⟩ : ∃ Z, Z = [0, 0, 0, 0] ++ rest id D := ⟨_, rfl⟩
  rw [← hZ3] at hb3 hl3 HE
  have HB3 : Hid (Blk w3 w.heap.size Z3) := hb3
  have hs : sumN (Z3.drop 4) < 4294967296 := sumN_lt _ (fun z h => hb3.2.2 z (List.mem_of_mem_drop h))
  have hbs : BytesAt w3 (.slice (some ⟨w.heap.size, 4, none⟩) 124 124) (Z3.drop 4) := by
    have := hb3.bytes 4 124 124 (by omega) (Nat.le_refl _)
    rwa [List.take_of_length_le (by rw [List.length_drop]; omega)] at this
  obtain ⟨x, hx⟩ : ∃ x, x = sumN (Z3.drop 4) := ⟨_, rfl⟩
  have HS : Hid (Calls Tryz.prog 131 #[.slice (some ⟨w.heap.size, 4, none⟩) 124 124] w3 fun e w' => e = .returned (.int .u32 (x : Nat)) ∧ w' = w3) := by rw [hx]; exact sum_any _ _ _ hbs
  rw [← hx] at hs
  have HX : Hid (splice Z3 0 (lay4 x) = page id D) := HE.out x hx
  clear hb3 ho3 HB2 HO2 hz3 hZ3 hbs hx HE
  go_wp2_with fail
  refine (show Calls Tryz.prog 131 _ _ _ from HS.out).mono ?_
  rintro e w4 ⟨rfl, rfl⟩
  clear HS
  go_wp2_with fail
  refine (laynum_any w.heap.size 128 128 0 x Z3 w4 HB3.out (by omega) (by omega) (by omega) hs).mono ?_
  rintro e w5 ⟨rfl, hb5, ho5⟩
  rw [HX.out] at hb5
  have HB5 : Hid (Blk w5 w.heap.size (page id D)) := hb5
  have HO5 : Hid (Only (fun _ => False) w w5) := HO3.out.trans ho5 (fun i hi e => by omega)
  clear hb5 ho5
  go_wp2
  go_ret2
  exact ⟨rfl, HB5.out, HO5.out⟩
end Go.Proofs.YtpoakkdkibameaaGreat
namespace Go.Proofs.YtpoakkdkibameaaGreat
open Go.RowKit
set_option linter.unusedSimpArgs false
set_option linter.unusedVariables false

/-- All that a disk holds are bytes. -/
def Byt (f : Nat → Int) : Prop := ∀ j, 0 ≤ f j ∧ f j < 256
structure ByteD (d : DS) : Prop where
  sec : ∀ i, Byt (d.sec i)
  bef : ∀ x ∈ d.pend, Byt x.bef
  aft : ∀ x ∈ d.pend, Byt x.aft
theorem byt_upd {s : Nat → Nat → Int} (h : ∀ i, Byt (s i)) (k : Nat) (f : Nat → Int) (hf : Byt f) : ∀ i, Byt (upd s k f i) := by
  intro i
  unfold upd
  split
  · exact hf
  · exact h i
theorem ByteD.new (n : Nat) : ByteD ⟨n, fun _ _ => 0, [], -1⟩ := ⟨fun _ _ => ⟨by simp, by simp⟩, by simp, by simp⟩
theorem ByteD.life {d : DS} (h : ByteD d) (l : Int) : ByteD { d with life := l } := ⟨h.sec, h.bef, h.aft⟩
theorem ByteD.barrier {d : DS} (h : ByteD d) (l : Int) : ByteD { d with pend := [], life := l } := ⟨h.sec, by simp, by simp⟩
theorem ByteD.put {d : DS} (h : ByteD d) (k : Nat) (f : Nat → Int) (l : Int) (hf : Byt f) : ByteD { d with sec := upd d.sec k f, pend := d.pend ++ [⟨k, d.sec k, f⟩], life := l } := by
  refine ⟨byt_upd h.sec k f hf, fun x hx => ?_, fun x hx => ?_⟩
  · rcases List.mem_append.1 hx with hx | hx
    · exact h.bef x hx
    · simp at hx; subst hx; exact h.sec k
  · rcases List.mem_append.1 hx with hx | hx
    · exact h.aft x hx
    · simp at hx; subst hx; exact hf
theorem ByteD.write {d : DS} (h : ByteD d) (k : Int) (f : Nat → Int) (m : Nat) (hf : Byt f) : ByteD (d.write k f m).2 := by
  simp only [DS.write]
  split
  · exact h
  · split
    · exact h
    · split
      · exact h
      · exact h.put _ f _ hf
theorem byt_mix (n : Nat) {f g : Nat → Int} (hf : Byt f) (hg : Byt g) : Byt (mix n f g) := by
  intro j
  unfold mix
  split
  · exact hf j
  · exact hg j
theorem byt_fold : ∀ (l : List Wr) (s : Nat → Nat → Int), (∀ i, Byt (s i)) → (∀ x ∈ l, Byt x.bef) → ∀ i, Byt (l.foldl (fun s x => upd s x.at_ x.bef) s i)
  | [], _, h, _ => h
  | x :: r, s, h, hb => byt_fold r _ (byt_upd h _ _ (hb x List.mem_cons_self)) (fun y hy => hb y (List.mem_cons_of_mem _ hy))
theorem byt_undo (ws : List Wr) (s : Nat → Nat → Int) (h : ∀ i, Byt (s i)) (hb : ∀ x ∈ ws, Byt x.bef) : ∀ i, Byt (undoW ws s i) :=
  byt_fold ws.reverse s h (fun x hx => hb x (List.mem_reverse.1 hx))
theorem byt_crash (kp : Nat → Bool) (torn : Int) (cut : Nat) (ws : List Wr) (s : Nat → Nat → Int) (h : ∀ i, Byt (s i)) (ha : ∀ x ∈ ws, Byt x.aft) : ∀ m i, Byt (crashTo kp torn cut ws s m i)
  | 0, i => h i
  | m + 1, i => by
    have ih := byt_crash kp torn cut ws s h ha m
    cases hk : kp m with
    | false => rw [crashTo_no _ _ _ _ _ _ hk]; exact ih i
    | true =>
      cases hx : ws[m]? with
      | none => simp only [crashTo, hx]; exact ih i
      | some x =>
        rw [crashTo_yes _ _ _ _ _ _ x hx hk]
        exact byt_upd ih _ _ (byt_mix _ (ha x (List.mem_of_getElem? hx)) (ih _)) i
theorem ByteD.crash {d : DS} (h : ByteD d) (kp : Nat → Bool) (torn : Int) (cut : Nat) (m : Nat) : ByteD ⟨d.n, crashTo kp torn cut d.pend (undoW d.pend d.sec) m, [], -1⟩ :=
  ⟨byt_crash kp torn cut _ _ (byt_undo _ _ h.sec h.bef) h.aft m, by simp, by simp⟩

/-- The bytes of a sector. -/
def secN (f : Nat → Int) : List Nat := (List.range 32).map fun j => (f j).toNat
theorem secN_length (f : Nat → Int) : (secN f).length = 32 := by simp [secN]
theorem secN_lt {f : Nat → Int} (h : Byt f) : ∀ z ∈ secN f, z < 256 := by
  intro z hz
  simp only [secN, List.mem_map] at hz
  obtain ⟨j, _, rfl⟩ := hz
  have := h j
  omega
theorem secN_getD (f : Nat → Int) (j : Nat) (hj : j < 32) : (secN f).getD j 0 = (f j).toNat := by simp [secN, List.getD, hj]
theorem secL_BL {f : Nat → Int} (h : Byt f) : secL f = BL (secN f) := by
  simp only [secL, BL, secN, List.map_map]
  apply List.map_congr_left
  intro j _
  have := h j
  simp only [Function.comp]
  congr 1
  omega
/-- The first k sectors of page P. -/
def pgN (d : DS) (P : Nat) : Nat → List Nat
  | 0 => []
  | k + 1 => pgN d P k ++ secN (d.sec (4 * P + k))
theorem pgN_length (d : DS) (P : Nat) : ∀ k, (pgN d P k).length = 32 * k
  | 0 => rfl
  | k + 1 => by simp only [pgN, List.length_append, pgN_length d P k, secN_length]; omega
theorem pgN_lt {d : DS} (h : ByteD d) (P : Nat) : ∀ k, ∀ z ∈ pgN d P k, z < 256
  | 0, z, hz => by cases hz
  | k + 1, z, hz => by
    simp only [pgN, List.mem_append] at hz
    rcases hz with hz | hz
    · exact pgN_lt h P k z hz
    · exact secN_lt (h.sec _) z hz
/-- The sector number k of a page's bytes. -/
def secF (Z : List Nat) (k : Nat) : Nat → Int := fun j => (((Z.drop (32 * k)).take 32).getD j 0 : Nat)
theorem secF_byt {Z : List Nat} (h : ∀ z ∈ Z, z < 256) (k : Nat) : Byt (secF Z k) := by
  intro j
  have := getD_byte (zs := (Z.drop (32 * k)).take 32) (fun z hz => h z (List.mem_of_mem_drop (List.mem_of_mem_take hz))) j
  unfold secF
  omega
theorem secN_secF (Z : List Nat) (k : Nat) (h : 32 * k + 32 ≤ Z.length) : secN (secF Z k) = (Z.drop (32 * k)).take 32 := by
  apply List.ext_getElem
  · rw [secN_length]; simp; omega
  · intro i h1 h2
    rw [secN_length] at h1
    simp only [secN, List.getElem_map, List.getElem_range, secF, Int.toNat_natCast, List.getD]
    rw [List.getElem?_eq_getElem h2]
    rfl
/-- The first k sectors of page P are written. -/
def DS.wr4 (d : DS) (P : Nat) (Z : List Nat) : Nat → Int × DS
  | 0 => (0, d)
  | k + 1 => if (d.wr4 P Z k).1 = 0 then (d.wr4 P Z k).2.write ((4 * P + k : Nat) : Int) (secF Z k) 32 else d.wr4 P Z k
/-- What pages.Write answers, and what it leaves. -/
def DS.wpage (d : DS) (P : Int) (id : Nat) (D : List Nat) : Int × DS :=
  if P < 0 ∨ ((d.n / 4 : Nat) : Int) ≤ P then (4, d) else if 116 < D.length then (11, d) else d.wr4 P.toNat (page id D) 4
theorem wr4_facts (d : DS) (P : Nat) (Z : List Nat) (hz : ∀ z ∈ Z, z < 256) (hb : ByteD d) (hg : Good d) : ∀ k, ByteD (d.wr4 P Z k).2 ∧ Good (d.wr4 P Z k).2 ∧ (d.wr4 P Z k).2.n = d.n ∧ (d.wr4 P Z k).2.pend.length ≤ d.pend.length + k
  | 0 => ⟨hb, hg, rfl, Nat.le_refl _⟩
  | k + 1 => by
    obtain ⟨h1, h2, h3, h4⟩ := wr4_facts d P Z hz hb hg k
    simp only [DS.wr4]
    split
    · refine ⟨h1.write _ _ _ (secF_byt hz k), h2.write _ _ _, (write_n _ _ _ _).trans h3, ?_⟩
      have := write_len2 (d.wr4 P Z k).2 ((4 * P + k : Nat) : Int) (secF Z k) 32
      omega
    · exact ⟨h1, h2, h3, by omega⟩
theorem wpage_facts {d : DS} (P : Int) (id : Nat) (D : List Nat) (hz : ∀ z ∈ D, z < 256) (hb : ByteD d) (hg : Good d) : ByteD (d.wpage P id D).2 ∧ Good (d.wpage P id D).2 ∧ (d.wpage P id D).2.n = d.n ∧ (d.wpage P id D).2.pend.length ≤ d.pend.length + 4 := by
  simp only [DS.wpage]
  split
  · exact ⟨hb, hg, rfl, Nat.le_add_right _ _⟩
  · split
    · exact ⟨hb, hg, rfl, Nat.le_add_right _ _⟩
    · exact wr4_facts d P.toNat (page id D) (page_lt id D hz) hb hg 4
end Go.Proofs.YtpoakkdkibameaaGreat
namespace Go.Proofs.YtpoakkdkibameaaGreat
open Go.RowKit
set_option linter.unusedSimpArgs false
set_option linter.unusedVariables false

set_option maxHeartbeats 400000 in
theorem rcount_any (r n : Nat) (w : World) (hn : n ≤ 8192) (h0 : w.cell? ⟨r, 0, none⟩ = some (.int .i64 n)) :
    Calls Tryz.prog 92 #[.pointer (some ⟨r, 0, none⟩)] w fun e w' => e = .returned (.int .i64 ((n / 4 : Nat) : Int)) ∧ w' = w := by
  go_enter Tryz.func92, Tryz.ntmps92
  go_wp2
  go_ret
  exact ⟨by simp, rfl⟩
set_option maxHeartbeats 400000 in
theorem preach_out (p S n c : Nat) (P : Int) (w : World) (hn : n ≤ 8192) (h0 : w.cell? ⟨p, 0, none⟩ = some (.slice (some ⟨S, 0, none⟩) n c)) (hP : P < 0 ∨ ((n / 4 : Nat) : Int) ≤ P) :
    Calls Tryz.prog 108 #[.pointer (some ⟨p, 0, none⟩), .int .i64 P] w fun e w' => e = .returned (.int .i64 4) ∧ w' = w := by
  by_cases h : P < 0
  · clear h0
    go_enter Tryz.func108, Tryz.ntmps108
    go_wp2
    go_ret
    exact ⟨rfl, rfl⟩
  · have h2 : ((n / 4 : Nat) : Int) ≤ P := by omega
    have HC := count_any p S n c w hn h0
    obtain ⟨q, hq⟩ : ∃ q, q = n / 4 := ⟨_, rfl⟩
    rw [← hq] at h2 HC
    clear h0 hP hq
    go_enter Tryz.func108, Tryz.ntmps108
    go_wp2_with fail
    refine HC.mono ?_
    rintro e w1 ⟨rfl, rfl⟩
    go_wp2
    go_ret
    exact ⟨rfl, rfl⟩
set_option maxHeartbeats 400000 in
theorem preach_in (p S n c : Nat) (P : Nat) (w : World) (hn : n ≤ 8192) (h0 : w.cell? ⟨p, 0, none⟩ = some (.slice (some ⟨S, 0, none⟩) n c)) (hP : P < n / 4) :
    Calls Tryz.prog 108 #[.pointer (some ⟨p, 0, none⟩), .int .i64 P] w fun e w' => e = .returned (.int .i64 0) ∧ w' = w := by
  have h : ¬ (P : Int) < 0 := by omega
  have h2 : ¬ ((n / 4 : Nat) : Int) ≤ (P : Int) := by omega
  have HC := count_any p S n c w hn h0
  obtain ⟨q, hq⟩ : ∃ q, q = n / 4 := ⟨_, rfl⟩
  rw [← hq] at h2 HC
  clear h0 hP hq
  go_enter Tryz.func108, Tryz.ntmps108
  go_wp2_with fail
  refine HC.mono ?_
  rintro e w1 ⟨rfl, rfl⟩
  go_wp2
  go_ret
  exact ⟨rfl, rfl⟩

/-- What a write of a page leaves of a disk in memory. -/
def WrIs (w : World) (B p S : Nat) (pv : Value) (r : Int × DS) (e : Ending) (w' : World) : Prop :=
  e = .returned (.int .i64 r.1) ∧ ∃ pv', DiskAt w' B p S pv' r.2 ∧ Only (diskB p S pv) w w' ∧ (∀ b, pv'.ownBlock = some b → pv.ownBlock = some b ∨ w.heap.size ≤ b)
theorem row_of_bytes {w : World} {v : Value} {zs : List Nat} (h : BytesAt w v zs) (f : Nat → Int) (hf : ∀ j, j < zs.length → f j = (zs.getD j 0 : Nat)) : RowAt w v zs.length 1 (fun j => .int .u8 (f j)) := by
  rcases h.1 with ⟨rfl, h0⟩ | ⟨ad, c, rfl, hkc, hc⟩
  · exact .inl ⟨rfl, h0⟩
  · refine .inr ⟨ad, c, rfl, hkc, fun j hj => ?_⟩
    rw [hc j hj]
    show some _ = some (Value.int IntKind.u8 (f j))
    rw [hf j (by omega)]

set_option maxRecDepth 100000 in
set_option maxHeartbeats 2000000 in
theorem pwrite_in (p S B id : Nat) (P : Nat) (pv v : Value) (d : DS) (D : List Nat) (w : World) (h : DiskAt w B p S pv d) (hB : B ≤ w.heap.size) (hv : BytesAt w v D) (hid : id < 4294967296) (hD : D.length ≤ 116) (hP : P < d.n / 4) (hp : d.pend.length ≤ 1048576000) (hb : ByteD d) (hg : Good d) :
    Calls Tryz.prog 78 #[.pointer (some ⟨p, 0, none⟩), .int .i64 P, .int .u32 id, v] w fun e w' => WrIs w B p S pv (d.wr4 P (page id D) 4) e w' := by
  obtain ⟨c0, hc0⟩ := h.c0
  have HR := preach_in p S d.n c0 P w h.n2 hc0 hP
  have HPK := pack_ok id v D w hv hD hid
  have hpl := page_length id D hD
  have hfacts := wr4_facts d P (page id D) (page_lt id D hv.2.2) hb hg
  have HFA : Hid _ := hfacts
  have n2 := h.n2
  have hlt := h.lt
  obtain ⟨Z, hZ⟩ : ∃ Z, Z = page id D := ⟨_, rfl⟩
  have HLT : Hid _ := hlt
  rw [← hZ] at HPK hpl HFA
  rw [← hZ]
  have HD : Hid (DiskAt w B p S pv d) := h
  have HPL : Hid (Z.length = 128) := hpl
  have hP2 : P < 2048 := by omega
  have HPN : Hid (P < d.n / 4) := hP
  have HPE : Hid (d.pend.length ≤ 1048576000) := hp
  clear h hc0 hv hfacts hZ hb hg hlt hP hp
  go_enter Tryz.func78, Tryz.ntmps78
  go_wp2_with fail
  refine HR.mono ?_
  rintro e w1 ⟨rfl, rfl⟩
  clear HR
  go_wp2_with fail
  refine HPK.mono ?_
  rintro e w2 ⟨rfl, hbk, ho2⟩
  clear HPK
  obtain ⟨g, hgg⟩ : ∃ g, g = w1.heap.size := ⟨_, rfl⟩
  have HGG : Hid (g = w1.heap.size) := hgg
  rw [← hgg] at hbk
  rw [← hgg]
  have HBK : Hid (Blk w2 g Z) := hbk
  have HO2 : Hid (Only (fun _ => False) w1 w2) := ho2
  have HD2 : Hid (DiskAt w2 B p S pv d) := HD.out.frame ho2 (fun _ _ e => e)
  clear hbk ho2 hgg
  go_wp2_with fail
  go_loopw [29] (fun t wr => ∃ k : Nat, k ≤ 4 ∧ t = .int .i64 k ∧ (d.wr4 P Z k).1 = 0 ∧ (∃ pv', DiskAt wr B p S pv' (d.wr4 P Z k).2 ∧ (∀ b, pv'.ownBlock = some b → pv.ownBlock = some b ∨ g < b)) ∧ Blk wr g Z ∧ Only (diskB p S pv) w1 wr) (fun t _ => 4 - (intOf t).toNat)
  case atStart => exact ⟨0, by omega, rfl, rfl, ⟨pv, HD2.out, fun b hb => .inl hb⟩, HBK.out, HO2.out.mono (fun _ _ e => e.elim)⟩
  case round =>
    obtain ⟨k, hk, rfl, h0, ⟨pv', hd, hown⟩, hbl, ho⟩ := hrel
    obtain ⟨w3, rfl⟩ : ∃ w3, w3 = wr := ⟨_, rfl⟩
    have HO3 : Hid (Only (diskB p S pv) w1 w3) := ho
    by_cases hlt : k < 4
    · have k1 : (k : Int) < 4 := by omega
      have m1 : IntKind.i64.wrap ((P : Int) * 4) = (P : Int) * 4 := by rw [IntKind.wrap_i64]; omega
      have m2 : IntKind.i64.wrap ((P : Int) * 4 + (k : Int)) = (P : Int) * 4 + (k : Int) := by rw [IntKind.wrap_i64]; omega
      have m3 : IntKind.i64.wrap ((k : Int) * 32) = (k : Int) * 32 := by rw [IntKind.wrap_i64]; omega
      obtain ⟨o, ho'⟩ : ∃ o, o = k * 32 := ⟨_, rfl⟩
      have m4 : (k : Int) * 32 = (o : Int) := by omega
      rw [m4] at m3
      have HPC := piece_pos g 0 128 128 o 32 w3 (by omega) (by omega) (by omega)
      rw [Nat.zero_add] at HPC
      obtain ⟨q, hq⟩ : ∃ q, q = 4 * P + k := ⟨_, rfl⟩
      have m5 : (P : Int) * 4 + (k : Int) = (q : Int) := by omega
      rw [m5] at m2
      have hbs := hbl.bytes o 32 32 (by have := HPL.out; omega) (by omega)
      have e32 : ((Z.drop o).take 32).length = 32 := by rw [List.length_take, List.length_drop, HPL.out]; omega
      have hrow := row_of_bytes hbs (secF Z k) (fun j hj => by rw [show o = 32 * k by omega]; rfl)
      rw [e32] at hrow
      obtain ⟨f1, f2, f3, f4⟩ := HFA.out k
      have HW : Hid (Calls Tryz.prog 58 #[.pointer (some ⟨p, 0, none⟩), .int .i64 q, .slice (some ⟨g, o, none⟩) 32 32] w3 fun e w' => WrIs w3 B p S pv' ((d.wr4 P Z k).2.write q (secF Z k) 32) e w') :=
        write_all p S 32 32 B _ pv' (d.wr4 P Z k).2 q (secF Z k) w3 hd hrow (by have := ho.size; omega) (by have := HPE.out; omega) (by omega)
      have HNE : Hid (d.wr4 P Z (k + 1) = (d.wr4 P Z k).2.write q (secF Z k) 32) := by
        show _ = _
        simp only [DS.wr4]
        rw [if_pos h0, hq]
      have hdl := hd.lt
      have HEND : Hid (∀ e w', WrIs w3 B p S pv' ((d.wr4 P Z k).2.write q (secF Z k) 32) e w' → (∃ pv2, DiskAt w' B p S pv2 (d.wr4 P Z (k + 1)).2 ∧ (∀ b, pv2.ownBlock = some b → pv.ownBlock = some b ∨ g < b)) ∧ Blk w' g Z ∧ Only (diskB p S pv) w1 w') := by
        rintro e w' ⟨he, pv2, d2, o2, hb2⟩
        have hgn : ¬ diskB p S pv' g := by
          rintro (e | e | e)
          · have := (HLT.out p (.inl rfl)).2; have := HGG.out; omega
          · have := (HLT.out S (.inr (.inl rfl))).2; have := HGG.out; omega
          · rcases hown g e with h1 | h1
            · have := (HLT.out g (.inr (.inr h1))).2; have := HGG.out; omega
            · omega
        refine ⟨⟨pv2, by rw [HNE.out]; exact d2, fun b hb => ?_⟩, hbl.frame o2 hgn, ho.trans o2 (fun i hi e => ?_)⟩
        · rcases hb2 b hb with h1 | h1
          · exact hown b h1
          · have := hbl.lt; exact .inr (by omega)
        · rcases e with e | e | e
          · exact .inl e
          · exact .inr (.inl e)
          · rcases hown i e with h1 | h1
            · exact .inr (.inr h1)
            · have := HGG.out; omega
      have HR0 : Hid (((d.wr4 P Z k).2.write q (secF Z k) 32).1 = 0 ∨ (((d.wr4 P Z k).2.write q (secF Z k) 32).1 ≠ 0 ∧ d.wr4 P Z 4 = (d.wr4 P Z k).2.write q (secF Z k) 32)) := by
        by_cases e : ((d.wr4 P Z k).2.write q (secF Z k) 32).1 = 0
        · exact .inl e
        · refine .inr ⟨e, ?_⟩
          have stop : ∀ j, d.wr4 P Z (k + 1 + j) = d.wr4 P Z (k + 1) := by
            intro j
            induction j with
            | zero => rfl
            | succ j ih =>
              show (if (d.wr4 P Z (k + 1 + j)).1 = 0 then _ else d.wr4 P Z (k + 1 + j)) = _
              rw [ih, if_neg (by rw [HNE.out]; exact e)]
          have := stop (4 - (k + 1))
          rw [show k + 1 + (4 - (k + 1)) = 4 by omega, HNE.out] at this
          exact this
      obtain ⟨x, hx⟩ : ∃ x, x = ((d.wr4 P Z k).2.write q (secF Z k) 32).1 := ⟨_, rfl⟩
      have HX : Hid (x = ((d.wr4 P Z k).2.write q (secF Z k) 32).1) := hx
      clear h0 hd hown hbl ho hbs e32 hrow f1 f2 f3 f4 hdl ho' hq hx
      go_wp2_with fail
      refine HPC.mono ?_
      rintro e w4 ⟨rfl, rfl⟩
      clear HPC
      go_wp2_with fail
      refine (show Calls Tryz.prog 58 _ _ _ from HW.out).mono ?_
      intro e w5 hWI
      have HE5 : Hid _ := HEND.out e w5 hWI
      have HWI : Hid (WrIs w4 B p S pv' ((d.wr4 P Z k).2.write q (secF Z k) 32) e w5) := hWI
      obtain ⟨rfl, _⟩ := hWI
      rw [← HX.out]
      clear HW HEND
      by_cases hx0 : x = 0
      · have he : (x != 0) = false := by simp [hx0]
        have HX0 : Hid (x = 0) := hx0
        clear hx0
        go_wp2
        go_roundw
        case rel => exact ⟨k + 1, by omega, by go_num, by rw [HNE.out, ← HX.out]; exact HX0.out, HE5.out.1, HE5.out.2.1, HE5.out.2.2⟩
        case measure => simp [intOf]; omega
      · have he : (x != 0) = true := by simp [hx0]
        have HFI : Hid (d.wr4 P Z 4 = (d.wr4 P Z k).2.write q (secF Z k) 32) := by
          rcases HR0.out with h1 | h1
          · exact absurd (HX.out.trans h1) hx0
          · exact h1.2
        clear hx0
        go_wp2
        go_ret
        show WrIs w1 B p S pv (d.wr4 P Z 4) _ _
        refine ⟨by rw [HFI.out, ← HX.out]; rfl, ?_⟩
        obtain ⟨pv2, q1, q2⟩ := HE5.out.1
        rw [HNE.out, ← HFI.out] at q1
        exact ⟨pv2, q1, HE5.out.2.2, fun b hb => (q2 b hb).imp (fun h => h) (fun h => by have := HGG.out; omega)⟩
    · obtain rfl : k = 4 := by omega
      have HH : Hid (WrIs w1 B p S pv (d.wr4 P Z 4) (.returned (.int .i64 0)) w3) := by
        refine ⟨by rw [h0], pv', hd, ho, fun b hb => (hown b hb).imp (fun h => h) (fun h => by have := HGG.out; omega)⟩
      clear h0 hd hown hbl ho
      go_wp2
      go_ret
      exact HH.out
set_option maxHeartbeats 400000 in
theorem pwrite_out (p S n c : Nat) (P i : Int) (v : Value) (w : World) (hn : n ≤ 8192) (h0 : w.cell? ⟨p, 0, none⟩ = some (.slice (some ⟨S, 0, none⟩) n c)) (hP : P < 0 ∨ ((n / 4 : Nat) : Int) ≤ P) :
    Calls Tryz.prog 78 #[.pointer (some ⟨p, 0, none⟩), .int .i64 P, .int .u32 i, v] w fun e w' => e = .returned (.int .i64 4) ∧ w' = w := by
  have HR := preach_out p S n c P w hn h0 hP
  clear h0 hP
  go_enter Tryz.func78, Tryz.ntmps78
  go_wp2_with fail
  refine HR.mono ?_
  rintro e w1 ⟨rfl, rfl⟩
  go_wp2
  go_ret
  exact ⟨rfl, rfl⟩
set_option maxHeartbeats 400000 in
theorem pwrite_large (p S n c m cc : Nat) (a : Option Addr) (P : Nat) (i : Int) (w : World) (hn : n ≤ 8192) (h0 : w.cell? ⟨p, 0, none⟩ = some (.slice (some ⟨S, 0, none⟩) n c)) (hP : P < n / 4) (hm : 116 < m) :
    Calls Tryz.prog 78 #[.pointer (some ⟨p, 0, none⟩), .int .i64 P, .int .u32 i, .slice a m cc] w fun e w' => e = .returned (.int .i64 11) ∧ w' = w := by
  have HR := preach_in p S n c P w hn h0 hP
  have HP := pack_large i a m cc w hm
  clear h0 hP
  go_enter Tryz.func78, Tryz.ntmps78
  go_wp2_with fail
  refine HR.mono ?_
  rintro e w1 ⟨rfl, rfl⟩
  go_wp2_with fail
  refine HP.mono ?_
  rintro e w2 ⟨rfl, rfl⟩
  go_wp2
  go_ret
  exact ⟨rfl, rfl⟩
theorem pwrite_all (p S B : Nat) (P : Int) (id : Nat) (pv v : Value) (d : DS) (D : List Nat) (w : World) (h : DiskAt w B p S pv d) (hB : B ≤ w.heap.size) (hv : BytesAt w v D) (hid : id < 4294967296) (hp : d.pend.length ≤ 1048576000) (hb : ByteD d) (hg : Good d) :
    Calls Tryz.prog 78 #[.pointer (some ⟨p, 0, none⟩), .int .i64 P, .int .u32 id, v] w fun e w' => WrIs w B p S pv (d.wpage P id D) e w' := by
  obtain ⟨c0, hc0⟩ := h.c0
  by_cases h1 : P < 0 ∨ ((d.n / 4 : Nat) : Int) ≤ P
  · have e : d.wpage P id D = (4, d) := by unfold DS.wpage; rw [if_pos h1]
    rw [e]
    refine (pwrite_out p S d.n c0 P id v w h.n2 hc0 h1).mono ?_
    rintro e w' ⟨rfl, rfl⟩
    exact ⟨rfl, pv, h, Only.refl _ _, fun b hb => .inl hb⟩
  · obtain ⟨Q, rfl⟩ : ∃ Q : Nat, P = Q := ⟨P.toNat, by omega⟩
    by_cases h2 : 116 < D.length
    · have e : d.wpage Q id D = (11, d) := by unfold DS.wpage; rw [if_neg h1, if_pos h2]
      rw [e]
      obtain ⟨a, c, rfl, _, _⟩ := hv.form
      refine (pwrite_large p S d.n c0 D.length c a Q id w h.n2 hc0 (by omega) h2).mono ?_
      rintro e w' ⟨rfl, rfl⟩
      exact ⟨rfl, pv, h, Only.refl _ _, fun b hb => .inl hb⟩
    · have e : d.wpage Q id D = d.wr4 Q (page id D) 4 := by unfold DS.wpage; rw [if_neg h1, if_neg h2]; rfl
      rw [e]
      exact pwrite_in p S B id Q pv v d D w h hB hv hid (by omega) (by omega) hp hb hg
end Go.Proofs.YtpoakkdkibameaaGreat
