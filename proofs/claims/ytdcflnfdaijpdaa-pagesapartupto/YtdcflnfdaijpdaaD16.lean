/- What Live, Barrier, Write and Crash leave of a disk; what taking back comes to. -/
import Derived.Test.YtdcflnfdaijpdaaD10
import Derived.Test.YtdcflnfdaijpdaaFirst
namespace Go.Proofs.Ytdcflnfdaijpdaa
open Go.RowKit
set_option linter.unusedSimpArgs false
set_option linter.unusedVariables false

def allL (n : Nat) (sec : Nat → Nat → Int) : List Value := (List.range (n * 32)).map fun k => .int .u8 (sec (k / 32) (k % 32))
theorem allL_length (n : Nat) (sec : Nat → Nat → Int) : (allL n sec).length = n * 32 := by simp [allL]
theorem allL_get (n : Nat) (sec : Nat → Nat → Int) (i j : Nat) (hi : i < n) (hj : j < 32) : (allL n sec)[i * 32 + j]? = some (.int .u8 (sec i j)) := by
  have h1 : i * 32 + j < n * 32 := by omega
  have h2 : (i * 32 + j) / 32 = i := by omega
  have h3 : (i * 32 + j) % 32 = j := by omega
  simp [allL, h1, h2, h3]
theorem allL_one (n : Nat) (sec : Nat → Nat → Int) : ∀ v ∈ allL n sec, v.oneCell' = true := by
  intro v hv
  simp only [allL, List.mem_map] at hv
  obtain ⟨k, _, rfl⟩ := hv
  rfl
theorem wrsL_one (l : List Wr) : ∀ v ∈ wrsL l, v.oneCell' = true := by
  intro v hv
  simp only [wrsL, List.mem_flatMap] at hv
  obtain ⟨x, _, hx⟩ := hv
  exact wrL_one _ _ _ v hx

theorem ownsRow_base {w : World} {B B' e size n : Nat} {v : Value} {xs : List Value} (h : w.ownsRow B e size v n xs) (hb : B' ≤ B) : w.ownsRow B' e size v n xs := by
  refine ⟨h.1, h.2.imp id ?_⟩
  rintro ⟨g, cap, cur, h1, h2, rest⟩
  exact ⟨g, cap, cur, h1, by omega, rest⟩


set_option maxHeartbeats 400000 in
theorem live_any (p S B : Nat) (pv : Value) (d : DS) (n : Int) (w : World) (h : DiskAt w B p S pv d) (h1 : -1 ≤ n) (h2 : n ≤ 9223372036854775807) :
    Calls Try.prog 41 #[.pointer (some ⟨p, 0, none⟩), .int .i64 n] w fun e w' => e = .returned (.int .i64 0) ∧ DiskAt w' B p S pv { d with life := n } ∧ Only (fun i => i = p) w w' := by
  refine (live_ok p _ n w h1 h.c2 h.f2).mono ?_
  rintro e w' ⟨rfl, rfl⟩
  have oP : Only (fun i => i = p) w (w.setCell ⟨p, 2, none⟩ (.int .i64 n)) := (Only.refl (fun i => i = p) w).setCell _ _ (fun _ => rfl)
  have hSp : S ≠ p := Ne.symm h.pS
  obtain ⟨c, hc⟩ := h.c0
  refine ⟨rfl, ?_, oP⟩
  exact { pB := h.pB, SB := h.SB, pS := h.pS
          c0 := ⟨c, by rw [World.cell?_setCell_other _ _ _ _ (by simp)]; exact hc⟩
          c1 := by rw [World.cell?_setCell_other _ _ _ _ (by simp)]; exact h.c1
          c2 := World.cell?_setCell_same _ _ _ h.c2
          f1 := by simpa using h.f1
          f2 := by simpa using h.f2
          secs := fun i hi => ⟨oP.range (h.secs i hi).1 hSp, oP.there (h.secs i hi).2 hSp⟩
          own := oP.owns h.own (fun k hk e => h.hp (by rw [hk, e]))
          hp := h.hp, hS := h.hS, n1 := h.n1, n2 := h.n2, at_ := h.at_, l1 := h1, l2 := h2 }

theorem barred {W W' : World} {B p S : Nat} {pv : Value} {d : DS} (h : DiskAt W B p S pv d) (l : Int) (hl1 : -1 ≤ l) (hl2 : l ≤ 9223372036854775807) (oP : Only (fun i => i = p) W W') (e0 : ∀ v, W.cell? ⟨p, 0, none⟩ = some v → W'.cell? ⟨p, 0, none⟩ = some v)
    (e1 : W'.cell? ⟨p, 1, none⟩ = some (.slice none 0 0)) (e2 : W'.cell? ⟨p, 2, none⟩ = some (.int .i64 l)) (f : ∀ a, W'.frozen? a = W.frozen? a) : DiskAt W' B p S (.slice none 0 0) { d with pend := [], life := l } := by
  have hSp : S ≠ p := Ne.symm h.pS
  obtain ⟨c, hc⟩ := h.c0
  exact { pB := h.pB, SB := h.SB, pS := h.pS
          c0 := ⟨c, e0 _ hc⟩
          c1 := e1
          c2 := e2
          f1 := (f _).trans h.f1
          f2 := (f _).trans h.f2
          secs := fun i hi => ⟨oP.range (h.secs i hi).1 hSp, oP.there (h.secs i hi).2 hSp⟩
          own := World.ownsRow_nil _ _ _ _
          hp := by simp [Value.ownBlock]
          hS := by simp [Value.ownBlock]
          n1 := h.n1, n2 := h.n2
          at_ := fun x hx => by cases hx
          l1 := hl1, l2 := hl2 }
/-- Barrier on a disk that lives. -/
theorem barrier_any (p S B : Nat) (pv : Value) (d : DS) (w : World) (h : DiskAt w B p S pv d) (hl : d.life ≠ 0) :
    Calls Try.prog 39 #[.pointer (some ⟨p, 0, none⟩)] w fun e w' => e = .returned (.int .i64 0) ∧ DiskAt w' B p S (.slice none 0 0) { d with pend := [], life := aged d.life } ∧ Only (fun i => i = p) w w' := by
  have h1 := h.l1
  have h2 := h.l2
  by_cases e : d.life = -1
  · refine (barrier_end p _ w h.c1 h.f1 (by rw [← e]; exact h.c2)).mono ?_
    rintro e' w' ⟨rfl, rfl⟩
    have oP : Only (fun i => i = p) w (w.setCell ⟨p, 1, none⟩ (.slice none 0 0)) := (Only.refl (fun i => i = p) w).setCell _ _ (fun _ => rfl)
    refine ⟨rfl, barred h _ (by simp [aged, e]) (by simp [aged, e]) oP (fun v hv => by rw [World.cell?_setCell_other _ _ _ _ (by simp)]; exact hv) (World.cell?_setCell_same _ _ _ h.c1) ?_ (fun a => by simp), oP⟩
    rw [World.cell?_setCell_other _ _ _ _ (by simp), h.c2, e]; rfl
  · refine (barrier_less p _ d.life w h.c1 h.f1 h.c2 h.f2 (by omega) h2).mono ?_
    rintro e' w' ⟨rfl, rfl⟩
    have oP : Only (fun i => i = p) w ((w.setCell ⟨p, 1, none⟩ (.slice none 0 0)).setCell ⟨p, 2, none⟩ (.int .i64 (d.life - 1))) := ((Only.refl (fun i => i = p) w).setCell _ _ (fun _ => rfl)).setCell _ _ (fun _ => rfl)
    refine ⟨rfl, barred h _ (by simp only [aged]; split <;> omega) (by simp only [aged]; split <;> omega) oP (fun v hv => by rw [World.cell?_setCell_other _ _ _ _ (by simp), World.cell?_setCell_other _ _ _ _ (by simp)]; exact hv) ?_ ?_ (fun a => by simp), oP⟩
    · rw [World.cell?_setCell_other _ _ _ _ (by simp), World.cell?_setCell_same _ _ _ h.c1]
    · rw [World.cell?_setCell_same _ _ _ ((World.cell?_setCell_other _ _ _ _ (by simp)).trans h.c2)]
      simp [aged, e]

/-- What Write answers, and what it leaves of a disk. -/
def DS.write (d : DS) (k : Int) (f : Nat → Int) (m : Nat) : Int × DS :=
  if m ≠ 32 then (2, d) else if d.life = 0 then (3, d) else if k < 0 ∨ (d.n : Int) ≤ k then (4, d)
  else (0, { d with sec := upd d.sec k.toNat f, pend := d.pend ++ [⟨k.toNat, d.sec k.toNat, f⟩], life := aged d.life })
theorem write_all (p S m c B : Nat) (a : Option Addr) (pv : Value) (d : DS) (k : Int) (f : Nat → Int) (w : World) (h : DiskAt w B p S pv d) (hr : RowAt w (.slice a m c) m 1 (fun j => .int .u8 (f j))) (hB : B ≤ w.heap.size) (hby : (d.pend.length + 1) * 72 ≤ 140737488355328) (hm : m ≤ 140737488351232) :
    Calls Try.prog 36 #[.pointer (some ⟨p, 0, none⟩), .int .i64 k, .slice a m c] w fun e w' => e = .returned (.int .i64 (d.write k f m).1) ∧ ∃ pv', DiskAt w' B p S pv' (d.write k f m).2 ∧ Only (diskB p S pv) w w' ∧ (∀ b, pv'.ownBlock = some b → pv.ownBlock = some b ∨ w.heap.size ≤ b) := by
  have same : ∀ (x : Int) (e : Ending) (w' : World), d.write k f m = (x, d) → e = .returned (.int .i64 x) ∧ w' = w → e = .returned (.int .i64 (d.write k f m).1) ∧ ∃ pv', DiskAt w' B p S pv' (d.write k f m).2 ∧ Only (diskB p S pv) w w' ∧ (∀ b, pv'.ownBlock = some b → pv.ownBlock = some b ∨ w.heap.size ≤ b) := by
    rintro x e w' hw ⟨rfl, rfl⟩
    rw [hw]
    exact ⟨rfl, pv, h, Only.refl _ _, fun b hb => .inl hb⟩
  obtain ⟨c0, hc0⟩ := h.c0
  by_cases e1 : m = 32
  · subst e1
    by_cases e2 : d.life = 0
    · refine (write_dead p c a k w (by rw [← e2]; exact h.c2)).mono fun e w' hh => same 3 e w' (by simp [DS.write, e2]) hh
    · by_cases e3 : k < 0 ∨ (d.n : Int) ≤ k
      · refine (write_out p S d.n c0 c a d.life k w hc0 h.c2 (by simpa using e2) e3).mono fun e w' hh => same 4 e w' (by simp [DS.write, e2, e3]) hh
      · obtain ⟨g, o, c', hv, hcell, hg⟩ := hr.at (by omega)
        simp only [Value.slice.injEq] at hv
        obtain ⟨rfl, _, rfl⟩ := hv
        have hk : k = (k.toNat : Int) := by omega
        have hrange : w.rangeAt g o (secL f) := fun j v hv => by
          have hj : j < 32 := by have := (List.getElem?_eq_some_iff.1 hv).1; rwa [secL_length] at this
          rw [secL_get _ _ hj] at hv
          rw [hcell j (by omega)]; exact hv
        have hwr : d.write k f 32 = (0, { d with sec := upd d.sec k.toNat f, pend := d.pend ++ [⟨k.toNat, d.sec k.toNat, f⟩], life := aged d.life }) := by simp [DS.write, e2, e3]
        rw [hwr]
        have := write_ok p S k.toNat g o c B pv d f w h e2 (by omega) hrange hB hby
        rw [← hk] at this
        exact this
  · refine (write_len _ k a m c w (by simp; omega)).mono fun e w' hh => same 2 e w' (by simp [DS.write, e1]) hh
/-- What Crash answers, and what it leaves of a disk. -/
def DS.crash (d : DS) (ks : List Bool) (torn cut : Int) : Int × DS :=
  if cut < 0 ∨ 32 < cut then (2, d) else (0, ⟨d.n, crashTo (fun i => decide (i < ks.length) && ks.getD i false) torn cut.toNat d.pend (undoW d.pend d.sec) d.pend.length, [], -1⟩)
theorem crash_all (p S B : Nat) (pv kv : Value) (d : DS) (ks : List Bool) (torn cut : Int) (w : World) (h : DiskAt w B p S pv d) (hk : DFlags w kv ks.length (fun j => ks.getD j false) S) :
    Calls Try.prog 43 #[.pointer (some ⟨p, 0, none⟩), kv, .int .i64 torn, .int .i64 cut] w fun e w' => e = .returned (.int .i64 (d.crash ks torn cut).1) ∧ ∃ pv', DiskAt w' B p S pv' (d.crash ks torn cut).2 ∧ Only (fun i => i = p ∨ i = S) w w' ∧ (∀ b, pv'.ownBlock = some b → pv.ownBlock = some b) := by
  by_cases e : cut < 0 ∨ 32 < cut
  · have hw : d.crash ks torn cut = (2, d) := by simp [DS.crash, e]
    rw [hw]
    refine (crash_bad p kv torn cut w e).mono ?_
    rintro e' w' ⟨rfl, rfl⟩
    exact ⟨rfl, pv, h, Only.refl _ _, fun _ hb => hb⟩
  · have hw : d.crash ks torn cut = (0, ⟨d.n, crashTo (fun i => decide (i < ks.length) && ks.getD i false) torn cut.toNat d.pend (undoW d.pend d.sec) d.pend.length, [], -1⟩) := by simp [DS.crash, e]
    rw [hw]
    have hc : cut = (cut.toNat : Int) := by omega
    have := crash_any p S B ks.length cut.toNat pv kv (fun j => ks.getD j false) torn d w h (by omega) hk
    rw [← hc] at this
    refine this.mono ?_
    rintro e' w' ⟨he, hd, ho⟩
    exact ⟨he, _, hd, ho, fun b hb => by simp [Value.ownBlock] at hb⟩
theorem flags_own {w : World} {B m cap S : Nat} {a : Option Addr} {f : Nat → Bool} (h : w.ownsRow B 4 1 (.slice a m cap) m ((List.range m).map fun j => .bool (f j))) (hm : m ≤ maxLen) (hS : S < B) : DFlags w (.slice a m cap) m f S := by
  refine ⟨a, cap, rfl, hm, fun i hi => ?_⟩
  rcases h.2 with ⟨_, h2⟩ | ⟨g, c2, cur, hv, hg, _⟩
  · omega
  · simp only [Value.slice.injEq] at hv
    obtain ⟨rfl, _, rfl⟩ := hv
    refine ⟨g, 0, rfl, by omega, ?_⟩
    rw [Nat.zero_add, h.cellAt i (by omega)]
    simp [hi]
def HasN (w : World) (p S n : Nat) : Prop := ∃ c, w.cell? ⟨p, 0, none⟩ = some (.slice (some ⟨S, 0, none⟩) n c)
theorem lenN (p S n : Nat) (w : World) (h : HasN w p S n) : Calls Try.prog 46 #[.pointer (some ⟨p, 0, none⟩)] w fun e w' => e = .returned (.int .i64 n) ∧ w' = w := by
  obtain ⟨c, h⟩ := h
  exact len_any p S n c w h
theorem allL_succ (k : Nat) (sec : Nat → Nat → Int) : allL (k + 1) sec = allL k sec ++ secL (sec k) := by
  simp only [allL, secL]
  rw [show (k + 1) * 32 = k * 32 + 32 by omega, List.range_add, List.map_append, List.map_map]
  congr 1
  apply List.map_congr_left
  intro j hj
  have hj' : j < 32 := by simpa using hj
  simp only [Function.comp]
  rw [show (k * 32 + j) / 32 = k by omega, show (k * 32 + j) % 32 = j by omega]
theorem allL_congr (n : Nat) (f g : Nat → Nat → Int) (h : ∀ i, i < n → ∀ j, j < 32 → f i j = g i j) : allL n f = allL n g := by
  simp only [allL]
  apply List.map_congr_left
  intro k hk
  have hk' : k < n * 32 := by simpa using hk
  rw [h (k / 32) (by omega) (k % 32) (by omega)]

theorem wpList_append_runG {P : Program} {op : Oper} {a : Act} {w w' : World} {Q : Exit → Act → World → Prop} {ops : Array Oper} {rest : List Oper} (s x : Operand) (t : TypeId) (ho : op.op = .call { callee := .builtin .append, args := #[s, x], argTypes := #[t, t] }) (hw : Region.wanted op (yielded ops a.tmps) = true) (v1 v2 v' : Value) (hs : a.eval s = v1) (hx : a.eval x = v2)
    (hr : ∀ ty, (Builtin.append_ #[t, t] ty #[v1, v2]).run P w = .ok v' w') (h : wpList P ops Q rest (a.put op.dst v') w') : wpList P ops Q (op :: rest) a w :=
  wpList_step fun _ hK => by rw [if_pos hw]; exact wp_append_run s x t ho v1 v2 v' hs hx (hr _) (hK _ _ h)

theorem upd_back (s : Nat → Nat → Int) (k : Nat) (f : Nat → Int) : upd (upd s k f) k (s k) = s := by
  funext i
  by_cases e : i = k
  · subst e; simp [upd]
  · simp [upd, e]
theorem undoW_snoc (ws : List Wr) (x : Wr) (s : Nat → Nat → Int) : undoW (ws ++ [x]) s = undoW ws (upd s x.at_ x.bef) := by simp [undoW]
theorem undoW_write (ws : List Wr) (k : Nat) (f : Nat → Int) (s : Nat → Nat → Int) : undoW (ws ++ [⟨k, s k, f⟩]) (upd s k f) = undoW ws s := by
  rw [undoW_snoc, upd_back]
theorem undoW_nil (s : Nat → Nat → Int) : undoW [] s = s := rfl
theorem crashTo_none (kp : Nat → Bool) (torn : Int) (cut : Nat) (ws : List Wr) (s : Nat → Nat → Int) (h : ∀ i, kp i = false) : ∀ m, crashTo kp torn cut ws s m = s
  | 0 => rfl
  | m + 1 => by rw [crashTo_no _ _ _ _ _ _ (h m)]; exact crashTo_none kp torn cut ws s h m
theorem crashTo_prefix (kp : Nat → Bool) (torn : Int) (cut : Nat) (ws : List Wr) (x : Wr) (s : Nat → Nat → Int) : ∀ m, m ≤ ws.length → crashTo kp torn cut (ws ++ [x]) s m = crashTo kp torn cut ws s m
  | 0, _ => rfl
  | m + 1, hm => by
    have ih := crashTo_prefix kp torn cut ws x s m (by omega)
    have e : (ws ++ [x])[m]? = ws[m]? := List.getElem?_append_left (by omega)
    simp only [crashTo, e, ih]
/-- A crash that keeps all pending writes leaves what is seen. -/
def Seen (d : DS) : Prop := ∀ (kp : Nat → Bool) (cut : Nat), (∀ i, i < d.pend.length → kp i = true) → ∀ i j, j < 32 → crashTo kp (-1) cut d.pend (undoW d.pend d.sec) d.pend.length i j = d.sec i j
theorem seen_nil (n : Nat) (s : Nat → Nat → Int) (l : Int) : Seen ⟨n, s, [], l⟩ := fun _ _ _ _ _ _ => rfl
theorem seen_write (d : DS) (k : Nat) (f : Nat → Int) (l : Int) (h : Seen d) : Seen { d with sec := upd d.sec k f, pend := d.pend ++ [⟨k, d.sec k, f⟩], life := l } := by
  intro kp cut hk i j hj
  simp only [List.length_append, List.length_cons, List.length_nil, Nat.zero_add] at hk ⊢
  rw [undoW_write]
  have hx : (d.pend ++ [(⟨k, d.sec k, f⟩ : Wr)])[d.pend.length]? = some ⟨k, d.sec k, f⟩ := by simp
  rw [crashTo_yes _ _ _ _ _ _ _ hx (hk _ (by omega)), crashTo_prefix _ _ _ _ _ _ _ (Nat.le_refl _), if_neg (by omega)]
  have ih := h kp cut (fun q hq => hk q (by omega)) i j hj
  by_cases e : i = k
  · subst e; simp [upd, mix, hj]
  · simp [upd, e]; exact ih
/-- What writes behind a barrier keep: what was at the barrier, and what is seen. -/
def Since (s0 : Nat → Nat → Int) (d : DS) : Prop := undoW d.pend d.sec = s0 ∧ Seen d
theorem since_write (s0 : Nat → Nat → Int) (d : DS) (k : Int) (f : Nat → Int) (m : Nat) (h : Since s0 d) : Since s0 (d.write k f m).2 := by
  simp only [DS.write]
  split
  · exact h
  · split
    · exact h
    · split
      · exact h
      · exact ⟨by simp only; rw [undoW_write]; exact h.1, seen_write d k.toNat f _ h.2⟩
theorem write_n (d : DS) (k : Int) (f : Nat → Int) (m : Nat) : (d.write k f m).2.n = d.n := by
  simp only [DS.write]; split; rfl; split; rfl; split; rfl; rfl
theorem write_life (d : DS) (k : Int) (f : Nat → Int) (m : Nat) (h : d.life = -1) : (d.write k f m).2.life = -1 := by
  simp only [DS.write]; split; exact h; split; exact h; split; exact h; simp [aged, h]
theorem write_len2 (d : DS) (k : Int) (f : Nat → Int) (m : Nat) : (d.write k f m).2.pend.length ≤ d.pend.length + 1 := by
  simp only [DS.write]; split; simp; split; simp; split; simp; simp

/-- m flags, the first k of them true. -/
def trueArr (m k : Nat) : Array Value := Array.ofFn (n := m) fun i => .bool (decide (i.val < k))
theorem trueArr_size (m k : Nat) : (trueArr m k).size = m := by simp [trueArr]
theorem trueArr_set (m k : Nat) : (trueArr m k).setIfInBounds k (.bool true) = trueArr m (k + 1) := by
  apply Array.ext
  · simp [trueArr]
  · intro i h1 h2
    simp [trueArr] at h1 h2
    simp [trueArr, Array.getElem_setIfInBounds, h1]
    by_cases e : k = i
    · subst e; simp
    · simp [e]; omega
theorem trueArr_zero (m : Nat) : madeCells (Value.bool false).cells (m * 1) = trueArr m 0 := by
  apply Array.ext
  · simp [trueArr, size_madeCells]
  · intro i h1 h2
    simp [trueArr, madeCells, Value.cells, Nat.mod_one]
theorem make_flags (m : Nat) (hm : m ≤ 140737488351232) (w : World) : (Instr.makeSlice 24 (.int .i64 m) (.int .i64 m)).run Try.prog w = .ok (.slice (some ⟨w.heap.size, 0, none⟩) m m) (w.alloc (.cells (trueArr m 0) 4)) := by
  obtain ⟨i0, hi0, hz0, hz1, hz2⟩ := info_parts info4
  have := run_make (P := Try.prog) w 24 4 i0 _ Try.underlying24 hi0 hz0 .i64 .i64 m m (by omega) (Int.le_refl _) (by rw [hz2]; omega) (by omega)
  rw [hz1, Int.toNat_natCast, trueArr_zero] at this
  exact this
theorem flags_true (m S : Nat) (w : World) (hm : m ≤ 140737488351232) (hS : S ≠ w.heap.size) : DFlags (w.alloc (.cells (trueArr m m) 4)) (.slice (some ⟨w.heap.size, 0, none⟩) m m) m (fun _ => true) S := by
  refine ⟨_, m, rfl, by unfold maxLen; omega, fun i hi => ⟨w.heap.size, 0, rfl, fun e => hS e.symm, ?_⟩⟩
  rw [cell_of_row _ _ _ _ _ _ (heap_alloc_new w _)]
  simp [trueArr, hi]
theorem DFlags.frame {w w' : World} {v : Value} {kl S : Nat} {kf : Nat → Bool} (h : DFlags w v kl kf S) (S' : Nat) (ho : Only (fun _ => False) w w') (hS : w.heap.size ≤ S') : DFlags w' v kl kf S' := by
  obtain ⟨ka, kc, hv, hm, hk⟩ := h
  refine ⟨ka, kc, hv, hm, fun i hi => ?_⟩
  obtain ⟨kb, ko, h1, h2, h3⟩ := hk i hi
  refine ⟨kb, ko, h1, ?_, ho.cell h3 (fun e => e)⟩
  have : kb < w.heap.size := World.block_lt_of_cell? w _ h3
  omega
theorem range_lt {w : World} {g n : Nat} {s : Nat → Nat → Int} (hn : 1 ≤ n) (h : w.rangeAt g 0 (allL n s)) : g < w.heap.size :=
  World.block_lt_of_cell? w ⟨g, 0 + 0, none⟩ (h 0 (.int .u8 (s 0 0)) (by simpa using allL_get n s 0 0 (by omega) (by omega)))
end Go.Proofs.Ytdcflnfdaijpdaa
