/- slices.Chunk of bytes by 112: its closure gives them part by part, to every loop body that keeps its two boxes. What takeBack leaves of a disk: each sector as it was ahead of the first pending write to it. What Crash leaves of a disk. What Crash leaves of a disk: the walk. What Crash leaves of a disk; what taking back comes to. Writes that are pending, done again and taken back. What layNumber, numberAt and allZero do. What numberAt and allZero answer. What Pack answers. Pages on a disk as numbers: what Write leaves, what is read. No program in it. -/
import Derived.Test.YtpoakkdkibameabGaf
import Derived.Test.YtpoakkdkibameabGae
import Derived.BigRegionIn
import Derived.Test.YtpoakkdkibameabGac
import Derived.Test.YtpoakkdkibameabGad
import Derived.Test.YtpoakkdkibameabGaa
namespace Go.Proofs.Ytpoakkdkibameab
open Go.RowKit
set_option linter.unusedSimpArgs false
set_option linter.unusedVariables false

attribute [local go_sem] Oper.semAt_some

/-- The two boxes stand. -/
def KpC (Bt Bn : Nat) (W W' : World) : Prop := W'.heap[Bt]? = W.heap[Bt]? ∧ W'.heap[Bn]? = W.heap[Bn]?
/-- The part k of n bytes. -/
def chV (g o n k : Nat) : Value := .slice (some ⟨g, o + 112 * k, none⟩) (min 112 (n - 112 * k)) (min 112 (n - 112 * k))
def chEnc (g o n k : Nat) : Array Value := #[chV g o n k]
theorem tabN_lt (n k : Nat) : k < tabN n ↔ 112 * k < n := by unfold tabN; omega

theorem run_min (x : Nat) (ty : TypeId) (w : World) : (Builtin.min_ #[3, 3] ty #[.int .i64 112, .int .i64 (x : Nat)]).run Try.prog w = .ok (.int .i64 ((min 112 x : Nat) : Int)) w := by
  have e : (if (x : Int) < 112 then (x : Int) else 112) = ((min 112 x : Nat) : Int) := by split <;> omega
  simp only [Builtin.min_, List.foldlM, Builtin.min2]
  rw [e]
  rfl

set_option maxRecDepth 100000 in
set_option maxHeartbeats 2000000 in
theorem chunk_core (m : Nat) (l Bt Bn g o n c : Nat) (hn : n ≤ 100000) (hc : n ≤ c) (J Jx : List Nat → World → Prop)
    (hY : ∀ k W, k < tabN n → J (List.range k) W → YieldAt Fence.wide (m - 1) Try.prog l (chEnc g o n k) W fun e W' =>
      (e = .returned (.bool true) ∧ J (List.range k ++ [k]) W' ∧ KpC Bt Bn W W') ∨ (e = .returned (.bool false) ∧ Jx (List.range k ++ [k]) W'))
    (hJd : ∀ ys W, J ys W → J ys W.drew)
    (W : World) (hBt : W.cell? ⟨Bt, 0, none⟩ = some (.slice (some ⟨g, o, none⟩) n c)) (hBn : W.cell? ⟨Bn, 0, none⟩ = some (.int .i64 112)) (h0 : J [] W) :
    CallsIn Fence.wide m Try.prog 89 #[.func (.yield l) #[] #[], .pointer (some ⟨Bt, 0, none⟩), .pointer (some ⟨Bn, 0, none⟩)] W fun e W' => (∃ v, e = .returned v) ∧ (J (List.range (tabN n)) W' ∨ ∃ k, k < tabN n ∧ Jx (List.range k ++ [k]) W') := by
  refine callsIn_of_wp Try.func89 rfl trivial ?_ rfl
  simp only [Try.ntmps89, List.size_toArray, List.length_cons, List.length_nil, Nat.reduceAdd, Nat.reduceSub, Array.replicate_succ, Array.replicate_zero, List.push_toArray, List.append_toArray, List.nil_append, List.cons_append]
  gi_wp2
  gi_loopw [4] (fun i wr => ∃ k : Nat, k ≤ tabN n ∧ i = .int .i64 ((112 * k : Nat) : Int) ∧ J (List.range k) wr ∧ KpC Bt Bn W wr) (fun i _ => 112 * tabN n - (intOf i).toNat)
  case atStart => exact ⟨0, Nat.zero_le _, rfl, h0, rfl, rfl⟩
  case round =>
    obtain ⟨k, hk, rfl, hJ, hkp⟩ := hrel
    have hb1 : wr.cell? ⟨Bt, 0, none⟩ = some (.slice (some ⟨g, o, none⟩) n c) := (World.cell?_of_block (w := W) hkp.1).trans hBt
    have hb2 : wr.cell? ⟨Bn, 0, none⟩ = some (.int .i64 112) := (World.cell?_of_block (w := W) hkp.2).trans hBn
    obtain ⟨i, hi⟩ : ∃ i, i = 112 * k := ⟨_, rfl⟩
    by_cases hlt : k < tabN n
    · obtain ⟨fn, tmps, assign, body, hyr, hR⟩ := hY k wr.drew hlt (hJd _ _ hJ)
      have hin := (tabN_lt n k).1 hlt
      rw [← hi] at hin ⊢
      have i1 : (i : Int) < (n : Int) := by omega
      have i0 : (0 : Int) ≤ (i : Int) := by omega
      have i2 : (i : Int) ≤ (n : Int) := by omega
      obtain ⟨q, hq⟩ : ∃ q, q = min 112 (n - i) := ⟨_, rfl⟩
      have HKP : Hid (KpC Bt Bn W wr) := hkp
      have HI : Hid (i = 112 * k) := hi
      have e1 : ((n : Int) - (i : Int)).toNat = n - i := by omega
      have hmin : ∀ ty, ∀ w, (Builtin.min_ #[3, 3] ty #[.int .i64 112, .int .i64 ((n - i : Nat) : Int)]).run Try.prog w = .ok (.int .i64 (q : Nat)) w := fun ty w => by rw [hq]; exact run_min (n - i) ty w
      have q0 : 0 < q := by omega
      have e2 : IntKind.i64.wrap ((i : Int) + (q : Int)) = ((i + q : Nat) : Int) := by rw [IntKind.wrap_i64]; omega
      have e3 : (i : Int) ≤ ((i + q : Nat) : Int) := by omega
      have e4 : ((i + q : Nat) : Int) ≤ (c : Int) := by omega
      have e5 : (((i + q : Nat) : Int) - (i : Int)).toNat = q := by omega
      have e6 : IntKind.i64.wrap ((i : Int) + 112) = ((112 * (k + 1) : Nat) : Int) := by rw [IntKind.wrap_i64]; omega
      unfold chEnc chV at hyr
      rw [← hi, ← hq] at hyr
      have HJ : Hid (J (List.range k) wr) := hJ
      have HK1 : Hid (k < tabN n) := hlt
      have HJD : Hid _ := hJd
      clear hY h0 hBt hBn hkp hi hq hlt hJ hJd hk
      gi_wp2
      gi_region
      clear hmin
      gi_wp2
      refine ⟨fun h => (by simp [Fence.wide] at h), hR.mono ?_⟩
      rintro e W3 (⟨rfl, hJ3, hk3⟩ | ⟨rfl, hJx3⟩)
      · have HK4 : Hid (KpC Bt Bn W W3) := ⟨hk3.1.trans HKP.out.1, hk3.2.trans HKP.out.2⟩
        have hb4 : W3.cell? ⟨Bn, 0, none⟩ = some (.int .i64 112) := (World.cell?_of_block (w := wr) hk3.2).trans hb2
        have HJ3 : Hid _ := hJ3
        clear hk3 hb1 hb2 hJ3
        gi_wp2
        go_roundw
        case rel => exact ⟨k + 1, HK1.out, by rfl, by rw [List.range_succ]; exact HJ3.out, HK4.out⟩
        case measure => simp [intOf]; have := HI.out; have := HK1.out; omega
      · gi_wp2
        refine bodyPost_ret (results_none rfl _ _ _) rfl ?_
        exact ⟨⟨_, rfl⟩, .inr ⟨k, HK1.out, hJx3⟩⟩
    · obtain rfl : k = tabN n := by omega
      have hin : ¬ 112 * tabN n < n := by unfold tabN; omega
      rw [← hi] at hin ⊢
      have i1 : ¬ (i : Int) < (n : Int) := by omega
      clear hY h0 hBt hBn hkp hi hJd
      gi_wp2
      go_end0
      exact ⟨⟨_, rfl⟩, .inl hJ⟩
set_option maxRecDepth 100000 in
set_option maxHeartbeats 1000000 in
theorem chunk_none (m l Bt Bn c : Nat) (a : Option Addr) (J : World → Prop) (W : World) (hBt : W.cell? ⟨Bt, 0, none⟩ = some (.slice a 0 c)) (h0 : J W) :
    CallsIn Fence.wide m Try.prog 89 #[.func (.yield l) #[] #[], .pointer (some ⟨Bt, 0, none⟩), .pointer (some ⟨Bn, 0, none⟩)] W fun e W' => (∃ v, e = .returned v) ∧ J W' := by
  refine callsIn_of_wp Try.func89 rfl trivial ?_ rfl
  simp only [Try.ntmps89, List.size_toArray, List.length_cons, List.length_nil, Nat.reduceAdd, Nat.reduceSub, Array.replicate_succ, Array.replicate_zero, List.push_toArray, List.append_toArray, List.nil_append, List.cons_append]
  gi_wp2
  gi_loopw [4] (fun i wr => i = .int .i64 0 ∧ J wr ∧ wr = W) (fun _ _ => 0)
  case atStart => exact ⟨rfl, h0, rfl⟩
  case round =>
    obtain ⟨rfl, hJ, rfl⟩ := hrel
    gi_wp2
    go_end0
    exact ⟨⟨_, rfl⟩, hJ⟩
set_option maxRecDepth 100000 in
set_option maxHeartbeats 1000000 in
/-- slices.Chunk boxes the slice and the number; the function that it answers has both boxes. -/
theorem chunk_in (m : Nat) (a : Option Addr) (n c : Nat) (w : World) :
    CallsIn Fence.wide m Try.prog 72 #[.slice a n c, .int .i64 112] w fun e w' => e = .returned (.func (.func 89) #[] #[.pointer (some ⟨w.heap.size, 0, none⟩), .pointer (some ⟨w.heap.size + 1, 0, none⟩)]) ∧ w' = (w.alloc (.cells #[.slice a n c] 23)).alloc (.cells #[.int .i64 112] 3) := by
  refine callsIn_of_wp Try.func72 rfl trivial ?_ rfl
  simp only [Try.ntmps72, List.size_toArray, List.length_cons, List.length_nil, Nat.reduceAdd, Nat.reduceSub, Array.replicate_succ, Array.replicate_zero, List.push_toArray, List.append_toArray, List.nil_append, List.cons_append]
  gi_wp2
  go_ret
  exact ⟨rfl, rfl⟩
/-- .. and gives the parts in their order. -/
theorem chunk_stops (m Bt Bn g o n c : Nat) (a : Option Addr) (w : World) (hn : n ≤ 100000) (ha : a = some ⟨g, o, none⟩ ∧ n ≤ c ∨ n = 0) (hBt : w.cell? ⟨Bt, 0, none⟩ = some (.slice a n c)) (hBn : w.cell? ⟨Bn, 0, none⟩ = some (.int .i64 112)) :
    SeqStopsK Fence.wide m Try.prog 89 #[.pointer (some ⟨Bt, 0, none⟩), .pointer (some ⟨Bn, 0, none⟩)] (chEnc g o n) (KpC Bt Bn) (fun ys => ys = List.range (tabN n)) (fun pre => ∃ k, k < tabN n ∧ pre = List.range (k + 1)) (tabN n) w := fun lo J Jx W hW hJ hJx hY h0 => by
  have hBl := World.block_lt_of_cell? w _ hBt
  have hNl := World.block_lt_of_cell? w _ hBn
  have hBt' : W.cell? ⟨Bt, 0, none⟩ = some (.slice a n c) := (hW.cell (p := ⟨Bt, 0, none⟩) hBl).trans hBt
  have hBn' : W.cell? ⟨Bn, 0, none⟩ = some (.int .i64 112) := (hW.cell (p := ⟨Bn, 0, none⟩) hNl).trans hBn
  rcases ha with ⟨rfl, hc⟩ | rfl
  · refine (chunk_core m lo Bt Bn g o n c hn hc J Jx (fun k W1 hk hj => ?_) (fun ys W1 hj => ?_) W hBt' hBn' h0).mono ?_
    · exact hY (List.range k) k W1 hj (by simpa using hk)
    · exact hJ ys W1 W1.drew none hj ⟨rfl, rfl, rfl, Nat.le_refl _, fun _ _ _ => rfl⟩ (fun r e => by cases e)
    · rintro e W' ⟨he, hj | ⟨k, hk, hj⟩⟩
      · exact ⟨he, .inl ⟨_, rfl, hj⟩⟩
      · exact ⟨he, .inr ⟨_, ⟨k, hk, by rw [List.range_succ]⟩, hj⟩⟩
  · exact (chunk_none m lo Bt Bn c a (J []) W hBt' h0).mono fun e W' ⟨he, hj⟩ => ⟨he, .inl ⟨_, rfl, by simpa [tabN] using hj⟩⟩
end Go.Proofs.Ytpoakkdkibameab
namespace Go.Proofs.Ytpoakkdkibameab
open Go.RowKit Go.Shelf
set_option linter.unusedSimpArgs false
set_option linter.unusedVariables false
attribute [local go_sem] Oper.semAt_some

/-- Writes taken back, in the order of the list. -/
def undo {n : Nat} (pre : List (At n)) (sec : Nat → Nat → Int) : Nat → Nat → Int := pre.foldl (fun s x => upd s x.1.2.at_ x.1.2.bef) sec
theorem undo_snoc {n : Nat} (pre : List (At n)) (x : At n) (sec : Nat → Nat → Int) : undo (pre ++ [x]) sec = upd (undo pre sec) x.1.2.at_ x.1.2.bef := by simp [undo]

theorem Only.keeps {S B : Nat} {W W' : World} (h : Only (fun i => i = S) W W') (hS : S < B) : KeepsFrom B W W' :=
  ⟨h.size, fun k o hB hk _ => (h.block k (Array.getElem?_eq_some_iff.1 hk).1 (fun e => by omega)).trans hk⟩

theorem DiskAt.storedL {W : World} {B p S : Nat} {pv : Value} {d : DS} (hd : DiskAt W B p S pv d) (k : Nat) (f : Nat → Int) (cs : List Value) (hcs : cs.length = 32) (hf : secL f = cs) (hk : k < d.n) :
    DiskAt (W.drew.setCells S (k * 32) cs) B p S pv { d with sec := upd d.sec k f } := by
  have oS : Only (fun i => i = S) W (W.drew.setCells S (k * 32) cs) := (Only.refl _ W).drew.setCells _ _ _ (fun _ => rfl)
  have hpS := hd.pS
  obtain ⟨c, hc0⟩ := hd.c0
  have hsame := World.rangeAt_setCells_same W.drew S (k * 32) cs (by rw [hcs]; simpa using (hd.secs k hk).2)
  exact { pB := hd.pB, SB := hd.SB, pS := hd.pS
          c0 := ⟨c, oS.cell hc0 hpS⟩
          c1 := oS.cell hd.c1 hpS
          c2 := oS.cell hd.c2 hpS
          f1 := (oS.frozen (World.block_lt_of_cell? W _ hd.c1) hpS).trans hd.f1
          f2 := (oS.frozen (World.block_lt_of_cell? W _ hd.c2) hpS).trans hd.f2
          secs := fun i hi => by
            refine ⟨?_, World.there_setCells (by simpa using (hd.secs i hi).2) _ _ _⟩
            by_cases e : i = k
            · subst e; simp only; rw [show upd d.sec i f i = f from if_pos rfl, hf]; exact hsame
            · simp only [upd, if_neg e]
              exact World.rangeAt_setCells_apart (by simpa using (hd.secs i hi).1) _ _ _ (by rw [secL_length, hcs]; omega)
          own := oS.owns hd.own (fun k hk e => hd.hS (by rw [hk, e]))
          hp := hd.hp, hS := hd.hS, n1 := hd.n1, n2 := hd.n2, at_ := hd.at_, l1 := hd.l1, l2 := hd.l2 }
/-- A disk behind a store of 32 bytes into one of its sectors. -/
theorem DiskAt.stored {W : World} {B p S : Nat} {pv : Value} {d : DS} (hd : DiskAt W B p S pv d) (k : Nat) (f : Nat → Int) (hk : k < d.n) :
    DiskAt (W.drew.setCells S (k * 32) (secL f)) B p S pv { d with sec := upd d.sec k f } := hd.storedL k f _ (secL_length f) rfl hk

/-- The writes of a list taken back, from the last to the first. -/
def undoW (ws : List Wr) (sec : Nat → Nat → Int) : Nat → Nat → Int := ws.reverse.foldl (fun s x => upd s x.at_ x.bef) sec
theorem wrsL_get : ∀ (ws : List Wr) (j : Nat) (h : j < ws.length) (q : Nat), q < 65 → (wrsL ws)[j * 65 + q]? = (ws[j]).cells[q]?
  | x :: r, 0, h, q, hq => by
    simp only [wrsL, List.flatMap_cons, Nat.zero_mul, Nat.zero_add, List.getElem_cons_zero]
    rw [List.getElem?_append_left (by simp [Wr.cells, wrL_length]; exact hq)]
  | x :: r, j + 1, h, q, hq => by
    simp only [wrsL, List.flatMap_cons, List.getElem_cons_succ]
    rw [List.getElem?_append_right (by simp [Wr.cells, wrL_length]; omega)]
    have e : (j + 1) * 65 + q - x.cells.length = j * 65 + q := by simp [Wr.cells, wrL_length]; omega
    rw [e]
    exact wrsL_get r j (by simpa using h) q hq
/-- What the slice of the pending writes is. -/
theorem DiskAt.form {w : World} {B p S : Nat} {pv : Value} {d : DS} (h : DiskAt w B p S pv d) : (pv = .slice none 0 0 ∧ d.pend = []) ∨ ∃ g cap, pv = .slice (some ⟨g, 0, none⟩) d.pend.length cap ∧ pv.ownBlock = some g := by
  rcases h.own.2 with ⟨h1, h2⟩ | ⟨g, cap, cur, h1, _⟩
  · exact .inl ⟨h1, List.eq_nil_of_length_eq_zero h2⟩
  · exact .inr ⟨g, cap, h1, by rw [h1]; rfl⟩
theorem DiskAt.ranges {w : World} {B p S g cap : Nat} {pv : Value} {d : DS} (h : DiskAt w B p S pv d) (hv : pv = .slice (some ⟨g, 0, none⟩) d.pend.length cap) (j : Nat) (hj : j < d.pend.length) : w.rangeAt g (j * 65) (d.pend[j]).cells := fun q v hq => by
  have hq2 : q < 65 := by have := (List.getElem?_eq_some_iff.1 hq).1; simpa [Wr.cells, wrL_length] using this
  have ho := h.own
  rw [hv] at ho
  rw [ho.cellAt (j * 65 + q) (by omega), wrsL_get d.pend j hj q hq2]
  exact hq
end Go.Proofs.Ytpoakkdkibameab
namespace Go.Proofs.Ytpoakkdkibameab
open Go.RowKit
set_option linter.unusedSimpArgs false
set_option linter.unusedVariables false

/-- The first n bytes of f, the others of g. -/
def mix (n : Nat) (f g : Nat → Int) : Nat → Int := fun j => if j < n then f j else g j
/-- A crash: the first i pending writes are gone through. -/
def crashTo (kp : Nat → Bool) (torn : Int) (cut : Nat) (ws : List Wr) (s : Nat → Nat → Int) : Nat → Nat → Nat → Int
  | 0 => s
  | i + 1 => match ws[i]? with
    | some x => if kp i = true then upd (crashTo kp torn cut ws s i) x.at_ (mix (if (i : Int) = torn then cut else 32) x.aft (crashTo kp torn cut ws s i x.at_)) else crashTo kp torn cut ws s i
    | none => crashTo kp torn cut ws s i

section
variable {P : Program} {op : Oper} {a : Act} {w : World} {K : Act → World → Prop} {Q : Exit → Act → World → Prop}
theorem run_copy_mid (w : World) (dT sT ty elem : TypeId) (g o dLen dCap : Nat) (a : Addr) (sLen sCap : Nat) (cs : List Value)
    (hu : P.underlying dT = some (.slice elem)) (hs : (P.info? elem).map (·.size) = some 1) (ht : w.there g o cs.length) (hn : cs.length = Nat.min sLen dLen)
    (hsrc : ∀ j v, cs[j]? = some v → w.cell? (a.add j) = some v) (h1 : ∀ v ∈ cs, v.oneCell' = true) :
    (Builtin.copy_ #[dT, sT] ty #[.slice (some ⟨g, o, none⟩) dLen dCap, .slice (some a) sLen sCap]).run P w = .ok (goInt cs.length) (w.setCells g o cs) := by
  have hl := run_loadCells_list (P := P) w a cs hsrc
  have hst := run_storeCells_cells (P := P) g o cs 0 w (fun j hj => by simpa using (ht j (by simpa using hj)).1) (fun j hj => by simpa using (ht j (by simpa using hj)).2) h1
  cases hq : P.info? elem with
  | none => simp [hq] at hs
  | some i =>
    have hi : i.size = 1 := by simpa [hq] using hs
    simp only [Nat.add_zero] at hst
    simp [Builtin.copy_, run_underlying hu, Builtin.lenOf, Builtin.firstCells, sizeOf, typeInfo, hq, hi, ← hn, hl, hst]
theorem wp_copy_mid (d s : Operand) (dT sT : TypeId) (ho : op.op = .call { callee := .builtin .copy, args := #[d, s], argTypes := #[dT, sT] }) (elem : TypeId) (hu : P.underlying dT = some (.slice elem)) (hsz : (P.info? elem).map (·.size) = some 1)
    (g o dLen dCap : Nat) (ad : Addr) (sLen sCap : Nat) (cs : List Value) (hd : a.eval d = .slice (some ⟨g, o, none⟩) dLen dCap) (hs : a.eval s = .slice (some ad) sLen sCap) (ht : w.there g o cs.length) (hn : cs.length = Nat.min sLen dLen)
    (hsrc : ∀ j v, cs[j]? = some v → w.cell? (ad.add j) = some v) (h1 : ∀ v ∈ cs, v.oneCell' = true) (h : K (a.put op.dst (goInt cs.length)) (w.setCells g o cs)) : op.wp P a w K Q := by
  have hrun := run_copy_mid (P := P) w dT sT op.type elem g o dLen dCap ad sLen sCap cs hu hsz ht hn hsrc h1
  unfold Oper.wp
  simp [execOp, ho, resolve, invoke, builtin, hd, hs, hrun, Result.andThen]
  exact h
end

theorem DiskAt.len {w : World} {B p S : Nat} {pv : Value} {d : DS} (h : DiskAt w B p S pv d) : d.pend.length ≤ maxLen := by
  rcases h.own.2 with ⟨_, h2⟩ | ⟨g, cap, cur, _, _, _, h1, h2, _⟩
  · rw [h2]; exact Nat.zero_le _
  · omega

/-- A disk behind a copy of the first n bytes into one of its sectors. -/
theorem DiskAt.part {W : World} {B p S : Nat} {pv : Value} {d : DS} (hd : DiskAt W B p S pv d) (k n : Nat) (f : Nat → Int) (cs : List Value) (hcs : cs.length = n) (hn : n ≤ 32) (hf : ∀ j, j < n → cs[j]? = some (.int .u8 (f j))) (hk : k < d.n) :
    DiskAt (W.setCells S (k * 32) cs) B p S pv { d with sec := upd d.sec k (mix n f (d.sec k)) } := by
  have oS : Only (fun i => i = S) W (W.setCells S (k * 32) cs) := (Only.refl _ W).setCells _ _ _ (fun _ => rfl)
  have hpS := hd.pS
  obtain ⟨c, hc0⟩ := hd.c0
  have ht := (hd.secs k hk).2
  exact { pB := hd.pB, SB := hd.SB, pS := hd.pS
          c0 := ⟨c, oS.cell hc0 hpS⟩
          c1 := oS.cell hd.c1 hpS
          c2 := oS.cell hd.c2 hpS
          f1 := (oS.frozen (World.block_lt_of_cell? W _ hd.c1) hpS).trans hd.f1
          f2 := (oS.frozen (World.block_lt_of_cell? W _ hd.c2) hpS).trans hd.f2
          secs := fun i hi => by
            refine ⟨?_, World.there_setCells (hd.secs i hi).2 _ _ _⟩
            by_cases e : i = k
            · subst e
              simp only
              rw [show upd d.sec i (mix n f (d.sec i)) i = mix n f (d.sec i) from if_pos rfl]
              intro j v hv
              have hj : j < 32 := by have := (List.getElem?_eq_some_iff.1 hv).1; rwa [secL_length] at this
              rw [secL_get _ _ hj] at hv
              by_cases hjn : j < n
              · rw [World.cell?_setCells_in S cs (i * 32) W (fun q hq => (ht q (by omega)).1) j (by omega), ← hv]
                have := hf j hjn
                rw [List.getElem?_eq_getElem (by omega)] at this
                rw [Option.some.inj this]
                simp [mix, hjn]
              · rw [World.cell?_setCells_out S cs (i * 32) W ⟨S, i * 32 + j, none⟩ (fun _ _ => .inr (by rw [hcs]; simp only; omega))]
                rw [(hd.secs i hi).1 j _ (secL_get _ _ hj), ← hv]
                simp [mix, hjn]
            · simp only [upd, if_neg e]
              exact World.rangeAt_setCells_apart (hd.secs i hi).1 _ _ _ (by rw [secL_length, hcs]; omega)
          own := oS.owns hd.own (fun k hk e => hd.hS (by rw [hk, e]))
          hp := hd.hp, hS := hd.hS, n1 := hd.n1, n2 := hd.n2, at_ := hd.at_, l1 := hd.l1, l2 := hd.l2 }

theorem DiskAt.drew {W : World} {B p S : Nat} {pv : Value} {d : DS} (hd : DiskAt W B p S pv d) : DiskAt W.drew B p S pv d := hd.frame ((Only.refl (fun _ => False) W).drew) (fun _ _ e => e)
theorem DiskAt.alloc {W : World} {B p S : Nat} {pv : Value} {d : DS} (hd : DiskAt W B p S pv d) (o : Obj) : DiskAt (W.alloc o) B p S pv d := hd.frame ((Only.refl (fun _ => False) W).alloc o) (fun _ _ e => e)
end Go.Proofs.Ytpoakkdkibameab
namespace Go.Proofs.Ytpoakkdkibameab
open Go.RowKit
set_option linter.unusedSimpArgs false
set_option linter.unusedVariables false

theorem crashTo_no (kp : Nat → Bool) (torn : Int) (cut : Nat) (ws : List Wr) (s : Nat → Nat → Int) (i : Nat) (h : kp i = false) : crashTo kp torn cut ws s (i + 1) = crashTo kp torn cut ws s i := by
  simp only [crashTo]
  cases ws[i]? <;> simp [h]
theorem crashTo_yes (kp : Nat → Bool) (torn : Int) (cut : Nat) (ws : List Wr) (s : Nat → Nat → Int) (i : Nat) (x : Wr) (hx : ws[i]? = some x) (h : kp i = true) : crashTo kp torn cut ws s (i + 1) = upd (crashTo kp torn cut ws s i) x.at_ (mix (if (i : Int) = torn then cut else 32) x.aft (crashTo kp torn cut ws s i x.at_)) := by
  simp only [crashTo, hx, if_pos h]

/-- Behind a crash: no write is pending, and the life has no end. -/
theorem crashed_end {W : World} {B p S : Nat} {pv : Value} {d : DS} (h : DiskAt W B p S pv d) : DiskAt ((W.setCell ⟨p, 1, none⟩ (.slice none 0 0)).setCell ⟨p, 2, none⟩ (.int .i64 (-1))) B p S (.slice none 0 0) ⟨d.n, d.sec, [], -1⟩ := by
  have oP : Only (fun i => i = p) W ((W.setCell ⟨p, 1, none⟩ (.slice none 0 0)).setCell ⟨p, 2, none⟩ (.int .i64 (-1))) := ((Only.refl (fun i => i = p) W).setCell _ _ (fun _ => rfl)).setCell _ _ (fun _ => rfl)
  obtain ⟨c, hc⟩ := h.c0
  have hSp : S ≠ p := Ne.symm h.pS
  exact { pB := h.pB, SB := h.SB, pS := h.pS
          c0 := ⟨c, by rw [World.cell?_setCell_other _ _ _ _ (by simp), World.cell?_setCell_other _ _ _ _ (by simp)]; exact hc⟩
          c1 := by rw [World.cell?_setCell_other _ _ _ _ (by simp), World.cell?_setCell_same _ _ _ h.c1]
          c2 := World.cell?_setCell_same _ _ _ ((World.cell?_setCell_other _ _ _ _ (by simp)).trans h.c2)
          f1 := by simpa using h.f1
          f2 := by simpa using h.f2
          secs := fun i hi => ⟨oP.range (h.secs i hi).1 hSp, oP.there (h.secs i hi).2 hSp⟩
          own := World.ownsRow_nil _ _ _ _
          hp := by simp [Value.ownBlock]
          hS := by simp [Value.ownBlock]
          n1 := h.n1, n2 := h.n2
          at_ := fun x hx => by cases hx
          l1 := by simp
          l2 := by simp }

/-- What a slice of flags is: kf i at place i, kl of them; none of them lies in block S. -/
def DFlags (w : World) (v : Value) (kl : Nat) (kf : Nat → Bool) (S : Nat) : Prop := ∃ ka kc, v = .slice ka kl kc ∧ kl ≤ maxLen ∧ ∀ i, i < kl → ∃ kb ko, ka = some ⟨kb, ko, none⟩ ∧ kb ≠ S ∧ w.cell? ⟨kb, ko + i, none⟩ = some (.bool (kf i))
end Go.Proofs.Ytpoakkdkibameab
namespace Go.Proofs.Ytpoakkdkibameab
open Go.RowKit
set_option linter.unusedSimpArgs false
set_option linter.unusedVariables false

/-- What Crash answers, and what it leaves of a disk. -/
def DS.crash (d : DS) (ks : List Bool) (torn cut : Int) : Int × DS :=
  if cut < 0 ∨ 32 < cut then (2, d) else (0, ⟨d.n, crashTo (fun i => decide (i < ks.length) && ks.getD i false) torn cut.toNat d.pend (undoW d.pend d.sec) d.pend.length, [], -1⟩)
theorem flags_own {w : World} {B m cap S : Nat} {a : Option Addr} {f : Nat → Bool} (h : w.ownsRow B 4 1 (.slice a m cap) m ((List.range m).map fun j => .bool (f j))) (hm : m ≤ maxLen) (hS : S < B) : DFlags w (.slice a m cap) m f S := by
  refine ⟨a, cap, rfl, hm, fun i hi => ?_⟩
  rcases h.2 with ⟨_, h2⟩ | ⟨g, c2, cur, hv, hg, _⟩
  · omega
  · simp only [Value.slice.injEq] at hv
    obtain ⟨rfl, _, rfl⟩ := hv
    refine ⟨g, 0, rfl, by omega, ?_⟩
    rw [Nat.zero_add, h.cellAt i (by omega)]
    simp [hi]
def HasN (w : World) (p S n : Nat) : Prop := ∃ c, w.cell? ⟨p, 0, none⟩ = some (.slice (some ⟨S, 0, none⟩) n c)
theorem lenN (p S n : Nat) (w : World) (h : HasN w p S n) : Calls Try.prog 46 #[.pointer (some ⟨p, 0, none⟩)] w fun e w' => e = .returned (.int .i64 n) ∧ w' = w := by
  obtain ⟨c, h⟩ := h
  exact len_any p S n c w h
theorem allL_succ (k : Nat) (sec : Nat → Nat → Int) : allL (k + 1) sec = allL k sec ++ secL (sec k) := by
  simp only [allL, secL]
  rw [show (k + 1) * 32 = k * 32 + 32 by omega, List.range_add, List.map_append, List.map_map]
  congr 1
  apply List.map_congr_left
  intro j hj
  have hj' : j < 32 := by simpa using hj
  simp only [Function.comp]
  rw [show (k * 32 + j) / 32 = k by omega, show (k * 32 + j) % 32 = j by omega]
theorem allL_congr (n : Nat) (f g : Nat → Nat → Int) (h : ∀ i, i < n → ∀ j, j < 32 → f i j = g i j) : allL n f = allL n g := by
  simp only [allL]
  apply List.map_congr_left
  intro k hk
  have hk' : k < n * 32 := by simpa using hk
  rw [h (k / 32) (by omega) (k % 32) (by omega)]

theorem wpList_append_runG {P : Program} {op : Oper} {a : Act} {w w' : World} {Q : Exit → Act → World → Prop} {ops : Array Oper} {rest : List Oper} (s x : Operand) (t : TypeId) (ho : op.op = .call { callee := .builtin .append, args := #[s, x], argTypes := #[t, t] }) (hw : Region.wanted op (yielded ops a.tmps) = true) (v1 v2 v' : Value) (hs : a.eval s = v1) (hx : a.eval x = v2)
    (hr : ∀ ty, (Builtin.append_ #[t, t] ty #[v1, v2]).run P w = .ok v' w') (h : wpList P ops Q rest (a.put op.dst v') w') : wpList P ops Q (op :: rest) a w :=
  wpList_step fun _ hK => by rw [if_pos hw]; exact wp_append_run s x t ho v1 v2 v' hs hx (hr _) (hK _ _ h)

theorem upd_back (s : Nat → Nat → Int) (k : Nat) (f : Nat → Int) : upd (upd s k f) k (s k) = s := by
  funext i
  by_cases e : i = k
  · subst e; simp [upd]
  · simp [upd, e]
theorem undoW_snoc (ws : List Wr) (x : Wr) (s : Nat → Nat → Int) : undoW (ws ++ [x]) s = undoW ws (upd s x.at_ x.bef) := by simp [undoW]
theorem undoW_write (ws : List Wr) (k : Nat) (f : Nat → Int) (s : Nat → Nat → Int) : undoW (ws ++ [⟨k, s k, f⟩]) (upd s k f) = undoW ws s := by
  rw [undoW_snoc, upd_back]
theorem undoW_nil (s : Nat → Nat → Int) : undoW [] s = s := rfl
theorem crashTo_none (kp : Nat → Bool) (torn : Int) (cut : Nat) (ws : List Wr) (s : Nat → Nat → Int) (h : ∀ i, kp i = false) : ∀ m, crashTo kp torn cut ws s m = s
  | 0 => rfl
  | m + 1 => by rw [crashTo_no _ _ _ _ _ _ (h m)]; exact crashTo_none kp torn cut ws s h m
theorem crashTo_prefix (kp : Nat → Bool) (torn : Int) (cut : Nat) (ws : List Wr) (x : Wr) (s : Nat → Nat → Int) : ∀ m, m ≤ ws.length → crashTo kp torn cut (ws ++ [x]) s m = crashTo kp torn cut ws s m
  | 0, _ => rfl
  | m + 1, hm => by
    have ih := crashTo_prefix kp torn cut ws x s m (by omega)
    have e : (ws ++ [x])[m]? = ws[m]? := List.getElem?_append_left (by omega)
    simp only [crashTo, e, ih]
/-- A crash that keeps all pending writes leaves what is seen. -/
def Seen (d : DS) : Prop := ∀ (kp : Nat → Bool) (cut : Nat), (∀ i, i < d.pend.length → kp i = true) → ∀ i j, j < 32 → crashTo kp (-1) cut d.pend (undoW d.pend d.sec) d.pend.length i j = d.sec i j
theorem seen_nil (n : Nat) (s : Nat → Nat → Int) (l : Int) : Seen ⟨n, s, [], l⟩ := fun _ _ _ _ _ _ => rfl
theorem seen_write (d : DS) (k : Nat) (f : Nat → Int) (l : Int) (h : Seen d) : Seen { d with sec := upd d.sec k f, pend := d.pend ++ [⟨k, d.sec k, f⟩], life := l } := by
  intro kp cut hk i j hj
  simp only [List.length_append, List.length_cons, List.length_nil, Nat.zero_add] at hk ⊢
  rw [undoW_write]
  have hx : (d.pend ++ [(⟨k, d.sec k, f⟩ : Wr)])[d.pend.length]? = some ⟨k, d.sec k, f⟩ := by simp
  rw [crashTo_yes _ _ _ _ _ _ _ hx (hk _ (by omega)), crashTo_prefix _ _ _ _ _ _ _ (Nat.le_refl _), if_neg (by omega)]
  have ih := h kp cut (fun q hq => hk q (by omega)) i j hj
  by_cases e : i = k
  · subst e; simp [upd, mix, hj]
  · simp [upd, e]; exact ih
/-- What writes behind a barrier keep: what was at the barrier, and what is seen. -/
def Since (s0 : Nat → Nat → Int) (d : DS) : Prop := undoW d.pend d.sec = s0 ∧ Seen d
theorem since_write (s0 : Nat → Nat → Int) (d : DS) (k : Int) (f : Nat → Int) (m : Nat) (h : Since s0 d) : Since s0 (d.write k f m).2 := by
  simp only [DS.write]
  split
  · exact h
  · split
    · exact h
    · split
      · exact h
      · exact ⟨by simp only; rw [undoW_write]; exact h.1, seen_write d k.toNat f _ h.2⟩
theorem write_n (d : DS) (k : Int) (f : Nat → Int) (m : Nat) : (d.write k f m).2.n = d.n := by
  simp only [DS.write]; split; rfl; split; rfl; split; rfl; rfl
theorem write_life (d : DS) (k : Int) (f : Nat → Int) (m : Nat) (h : d.life = -1) : (d.write k f m).2.life = -1 := by
  simp only [DS.write]; split; exact h; split; exact h; split; exact h; simp [aged, h]
theorem write_len2 (d : DS) (k : Int) (f : Nat → Int) (m : Nat) : (d.write k f m).2.pend.length ≤ d.pend.length + 1 := by
  simp only [DS.write]; split; simp; split; simp; split; simp; simp

/-- m flags, the first k of them true. -/
def trueArr (m k : Nat) : Array Value := Array.ofFn (n := m) fun i => .bool (decide (i.val < k))
theorem trueArr_size (m k : Nat) : (trueArr m k).size = m := by simp [trueArr]
theorem trueArr_set (m k : Nat) : (trueArr m k).setIfInBounds k (.bool true) = trueArr m (k + 1) := by
  apply Array.ext
  · simp [trueArr]
  · intro i h1 h2
    simp [trueArr] at h1 h2
    simp [trueArr, Array.getElem_setIfInBounds, h1]
    by_cases e : k = i
    · subst e; simp
    · simp [e]; omega
theorem trueArr_zero (m : Nat) : madeCells (Value.bool false).cells (m * 1) = trueArr m 0 := by
  apply Array.ext
  · simp [trueArr, size_madeCells]
  · intro i h1 h2
    simp [trueArr, madeCells, Value.cells, Nat.mod_one]
theorem make_flags (m : Nat) (hm : m ≤ 140737488351232) (w : World) : (Instr.makeSlice 81 (.int .i64 m) (.int .i64 m)).run Try.prog w = .ok (.slice (some ⟨w.heap.size, 0, none⟩) m m) (w.alloc (.cells (trueArr m 0) 4)) := by
  obtain ⟨i0, hi0, hz0, hz1, hz2⟩ := info_parts info4
  have := run_make (P := Try.prog) w 81 4 i0 _ Try.underlying81 hi0 hz0 .i64 .i64 m m (by omega) (Int.le_refl _) (by rw [hz2]; omega) (by omega)
  rw [hz1, Int.toNat_natCast, trueArr_zero] at this
  exact this
theorem flags_true (m S : Nat) (w : World) (hm : m ≤ 140737488351232) (hS : S ≠ w.heap.size) : DFlags (w.alloc (.cells (trueArr m m) 4)) (.slice (some ⟨w.heap.size, 0, none⟩) m m) m (fun _ => true) S := by
  refine ⟨_, m, rfl, by unfold maxLen; omega, fun i hi => ⟨w.heap.size, 0, rfl, fun e => hS e.symm, ?_⟩⟩
  rw [cell_of_row _ _ _ _ _ _ (heap_alloc_new w _)]
  simp [trueArr, hi]
theorem DFlags.frame {w w' : World} {v : Value} {kl S : Nat} {kf : Nat → Bool} (h : DFlags w v kl kf S) (S' : Nat) (ho : Only (fun _ => False) w w') (hS : w.heap.size ≤ S') : DFlags w' v kl kf S' := by
  obtain ⟨ka, kc, hv, hm, hk⟩ := h
  refine ⟨ka, kc, hv, hm, fun i hi => ?_⟩
  obtain ⟨kb, ko, h1, h2, h3⟩ := hk i hi
  refine ⟨kb, ko, h1, ?_, ho.cell h3 (fun e => e)⟩
  have : kb < w.heap.size := World.block_lt_of_cell? w _ h3
  omega
theorem range_lt {w : World} {g n : Nat} {s : Nat → Nat → Int} (hn : 1 ≤ n) (h : w.rangeAt g 0 (allL n s)) : g < w.heap.size :=
  World.block_lt_of_cell? w ⟨g, 0 + 0, none⟩ (h 0 (.int .u8 (s 0 0)) (by simpa using allL_get n s 0 0 (by omega) (by omega)))
end Go.Proofs.Ytpoakkdkibameab
namespace Go.Proofs.Ytpoakkdkibameab
open Go.RowKit
set_option linter.unusedSimpArgs false
set_option linter.unusedVariables false

/-- The writes are done, in their order. -/
def doAll (l : List Wr) (s : Nat → Nat → Int) : Nat → Nat → Int := l.foldl (fun s x => upd s x.at_ x.aft) s
theorem doAll_snoc (l : List Wr) (x : Wr) (s : Nat → Nat → Int) : doAll (l ++ [x]) s = upd (doAll l s) x.at_ x.aft := by simp [doAll]
theorem doAll_append (l l' : List Wr) (s : Nat → Nat → Int) : doAll (l ++ l') s = doAll l' (doAll l s) := by simp [doAll]
theorem doAll_keep : ∀ (l : List Wr) (s : Nat → Nat → Int) (k : Nat), (∀ x ∈ l, x.at_ ≠ k) → doAll l s k = s k
  | [], _, _, _ => rfl
  | x :: r, s, k, h => by
    have e : doAll (x :: r) s = doAll r (upd s x.at_ x.aft) := rfl
    rw [e, doAll_keep r _ k (fun y hy => h y (List.mem_cons_of_mem _ hy))]
    simp [upd, Ne.symm (h x (List.mem_cons_self ..))]
theorem doAll_take (l : List Wr) (s : Nat → Nat → Int) (i : Nat) (h : i < l.length) : doAll (l.take (i + 1)) s = upd (doAll (l.take i) s) (l[i]).at_ (l[i]).aft := by
  have e : l.take (i + 1) = l.take i ++ [l[i]] := by rw [List.take_add_one, List.getElem?_eq_getElem h]; rfl
  rw [e, doAll_snoc]
theorem doAll_last (l : List Wr) (s : Nat → Nat → Int) (i : Nat) (h : i < l.length) (hl : ∀ j (hj : j < l.length), i < j → (l[j]).at_ ≠ (l[i]).at_) : doAll l s (l[i]).at_ = (l[i]).aft := by
  have e : l = l.take (i + 1) ++ l.drop (i + 1) := (List.take_append_drop _ _).symm
  have : doAll l s = doAll (l.drop (i + 1)) (doAll (l.take (i + 1)) s) := by
    conv => lhs; rw [e]
    exact doAll_append _ _ _
  rw [this, doAll_keep _ _ _ (fun x hx => ?_), doAll_take l s i h]
  · simp [upd]
  · obtain ⟨j, hj, rfl⟩ := List.getElem_of_mem hx
    simp only [List.length_drop] at hj
    rw [List.getElem_drop]
    exact hl _ (by omega) (by omega)
/-- What is seen is what is kept with the pending writes done. -/
def Good (d : DS) : Prop := doAll d.pend (undoW d.pend d.sec) = d.sec
theorem Good.nil (n : Nat) (s : Nat → Nat → Int) (l : Int) : Good ⟨n, s, [], l⟩ := rfl
theorem Good.write {d : DS} (h : Good d) (k : Int) (f : Nat → Int) (m : Nat) : Good (d.write k f m).2 := by
  simp only [DS.write]
  split
  · exact h
  · split
    · exact h
    · split
      · exact h
      · show doAll (d.pend ++ [_]) (undoW (d.pend ++ [_]) _) = _
        rw [undoW_write, doAll_snoc]
        simp only
        rw [show doAll d.pend (undoW d.pend d.sec) = d.sec from h]
theorem Good.crash {d : DS} (h : Good d) (ks : List Bool) (torn cut : Int) : Good (d.crash ks torn cut).2 := by
  simp only [DS.crash]
  split
  · exact h
  · rfl

end Go.Proofs.Ytpoakkdkibameab
namespace Go.Proofs.Ytpoakkdkibameab
open Go.RowKit
set_option linter.unusedSimpArgs false
set_option linter.unusedVariables false

set_option maxRecDepth 100000 in
set_option maxHeartbeats 1000000 in
/-- A number is laid into a block of bytes. -/
theorem laynum_any (g n c p x : Nat) (zs : List Nat) (w : World) (h : Blk w g zs) (hp : p + 4 ≤ zs.length) (hc : zs.length ≤ c) (hc2 : c ≤ 140737488355328) (hx : x < 4294967296) :
    Calls Try.prog 87 #[.slice (some ⟨g, 0, none⟩) n c, .int .i64 p, .int .u32 x] w fun e w' => e = .returned (.tuple #[]) ∧ Blk w' g (splice zs p (lay4 x)) ∧ Only (fun i => g ≤ i) w w' := by
  have hb := build4 ((x % 256 : Nat) : Int) ((x / 256 % 256 : Nat) : Int) ((x / 65536 % 256 : Nat) : Int) ((x / 16777216 % 256 : Nat) : Int)
  obtain ⟨x0, h0⟩ : ∃ y, y = x % 256 := ⟨_, rfl⟩
  obtain ⟨x1, h1⟩ : ∃ y, y = x / 256 % 256 := ⟨_, rfl⟩
  obtain ⟨x2, h2⟩ : ∃ y, y = x / 65536 % 256 := ⟨_, rfl⟩
  obtain ⟨x3, h3⟩ : ∃ y, y = x / 16777216 % 256 := ⟨_, rfl⟩
  have c0 : (x : Int) % 256 = (x0 : Int) := by omega
  have c1 : (x : Int) / 256 % 256 = (x1 : Int) := by omega
  have c2 : (x : Int) / 65536 % 256 = (x2 : Int) := by omega
  have c3 : (x : Int) / 16777216 = (x3 : Int) := by omega
  rw [← h0, ← h1, ← h2, ← h3] at hb
  have HL : Hid (BL (lay4 x) = [.int .u8 (x0 : Int), .int .u8 (x1 : Int), .int .u8 (x2 : Int), .int .u8 (x3 : Int)]) := (by rw [BL4, ← h0, ← h1, ← h2, ← h3] : _ = _)
  have HB : Hid (Blk w g zs) := h
  have HP := piece_pos g 0 n c p 4 w (by omega) (by omega) (by omega)
  rw [Nat.zero_add] at HP
  clear h h0 h1 h2 h3
  go_enter Try.func87, Try.ntmps87
  go_wp2_with fail
  refine HP.mono ?_
  rintro e w1 ⟨rfl, rfl⟩
  clear HP
  have o2 : Only (fun _ => False) w1 (w1.alloc (.cells #[.int .u8 (x0 : Int), .int .u8 (x1 : Int), .int .u8 (x2 : Int), .int .u8 (x3 : Int)] 5)) := (Only.refl _ _).alloc _
  have HO2 : Hid (Only (fun _ => False) w1 (w1.alloc (.cells #[.int .u8 (x0 : Int), .int .u8 (x1 : Int), .int .u8 (x2 : Int), .int .u8 (x3 : Int)] 5))) := o2
  have HB2 : Hid (Blk (w1.alloc (.cells #[.int .u8 (x0 : Int), .int .u8 (x1 : Int), .int .u8 (x2 : Int), .int .u8 (x3 : Int)] 5)) g zs) := HB.out.frame o2 (fun e => e)
  have HSRC : Hid (∀ j u, (BL (lay4 x))[j]? = some u → (w1.alloc (.cells #[.int .u8 (x0 : Int), .int .u8 (x1 : Int), .int .u8 (x2 : Int), .int .u8 (x3 : Int)] 5)).cell? ((⟨w1.heap.size, 0, none⟩ : Addr).add j) = some u) := by
    rw [HL.out]
    exact World.news_of_block (heap_alloc_new w1 _)
  clear hb o2
  obtain ⟨Y, hY⟩ : ∃ Y, Y = BL (lay4 x) := ⟨_, rfl⟩
  have HY : Hid (Y = BL (lay4 x)) := hY
  rw [← hY] at HSRC
  have HYL : Hid (Y.length = 4) := (by rw [hY, BL_length, lay4_length] : _ = _)
  clear hY
  go_wp2_with ((refine wpList_copy_splice rfl _ _ 23 23 rfl 5 Try.underlying23 size5 _ _ _ _ _ _ rfl rfl g p (BL zs) 5 HB2.out.1 Y HYL.out (fun _ => ⟨rfl, _, rfl, HSRC.out⟩) (by rw [HYL.out, BL_length]; exact hp) (by rw [HY.out]; exact BL_one _) g _ (Below.refl _ _) (Nat.le_refl _) ?_); intro w3 HG3 hB3)
  have HE : Hid (Blk w3 g (splice zs p (lay4 x)) ∧ Only (fun i => g ≤ i) w1 w3) := ⟨Blk.spliced HB2.out (lay4_lt x) (by rw [lay4_length]; exact hp) (by have := HG3.out; rwa [HY.out] at this), (HO2.out.mono (fun _ _ e => e.elim)).trans (Below.only hB3) (fun i hi e => e)⟩
  clear HG3 hB3
  go_end0
  exact ⟨rfl, HE.out⟩
end Go.Proofs.Ytpoakkdkibameab
namespace Go.Proofs.Ytpoakkdkibameab
open Go.RowKit
set_option linter.unusedSimpArgs false
set_option linter.unusedVariables false

theorem bor32 (m e s : Nat) (hm : m < 2 ^ s) (hb : m + e * 2 ^ s < 4294967296) : bits .or .u32 (m : Int) ((e * 2 ^ s : Nat) : Int) = ((m + e * 2 ^ s : Nat) : Int) := by
  have e1 : m % 2 ^ IntKind.u32.bits = m := Nat.mod_eq_of_lt (show m < 4294967296 by omega)
  have e2 : (e * 2 ^ s) % 2 ^ IntKind.u32.bits = e * 2 ^ s := Nat.mod_eq_of_lt (show e * 2 ^ s < 4294967296 by omega)
  simp only [bits, BitVec.ofInt_natCast, BitVec.toNat_or, BitVec.toNat_ofNat, e1, e2]
  rw [Nat.or_comm, Nat.mul_comm e, ← Nat.two_pow_add_eq_or_of_lt hm, Nat.add_comm, IntKind.wrap_u32, Nat.mul_comm (2 ^ s)]
  omega
/-- The number of the first k bytes from p on. -/
def acc4 (zs : List Nat) (p : Nat) : Nat → Nat
  | 0 => 0
  | k + 1 => acc4 zs p k + zs.getD (p + k) 0 * 2 ^ (8 * k)
theorem acc4_lt {zs : List Nat} (h : ∀ z ∈ zs, z < 256) (p : Nat) : ∀ k, acc4 zs p k < 2 ^ (8 * k)
  | 0 => by simp [acc4]
  | k + 1 => by
    have h1 := acc4_lt h p k
    have h2 := getD_lt h (p + k)
    have h3 : zs.getD (p + k) 0 * 2 ^ (8 * k) ≤ 255 * 2 ^ (8 * k) := Nat.mul_le_mul_right _ (by omega)
    have h4 : 2 ^ (8 * (k + 1)) = 256 * 2 ^ (8 * k) := by rw [show 8 * (k + 1) = 8 * k + 8 by omega, Nat.pow_add]; omega
    simp only [acc4]
    omega
theorem acc4_four (zs : List Nat) (p : Nat) : acc4 zs p 4 = val4 zs p := by
  simp only [acc4, val4, Nat.add_zero]
  omega

theorem all_take (zs : List Nat) (k : Nat) (h : k < zs.length) : (zs.take (k + 1)).all (· == 0) = ((zs.take k).all (· == 0) && zs.getD k 0 == 0) := by
  rw [List.take_succ_eq_append_getElem h, List.all_append]
  simp [List.getD, h]
end Go.Proofs.Ytpoakkdkibameab
namespace Go.Proofs.Ytpoakkdkibameab
open Go.RowKit
set_option linter.unusedSimpArgs false
set_option linter.unusedVariables false

set_option maxHeartbeats 400000 in
theorem pack_large (id : Int) (a : Option Addr) (n c : Nat) (w : World) (h : 116 < n) :
    Calls Try.prog 70 #[.int .u32 id, .slice a n c] w fun e w' => e = .returned (.tuple #[.slice none 0 0, .int .i64 11]) ∧ w' = w := by
  have h1 : (116 : Int) < (n : Int) := by omega
  go_enter Try.func70, Try.ntmps70
  go_wp2
  go_ret2
  exact ⟨rfl, rfl⟩

set_option maxRecDepth 100000 in
set_option maxHeartbeats 1000000 in
theorem pack_ok (id : Nat) (v : Value) (D : List Nat) (w : World) (h : BytesAt w v D) (hD : D.length ≤ 116) (hid : id < 4294967296) :
    Calls Try.prog 70 #[.int .u32 id, v] w fun e w' => e = .returned (.tuple #[.slice (some ⟨w.heap.size, 0, none⟩) 128 128, .int .i64 0]) ∧ Blk w' w.heap.size (page id D) ∧ Only (fun _ => False) w w' := by
  have hmk : (Instr.makeSlice 23 (.int .i64 128) (.int .i64 128)).run Try.prog w = .ok (.slice (some ⟨w.heap.size, 0, none⟩) 128 128) (w.alloc (.cells (BL (List.replicate 128 0)).toArray 5)) := make_blk 128 (by omega) w
  have hbz := blk_zeros 128 (by omega) w
  obtain ⟨M, hM⟩ : ∃ M, M = BL (List.replicate 128 0) := ⟨_, rfl⟩
  have HM : Hid (M = BL (List.replicate 128 0)) := hM
  rw [← hM] at hmk hbz
  have HBZ : Hid (Blk (w.alloc (.cells M.toArray 5)) w.heap.size (List.replicate 128 0)) := hbz
  obtain ⟨a, c, rfl, hcap, hc⟩ := h.form
  have HBY : Hid (BytesAt w (.slice a D.length c) D) := h
  have HC : Hid _ := hc
  obtain ⟨n, hn⟩ : ∃ m, m = D.length := ⟨_, rfl⟩
  have HN : Hid (n = D.length) := hn
  have n1 : ¬ (116 : Int) < (n : Int) := by omega
  have hw32 : IntKind.u32.wrap (n : Int) = (n : Int) := by rw [IntKind.wrap_u32]; omega
  have n2 : n ≤ 116 := by omega
  have HML : Hid (M.length = 128) := (by rw [hM, BL_length]; simp : _ = _)
  rw [← hn] at HBY
  rw [← hn]
  obtain ⟨Y, hY⟩ : ∃ Y, Y = BL D := ⟨_, rfl⟩
  have HY : Hid (Y = BL D) := hY
  have HYL : Hid (Y.length = n) := (by rw [hY, BL_length, hn] : _ = _)
  have HOA : Hid (Only (fun _ => False) w (w.alloc (.cells M.toArray 5))) := (Only.refl _ w).alloc _
  have HSRC : Hid (0 < Y.length → ∃ ad, a = some ad ∧ ∀ j u, Y[j]? = some u → (w.alloc (.cells M.toArray 5)).cell? (ad.add j) = some u) := fun hp => by
    have hp2 : 0 < D.length := by have := HYL.out; omega
    obtain ⟨g, o, rfl, _⟩ := HC.out 0 hp2
    refine ⟨_, rfl, fun j u hu => ?_⟩
    rw [hY] at hu
    have hj : j < D.length := by have := (List.getElem?_eq_some_iff.1 hu).1; rwa [BL_length] at this
    obtain ⟨g', o', e', hcell⟩ := HC.out j hj
    simp only [Option.some.injEq, Addr.mk.injEq, and_true] at e'
    obtain ⟨rfl, rfl⟩ := e'
    rw [Addr.add_mid, HOA.out.cell hcell (fun e => e)]
    rw [BL_get _ _ hj] at hu
    rw [← hu]
    simp [List.getD, hj]
  have hsz : (w.alloc (.cells M.toArray 5)).heap.size = w.heap.size + 1 := by simp
  clear h hc hn hcap hM hbz hY hD
  go_enter Try.func70, Try.ntmps70
  go_wp2_with ((refine wpList_copy_splice rfl _ _ 23 23 rfl 5 Try.underlying23 size5 _ _ _ _ _ _ rfl rfl w.heap.size 12 M 5 (heap_alloc_new w _) Y (by have := HYL.out; show Y.length = min n 116; omega) (fun hp => ⟨rfl, HSRC.out hp⟩) (by have := HML.out; have := HYL.out; omega) (by rw [HY.out]; exact BL_one _) w.heap.size (w.alloc (.cells M.toArray 5)) (Below.refl _ _) (Nat.le_refl _) ?_); intro w1 HG1 hB1)
  have HB1 : Hid (Blk w1 w.heap.size (splice (List.replicate 128 0) 12 D)) := Blk.spliced HBZ.out HBY.out.2.2 (by have := HN.out; simp; omega) (by have := HG1.out; rwa [HM.out, HY.out] at this)
  have HO1 : Hid (Only (fun _ => False) w w1) := HOA.out.trans (Below.only hB1) (fun i hi e => by omega)
  clear HG1 hB1 HSRC hmk
  have hz1 : (splice (List.replicate 128 0) 12 D).length = 128 := by rw [length_splice _ _ _ (by have := HN.out; simp; omega)]; simp
  obtain ⟨Z1, hZ1⟩ : ∃ Z, Z = splice (List.replicate 128 0) 12 D := ⟨_, rfl⟩
  rw [← hZ1] at HB1 hz1
  have HZ1 : Hid (Z1 = splice (List.replicate 128 0) 12 D) := hZ1
  clear hZ1
  go_wp2_with fail
  refine (laynum_any w.heap.size 128 128 4 id Z1 w1 HB1.out (by omega) (by omega) (by omega) hid).mono ?_
  rintro e w2 ⟨rfl, hb2, ho2⟩
  have HB2 : Hid (Blk w2 w.heap.size (splice Z1 4 (lay4 id))) := hb2
  have HO2 : Hid (Only (fun _ => False) w w2) := HO1.out.trans ho2 (fun i hi e => by omega)
  clear hb2 ho2 HB1 HO1
  have hz2 : (splice Z1 4 (lay4 id)).length = 128 := by rw [length_splice _ _ _ (by rw [lay4_length]; omega)]; exact hz1
  obtain ⟨Z2, hZ2⟩ : ∃ Z, Z = splice Z1 4 (lay4 id) := ⟨_, rfl⟩
  rw [← hZ2] at HB2 hz2
  have HZ2 : Hid (Z2 = splice Z1 4 (lay4 id)) := hZ2
  clear hZ2
  go_wp2_with fail
  refine (laynum_any w.heap.size 128 128 8 n Z2 w2 HB2.out (by omega) (by omega) (by omega) (by omega)).mono ?_
  rintro e w3 ⟨rfl, hb3, ho3⟩
  have HO3 : Hid (Only (fun _ => False) w w3) := HO2.out.trans ho3 (fun i hi e => by omega)
  have hz3 : splice Z2 8 (lay4 n) = [0, 0, 0, 0] ++ rest id D := by
    rw [HZ2.out, HZ1.out, HN.out]
    exact lays id D (by have := HN.out; omega)
  rw [hz3] at hb3
  have hl3 : ([0, 0, 0, 0] ++ rest id D).length = 128 := by rw [List.length_append, rest_length id D (by have := HN.out; omega)]; rfl
  have HE : Hid (∀ x, x = sumN (([0, 0, 0, 0] ++ rest id D).drop 4) → splice ([0, 0, 0, 0] ++ rest id D) 0 (lay4 x) = page id D) := fun x hx => by rw [hx]; exact lays_end id D
  obtain ⟨Z3, hZ3⟩ : ∃ Z, Z = [0, 0, 0, 0] ++ rest id D := ⟨_, rfl⟩
  rw [← hZ3] at hb3 hl3 HE
  have HB3 : Hid (Blk w3 w.heap.size Z3) := hb3
  have hs : sumN (Z3.drop 4) < 4294967296 := sumN_lt _ (fun z h => hb3.2.2 z (List.mem_of_mem_drop h))
  have hbs : BytesAt w3 (.slice (some ⟨w.heap.size, 4, none⟩) 124 124) (Z3.drop 4) := by
    have := hb3.bytes 4 124 124 (by omega) (Nat.le_refl _)
    rwa [List.take_of_length_le (by rw [List.length_drop]; omega)] at this
  obtain ⟨x, hx⟩ : ∃ x, x = sumN (Z3.drop 4) := ⟨_, rfl⟩
  have HS : Hid (Calls Try.prog 88 #[.slice (some ⟨w.heap.size, 4, none⟩) 124 124] w3 fun e w' => e = .returned (.int .u32 (x : Nat)) ∧ w' = w3) := by rw [hx]; exact sum_any _ _ _ hbs
  rw [← hx] at hs
  have HX : Hid (splice Z3 0 (lay4 x) = page id D) := HE.out x hx
  clear hb3 ho3 HB2 HO2 hz3 hZ3 hbs hx HE
  go_wp2_with fail
  refine (show Calls Try.prog 88 _ _ _ from HS.out).mono ?_
  rintro e w4 ⟨rfl, rfl⟩
  clear HS
  go_wp2_with fail
  refine (laynum_any w.heap.size 128 128 0 x Z3 w4 HB3.out (by omega) (by omega) (by omega) hs).mono ?_
  rintro e w5 ⟨rfl, hb5, ho5⟩
  rw [HX.out] at hb5
  have HB5 : Hid (Blk w5 w.heap.size (page id D)) := hb5
  have HO5 : Hid (Only (fun _ => False) w w5) := HO3.out.trans ho5 (fun i hi e => by omega)
  clear hb5 ho5
  go_wp2
  go_ret2
  exact ⟨rfl, HB5.out, HO5.out⟩
end Go.Proofs.Ytpoakkdkibameab
namespace Go.Proofs.Ytpoakkdkibameab
open Go.RowKit
set_option linter.unusedSimpArgs false
set_option linter.unusedVariables false

/-- All that a disk holds are bytes. -/
def Byt (f : Nat → Int) : Prop := ∀ j, 0 ≤ f j ∧ f j < 256
structure ByteD (d : DS) : Prop where
  sec : ∀ i, Byt (d.sec i)
  bef : ∀ x ∈ d.pend, Byt x.bef
  aft : ∀ x ∈ d.pend, Byt x.aft
theorem byt_upd {s : Nat → Nat → Int} (h : ∀ i, Byt (s i)) (k : Nat) (f : Nat → Int) (hf : Byt f) : ∀ i, Byt (upd s k f i) := by
  intro i
  unfold upd
  split
  · exact hf
  · exact h i
theorem ByteD.new (n : Nat) : ByteD ⟨n, fun _ _ => 0, [], -1⟩ := ⟨fun _ _ => ⟨by simp, by simp⟩, by simp, by simp⟩
theorem ByteD.life {d : DS} (h : ByteD d) (l : Int) : ByteD { d with life := l } := ⟨h.sec, h.bef, h.aft⟩
theorem ByteD.barrier {d : DS} (h : ByteD d) (l : Int) : ByteD { d with pend := [], life := l } := ⟨h.sec, by simp, by simp⟩
theorem ByteD.put {d : DS} (h : ByteD d) (k : Nat) (f : Nat → Int) (l : Int) (hf : Byt f) : ByteD { d with sec := upd d.sec k f, pend := d.pend ++ [⟨k, d.sec k, f⟩], life := l } := by
  refine ⟨byt_upd h.sec k f hf, fun x hx => ?_, fun x hx => ?_⟩
  · rcases List.mem_append.1 hx with hx | hx
    · exact h.bef x hx
    · simp at hx; subst hx; exact h.sec k
  · rcases List.mem_append.1 hx with hx | hx
    · exact h.aft x hx
    · simp at hx; subst hx; exact hf
theorem ByteD.write {d : DS} (h : ByteD d) (k : Int) (f : Nat → Int) (m : Nat) (hf : Byt f) : ByteD (d.write k f m).2 := by
  simp only [DS.write]
  split
  · exact h
  · split
    · exact h
    · split
      · exact h
      · exact h.put _ f _ hf
theorem byt_mix (n : Nat) {f g : Nat → Int} (hf : Byt f) (hg : Byt g) : Byt (mix n f g) := by
  intro j
  unfold mix
  split
  · exact hf j
  · exact hg j
theorem byt_fold : ∀ (l : List Wr) (s : Nat → Nat → Int), (∀ i, Byt (s i)) → (∀ x ∈ l, Byt x.bef) → ∀ i, Byt (l.foldl (fun s x => upd s x.at_ x.bef) s i)
  | [], _, h, _ => h
  | x :: r, s, h, hb => byt_fold r _ (byt_upd h _ _ (hb x List.mem_cons_self)) (fun y hy => hb y (List.mem_cons_of_mem _ hy))
theorem byt_undo (ws : List Wr) (s : Nat → Nat → Int) (h : ∀ i, Byt (s i)) (hb : ∀ x ∈ ws, Byt x.bef) : ∀ i, Byt (undoW ws s i) :=
  byt_fold ws.reverse s h (fun x hx => hb x (List.mem_reverse.1 hx))
theorem byt_crash (kp : Nat → Bool) (torn : Int) (cut : Nat) (ws : List Wr) (s : Nat → Nat → Int) (h : ∀ i, Byt (s i)) (ha : ∀ x ∈ ws, Byt x.aft) : ∀ m i, Byt (crashTo kp torn cut ws s m i)
  | 0, i => h i
  | m + 1, i => by
    have ih := byt_crash kp torn cut ws s h ha m
    cases hk : kp m with
    | false => rw [crashTo_no _ _ _ _ _ _ hk]; exact ih i
    | true =>
      cases hx : ws[m]? with
      | none => simp only [crashTo, hx]; exact ih i
      | some x =>
        rw [crashTo_yes _ _ _ _ _ _ x hx hk]
        exact byt_upd ih _ _ (byt_mix _ (ha x (List.mem_of_getElem? hx)) (ih _)) i
theorem ByteD.crash {d : DS} (h : ByteD d) (kp : Nat → Bool) (torn : Int) (cut : Nat) (m : Nat) : ByteD ⟨d.n, crashTo kp torn cut d.pend (undoW d.pend d.sec) m, [], -1⟩ :=
  ⟨byt_crash kp torn cut _ _ (byt_undo _ _ h.sec h.bef) h.aft m, by simp, by simp⟩

/-- The bytes of a sector. -/
def secN (f : Nat → Int) : List Nat := (List.range 32).map fun j => (f j).toNat
theorem secN_length (f : Nat → Int) : (secN f).length = 32 := by simp [secN]
theorem secN_lt {f : Nat → Int} (h : Byt f) : ∀ z ∈ secN f, z < 256 := by
  intro z hz
  simp only [secN, List.mem_map] at hz
  obtain ⟨j, _, rfl⟩ := hz
  have := h j
  omega
theorem secN_getD (f : Nat → Int) (j : Nat) (hj : j < 32) : (secN f).getD j 0 = (f j).toNat := by simp [secN, List.getD, hj]
theorem secL_BL {f : Nat → Int} (h : Byt f) : secL f = BL (secN f) := by
  simp only [secL, BL, secN, List.map_map]
  apply List.map_congr_left
  intro j _
  have := h j
  simp only [Function.comp]
  congr 1
  omega
/-- The first k sectors of page P. -/
def pgN (d : DS) (P : Nat) : Nat → List Nat
  | 0 => []
  | k + 1 => pgN d P k ++ secN (d.sec (4 * P + k))
theorem pgN_length (d : DS) (P : Nat) : ∀ k, (pgN d P k).length = 32 * k
  | 0 => rfl
  | k + 1 => by simp only [pgN, List.length_append, pgN_length d P k, secN_length]; omega
theorem pgN_lt {d : DS} (h : ByteD d) (P : Nat) : ∀ k, ∀ z ∈ pgN d P k, z < 256
  | 0, z, hz => by cases hz
  | k + 1, z, hz => by
    simp only [pgN, List.mem_append] at hz
    rcases hz with hz | hz
    · exact pgN_lt h P k z hz
    · exact secN_lt (h.sec _) z hz
/-- The sector number k of a page's bytes. -/
def secF (Z : List Nat) (k : Nat) : Nat → Int := fun j => (((Z.drop (32 * k)).take 32).getD j 0 : Nat)
theorem secF_byt {Z : List Nat} (h : ∀ z ∈ Z, z < 256) (k : Nat) : Byt (secF Z k) := by
  intro j
  have := getD_byte (zs := (Z.drop (32 * k)).take 32) (fun z hz => h z (List.mem_of_mem_drop (List.mem_of_mem_take hz))) j
  unfold secF
  omega
theorem secN_secF (Z : List Nat) (k : Nat) (h : 32 * k + 32 ≤ Z.length) : secN (secF Z k) = (Z.drop (32 * k)).take 32 := by
  apply List.ext_getElem
  · rw [secN_length]; simp; omega
  · intro i h1 h2
    rw [secN_length] at h1
    simp only [secN, List.getElem_map, List.getElem_range, secF, Int.toNat_natCast, List.getD]
    rw [List.getElem?_eq_getElem h2]
    rfl
/-- The first k sectors of page P are written. -/
def DS.wr4 (d : DS) (P : Nat) (Z : List Nat) : Nat → Int × DS
  | 0 => (0, d)
  | k + 1 => if (d.wr4 P Z k).1 = 0 then (d.wr4 P Z k).2.write ((4 * P + k : Nat) : Int) (secF Z k) 32 else d.wr4 P Z k
/-- What pages.Write answers, and what it leaves. -/
def DS.wpage (d : DS) (P : Int) (id : Nat) (D : List Nat) : Int × DS :=
  if P < 0 ∨ ((d.n / 4 : Nat) : Int) ≤ P then (4, d) else if 116 < D.length then (11, d) else d.wr4 P.toNat (page id D) 4
theorem wr4_facts (d : DS) (P : Nat) (Z : List Nat) (hz : ∀ z ∈ Z, z < 256) (hb : ByteD d) (hg : Good d) : ∀ k, ByteD (d.wr4 P Z k).2 ∧ Good (d.wr4 P Z k).2 ∧ (d.wr4 P Z k).2.n = d.n ∧ (d.wr4 P Z k).2.pend.length ≤ d.pend.length + k
  | 0 => ⟨hb, hg, rfl, Nat.le_refl _⟩
  | k + 1 => by
    obtain ⟨h1, h2, h3, h4⟩ := wr4_facts d P Z hz hb hg k
    simp only [DS.wr4]
    split
    · refine ⟨h1.write _ _ _ (secF_byt hz k), h2.write _ _ _, (write_n _ _ _ _).trans h3, ?_⟩
      have := write_len2 (d.wr4 P Z k).2 ((4 * P + k : Nat) : Int) (secF Z k) 32
      omega
    · exact ⟨h1, h2, h3, by omega⟩
theorem wpage_facts {d : DS} (P : Int) (id : Nat) (D : List Nat) (hz : ∀ z ∈ D, z < 256) (hb : ByteD d) (hg : Good d) : ByteD (d.wpage P id D).2 ∧ Good (d.wpage P id D).2 ∧ (d.wpage P id D).2.n = d.n ∧ (d.wpage P id D).2.pend.length ≤ d.pend.length + 4 := by
  simp only [DS.wpage]
  split
  · exact ⟨hb, hg, rfl, Nat.le_add_right _ _⟩
  · split
    · exact ⟨hb, hg, rfl, Nat.le_add_right _ _⟩
    · exact wr4_facts d P.toNat (page id D) (page_lt id D hz) hb hg 4
end Go.Proofs.Ytpoakkdkibameab
