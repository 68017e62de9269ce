/- read, and the tokens of a text. -/
import Derived.Test.YtbijiigobbjlcaaDoorLx20
namespace Go.Proofs.YtbijiigobbjlcaaDoor
open Go.RowKit Go.Lib
set_option linter.unusedSimpArgs false
set_option linter.unusedVariables false
theorem only_below {w w' : World} (h : Only (fun _ => False) w w') : Below w.heap.size w w' := ⟨h.os, h.tape, h.output, h.size, fun k hk => h.block k hk (fun g => g)⟩
/-- The byte at a place. -/
def byN (s : ByteArray) (a : Nat) : Nat := (s.get! a).toNat
theorem get_bang (s : ByteArray) (a : Nat) (h : a < s.size) : s[a]'h = s.get! a := by
  cases s with
  | mk d =>
    show d[a]'h = d[a]!
    exact (getElem!_pos d a h).symm
def redR (s : ByteArray) (a : Nat) : Tok × Nat × Int := if byN s a = 34 then strR s a else wrdR s a
set_option maxRecDepth 100000 in
set_option maxHeartbeats 4000000 in
theorem read_any (s : ByteArray) (a : Nat) (ha : a < s.size) (hs : s.size ≤ 1000000) (w : World) (h : Nog w) :
    Calls Tryd.prog 24 #[.string s, .int .i64 (a : Int)] w fun e w' => e = .returned (rdV (redR s a)) ∧ Only (fun _ => False) w w' := by
  have hix : ∀ W : World, (Instr.index 9 (.string s) (.int .i64 (a : Int))).run Tryd.prog W = .ok (.int .u8 (byN s a : Int)) W := fun W => by
    rw [run_index_string W 9 _ _ _ Tryd.underlying9, dif_pos ⟨by omega, by omega⟩]
    simp only [Int.toNat_natCast]
    rw [get_bang]
    rfl
  have HS : Hid (∀ w1, Calls Tryd.prog 40 #[.string s, .int .i64 (a : Int)] w1 fun e w' => e = .returned (rdV (strR s a)) ∧ Only (fun _ => False) w1 w') := fun w1 => (readString_any s a ha hs w1).mono fun e w' g => ⟨g.1, below_only g.2⟩
  have HW : Hid (∀ w1, Only (fun _ => False) w w1 → Calls Tryd.prog 41 #[.string s, .int .i64 (a : Int)] w1 fun e w' => e = .returned (rdV (wrdR s a)) ∧ Only (fun _ => False) w1 w') := fun w1 o => readWord_any s a (by omega) hs w1 (h.frame o)
  unfold redR
  obtain ⟨y, hy⟩ : ∃ y, y = byN s a := ⟨_, rfl⟩
  rw [← hy] at hix ⊢
  clear hy h
  have O0 : Hid (Only (fun _ => False) w w) := Only.refl _ _
  have HB : Hid (∀ (k : Nat) (o : Obj), w.heap.size ≤ k → Only (fun _ => False) w (w.alloc o)) := fun _ o _ => O0.out.alloc _
  by_cases h34 : y = 34
  · subst h34
    rw [if_pos rfl]
    obtain ⟨⟨⟨k, t, n, q⟩, p, e⟩, hr⟩ : ∃ r, r = strR s a := ⟨_, rfl⟩
    rw [← hr] at HS ⊢
    clear hr HW
    go_enter Tryd.func24, Tryd.ntmps24
    go_wp2_with fail
    refine (show Calls Tryd.prog 40 _ _ _ from HS.out _).mono ?_
    rintro e1 w1 ⟨rfl, o1⟩
    have O1 : Hid (Only (fun _ => False) w w1) := (O0.out.alloc _).trans o1 (fun _ _ g => g)
    have R3 := (o1.block w.heap.size (by simp) (fun g => g)).trans (alloc_at _ _ _ rfl)
    clear HS o1
    simp only [rdV, Tok.v]
    have c0 := blk_cells R3 0
    have c1 := blk_cells R3 1
    have c2 := blk_cells R3 2
    have c3 := blk_cells R3 3
    have z0 := blk_froz R3 0
    have z1 := blk_froz R3 1
    have z2 := blk_froz R3 2
    have z3 := blk_froz R3 3
    simp only [List.getElem?_toArray, List.getElem?_cons_zero, List.getElem?_cons_succ] at c0 c1 c2 c3
    go_wp2
    obtain ⟨q0, q1, q2, q3⟩ := set4 R3 rfl (.int .i64 k) (.string t) (.int .i64 n) (.int .i64 q)
    refine bodyPost_ret (results_tok rfl _ _ w.heap.size q0 q1 q2 q3 rfl) rfl ?_
    exact ⟨rfl, (((O1.out.setCell _ _ (fun g => by simp only at g; omega)).setCell _ _ (fun g => by simp only at g; omega)).setCell _ _ (fun g => by simp only at g; omega)).setCell _ _ (fun g => by simp only at g; omega)⟩
  · have i1 : ¬ (y : Int) = 34 := by omega
    rw [if_neg h34]
    obtain ⟨⟨⟨k, t, n, q⟩, p, e⟩, hr⟩ : ∃ r, r = wrdR s a := ⟨_, rfl⟩
    rw [← hr] at HW ⊢
    clear hr HS h34
    go_enter Tryd.func24, Tryd.ntmps24
    go_wp2_with fail
    refine (show Calls Tryd.prog 41 _ _ _ from HW.out _ (O0.out.alloc _)).mono ?_
    rintro e1 w1 ⟨rfl, o1⟩
    have O1 : Hid (Only (fun _ => False) w w1) := (O0.out.alloc _).trans o1 (fun _ _ g => g)
    have R3 := (o1.block w.heap.size (by simp) (fun g => g)).trans (alloc_at _ _ _ rfl)
    clear HW o1
    simp only [rdV, Tok.v]
    have c0 := blk_cells R3 0
    have c1 := blk_cells R3 1
    have c2 := blk_cells R3 2
    have c3 := blk_cells R3 3
    have z0 := blk_froz R3 0
    have z1 := blk_froz R3 1
    have z2 := blk_froz R3 2
    have z3 := blk_froz R3 3
    simp only [List.getElem?_toArray, List.getElem?_cons_zero, List.getElem?_cons_succ] at c0 c1 c2 c3
    go_wp2
    obtain ⟨q0, q1, q2, q3⟩ := set4 R3 rfl (.int .i64 k) (.string t) (.int .i64 n) (.int .i64 q)
    refine bodyPost_ret (results_tok rfl _ _ w.heap.size q0 q1 q2 q3 rfl) rfl ?_
    exact ⟨rfl, (((O1.out.setCell _ _ (fun g => by simp only at g; omega)).setCell _ _ (fun g => by simp only at g; omega)).setCell _ _ (fun g => by simp only at g; omega)).setCell _ _ (fun g => by simp only at g; omega)⟩
/-- Where the next token begins. -/
def bg (s : ByteArray) (a : Nat) : Nat := bgn s (s.size + 1) a
theorem bgn_bd (s : ByteArray) : ∀ (f a : Nat), a ≤ s.size → a ≤ bgn s f a ∧ bgn s f a ≤ s.size
  | 0, a, h => ⟨Nat.le_refl _, h⟩
  | f + 1, a, h => by
    have h1 := fnd_le (fun c => !blk c) s h
    unfold bgn
    split
    · have h2 := fnd_le (fun c => decide (c = 10)) s h1.2
      have := bgn_bd s f _ h2.2
      omega
    · exact h1
/-- A word that is read is not empty. -/
theorem wrd_go {s : ByteArray} {a : Nat} (ha : a ≤ s.size) (h : (wrdR s a).2.2 = 0) : a < (wrdR s a).2.1 ∧ (wrdR s a).2.1 ≤ s.size := by
  have hf := fnd_le (fun c => blk c) s ha
  unfold wrdR at h ⊢
  dsimp only at h ⊢
  by_cases he : fnd (fun c => blk c) s a = a
  · exfalso
    rw [he] at h
    have e0 : s.extract a a = ⟨#[]⟩ := by
      apply ByteArray.ext
      simp
    rw [e0] at h
    have n0 : (numR ⟨#[]⟩).2 = 9 := by decide
    have n1 : nmdB ⟨#[]⟩ = false := by
      unfold nmdB
      split
      · rfl
      · split
        · rfl
        · rfl
    rw [n0, n1, if_neg (by decide), if_neg (by decide), if_pos rfl] at h
    exact absurd h (by simp)
  · revert h
    split
    · intro _; exact ⟨by show a < fnd (fun c => blk c) s a; omega, hf.2⟩
    · split
      · intro h; simp at h
      · split
        · intro h; simp at h
        · intro _; exact ⟨by show a < fnd (fun c => blk c) s a; omega, hf.2⟩
theorem strG_go (a n : Nat) (S : ByteArray) (hS : a + 1 + S.size ≤ n) : ∀ (b pos : Nat) (e : Bool) (out : List Nat), (strG a n (crs S b pos) e out).2.2 = 0 → a < (strG a n (crs S b pos) e out).2.1 ∧ (strG a n (crs S b pos) e out).2.1 ≤ n
  | 0, pos, true, out => by intro h; simp [crs, strG] at h
  | 0, pos, false, out => by intro h; simp [crs, strG] at h
  | b + 1, pos, e, out => by
    by_cases hp : pos < S.size
    · rw [show crs S (b + 1) pos = (pos, (Utf8.decode S pos).1) :: crs S b (pos + (Utf8.decode S pos).2) by simp [crs, hp]]
      cases e with
      | true =>
        simp only [strG]
        cases hu : une (Utf8.decode S pos).1 with
        | none => intro h; simp at h
        | some m => exact strG_go a n S hS b _ _ _
      | false =>
        simp only [strG]
        split
        · exact strG_go a n S hS b _ _ _
        · split
          · split
            · intro h; simp at h
            · intro _; exact ⟨by show a < a + pos + 2; omega, by show a + pos + 2 ≤ n; omega⟩
          · exact strG_go a n S hS b _ _ _
    · rw [crs_end hp]
      cases e with
      | true => intro h; simp [strG] at h
      | false => intro h; simp [strG] at h
theorem red_go {s : ByteArray} {a : Nat} (ha : a < s.size) (h : (redR s a).2.2 = 0) : a < (redR s a).2.1 ∧ (redR s a).2.1 ≤ s.size := by
  unfold redR at h ⊢
  split at h
  · rw [if_pos (by assumption)]
    exact strG_go a s.size _ (by rw [ByteArray.size_extract]; omega) _ _ _ _ h
  · rw [if_neg (by assumption)]
    exact wrd_go (by omega) h
/-- The tokens from a place on, behind those that stand ahead. -/
def tokG (s : ByteArray) : Nat → Nat → List Tok → List Tok × Nat × Int
  | 0, _, acc => (acc, 0, 0)
  | f + 1, a, acc => if a < s.size then (if (redR s a).2.2 = 0 then (if acc.length = 4096 then ([], a, 11) else tokG s f (bg s (redR s a).2.1) (acc ++ [(redR s a).1])) else ([], (redR s a).2.1, (redR s a).2.2)) else (acc, 0, 0)
def tokR (s : ByteArray) : List Tok × Nat × Int := if 65536 < s.size then ([], 0, 11) else if stR s < s.size then ([], stR s, 8) else tokG s (s.size + 1) (bg s 0) []
end Go.Proofs.YtbijiigobbjlcaaDoor
