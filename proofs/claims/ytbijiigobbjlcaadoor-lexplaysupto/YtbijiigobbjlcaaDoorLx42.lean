/- The document's Tokens: what its steps are. -/
import Derived.Test.YtbijiigobbjlcaaDoorLx41
namespace Go.Proofs.YtbijiigobbjlcaaDoor
open Go.RowKit Go.Lib
set_option linter.unusedSimpArgs false
set_option linter.unusedVariables false
/-- The place of the k-th character. -/
def Pk (l : List Nat) (k : Nat) : Nat := wl (l.take k)
theorem pk_add (l : List Nat) (k i : Nat) : Pk l (k + i) = Pk l k + wl ((l.drop k).take i) := by
  unfold Pk
  rw [List.take_add, wl_app]
theorem pk_succ {l : List Nat} {k c : Nat} (h : l[k]? = some c) : Pk l (k + 1) = Pk l k + wr c := by
  rw [pk_add, drop_cons h, List.take_succ_cons, List.take_zero, wl_cons, wl_nil, Nat.add_zero]
theorem sfx_at {l : List Nat} (hv : VL l) (k : Nat) : Sfx (tx l) (l.drop k) (Pk l k) := by
  have : Sfx (tx l) (l.take k ++ l.drop k) 0 := by rw [List.take_append_drop]; exact sfx_all hv
  have := this.drop
  rwa [Nat.zero_add] at this
theorem t_end {l : List Nat} (hv : VL l) {k : Nat} (h : l.length ≤ k) (acc : List Tok) : tokH (tx l) (bg (tx l) (Pk l k)) acc = (acc, 0, 0) := by
  have g := sfx_at hv k
  rw [List.drop_eq_nil_of_le h] at g
  have gb := bg_sfx g
  rw [SK_nil] at gb
  have := gb.size
  rw [wl_nil] at this
  exact tokH_end _ (by omega)
theorem t_blank {l : List Nat} (hv : VL l) {k c : Nat} (h : l[k]? = some c) (hb : blk c = true) : bg (tx l) (Pk l k) = bg (tx l) (Pk l (k + 1)) := by
  have g := bg_sfx (sfx_at hv k)
  rw [drop_cons h, SK_one hb] at g
  exact g.pos (bg_sfx (sfx_at hv (k + 1)))
theorem t_head {l : List Nat} (hv : VL l) {k c : Nat} (h : l[k]? = some c) (hb : blk c = false) (hr : rmL (l.drop k) = false) : bg (tx l) (Pk l k) = Pk l k ∧ Pk l k < (tx l).size := by
  have g0 := sfx_at hv k
  have g := bg_sfx g0
  have e : SK (l.drop k) = l.drop k := by
    rw [SK_eq]
    have hd : (l.drop k).dropWhile blk = l.drop k := by rw [drop_cons h, List.dropWhile_cons, if_neg (by rw [hb]; simp)]
    rw [hd, hr, if_neg (by simp)]
  rw [e] at g
  refine ⟨g.pos g0, ?_⟩
  have := g0.size
  rw [drop_cons h, wl_cons] at this
  have := wr_pos c
  omega
theorem t_err {s : ByteArray} {a : Nat} (acc : List Tok) (h : a < s.size) (he : (redR s a).2.2 ≠ 0) : tokH s a acc = ([], (redR s a).2.1, (redR s a).2.2) := by
  unfold tokH tokG
  rw [if_pos h, if_neg he]
theorem t_full {s : ByteArray} {a : Nat} {acc : List Tok} (h : a < s.size) (he : (redR s a).2.2 = 0) (hl : acc.length = 4096) : tokH s a acc = ([], a, 11) := by
  unfold tokH tokG
  rw [if_pos h, if_pos he, if_pos hl]
theorem t_remark {l : List Nat} (hv : VL l) {k k' : Nat} (hb : (l.drop k).dropWhile blk = l.drop k) (hr : rmL (l.drop k) = true) (hd : l.drop k' = (l.drop k).dropWhile (fun c => !decide (c = 10))) : bg (tx l) (Pk l k) = bg (tx l) (Pk l k') := by
  have g := bg_sfx (sfx_at hv k)
  rw [SK_eq, hb, if_pos hr, ← hd] at g
  exact g.pos (bg_sfx (sfx_at hv k'))
theorem t_str {l : List Nat} (hv : VL l) {k : Nat} (h : l[k]? = some 34) :
    ((rstr (Pk l k) (l.length + 1) ((cl 0 l).drop (k + 1)) (k + 1) []).2.2 = 0 → ∃ i, k + 1 + i ≤ l.length ∧ (rstr (Pk l k) (l.length + 1) ((cl 0 l).drop (k + 1)) (k + 1) []).2.1 = k + 1 + i ∧ redR (tx l) (Pk l k) = (⟨3, tx (rstr (Pk l k) (l.length + 1) ((cl 0 l).drop (k + 1)) (k + 1) []).1, 0, Pk l k⟩, Pk l (k + 1 + i), 0)) ∧
    ((rstr (Pk l k) (l.length + 1) ((cl 0 l).drop (k + 1)) (k + 1) []).2.2 ≠ 0 → (rstr (Pk l k) (l.length + 1) ((cl 0 l).drop (k + 1)) (k + 1) []).1 = [] ∧ redR (tx l) (Pk l k) = (zT, (rstr (Pk l k) (l.length + 1) ((cl 0 l).drop (k + 1)) (k + 1) []).2.1, (rstr (Pk l k) (l.length + 1) ((cl 0 l).drop (k + 1)) (k + 1) []).2.2)) := by
  have hk := (List.getElem?_eq_some_iff.1 h).1
  have g0 := sfx_at hv k
  rw [drop_cons h] at g0
  have hs := pk_succ h
  rw [show wr 34 = 1 from rfl] at hs
  have ecl : (cl 0 l).drop (k + 1) = cl (Pk l k + 1 + 0) (l.drop (k + 1)) := by
    rw [cl_drop, Nat.zero_add, Nat.add_zero, ← hs]
    rfl
  have hsz := g0.size
  rw [wl_cons, show wr 34 = 1 from rfl] at hsz
  have hsz2 : (tx l).size = Pk l k + 1 + 0 + wl (l.drop (k + 1)) := by omega
  rw [ecl, red_str g0, hsz2]
  have hlen : (l.drop (k + 1)).length = l.length - (k + 1) := List.length_drop
  obtain ⟨i1, i2⟩ := str_rel (Pk l k) (l.length + 1) (l.drop (k + 1)) 0 (k + 1) [] (by omega)
  refine ⟨fun g => ?_, i2⟩
  obtain ⟨i, hi, e1, e2⟩ := i1 g
  have hle : k + 1 + i ≤ l.length := by
    rw [hlen] at hi
    have := Nat.add_le_add_left hi (k + 1)
    rwa [Nat.add_sub_cancel' (Nat.succ_le_of_lt hk)] at this
  refine ⟨i, hle, e1, ?_⟩
  rw [e2, Nat.add_zero, pk_add l (k + 1) i, hs]
theorem tw_take (P : Nat → Bool) : ∀ q : List Nat, q.takeWhile P = q.take (q.takeWhile P).length
  | [] => rfl
  | c :: q => by
    rw [List.takeWhile_cons]
    split
    · rw [List.length_cons, List.take_succ_cons, ← tw_take P q]
    · rfl
theorem wrd_take (l : List Nat) (k : Nat) : (l.drop k).takeWhile (fun c => !blk c) = (l.drop k).take ((l.drop k).takeWhile (fun c => !blk c)).length := tw_take _ _
theorem t_word {l : List Nat} (hv : VL l) {k c : Nat} (h : l[k]? = some c) (h34 : c ≠ 34) : redR (tx l) (Pk l k) = wrdL ((l.drop k).takeWhile (fun c => !blk c)) (Pk l k) (Pk l (k + ((l.drop k).takeWhile (fun c => !blk c)).length)) := by
  have g0 := sfx_at hv k
  rw [drop_cons h] at g0
  rw [red_word (r := []) g0 h34 rfl, pk_add, ← drop_cons h]
  rw [← wrd_take]
theorem t_bytes {l : List Nat} (hv : VL l) (k : Nat) : (tx l).extract (Pk l k) (Pk l (k + ((l.drop k).takeWhile (fun c => !blk c)).length)) = tx ((l.drop k).takeWhile (fun c => !blk c)) := by
  have g0 := sfx_at hv k
  have g1 : Sfx (tx l) ((l.drop k).takeWhile (fun c => !blk c) ++ (l.drop k).dropWhile (fun c => !blk c)) (Pk l k) := by rw [← split_while]; exact g0
  rw [pk_add, ← wrd_take]
  exact g1.extract
/-- A remark begins just where the word is the sign !. -/
theorem rm_word {l : List Nat} {k c : Nat} (h : l[k]? = some c) (hb : blk c = false) : rmL (l.drop k) = decide ((l.drop k).takeWhile (fun c => !blk c) = [33]) := by
  rw [drop_cons h]
  unfold rmL
  rw [List.head?_cons, List.tail_cons, List.takeWhile_cons, hb]
  simp only [Bool.not_false, if_true, Option.some.injEq]
  by_cases h33 : c = 33
  · subst h33
    cases hq : (l.drop (k + 1)).takeWhile (fun c => !blk c) <;> simp
  · simp [h33]
theorem bang_toList (w : List Nat) (hv : VL w) : ((tx w).toList == [33]) = decide (w = [33]) := by
  rw [Bool.eq_iff_iff, decide_eq_true_iff, beq_iff_eq, ByteArray.toList_eq, tx_data]
  constructor
  · intro h
    have e : tx w = tx [33] := by
      apply tx_inj
      rw [tx_data, h]
      rfl
    have := rns_tx hv
    rw [e, rns_tx (by intro c hc; simp at hc; subst hc; exact .inl (by decide))] at this
    exact this.symm
  · rintro rfl
    rfl
end Go.Proofs.YtbijiigobbjlcaaDoor
