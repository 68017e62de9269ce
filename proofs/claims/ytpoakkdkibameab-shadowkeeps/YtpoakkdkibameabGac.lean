/- Two lists of bytes that differ within four bytes side by side have different sums. A page's bytes as numbers: what they are, and which bytes are a page. No program in it. Blocks of bytes; what piece, layNumber, numberAt and allZero do. What lay and the bytes of a root are. The bytes of a root. What a disk is in memory: definitions and small facts, with no program in them. The small calls of a disk: what alive, reach, age, Len, Pending, Live and Barrier answer and change, by the cells that they read. Laws for single operations, and what Read of a sector that there is answers. -/
import Derived.Test.YtpoakkdkibameabGab
import Derived.Laws.CopyOwn
import Derived.Laws.Bits64b
import Derived.Test.YtpoakkdkibameabGaa
import Derived.Test.YtpoakkdkibameabRows
import Derived.WalkKit
import Derived.WalkSpells
import Derived.WalkLawsBesides
import Derived.Deep.RegionHeld3
import Derived.Deep.MidRow
import Derived.Deep.AppendLies
import Derived.Deep.DrawnRows
import Derived.Deep.WholeRow
namespace Go.Proofs.Ytpoakkdkibameab
set_option linter.unusedVariables false

theorem eat_xor (r s c d : Nat) : eat r c ^^^ eat s d = eat (r ^^^ s) (c ^^^ d) := by
  unfold eat
  rw [← it_xor]
  congr 1
  ac_rfl
/-- What two registers differ by. -/
theorem fold_xor : ∀ (l l' : List Nat) (r s : Nat), l.length = l'.length → l.foldl eat r ^^^ l'.foldl eat s = (List.zipWith (· ^^^ ·) l l').foldl eat (r ^^^ s)
  | [], [], r, s, _ => rfl
  | c :: l, d :: l', r, s, h => by
    simp only [List.foldl_cons, List.zipWith_cons_cons]
    rw [fold_xor l l' _ _ (by simpa using h), eat_xor]
  | [], _ :: _, _, _, h => by simp at h
  | _ :: _, [], _, _, h => by simp at h
theorem fold_nil : ∀ (l : List Nat) (r : Nat), (∀ z ∈ l, z = 0) → l.foldl eat r = it (8 * l.length) r
  | [], _, _ => rfl
  | c :: l, r, h => by
    rw [List.foldl_cons, fold_nil l _ (fun z hz => h z (List.mem_cons_of_mem _ hz)), h c List.mem_cons_self, List.length_cons]
    unfold eat
    rw [Nat.xor_zero, ← it_add]
    congr 1
    omega
theorem xor_add (a d k : Nat) (h : a < 2 ^ k) : a ^^^ (d * 2 ^ k) = a + 2 ^ k * d := by
  have h1 : (a ^^^ (d * 2 ^ k)) % 2 ^ k = a := by
    rw [Nat.xor_mod_two_pow, Nat.mul_mod_left, Nat.xor_zero, Nat.mod_eq_of_lt h]
  have h2 : (a ^^^ (d * 2 ^ k)) / 2 ^ k = d := by
    have := Nat.shiftRight_xor_distrib (a := a) (b := d * 2 ^ k) (i := k)
    rw [Nat.shiftRight_eq_div_pow, Nat.shiftRight_eq_div_pow, Nat.shiftRight_eq_div_pow, Nat.div_eq_of_lt h, Nat.mul_div_cancel _ (Nat.two_pow_pos k), Nat.zero_xor] at this
    exact this
  have := Nat.mod_add_div (a ^^^ (d * 2 ^ k)) (2 ^ k)
  rw [h1, h2] at this
  exact this.symm
/-- The byte number i of x. -/
def byteOf (x i : Nat) : Nat := x / 2 ^ (8 * i) % 256
theorem byteOf_lt (x i : Nat) : byteOf x i < 256 := Nat.mod_lt _ (by decide)
theorem low_succ (x m : Nat) : x % 2 ^ (8 * (m + 1)) = x % 2 ^ (8 * m) + 2 ^ (8 * m) * byteOf x m := by
  rw [show 8 * (m + 1) = 8 * m + 8 by omega, Nat.pow_add, Nat.mod_mul]
  rfl
theorem low_zero (x m : Nat) : x % 2 ^ (8 * (m + 1)) = 0 ↔ x % 2 ^ (8 * m) = 0 ∧ byteOf x m = 0 := by
  rw [low_succ]
  have := Nat.two_pow_pos (8 * m)
  constructor
  · intro h
    refine ⟨by omega, ?_⟩
    have h2 : 2 ^ (8 * m) * byteOf x m = 0 := by omega
    rcases Nat.mul_eq_zero.1 h2 with h2 | h2
    · omega
    · exact h2
  · rintro ⟨h1, h2⟩
    rw [h1, h2]; rfl
theorem fold_bytes (x : Nat) : ∀ m, ((List.range m).map (byteOf x)).foldl eat 0 = it (8 * m) (x % 2 ^ (8 * m))
  | 0 => by simp [it, Nat.mod_one]
  | m + 1 => by
    rw [List.range_succ, List.map_append, List.foldl_append, fold_bytes x m]
    simp only [List.map_cons, List.map_nil, List.foldl_cons, List.foldl_nil]
    unfold eat
    have e : byteOf x m = it (8 * m) (byteOf x m * 2 ^ (8 * m)) := (it_pow _ _).symm
    rw [e, ← it_xor, xor_add _ _ _ (Nat.mod_lt _ (Nat.two_pow_pos _)), ← low_succ, ← it_add]
    congr 1
/-- b with k bytes from p on xored with those of x. -/
def turned (b : Nat → Nat) (x p k : Nat) : Nat → Nat := fun j => if p ≤ j ∧ j < p + k then b j ^^^ byteOf x (j - p) else b j
theorem sum_turned (b : Nat → Nat) (x p k n : Nat) (hk : k ≤ 4) (hn : p + k ≤ n) : sumN ((List.range n).map b) = sumN ((List.range n).map (turned b x p k)) ↔ x % 2 ^ (8 * k) = 0 := by
  have hlt : x % 2 ^ (8 * k) < 4294967296 := by
    have h1 := Nat.mod_lt x (Nat.two_pow_pos (8 * k))
    have h2 : 2 ^ (8 * k) ≤ 2 ^ 32 := Nat.pow_le_pow_right (by decide) (by omega)
    omega
  have hx : sumN ((List.range n).map b) ^^^ sumN ((List.range n).map (turned b x p k)) = it (8 * (n - (p + k))) (it (8 * k) (x % 2 ^ (8 * k))) := by
    unfold sumN
    have e : ∀ a c o : Nat, a ^^^ o ^^^ (c ^^^ o) = a ^^^ c ^^^ (o ^^^ o) := fun a c o => by ac_rfl
    rw [e, Nat.xor_self, Nat.xor_zero]
    unfold reg
    rw [fold_xor _ _ _ _ (by simp), Nat.xor_self]
    have z : List.zipWith (· ^^^ ·) ((List.range n).map b) ((List.range n).map (turned b x p k)) = List.replicate p 0 ++ (List.range k).map (byteOf x) ++ List.replicate (n - (p + k)) 0 := by
      apply List.ext_getElem
      · simp; omega
      · intro i h1 h2
        simp at h1
        simp only [List.getElem_zipWith, List.getElem_map, List.getElem_range]
        unfold turned
        by_cases c1 : i < p
        · rw [if_neg (by omega), Nat.xor_self, List.getElem_append_left (by simp; omega), List.getElem_append_left (by simpa using c1), List.getElem_replicate]
        · by_cases c2 : i < p + k
          · rw [if_pos (by omega), List.getElem_append_left (by simp; omega), List.getElem_append_right (by simp; omega)]
            simp [← Nat.xor_assoc]
          · rw [if_neg (by omega), Nat.xor_self, List.getElem_append_right (by simp; omega), List.getElem_replicate]
    rw [z, List.foldl_append, List.foldl_append, fold_nil (List.replicate p 0) 0 (fun z hz => List.eq_of_mem_replicate hz), it_zero, fold_bytes, fold_nil _ _ (fun z hz => List.eq_of_mem_replicate hz), List.length_replicate]
  constructor
  · intro h
    rw [h, Nat.xor_self] at hx
    exact it_ker hlt (8 * k) (it_ker (it_lt hlt _) _ hx.symm)
  · intro h
    rw [h, it_zero, it_zero] at hx
    exact xor_eq hx
end Go.Proofs.Ytpoakkdkibameab
namespace Go.Proofs.Ytpoakkdkibameab
set_option linter.unusedVariables false

/-- A number as four bytes, the lowest first. -/
def lay4 (n : Nat) : List Nat := [n % 256, n / 256 % 256, n / 65536 % 256, n / 16777216 % 256]
/-- The number that four bytes from p on write. -/
def val4 (zs : List Nat) (p : Nat) : Nat := zs.getD p 0 + 256 * zs.getD (p + 1) 0 + 65536 * zs.getD (p + 2) 0 + 16777216 * zs.getD (p + 3) 0
theorem lay4_length (n : Nat) : (lay4 n).length = 4 := rfl
theorem lay4_lt (n : Nat) : ∀ z ∈ lay4 n, z < 256 := by
  intro z hz
  simp only [lay4, List.mem_cons, List.not_mem_nil, or_false] at hz
  omega
theorem getD_byte {zs : List Nat} (h : ∀ z ∈ zs, z < 256) (k : Nat) : zs.getD k 0 < 256 := by
  simp only [List.getD]
  rcases Nat.lt_or_ge k zs.length with hk | hk
  · rw [List.getElem?_eq_getElem hk]; exact h _ (List.getElem_mem hk)
  · rw [List.getElem?_eq_none hk]; decide
theorem val4_lt {zs : List Nat} (h : ∀ z ∈ zs, z < 256) (p : Nat) : val4 zs p < 4294967296 := by
  have h0 := getD_byte h p
  have h1 := getD_byte h (p + 1)
  have h2 := getD_byte h (p + 2)
  have h3 := getD_byte h (p + 3)
  unfold val4
  omega
theorem lay4_val4 {zs : List Nat} (h : ∀ z ∈ zs, z < 256) (p : Nat) (hp : p + 4 ≤ zs.length) : lay4 (val4 zs p) = (zs.drop p).take 4 := by
  have h0 := getD_byte h p
  have h1 := getD_byte h (p + 1)
  have h2 := getD_byte h (p + 2)
  have h3 := getD_byte h (p + 3)
  have e : (zs.drop p).take 4 = [zs.getD p 0, zs.getD (p + 1) 0, zs.getD (p + 2) 0, zs.getD (p + 3) 0] := by
    apply List.ext_getElem
    · simp; omega
    · intro i h4 h5
      simp at h5
      have hi : p + i < zs.length := by omega
      simp only [List.getElem_take, List.getElem_drop]
      match i, h5 with
      | 0, _ => simp [List.getD, show p < zs.length by omega]
      | 1, _ => simp [List.getD, show p + 1 < zs.length by omega]
      | 2, _ => simp [List.getD, show p + 2 < zs.length by omega]
      | 3, _ => simp [List.getD, show p + 3 < zs.length by omega]
  rw [e]
  unfold lay4 val4
  generalize zs.getD p 0 = a at *
  generalize zs.getD (p + 1) 0 = b at *
  generalize zs.getD (p + 2) 0 = c at *
  generalize zs.getD (p + 3) 0 = d at *
  simp only [List.cons.injEq, and_true]
  omega
theorem val4_lay4 (n : Nat) (h : n < 4294967296) (l : List Nat) : val4 (lay4 n ++ l) 0 = n := by
  simp only [val4, lay4, List.cons_append, List.nil_append, List.getD, List.getElem?_cons_zero, List.getElem?_cons_succ, Option.getD_some]
  omega
theorem val4_drop (zs : List Nat) (p : Nat) : val4 (zs.drop p) 0 = val4 zs p := by
  simp [val4, List.getD]
theorem lay4_inj {a b : Nat} (ha : a < 4294967296) (hb : b < 4294967296) (h : lay4 a = lay4 b) : a = b := by
  have h1 := val4_lay4 a ha []
  have h2 := val4_lay4 b hb []
  rw [h] at h1
  omega

/-- What follows a page's sum. -/
def rest (id : Nat) (D : List Nat) : List Nat := lay4 id ++ (lay4 D.length ++ (D ++ List.replicate (116 - D.length) 0))
/-- A page's bytes. -/
def page (id : Nat) (D : List Nat) : List Nat := lay4 (sumN (rest id D)) ++ rest id D
theorem rest_length (id : Nat) (D : List Nat) (h : D.length ≤ 116) : (rest id D).length = 124 := by
  simp only [rest, List.length_append, lay4_length, List.length_replicate]
  omega
theorem page_length (id : Nat) (D : List Nat) (h : D.length ≤ 116) : (page id D).length = 128 := by
  simp only [page, List.length_append, lay4_length, rest_length id D h]
theorem rest_lt (id : Nat) (D : List Nat) (h : ∀ z ∈ D, z < 256) : ∀ z ∈ rest id D, z < 256 := by
  intro z hz
  simp only [rest, List.mem_append] at hz
  rcases hz with hz | hz | hz | hz
  · exact lay4_lt _ z hz
  · exact lay4_lt _ z hz
  · exact h z hz
  · rw [List.eq_of_mem_replicate hz]; omega
theorem page_lt (id : Nat) (D : List Nat) (h : ∀ z ∈ D, z < 256) : ∀ z ∈ page id D, z < 256 := by
  intro z hz
  simp only [page, List.mem_append] at hz
  rcases hz with hz | hz
  · exact lay4_lt _ z hz
  · exact rest_lt id D h z hz
theorem page_drop (id : Nat) (D : List Nat) : (page id D).drop 4 = rest id D := by simp [page, lay4]

/-- What a page of 128 bytes holds. -/
def unp (b : List Nat) : Option (Nat × List Nat) :=
  if val4 b 0 = sumN (b.drop 4) then
    if 116 < val4 b 8 then none
    else if (b.drop (12 + val4 b 8)).all (· == 0) then some (val4 b 4, (b.drop 12).take (val4 b 8)) else none
  else none
theorem all_zero_iff (l : List Nat) : l.all (· == 0) = true ↔ l = List.replicate l.length 0 := by
  constructor
  · intro h
    apply List.ext_getElem
    · simp
    · intro i h1 h2
      have := List.all_eq_true.1 h _ (List.getElem_mem h1)
      simpa using this
  · intro h
    rw [h, List.all_eq_true]
    intro x hx
    rw [List.eq_of_mem_replicate hx]; rfl
theorem cut4 (b : List Nat) (p : Nat) : b.drop p = (b.drop p).take 4 ++ b.drop (p + 4) := by
  rw [← List.drop_drop, List.take_append_drop]
/-- The bytes behind the sum, part by part. -/
theorem parts (b : List Nat) (n : Nat) (hb : b.length = 128) (hz : ∀ z ∈ b, z < 256) (hn : n ≤ 116) : b.drop 4 = lay4 (val4 b 4) ++ (lay4 (val4 b 8) ++ ((b.drop 12).take n ++ b.drop (12 + n))) := by
  rw [lay4_val4 hz 4 (by omega), lay4_val4 hz 8 (by omega), ← List.drop_drop, List.take_append_drop, ← cut4 b 8, ← cut4 b 4]
/-- The document's way: packed again, it comes to the same. -/
theorem again_iff (b : List Nat) (hb : b.length = 128) (hz : ∀ z ∈ b, z < 256) (hn : val4 b 8 ≤ 116) : page (val4 b 4) ((b.drop 12).take (val4 b 8)) = b ↔ val4 b 0 = sumN (b.drop 4) ∧ (b.drop (12 + val4 b 8)).all (· == 0) = true := by
  have hl : ((b.drop 12).take (val4 b 8)).length = val4 b 8 := by rw [List.length_take, List.length_drop]; omega
  have hp := parts b (val4 b 8) hb hz hn
  have hb4 : b = lay4 (val4 b 0) ++ b.drop 4 := by
    have := cut4 b 0
    rw [List.drop_zero, Nat.zero_add] at this
    rw [lay4_val4 hz 0 (by omega), List.drop_zero]
    exact this
  have hd : (b.drop (12 + val4 b 8)).length = 116 - val4 b 8 := by rw [List.length_drop]; omega
  have hs : ∀ z ∈ b.drop 4, z < 256 := fun z h => hz z (List.mem_of_mem_drop h)
  rw [all_zero_iff, hd]
  constructor
  · intro h
    have h4 : rest (val4 b 4) ((b.drop 12).take (val4 b 8)) = b.drop 4 := by
      rw [← page_drop, h]
    have h0 : val4 b 0 = sumN (b.drop 4) := by
      have h5 : page (val4 b 4) ((b.drop 12).take (val4 b 8)) = lay4 (sumN (b.drop 4)) ++ b.drop 4 := by
        unfold page
        rw [h4]
      rw [h, hb4] at h5
      have := List.append_inj_left h5 (by simp [lay4_length])
      rw [← hb4] at this
      exact lay4_inj (val4_lt hz 0) (sumN_lt _ hs) this
    refine ⟨h0, ?_⟩
    rw [hp] at h4
    unfold rest at h4
    rw [hl] at h4
    have h6 := List.append_inj_right h4 rfl
    have h7 := List.append_inj_right h6 rfl
    exact (List.append_inj_right h7 rfl).symm
  · rintro ⟨h0, h1⟩
    unfold page
    have : rest (val4 b 4) ((b.drop 12).take (val4 b 8)) = b.drop 4 := by
      rw [hp]
      unfold rest
      rw [hl, ← h1]
    rw [this, ← h0]
    exact hb4.symm
/-- What the document's way answers. -/
theorem unp_again (b : List Nat) (hb : b.length = 128) (hz : ∀ z ∈ b, z < 256) (hn : val4 b 8 ≤ 116) : unp b = if page (val4 b 4) ((b.drop 12).take (val4 b 8)) = b then some (val4 b 4, (b.drop 12).take (val4 b 8)) else none := by
  unfold unp
  by_cases h : page (val4 b 4) ((b.drop 12).take (val4 b 8)) = b
  · obtain ⟨h1, h2⟩ := (again_iff b hb hz hn).1 h
    rw [if_pos h, if_pos h1, if_neg (by omega), if_pos h2]
  · rw [if_neg h]
    by_cases h1 : val4 b 0 = sumN (b.drop 4)
    · rw [if_pos h1, if_neg (by omega), if_neg (fun h2 => h ((again_iff b hb hz hn).2 ⟨h1, h2⟩))]
    · rw [if_neg h1]
theorem unp_large (b : List Nat) (hn : 116 < val4 b 8) : unp b = none := by
  unfold unp
  rw [if_pos hn, ite_self]
theorem page_vals (id : Nat) (D : List Nat) (h : D.length ≤ 116) (hi : id < 4294967296) (hz : ∀ z ∈ D, z < 256) : val4 (page id D) 0 = sumN ((page id D).drop 4) ∧ val4 (page id D) 4 = id ∧ val4 (page id D) 8 = D.length ∧ (page id D).drop 12 = D ++ List.replicate (116 - D.length) 0 := by
  have e4 := page_drop id D
  have e8 : (page id D).drop 8 = lay4 D.length ++ (D ++ List.replicate (116 - D.length) 0) := by
    rw [show (8 : Nat) = 4 + 4 from rfl, ← List.drop_drop, e4]; simp [rest, lay4]
  have e12 : (page id D).drop 12 = D ++ List.replicate (116 - D.length) 0 := by
    rw [show (12 : Nat) = 8 + 4 from rfl, ← List.drop_drop, e8]; simp [lay4]
  refine ⟨?_, ?_, ?_, e12⟩
  · rw [e4]
    exact val4_lay4 _ (sumN_lt _ (rest_lt id D hz)) _
  · rw [← val4_drop, e4]
    exact val4_lay4 _ hi _
  · rw [← val4_drop, e8]
    exact val4_lay4 _ (by omega) _
theorem unp_page (id : Nat) (D : List Nat) (h : D.length ≤ 116) (hi : id < 4294967296) (hz : ∀ z ∈ D, z < 256) : unp (page id D) = some (id, D) := by
  obtain ⟨h1, h2, h3, h4⟩ := page_vals id D h hi hz
  unfold unp
  rw [if_pos h1, h3, if_neg (by omega), h2, h4, ← List.drop_drop, h4]
  simp
/-- .. with a byte changed. -/
theorem unp_turned (b : List Nat) (k x : Nat) (hb : b.length = 128) (hz : ∀ z ∈ b, z < 256) (hk : k < 128) (hx : x < 256) (hx0 : x ≠ 0) (h0 : val4 b 0 = sumN (b.drop 4)) : unp (b.set k (b.getD k 0 ^^^ x)) = none := by
  have hne : b.getD k 0 ^^^ x ≠ b.getD k 0 := by
    intro e
    apply hx0
    have : b.getD k 0 ^^^ (b.getD k 0 ^^^ x) = 0 := by rw [e, Nat.xor_self]
    rwa [← Nat.xor_assoc, Nat.xor_self, Nat.zero_xor] at this
  have hxl : b.getD k 0 ^^^ x < 256 := Nat.xor_lt_two_pow (n := 8) (getD_byte hz k) hx
  have hzs : ∀ z ∈ b.set k (b.getD k 0 ^^^ x), z < 256 := fun z h => by
    rcases List.mem_or_eq_of_mem_set h with h | rfl
    · exact hz z h
    · exact hxl
  have hget : ∀ j, (b.set k (b.getD k 0 ^^^ x)).getD j 0 = if j = k then b.getD k 0 ^^^ x else b.getD j 0 := by
    intro j
    simp only [List.getD, List.getElem?_set]
    by_cases e : k = j
    · subst e; simp [hb, hk]
    · rw [if_neg e, if_neg (fun h => e h.symm)]
  suffices hs : val4 (b.set k (b.getD k 0 ^^^ x)) 0 ≠ sumN ((b.set k (b.getD k 0 ^^^ x)).drop 4) by
    unfold unp
    rw [if_neg hs]
  by_cases h4 : k < 4
  · have e : (b.set k (b.getD k 0 ^^^ x)).drop 4 = b.drop 4 := by
      rw [List.drop_set_of_lt h4]
    rw [e, ← h0]
    unfold val4
    rw [hget, hget, hget, hget]
    have g0 := getD_byte hz 0
    have g1 := getD_byte hz 1
    have g2 := getD_byte hz 2
    have g3 := getD_byte hz 3
    simp only [Nat.zero_add]
    match k, h4 with
    | 0, _ => simp only [if_true, show ¬ (1 : Nat) = 0 by omega, show ¬ (2 : Nat) = 0 by omega, show ¬ (3 : Nat) = 0 by omega, if_false]; omega
    | 1, _ => simp only [if_true, show ¬ (0 : Nat) = 1 by omega, show ¬ (2 : Nat) = 1 by omega, show ¬ (3 : Nat) = 1 by omega, if_false]; omega
    | 2, _ => simp only [if_true, show ¬ (1 : Nat) = 2 by omega, show ¬ (0 : Nat) = 2 by omega, show ¬ (3 : Nat) = 2 by omega, if_false]; omega
    | 3, _ => simp only [if_true, show ¬ (1 : Nat) = 3 by omega, show ¬ (2 : Nat) = 3 by omega, show ¬ (0 : Nat) = 3 by omega, if_false]; omega
  · have e : val4 (b.set k (b.getD k 0 ^^^ x)) 0 = val4 b 0 := by
      unfold val4
      rw [hget, hget, hget, hget]
      rw [if_neg (by omega), if_neg (by omega), if_neg (by omega), if_neg (by omega)]
    rw [e, h0]
    have r1 : b.drop 4 = (List.range 124).map (fun i => b.getD (4 + i) 0) := by
      apply List.ext_getElem
      · simp [hb]
      · intro i h1 h2
        simp at h2
        simp [List.getD, hb, show 4 + i < 128 by omega]
    have r2 : (b.set k (b.getD k 0 ^^^ x)).drop 4 = (List.range 124).map (turned (fun i => b.getD (4 + i) 0) x (k - 4) 1) := by
      apply List.ext_getElem
      · simp [hb]
      · intro i h1 h2
        simp at h2
        simp only [List.getElem_drop, List.getElem_map, List.getElem_range, turned, List.getElem_set]
        by_cases c : k = 4 + i
        · rw [if_pos c, if_pos (by omega), ← c, show i - (k - 4) = 0 by omega]
          simp [byteOf, Nat.mod_eq_of_lt hx]
        · rw [if_neg c, if_neg (by omega)]
          simp [List.getD, hb, show 4 + i < 128 by omega]
    rw [r2, r1]
    intro h
    have := (sum_turned (fun i => b.getD (4 + i) 0) x (k - 4) 1 124 (by omega) (by omega)).1 h
    simp at this
    omega

/-- The bytes as the program lays them. -/
theorem lays (id : Nat) (D : List Nat) (h : D.length ≤ 116) : splice (splice (splice (List.replicate 128 0) 12 D) 4 (lay4 id)) 8 (lay4 D.length) = [0, 0, 0, 0] ++ rest id D := by
  have e1 : splice (List.replicate 128 0) 12 D = List.replicate 12 0 ++ (D ++ List.replicate (116 - D.length) 0) := by
    unfold splice
    rw [List.take_replicate, List.drop_replicate]
    rw [show min 12 128 = 12 from rfl, show 128 - (12 + D.length) = 116 - D.length by omega]
  rw [e1]
  rfl
theorem lays_end (id : Nat) (D : List Nat) : splice ([0, 0, 0, 0] ++ rest id D) 0 (lay4 (sumN (([0, 0, 0, 0] ++ rest id D).drop 4))) = page id D := rfl
end Go.Proofs.Ytpoakkdkibameab
namespace Go.Proofs.Ytpoakkdkibameab
open Go.RowKit
set_option linter.unusedSimpArgs false
set_option linter.unusedVariables false

/-- The block g holds the bytes zs, and no more. -/
def Blk (w : World) (g : Nat) (zs : List Nat) : Prop := w.heap[g]? = some (.cells (BL zs).toArray 5 (0, 0)) ∧ zs.length ≤ 140737488355328 ∧ ∀ z ∈ zs, z < 256
theorem Blk.frame {w w' : World} {g : Nat} {zs : List Nat} {bs : Nat → Prop} (h : Blk w g zs) (ho : Only bs w w') (hn : ¬ bs g) : Blk w' g zs := by
  have hl : g < w.heap.size := by
    rcases Nat.lt_or_ge g w.heap.size with hlt | hge
    · exact hlt
    · have := h.1; simp [Array.getElem?_eq_none hge] at this
  exact ⟨(ho.block g hl hn).trans h.1, h.2⟩
theorem Blk.lt {w : World} {g : Nat} {zs : List Nat} (h : Blk w g zs) : g < w.heap.size := by
  rcases Nat.lt_or_ge g w.heap.size with hlt | hge
  · exact hlt
  · have := h.1; simp [Array.getElem?_eq_none hge] at this
theorem Blk.cell {w : World} {g : Nat} {zs : List Nat} (h : Blk w g zs) (j : Nat) (hj : j < zs.length) : w.cell? ⟨g, j, none⟩ = some (.int .u8 (zs.getD j 0 : Nat)) := by
  rw [cell_of_row _ _ _ _ _ _ h.1]
  simp [BL, List.getD, hj]
theorem Blk.frozen {w : World} {g : Nat} {zs : List Nat} (h : Blk w g zs) (j : Nat) : w.frozen? ⟨g, j, none⟩ = false := frozen_of_row _ _ _ _ _ h.1
theorem Blk.bytes {w : World} {g : Nat} {zs : List Nat} (h : Blk w g zs) (o n c : Nat) (hn : o + n ≤ zs.length) (hc : n ≤ c) : BytesAt w (.slice (some ⟨g, o, none⟩) n c) ((zs.drop o).take n) := by
  have e : ((zs.drop o).take n).length = n := by rw [List.length_take, List.length_drop]; omega
  refine ⟨.inr ⟨⟨g, o, none⟩, c, by rw [e], by omega, fun j hj => ?_⟩, by have := h.2.1; omega, fun z hz => h.2.2 z (List.mem_of_mem_drop (List.mem_of_mem_take hz))⟩
  rw [e] at hj
  rw [Addr.add_mid, h.cell (o + j) (by omega)]
  have : ((zs.drop o).take n).getD j 0 = zs.getD (o + j) 0 := by
    simp only [List.getD]
    rw [List.getElem?_take_of_lt (by omega), List.getElem?_drop]
  simp only [this]
theorem Blk.all {w : World} {g : Nat} {zs : List Nat} (h : Blk w g zs) (n : Nat) (hn : n = zs.length) : BytesAt w (.slice (some ⟨g, 0, none⟩) n n) zs := by
  have := h.bytes 0 n n (by omega) (Nat.le_refl _)
  rwa [List.drop_zero, hn, List.take_length, ← hn] at this
theorem Blk.fresh {w : World} {g B : Nat} {zs : List Nat} (h : Blk w g zs) (n : Nat) (hn : n = zs.length) (hB : B ≤ g) : Fresh w B (.slice (some ⟨g, 0, none⟩) n n) zs := by
  subst hn
  refine ⟨⟨by rw [BL_length, Nat.mul_one], .inr ⟨g, zs.length, (BL zs).toArray, rfl, hB, h.1, Nat.le_refl _, by have := h.2.1; unfold maxLen; omega, by simp [BL_length], ?_⟩⟩, h.2⟩
  rw [Nat.mul_one, ← BL_length zs, List.take_length]
theorem Blk.new {w : World} {zs : List Nat} (hl : zs.length ≤ 140737488355328) (hz : ∀ z ∈ zs, z < 256) : Blk (w.alloc (.cells (BL zs).toArray 5)) w.heap.size zs := ⟨heap_alloc_new w _, hl, hz⟩
theorem BL_splice (zs ys : List Nat) (o : Nat) : splice (BL zs) o (BL ys) = BL (splice zs o ys) := by
  unfold splice
  rw [BL_append, BL_append, BL_length]
  simp [BL]
theorem splice_lt {zs ys : List Nat} {o : Nat} (hz : ∀ z ∈ zs, z < 256) (hy : ∀ z ∈ ys, z < 256) : ∀ z ∈ splice zs o ys, z < 256 := by
  intro z h
  simp only [splice, List.mem_append] at h
  rcases h with h | h | h
  · exact hz z (List.mem_of_mem_take h)
  · exact hy z h
  · exact hz z (List.mem_of_mem_drop h)
theorem Blk.spliced {w w' : World} {g o : Nat} {zs ys : List Nat} (h : Blk w g zs) (hy : ∀ z ∈ ys, z < 256) (ho : o + ys.length ≤ zs.length) (hg : w'.heap[g]? = some (.cells (splice (BL zs) o (BL ys)).toArray 5 (0, 0))) : Blk w' g (splice zs o ys) := by
  rw [BL_splice] at hg
  exact ⟨hg, by rw [length_splice _ _ _ ho]; exact h.2.1, splice_lt h.2.2 hy⟩
theorem zeros_made (n : Nat) : madeCells (Value.int .u8 0).cells n = (BL (List.replicate n 0)).toArray := by
  apply Array.ext_getElem?
  intro i
  by_cases h : i < n
  · simp [madeCells, h, BL, Value.cells, Nat.mod_one]
  · rw [Array.getElem?_eq_none (by simp [madeCells]; omega), Array.getElem?_eq_none (by simp [BL]; omega)]
/-- make of n bytes. -/
theorem make_blk (n : Nat) (hn : n ≤ 140737488355328) (w : World) : (Instr.makeSlice 23 (.int .i64 n) (.int .i64 n)).run Try.prog w = .ok (.slice (some ⟨w.heap.size, 0, none⟩) n n) (w.alloc (.cells (BL (List.replicate n 0)).toArray 5)) := by
  rw [← zeros_made]
  exact make23 n hn w
theorem blk_zeros (n : Nat) (hn : n ≤ 140737488355328) (w : World) : Blk (w.alloc (.cells (BL (List.replicate n 0)).toArray 5)) w.heap.size (List.replicate n 0) :=
  Blk.new (by simpa using hn) (fun z h => by rw [List.eq_of_mem_replicate h]; omega)

set_option maxHeartbeats 400000 in
theorem piece_pos (g o n c p s : Nat) (w : World) (h : p + s ≤ c) (hs : 0 < s) (hc : p + s ≤ 140737488355328) :
    Calls Try.prog 71 #[.slice (some ⟨g, o, none⟩) n c, .int .i64 p, .int .i64 s] w fun e w' => e = .returned (.slice (some ⟨g, o + p, none⟩) s s) ∧ w' = w := by
  have e1 : IntKind.i64.wrap ((p : Int) + (s : Int)) = (p : Int) + (s : Int) := by rw [IntKind.wrap_i64]; omega
  have e2 : (0 : Int) ≤ (p : Int) := by omega
  have e3 : (p : Int) ≤ (p : Int) + (s : Int) := by omega
  have e4 : (p : Int) + (s : Int) ≤ (c : Int) := by omega
  have e5 : ((p : Int) + (s : Int) - (p : Int)).toNat = s := by omega
  go_enter Try.func71, Try.ntmps71
  go_wp2
  go_ret
  exact ⟨by simp, rfl⟩
set_option maxHeartbeats 400000 in
theorem piece_zero (a : Option Addr) (n c p : Nat) (w : World) (h : p ≤ c) (hc : p ≤ 140737488355328) :
    Calls Try.prog 71 #[.slice a n c, .int .i64 p, .int .i64 0] w fun e w' => e = .returned (.slice a 0 0) ∧ w' = w := by
  have e1 : IntKind.i64.wrap ((p : Int) + 0) = (p : Int) := by rw [IntKind.wrap_i64]; omega
  have e2 : (0 : Int) ≤ (p : Int) := by omega
  have e4 : (p : Int) ≤ (c : Int) := by omega
  go_enter Try.func71, Try.ntmps71
  go_wp2
  go_ret
  exact ⟨by simp, rfl⟩

theorem build4 (a b c d : Int) (w : World) : (Instr.buildSlice 23 4 #[(0, .int .u8 a), (1, .int .u8 b), (2, .int .u8 c), (3, .int .u8 d)]).run Try.prog w = .ok (.slice (some ⟨w.heap.size, 0, none⟩) 4 4) (w.alloc (.cells #[.int .u8 a, .int .u8 b, .int .u8 c, .int .u8 d] 5)) := by kernel_rfl
theorem size5 : (Try.prog.info? 5).map (·.size) = some 1 := by kernel_rfl
theorem BL4 (x : Nat) : BL (lay4 x) = [.int .u8 ((x % 256 : Nat) : Int), .int .u8 ((x / 256 % 256 : Nat) : Int), .int .u8 ((x / 65536 % 256 : Nat) : Int), .int .u8 ((x / 16777216 % 256 : Nat) : Int)] := rfl
theorem Below.only {w w' : World} {B : Nat} (h : Below B w w') : Only (fun i => B ≤ i) w w' := ⟨h.os, h.tape, h.output, h.size, fun k hk hn => h.block k (by omega)⟩
end Go.Proofs.Ytpoakkdkibameab
namespace Go.Proofs.Ytpoakkdkibameab
open Go.RowKit
set_option linter.unusedSimpArgs false
set_option linter.unusedVariables false

/-- The k lowest bytes of a number, the lowest first. -/
def layB (x k : Nat) : List Nat := (List.range k).map fun j => x / 2 ^ (8 * j) % 256
theorem layB_length (x k : Nat) : (layB x k).length = k := by simp [layB]
theorem layB_lt (x k : Nat) : ∀ z ∈ layB x k, z < 256 := by
  intro z hz
  simp only [layB, List.mem_map] at hz
  obtain ⟨j, _, rfl⟩ := hz
  exact Nat.mod_lt _ (by omega)
theorem layB_succ (x k : Nat) : layB x (k + 1) = layB x k ++ [x / 2 ^ (8 * k) % 256] := by simp [layB, List.range_succ]
theorem Blk.set {w : World} {g : Nat} {zs : List Nat} (h : Blk w g zs) (i q : Nat) (hq : q < 256) : Blk (w.setCell ⟨g, i, none⟩ (.int .u8 (q : Nat))) g (zs.set i q) := by
  refine ⟨?_, by rw [List.length_set]; exact h.2.1, fun z hz => ?_⟩
  · rw [heap_setCell_same w g i _ _ _ h.1]
    congr 2
    simp [BL, List.map_set]
  · rcases List.mem_or_eq_of_mem_set hz with hz | rfl
    · exact h.2.2 z hz
    · exact hq
theorem splice_snoc (zs ys : List Nat) (o q : Nat) (h : o + ys.length < zs.length) : (splice zs o ys).set (o + ys.length) q = splice zs o (ys ++ [q]) := by
  have e1 : (zs.take o).length = o := by rw [List.length_take]; omega
  have e2 : zs.drop (o + ys.length) = zs.getD (o + ys.length) 0 :: zs.drop (o + (ys ++ [q]).length) := by
    rw [List.drop_eq_getElem_cons h]
    simp [List.getD, h, Nat.add_assoc]
  unfold splice
  rw [e2, List.set_append_right _ _ (by omega), List.set_append_right _ _ (by omega), e1]
  simp
theorem splice_nil (zs : List Nat) (o : Nat) : splice zs o [] = zs := by simp [splice]

set_option maxRecDepth 100000 in
set_option maxHeartbeats 1000000 in
/-- A number is laid into bytes. -/
theorem slay_any (g o k c x : Nat) (zs : List Nat) (w : World) (h : Blk w g zs) (hp : o + k ≤ zs.length) (hk : k ≤ 8) (hx : x < 18446744073709551616) :
    Calls Try.prog 49 #[.slice (some ⟨g, o, none⟩) k c, .int .u64 x] w fun e w' => e = .returned (.tuple #[]) ∧ Blk w' g (splice zs o (layB x k)) ∧ Only (fun i => i = g) w w' ∧ w'.heap.size = w.heap.size := by
  have HP : Hid (Blk w g zs) := h
  go_enter Try.func49, Try.ntmps49
  clear h
  go_wp2
  go_loopw [7] (fun t wr => ∃ j : Nat, j ≤ k ∧ t = .int .i64 j ∧ Blk wr g (splice zs o (layB x j)) ∧ Only (fun i => i = g) w wr ∧ wr.heap.size = w.heap.size) (fun t _ => k - (intOf t).toNat)
  case atStart => exact ⟨0, by omega, rfl, by rw [show layB x 0 = [] from rfl, splice_nil]; exact HP.out, Only.refl _ _, rfl⟩
  case round =>
    obtain ⟨j, hj, rfl, hb, ho, hsz⟩ := hrel
    obtain ⟨w2, rfl⟩ : ∃ w2, w2 = wr := ⟨_, rfl⟩
    have HO : Hid (Only (fun i => i = g) w w2) := ho
    have HB : Hid (Blk w2 g (splice zs o (layB x j))) := hb
    have HS : Hid (w2.heap.size = w.heap.size) := hsz
    clear HP hb ho hsz
    by_cases hlt : j < k
    · have k1 : (j : Int) < k := by omega
      have k0 : (0 : Int) ≤ (j : Int) := by omega
      have hm8 : IntKind.i64.wrap (8 * (j : Int)) = 8 * (j : Int) := by rw [IntKind.wrap_i64]; omega
      obtain ⟨s, hs⟩ : ∃ s, s = 8 * j := ⟨_, rfl⟩
      have hs8 : 8 * (j : Int) = (s : Int) := by omega
      rw [hs8] at hm8
      have s1 : (s : Int) < 64 := by omega
      have s0 : (0 : Int) ≤ (s : Int) := by omega
      have HT : Hid _ := layB_succ x j
      rw [← hs] at HT
      obtain ⟨y, hy⟩ : ∃ y, y = x / 2 ^ s := ⟨_, rfl⟩
      have hyi : (x : Int) / 2 ^ s = (y : Nat) := by rw [hy]; simp
      obtain ⟨q, hq⟩ : ∃ q, q = y % 256 := ⟨_, rfl⟩
      have hqi : (y : Int) % 256 = (q : Nat) := by omega
      have hq2 : q < 256 := by omega
      rw [← hy, ← hq] at HT
      have hl : (splice zs o (layB x j)).length = zs.length := length_splice _ _ _ (by rw [layB_length]; omega)
      have hc := HB.out.cell (o + j) (by rw [hl]; omega)
      have hf := HB.out.frozen (o + j)
      have HN : Hid (Blk (w2.setCell ⟨g, o + j, none⟩ (.int .u8 (q : Nat))) g (splice zs o (layB x (j + 1)))) := by
        have := HB.out.set (o + j) q hq2
        have e := splice_snoc zs (layB x j) o q (by rw [layB_length]; omega)
        rw [layB_length] at e
        rw [e, ← HT.out] at this
        exact this
      have HN2 : Hid (Only (fun i => i = g) w (w2.setCell ⟨g, o + j, none⟩ (.int .u8 (q : Nat)))) := HO.out.setCell _ _ (fun _ => rfl)
      have HS2 : Hid ((w2.setCell ⟨g, o + j, none⟩ (.int .u8 (q : Nat))).heap.size = w.heap.size) := (by rw [← HS.out]; simp [World.setCell] : _ = _)
      clear HB HO HS HT hl hy hq hs hj
      go_wp2
      go_roundw
      case rel => exact ⟨j + 1, by omega, by go_num, HN.out, HN2.out, HS2.out⟩
      case measure => simp [intOf]; omega
    · have e : j = k := by omega
      subst e
      have k1 : ¬ (j : Int) < j := by omega
      go_wp2
      go_end0
      exact ⟨rfl, HB.out, HO.out, HS.out⟩
end Go.Proofs.Ytpoakkdkibameab
namespace Go.Proofs.Ytpoakkdkibameab
open Go.RowKit
set_option linter.unusedSimpArgs false
set_option linter.unusedVariables false

/-- A root's sector. -/
def rootB (x f c : Nat) : List Nat := layB x 8 ++ (layB f 4 ++ (layB c 4 ++ (List.replicate 8 0 ++ layB x 8)))
theorem rootB_length (x f c : Nat) : (rootB x f c).length = 32 := by simp [rootB, layB_length]
theorem rootB_lt (x f c : Nat) : ∀ z ∈ rootB x f c, z < 256 := by
  intro z hz
  simp only [rootB, List.mem_append, List.mem_replicate] at hz
  rcases hz with h | h | h | h | h
  · exact layB_lt _ _ z h
  · exact layB_lt _ _ z h
  · exact layB_lt _ _ z h
  · omega
  · exact layB_lt _ _ z h
theorem list8 {l : List Nat} (h : l.length = 8) : ∃ a b c d e f g i, l = [a, b, c, d, e, f, g, i] := by
  match l, h with
  | [a, b, c, d, e, f, g, i], _ => exact ⟨a, b, c, d, e, f, g, i, rfl⟩
theorem list4 {l : List Nat} (h : l.length = 4) : ∃ a b c d, l = [a, b, c, d] := by
  match l, h with
  | [a, b, c, d], _ => exact ⟨a, b, c, d, rfl⟩
theorem rootB_splice (x f c : Nat) : splice (splice (splice (splice (List.replicate 32 0) 0 (layB x 8)) 8 (layB f 4)) 12 (layB c 4)) 24 (layB x 8) = rootB x f c := by
  obtain ⟨a0, a1, a2, a3, a4, a5, a6, a7, ha⟩ := list8 (layB_length x 8)
  obtain ⟨b0, b1, b2, b3, hb⟩ := list4 (layB_length f 4)
  obtain ⟨c0, c1, c2, c3, hc⟩ := list4 (layB_length c 4)
  simp only [rootB, ha, hb, hc]
  rfl
theorem slay_hid (g o k c x : Nat) (zs : List Nat) (w : World) (h : Blk w g zs) (hp : o + k ≤ zs.length) (hk : k ≤ 8) (hx : x < 18446744073709551616) :
    Calls Try.prog 49 #[.slice (some ⟨g, o, none⟩) k c, .int .u64 x] w fun e w' => e = .returned (.tuple #[]) ∧ Hid (Blk w' g (splice zs o (layB x k)) ∧ Only (fun i => i = g) w w' ∧ w'.heap.size = w.heap.size) :=
  (slay_any g o k c x zs w h hp hk hx).mono fun _ _ h => h

set_option maxRecDepth 100000 in
set_option maxHeartbeats 4000000 in
theorem rootbytes_any (x f c : Nat) (w : World) (hx : x < 18446744073709551616) (hf : f < 4294967296) (hc : c < 4294967296) :
    Calls Try.prog 33 #[.agg #[.int .u64 x, .int .u32 f, .int .u32 c]] w fun e w' => e = .returned (.slice (some ⟨w.heap.size + 1, 0, none⟩) 32 32) ∧ Blk w' (w.heap.size + 1) (rootB x f c) ∧ Only (fun _ => False) w w' := by
  obtain ⟨Z, hZ⟩ : ∃ Z, Z = (BL (List.replicate 32 0)).toArray := ⟨_, rfl⟩
  have hmk : ∀ w, (Instr.makeSlice 23 (.int .i64 32) (.int .i64 32)).run Try.prog w = .ok (.slice (some ⟨w.heap.size, 0, none⟩) 32 32) (w.alloc (.cells Z 5)) := fun w => by rw [hZ]; exact make_blk 32 (by omega) w
  obtain ⟨wa, hwa⟩ : ∃ q, q = w.alloc (.cells #[.int .u64 x, .int .u32 f, .int .u32 c] 78) := ⟨_, rfl⟩
  obtain ⟨wx, hwx⟩ : ∃ q, q = wa.alloc (.cells Z 5) := ⟨_, rfl⟩
  obtain ⟨N, hN⟩ : ∃ q, q = w.heap.size := ⟨_, rfl⟩
  have oa : Only (fun _ => False) w wa := by rw [hwa]; exact (Only.refl _ w).alloc _
  have ox : Only (fun _ => False) wa wx := by rw [hwx]; exact (Only.refl _ wa).alloc _
  have sa : wa.heap.size = N + 1 := by rw [hwa, hN]; simp
  have ba : wa.heap[N]? = some (.cells #[.int .u64 x, .int .u32 f, .int .u32 c] 78 (0, 0)) := by rw [hwa, hN]; exact heap_alloc_new w _
  have bx : wx.heap[N]? = some (.cells #[.int .u64 x, .int .u32 f, .int .u32 c] 78 (0, 0)) := by rw [ox.block N (by omega) (fun e => e)]; exact ba
  have x0 : wx.cell? ⟨N, 0, none⟩ = some (.int .u64 x) := by rw [cell_of_row _ _ _ _ _ _ bx]; rfl
  have x1 : wx.cell? ⟨N, 1, none⟩ = some (.int .u32 f) := by rw [cell_of_row _ _ _ _ _ _ bx]; rfl
  have x2 : wx.cell? ⟨N, 2, none⟩ = some (.int .u32 c) := by rw [cell_of_row _ _ _ _ _ _ bx]; rfl
  have HB0 : Hid (Blk wx (N + 1) (List.replicate 32 0)) := by rw [hwx, hZ, ← sa]; exact blk_zeros 32 (by omega) wa
  have HP0 : Hid (Only (fun i => i = N + 1) w wx) := (oa.trans ox (fun _ _ e => e)).mono (fun _ _ e => e.elim)
  have HW : Hid (wx = (w.alloc (.cells #[.int .u64 x, .int .u32 f, .int .u32 c] 78)).alloc (.cells Z 5)) := (by rw [hwx, hwa] : _ = _)
  have HN : Hid (N = w.heap.size) := hN
  have HA : Hid (wa = w.alloc (.cells #[.int .u64 x, .int .u32 f, .int .u32 c] 78)) := hwa
  have hf64 : IntKind.u64.wrap (f : Int) = (f : Int) := by rw [IntKind.wrap_u64]; omega
  have hc64 : IntKind.u64.wrap (c : Int) = (c : Int) := by rw [IntKind.wrap_u64]; omega
  have HX0 : Hid _ := x0
  have HX1 : Hid _ := x1
  have HX2 : Hid _ := x2
  have HC0 : Hid (Calls Try.prog 49 _ _ _) := slay_hid (N + 1) 0 8 32 x _ wx.drew HB0.out (by simp) (by omega) hx
  clear hZ hwx hwa oa ox sa ba bx hN x1 x2
  go_enter Try.func33, Try.ntmps33
  go_wp2_with fail
  rw [← HW.out, ← HN.out]
  clear hmk
  go_region_held3 (fun w' => w'.cell? ⟨N, 0, none⟩ = some (.int .u64 x)) (first | exact (HK0.out.2.1.cell HX0.out (by simp)) | go_keep)
    (first
      | (go_at_call 49; refine (show Calls Try.prog 49 _ _ _ from HC0.out).mono ?_; rintro e w1 ⟨rfl, HK0⟩))
  clear HC0 x0
  have HP1 : Hid (Only (fun i => i = N + 1) w w1) := (HP0.out.drew).trans HK0.out.2.1 (fun _ _ e => e)
  have HY10 : Hid (w1.cell? ⟨N, 0, none⟩ = some (.int .u64 x)) := HK0.out.2.1.cell HX0.out (by simp)
  have HY11 : Hid (w1.cell? ⟨N, 1, none⟩ = some (.int .u32 f)) := HK0.out.2.1.cell HX1.out (by simp)
  have HY12 : Hid (w1.cell? ⟨N, 2, none⟩ = some (.int .u32 c)) := HK0.out.2.1.cell HX2.out (by simp)
  clear HX0 HX1 HX2
  rename Hid (w1.cell? ⟨N, 0, none⟩ = some (.int .u64 x)) => HX0
  rename Hid (w1.cell? ⟨N, 1, none⟩ = some (.int .u32 f)) => HX1
  rename Hid (w1.cell? ⟨N, 2, none⟩ = some (.int .u32 c)) => HX2
  have x1 := HX1.out
  have HC1 : Hid (Calls Try.prog 49 _ _ _) := slay_hid (N + 1) 8 4 24 f _ w1.drew HK0.out.1 (by rw [length_splice, List.length_replicate] <;> simp [layB_length]) (by omega) (by omega)
  go_wp2_with fail
  go_region_held3 (fun w' => w'.cell? ⟨N, 1, none⟩ = some (.int .u32 f)) (first | exact (HK1.out.2.1.cell HX1.out (by simp)) | go_keep)
    (first
      | (go_at_call 49; refine (show Calls Try.prog 49 _ _ _ from HC1.out).mono ?_; rintro e w2 ⟨rfl, HK1⟩))
  clear HC1 x1
  have HP2 : Hid (Only (fun i => i = N + 1) w w2) := (HP1.out.drew).trans HK1.out.2.1 (fun _ _ e => e)
  have HY20 : Hid (w2.cell? ⟨N, 0, none⟩ = some (.int .u64 x)) := HK1.out.2.1.cell HX0.out (by simp)
  have HY21 : Hid (w2.cell? ⟨N, 1, none⟩ = some (.int .u32 f)) := HK1.out.2.1.cell HX1.out (by simp)
  have HY22 : Hid (w2.cell? ⟨N, 2, none⟩ = some (.int .u32 c)) := HK1.out.2.1.cell HX2.out (by simp)
  clear HX0 HX1 HX2
  rename Hid (w2.cell? ⟨N, 0, none⟩ = some (.int .u64 x)) => HX0
  rename Hid (w2.cell? ⟨N, 1, none⟩ = some (.int .u32 f)) => HX1
  rename Hid (w2.cell? ⟨N, 2, none⟩ = some (.int .u32 c)) => HX2
  have x2 := HX2.out
  have HC2 : Hid (Calls Try.prog 49 _ _ _) := slay_hid (N + 1) 12 4 20 c _ w2.drew HK1.out.1 (by simp [splice, layB_length]) (by omega) (by omega)
  go_wp2_with fail
  go_region_held3 (fun w' => w'.cell? ⟨N, 2, none⟩ = some (.int .u32 c)) (first | exact (HK2.out.2.1.cell HX2.out (by simp)) | go_keep)
    (first
      | (go_at_call 49; refine (show Calls Try.prog 49 _ _ _ from HC2.out).mono ?_; rintro e w3 ⟨rfl, HK2⟩))
  clear HC2 x2
  have HP3 : Hid (Only (fun i => i = N + 1) w w3) := (HP2.out.drew).trans HK2.out.2.1 (fun _ _ e => e)
  have HY30 : Hid (w3.cell? ⟨N, 0, none⟩ = some (.int .u64 x)) := HK2.out.2.1.cell HX0.out (by simp)
  have HY31 : Hid (w3.cell? ⟨N, 1, none⟩ = some (.int .u32 f)) := HK2.out.2.1.cell HX1.out (by simp)
  have HY32 : Hid (w3.cell? ⟨N, 2, none⟩ = some (.int .u32 c)) := HK2.out.2.1.cell HX2.out (by simp)
  clear HX0 HX1 HX2
  rename Hid (w3.cell? ⟨N, 0, none⟩ = some (.int .u64 x)) => HX0
  rename Hid (w3.cell? ⟨N, 1, none⟩ = some (.int .u32 f)) => HX1
  rename Hid (w3.cell? ⟨N, 2, none⟩ = some (.int .u32 c)) => HX2
  have x0 := HX0.out
  have HC3 : Hid (Calls Try.prog 49 _ _ _) := slay_hid (N + 1) 24 8 8 x _ w3.drew HK2.out.1 (by simp [splice, layB_length]) (by omega) (by omega)
  go_wp2_with fail
  go_region_held3 (fun w' => w'.cell? ⟨N, 0, none⟩ = some (.int .u64 x)) (first | exact (HK3.out.2.1.cell HX0.out (by simp)) | go_keep)
    (first
      | (go_at_call 49; refine (show Calls Try.prog 49 _ _ _ from HC3.out).mono ?_; rintro e w4 ⟨rfl, HK3⟩))
  clear HC3 x0
  have HP4 : Hid (Only (fun i => i = N + 1) w w4) := (HP3.out.drew).trans HK3.out.2.1 (fun _ _ e => e)
  go_wp2
  go_ret
  refine ⟨by rw [← HN.out]; rfl, ?_, ?_⟩
  · rw [← HN.out]
    have := HK3.out.1
    rw [rootB_splice] at this
    exact this
  · exact HP4.out.mono (fun i hi e => by have := HN.out; omega)
end Go.Proofs.Ytpoakkdkibameab
namespace Go.Proofs.Ytpoakkdkibameab
open Go.RowKit

/-- The 32 cells of a sector. -/
def secL (f : Nat → Int) : List Value := (List.range 32).map fun j => .int .u8 (f j)
/-- The 65 cells of a write. -/
def wrL (s : Int) (f g : Nat → Int) : List Value := .int .i64 s :: (secL f ++ secL g)
theorem secL_length (f : Nat → Int) : (secL f).length = 32 := by simp [secL]
theorem wrL_length (s : Int) (f g : Nat → Int) : (wrL s f g).length = 65 := by simp [wrL, secL_length]
theorem secL_one (f : Nat → Int) : ∀ v ∈ secL f, v.oneCell' = true := by
  intro v hv
  simp only [secL, List.mem_map] at hv
  obtain ⟨j, _, rfl⟩ := hv
  rfl
theorem wrL_one (s : Int) (f g : Nat → Int) : ∀ v ∈ wrL s f g, v.oneCell' = true := by
  intro v hv
  simp only [wrL, List.mem_cons, List.mem_append] at hv
  rcases hv with rfl | hv | hv
  · rfl
  · exact secL_one f v hv
  · exact secL_one g v hv
theorem secL_get (f : Nat → Int) (j : Nat) (h : j < 32) : (secL f)[j]? = some (.int .u8 (f j)) := by simp [secL, h]

/-- A write that is pending. -/
structure Wr where
  at_ : Nat
  bef : Nat → Int
  aft : Nat → Int
/-- A disk: how many sectors, what each byte of each is, the writes that are pending, the life. -/
structure DS where
  n : Nat
  sec : Nat → Nat → Int
  pend : List Wr
  life : Int
def Wr.cells (x : Wr) : List Value := wrL x.at_ x.bef x.aft
def wrsL (l : List Wr) : List Value := l.flatMap Wr.cells
theorem wrsL_length (l : List Wr) : (wrsL l).length = l.length * 65 := by
  induction l with
  | nil => rfl
  | cons x r ih => simp only [wrsL, List.flatMap_cons, List.length_append, List.length_cons] at *; rw [ih]; simp [Wr.cells, wrL_length]; omega
theorem wrsL_snoc (l : List Wr) (x : Wr) : wrsL (l ++ [x]) = wrsL l ++ x.cells := by simp [wrsL]
/-- One sector is another. -/
def upd (sec : Nat → Nat → Int) (k : Nat) (f : Nat → Int) : Nat → Nat → Int := fun i => if i = k then f else sec i

/-- The disk d lies at block p, its sectors in block S, its pending writes behind pv; all its blocks are from B on. -/
structure DiskAt (w : World) (B p S : Nat) (pv : Value) (d : DS) : Prop where
  pB : B ≤ p
  SB : B ≤ S
  pS : p ≠ S
  c0 : ∃ c, w.cell? ⟨p, 0, none⟩ = some (.slice (some ⟨S, 0, none⟩) d.n c)
  c1 : w.cell? ⟨p, 1, none⟩ = some pv
  c2 : w.cell? ⟨p, 2, none⟩ = some (.int .i64 d.life)
  f1 : w.frozen? ⟨p, 1, none⟩ = false
  f2 : w.frozen? ⟨p, 2, none⟩ = false
  secs : ∀ i, i < d.n → w.rangeAt S (i * 32) (secL (d.sec i)) ∧ w.there S (i * 32) 32
  own : w.ownsRow B 115 65 pv d.pend.length (wrsL d.pend)
  hp : pv.ownBlock ≠ some p
  hS : pv.ownBlock ≠ some S
  n1 : 1 ≤ d.n
  n2 : d.n ≤ 8192
  at_ : ∀ x ∈ d.pend, x.at_ < d.n
  l1 : -1 ≤ d.life
  l2 : d.life ≤ 9223372036854775807

/-- A disk's blocks. -/
def diskB (p S : Nat) (pv : Value) : Nat → Prop := fun k => k = p ∨ k = S ∨ pv.ownBlock = some k

theorem DiskAt.frame {w w' : World} {B p S : Nat} {pv : Value} {d : DS} {bs : Nat → Prop} (h : DiskAt w B p S pv d) (ho : Only bs w w') (hn : ∀ k, diskB p S pv k → ¬ bs k) : DiskAt w' B p S pv d := by
  obtain ⟨c, hc⟩ := h.c0
  have np := hn p (.inl rfl)
  have nS := hn S (.inr (.inl rfl))
  exact { pB := h.pB, SB := h.SB, pS := h.pS, c0 := ⟨c, ho.cell hc np⟩, c1 := ho.cell h.c1 np, c2 := ho.cell h.c2 np,
          f1 := (ho.frozen (World.block_lt_of_cell? w _ h.c1) np).trans h.f1, f2 := (ho.frozen (World.block_lt_of_cell? w _ h.c2) np).trans h.f2,
          secs := fun i hi => ⟨ho.range (h.secs i hi).1 nS, ho.there (h.secs i hi).2 nS⟩,
          own := ho.owns h.own (fun k hk => hn k (.inr (.inr hk))), hp := h.hp, hS := h.hS, n1 := h.n1, n2 := h.n2, at_ := h.at_, l1 := h.l1, l2 := h.l2 }
theorem DiskAt.lt {w : World} {B p S : Nat} {pv : Value} {d : DS} (h : DiskAt w B p S pv d) : ∀ k, diskB p S pv k → B ≤ k ∧ k < w.heap.size := by
  intro k hk
  rcases hk with rfl | rfl | hk
  · exact ⟨h.pB, World.block_lt_of_cell? w _ h.c1⟩
  · refine ⟨h.SB, ?_⟩
    have h0 := (h.secs 0 h.n1).1 0 _ (secL_get _ 0 (by omega))
    exact World.block_lt_of_cell? w _ h0
  · exact h.own.lt k hk
end Go.Proofs.Ytpoakkdkibameab
namespace Go.Proofs.Ytpoakkdkibameab
open Go.RowKit

theorem build_wr (s : Int) (f g : Nat → Int) (w : World) : (Instr.build 115 #[(0, .int .i64 s), (1, .agg (secL f).toArray), (2, .agg (secL g).toArray)]).run Try.prog w = .ok (.agg (wrL s f g).toArray) w := by kernel_rfl
theorem size68 : (Try.prog.info? 113).map (·.size) = some 32 := by kernel_rfl
theorem size71 : (Try.prog.info? 115).map (·.size) = some 65 := by kernel_rfl

set_option maxHeartbeats 400000 in
theorem alive_dead (p : Nat) (w : World) (h2 : w.cell? ⟨p, 2, none⟩ = some (.int .i64 0)) :
    Calls Try.prog 65 #[.pointer (some ⟨p, 0, none⟩)] w fun e w' => e = .returned (.int .i64 3) ∧ w' = w := by
  go_enter Try.func65, Try.ntmps65
  go_wp2
  go_ret
  exact ⟨rfl, rfl⟩
set_option maxHeartbeats 400000 in
theorem alive_ok (p : Nat) (l : Int) (w : World) (h2 : w.cell? ⟨p, 2, none⟩ = some (.int .i64 l)) (hl : (l == 0) = false) :
    Calls Try.prog 65 #[.pointer (some ⟨p, 0, none⟩)] w fun e w' => e = .returned (.int .i64 0) ∧ w' = w := by
  go_enter Try.func65, Try.ntmps65
  go_wp2
  go_ret
  exact ⟨rfl, rfl⟩
set_option maxHeartbeats 400000 in
theorem reach_dead (p : Nat) (k : Int) (w : World) (h2 : w.cell? ⟨p, 2, none⟩ = some (.int .i64 0)) :
    Calls Try.prog 63 #[.pointer (some ⟨p, 0, none⟩), .int .i64 k] w fun e w' => e = .returned (.int .i64 3) ∧ w' = w := by
  go_enter Try.func63, Try.ntmps63
  go_wp2
  go_ret
  exact ⟨rfl, rfl⟩
set_option maxHeartbeats 400000 in
theorem reach_out (p S n c : Nat) (l : Int) (k : Int) (w : World) (h0 : w.cell? ⟨p, 0, none⟩ = some (.slice (some ⟨S, 0, none⟩) n c)) (h2 : w.cell? ⟨p, 2, none⟩ = some (.int .i64 l)) (hl : (l == 0) = false) (hk : k < 0 ∨ n ≤ k) :
    Calls Try.prog 63 #[.pointer (some ⟨p, 0, none⟩), .int .i64 k] w fun e w' => e = .returned (.int .i64 4) ∧ w' = w := by
  rcases hk with hk | hk
  · go_enter Try.func63, Try.ntmps63
    go_wp2
    go_ret
    exact ⟨rfl, rfl⟩
  · have hk' : ¬ k < 0 := by omega
    go_enter Try.func63, Try.ntmps63
    go_wp2
    go_ret
    exact ⟨rfl, rfl⟩
set_option maxHeartbeats 400000 in
theorem reach_ok (p S n c : Nat) (l : Int) (k : Int) (w : World) (h0 : w.cell? ⟨p, 0, none⟩ = some (.slice (some ⟨S, 0, none⟩) n c)) (h2 : w.cell? ⟨p, 2, none⟩ = some (.int .i64 l)) (hl : (l == 0) = false) (hk : 0 ≤ k) (hk2 : k < n) :
    Calls Try.prog 63 #[.pointer (some ⟨p, 0, none⟩), .int .i64 k] w fun e w' => e = .returned (.int .i64 0) ∧ w' = w := by
  go_enter Try.func63, Try.ntmps63
  go_wp2
  go_ret
  exact ⟨rfl, rfl⟩
set_option maxHeartbeats 400000 in
theorem age_end (p : Nat) (w : World) (h2 : w.cell? ⟨p, 2, none⟩ = some (.int .i64 (-1))) :
    Calls Try.prog 64 #[.pointer (some ⟨p, 0, none⟩)] w fun e w' => e = .returned (.tuple #[]) ∧ w' = w := by
  go_enter Try.func64, Try.ntmps64
  go_wp2
  go_end0
  exact ⟨rfl, rfl⟩
set_option maxHeartbeats 400000 in
theorem age_less (p : Nat) (l : Int) (w : World) (h2 : w.cell? ⟨p, 2, none⟩ = some (.int .i64 l)) (hf : w.frozen? ⟨p, 2, none⟩ = false) (hl : 0 ≤ l) (hl2 : l ≤ 9223372036854775807) :
    Calls Try.prog 64 #[.pointer (some ⟨p, 0, none⟩)] w fun e w' => e = .returned (.tuple #[]) ∧ w' = w.setCell ⟨p, 2, none⟩ (.int .i64 (l - 1)) := by
  have hl3 : (l == -1) = false := by simp; omega
  go_enter Try.func64, Try.ntmps64
  go_wp2
  go_end0
  exact ⟨rfl, rfl⟩
set_option maxHeartbeats 400000 in
theorem len_any (p S n c : Nat) (w : World) (h0 : w.cell? ⟨p, 0, none⟩ = some (.slice (some ⟨S, 0, none⟩) n c)) :
    Calls Try.prog 46 #[.pointer (some ⟨p, 0, none⟩)] w fun e w' => e = .returned (.int .i64 n) ∧ w' = w := by
  go_enter Try.func46, Try.ntmps46
  go_wp2
  go_ret
  exact ⟨rfl, rfl⟩
set_option maxHeartbeats 400000 in
theorem barrier_dead (p : Nat) (w : World) (h2 : w.cell? ⟨p, 2, none⟩ = some (.int .i64 0)) :
    Calls Try.prog 48 #[.pointer (some ⟨p, 0, none⟩)] w fun e w' => e = .returned (.int .i64 3) ∧ w' = w := by
  go_enter Try.func48, Try.ntmps48
  go_wp2
  go_ret
  exact ⟨rfl, rfl⟩
set_option maxHeartbeats 400000 in
theorem barrier_end (p : Nat) (v : Value) (w : World) (h1 : w.cell? ⟨p, 1, none⟩ = some v) (hf1 : w.frozen? ⟨p, 1, none⟩ = false) (h2 : w.cell? ⟨p, 2, none⟩ = some (.int .i64 (-1))) :
    Calls Try.prog 48 #[.pointer (some ⟨p, 0, none⟩)] w fun e w' => e = .returned (.int .i64 0) ∧ w' = w.setCell ⟨p, 1, none⟩ (.slice none 0 0) := by
  go_enter Try.func48, Try.ntmps48
  go_wp2
  go_end0
  go_wp2
  go_ret
  exact ⟨rfl, rfl⟩
set_option maxHeartbeats 400000 in
theorem barrier_less (p : Nat) (v : Value) (l : Int) (w : World) (h1 : w.cell? ⟨p, 1, none⟩ = some v) (hf1 : w.frozen? ⟨p, 1, none⟩ = false) (h2 : w.cell? ⟨p, 2, none⟩ = some (.int .i64 l)) (hf2 : w.frozen? ⟨p, 2, none⟩ = false) (hl : 0 < l) (hl2 : l ≤ 9223372036854775807) :
    Calls Try.prog 48 #[.pointer (some ⟨p, 0, none⟩)] w fun e w' => e = .returned (.int .i64 0) ∧ w' = (w.setCell ⟨p, 1, none⟩ (.slice none 0 0)).setCell ⟨p, 2, none⟩ (.int .i64 (l - 1)) := by
  have hl3 : (l == -1) = false := by simp; omega
  have hl4 : (l == 0) = false := by simp; omega
  go_enter Try.func48, Try.ntmps48
  go_wp2
  go_end0
  go_wp2
  go_ret
  exact ⟨rfl, rfl⟩
end Go.Proofs.Ytpoakkdkibameab
namespace Go.Proofs.Ytpoakkdkibameab
open Go.RowKit

section
variable {P : Program} {ops : Array Oper} {op : Oper} {a : Act} {w w' : World} {K : Act → World → Prop} {Q : Exit → Act → World → Prop}
/-- An operation that yields a value, by its run. -/
theorem wp_value {s : Sem Value} {v : Value} (ho : execOp a.eval op = (do pure (.value (← s)))) (h : s.run P w = .ok v w') (hk : K (a.put op.dst v) w') : op.wp P a w K Q := by
  unfold Oper.wp
  simp only [ho, Sem.run_bind, h, Result.andThen_ok, Sem.run_pure, Oper.upon]
  exact hk
/-- An operation that yields nothing, by its run. -/
theorem wp_unit {s : Sem Unit} (ho : execOp a.eval op = (do s; pure .skip)) (h : s.run P w = .ok () w') (hk : K (a.put op.dst undef) w') : op.wp P a w K Q := by
  unfold Oper.wp
  simp only [ho, Sem.run_bind, h, Result.andThen_ok, Sem.run_pure, Oper.upon]
  exact hk
/-- An operation of a region that draws its order, whose value hangs on S alone. -/
theorem yields_value {S : World → Prop} {s : Sem Value} {v : Value} (hw : Region.wanted op (yielded ops a.tmps) = true) (ho : execOp a.eval op = (do pure (.value (← s)))) (h : ∀ w, S w → s.run P w = .ok v w) : YieldsIf P ops S op v a :=
  .inl ⟨hw, fun w hS => by simp only [ho, Sem.run_bind, h w hS, Result.andThen_ok, Sem.run_pure]⟩
theorem wpList_value {rest : List Oper} {s : Sem Value} {v : Value} (hgd : op.guard = none) (ho : execOp a.eval op = (do pure (.value (← s)))) (h : s.run P w = .ok v w') (hk : wpList P ops Q rest (a.put op.dst v) w') : wpList P ops Q (op :: rest) a w :=
  wpList_plain hgd fun _ hK => wp_value ho h (hK _ _ hk)
theorem wpList_unit {rest : List Oper} {s : Sem Unit} (hgd : op.guard = none) (ho : execOp a.eval op = (do s; pure .skip)) (h : s.run P w = .ok () w') (hk : wpList P ops Q rest (a.put op.dst undef) w') : wpList P ops Q (op :: rest) a w :=
  wpList_plain hgd fun _ hK => wp_unit ho h (hK _ _ hk)
theorem wpList_storeNew {rest : List Oper} (hgd : op.guard = none) (ty : TypeId) (x y : Operand) (ho : op.op = .store ty x y)
    (w0 : World) (c cells : Array Value) (hx : a.eval x = .pointer (some ⟨w0.heap.size, 0, none⟩)) (hy : a.eval y = .agg cells)
    (hi : (P.info? ty).map (·.size) = some cells.size) (hs : c.size = cells.size) (h1 : cells.all (·.oneCell') = true)
    (h : wpList P ops Q rest (a.put op.dst undef) (w0.alloc (.cells cells ty))) : wpList P ops Q (op :: rest) a (w0.alloc (.cells c ty)) :=
  wpList_plain hgd fun _ hK => by
    unfold Oper.wp execOp
    simp only [ho, hx, hy, Sem.run_bind, Sem.run_pure, run_storeAt_new w0 ty c cells hi hs h1, Result.andThen_ok]
    exact hK _ _ h
end

end Go.Proofs.Ytpoakkdkibameab
