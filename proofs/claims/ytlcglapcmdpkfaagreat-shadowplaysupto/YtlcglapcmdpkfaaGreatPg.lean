import Derived.Test.YtlcglapcmdpkfaaGreatCrcb
import Derived.Laws.CopyOwn
namespace Go.Proofs.YtlcglapcmdpkfaaGreat
set_option linter.unusedVariables false
def lay4 (n : Nat) : List Nat := [n % 256, n / 256 % 256, n / 65536 % 256, n / 16777216 % 256]
def val4 (zs : List Nat) (p : Nat) : Nat := zs.getD p 0 + 256 * zs.getD (p + 1) 0 + 65536 * zs.getD (p + 2) 0 + 16777216 * zs.getD (p + 3) 0
theorem lay4_length (n : Nat) : (lay4 n).length = 4 := rfl
theorem lay4_lt (n : Nat) : ∀ z ∈ lay4 n, z < 256 := by
 intro z hz
 simp only [lay4, List.mem_cons, List.not_mem_nil, or_false] at hz
 omega
theorem getD_byte {zs : List Nat} (h : ∀ z ∈ zs, z < 256) (k : Nat) : zs.getD k 0 < 256 := by
 simp only [List.getD]
 rcases Nat.lt_or_ge k zs.length with hk | hk
 ·rw [List.getElem?_eq_getElem hk]; exact h _ (List.getElem_mem hk)
 ·rw [List.getElem?_eq_none hk]; decide
theorem val4_lt {zs : List Nat} (h : ∀ z ∈ zs, z < 256) (p : Nat) : val4 zs p < 4294967296 := by
 have h0 := getD_byte h p
 have h1 := getD_byte h (p + 1)
 have h2 := getD_byte h (p + 2)
 have h3 := getD_byte h (p + 3)
 unfold val4
 omega
theorem lay4_val4 {zs : List Nat} (h : ∀ z ∈ zs, z < 256) (p : Nat) (hp : p + 4 ≤ zs.length) : lay4 (val4 zs p) = (zs.drop p).take 4 := by
 have h0 := getD_byte h p
 have h1 := getD_byte h (p + 1)
 have h2 := getD_byte h (p + 2)
 have h3 := getD_byte h (p + 3)
 have e : (zs.drop p).take 4 = [zs.getD p 0, zs.getD (p + 1) 0, zs.getD (p + 2) 0, zs.getD (p + 3) 0] := by
  apply List.ext_getElem
  ·simp; omega
  ·intro i h4 h5
   simp at h5
   have hi : p + i < zs.length := by omega
   simp only [List.getElem_take, List.getElem_drop]
   match i, h5 with
   | 0, _ => simp [List.getD, show p < zs.length by omega]
   | 1, _ => simp [List.getD, show p + 1 < zs.length by omega]
   | 2, _ => simp [List.getD, show p + 2 < zs.length by omega]
   | 3, _ => simp [List.getD, show p + 3 < zs.length by omega]
 rw [e]
 unfold lay4 val4
 generalize zs.getD p 0 = a at *
 generalize zs.getD (p + 1) 0 = b at *
 generalize zs.getD (p + 2) 0 = c at *
 generalize zs.getD (p + 3) 0 = d at *
 simp only [List.cons.injEq, and_true]
 omega
theorem val4_lay4 (n : Nat) (h : n < 4294967296) (l : List Nat) : val4 (lay4 n ++ l) 0 = n := by
 simp only [val4, lay4, List.cons_append, List.nil_append, List.getD, List.getElem?_cons_zero, List.getElem?_cons_succ, Option.getD_some]
 omega
theorem lay4_inj {a b : Nat} (ha : a < 4294967296) (hb : b < 4294967296) (h : lay4 a = lay4 b) : a = b := by
 have h1 := val4_lay4 a ha []
 have h2 := val4_lay4 b hb []
 rw [h] at h1
 omega
def rest (id : Nat) (D : List Nat) : List Nat := lay4 id ++ (lay4 D.length ++ (D ++ List.replicate (116 - D.length) 0))
def page (id : Nat) (D : List Nat) : List Nat := lay4 (sumN (rest id D)) ++ rest id D
theorem rest_length (id : Nat) (D : List Nat) (h : D.length ≤ 116) : (rest id D).length = 124 := by
 simp only [rest, List.length_append, lay4_length, List.length_replicate]
 omega
theorem page_length (id : Nat) (D : List Nat) (h : D.length ≤ 116) : (page id D).length = 128 := by
 simp only [page, List.length_append, lay4_length, rest_length id D h]
theorem rest_lt (id : Nat) (D : List Nat) (h : ∀ z ∈ D, z < 256) : ∀ z ∈ rest id D, z < 256 := by
 intro z hz
 simp only [rest, List.mem_append] at hz
 rcases hz with hz | hz | hz | hz
 ·exact lay4_lt _ z hz
 ·exact lay4_lt _ z hz
 ·exact h z hz
 ·rw [List.eq_of_mem_replicate hz]; omega
theorem page_lt (id : Nat) (D : List Nat) (h : ∀ z ∈ D, z < 256) : ∀ z ∈ page id D, z < 256 := by
 intro z hz
 simp only [page, List.mem_append] at hz
 rcases hz with hz | hz
 ·exact lay4_lt _ z hz
 ·exact rest_lt id D h z hz
theorem page_drop (id : Nat) (D : List Nat) : (page id D).drop 4 = rest id D := by simp [page, lay4]
def unp (b : List Nat) : Option (Nat × List Nat) :=
 if val4 b 0 = sumN (b.drop 4) then
  if 116 < val4 b 8 then none
  else if (b.drop (12 + val4 b 8)).all (· == 0) then some (val4 b 4, (b.drop 12).take (val4 b 8)) else none
 else none
theorem all_zero_iff (l : List Nat) : l.all (· == 0) = true ↔ l = List.replicate l.length 0 := by
 constructor
 ·intro h
  apply List.ext_getElem
  ·simp
  ·intro i h1 h2
   have := List.all_eq_true.1 h _ (List.getElem_mem h1)
   simpa using this
 ·intro h
  rw [h, List.all_eq_true]
  intro x hx
  rw [List.eq_of_mem_replicate hx]; rfl
theorem cut4 (b : List Nat) (p : Nat) : b.drop p = (b.drop p).take 4 ++ b.drop (p + 4) := by
 rw [← List.drop_drop, List.take_append_drop]
theorem parts (b : List Nat) (n : Nat) (hb : b.length = 128) (hz : ∀ z ∈ b, z < 256) (hn : n ≤ 116) : b.drop 4 = lay4 (val4 b 4) ++ (lay4 (val4 b 8) ++ ((b.drop 12).take n ++ b.drop (12 + n))) := by
 rw [lay4_val4 hz 4 (by omega), lay4_val4 hz 8 (by omega), ← List.drop_drop, List.take_append_drop, ← cut4 b 8, ← cut4 b 4]
theorem again_iff (b : List Nat) (hb : b.length = 128) (hz : ∀ z ∈ b, z < 256) (hn : val4 b 8 ≤ 116) : page (val4 b 4) ((b.drop 12).take (val4 b 8)) = b ↔ val4 b 0 = sumN (b.drop 4) ∧ (b.drop (12 + val4 b 8)).all (· == 0) = true := by
 have hl : ((b.drop 12).take (val4 b 8)).length = val4 b 8 := by rw [List.length_take, List.length_drop]; omega
 have hp := parts b (val4 b 8) hb hz hn
 have hb4 : b = lay4 (val4 b 0) ++ b.drop 4 := by
  have := cut4 b 0
  rw [List.drop_zero, Nat.zero_add] at this
  rw [lay4_val4 hz 0 (by omega), List.drop_zero]
  exact this
 have hd : (b.drop (12 + val4 b 8)).length = 116 - val4 b 8 := by rw [List.length_drop]; omega
 have hs : ∀ z ∈ b.drop 4, z < 256 := fun z h => hz z (List.mem_of_mem_drop h)
 rw [all_zero_iff, hd]
 constructor
 ·intro h
  have h4 : rest (val4 b 4) ((b.drop 12).take (val4 b 8)) = b.drop 4 := by
   rw [← page_drop, h]
  have h0 : val4 b 0 = sumN (b.drop 4) := by
   have h5 : page (val4 b 4) ((b.drop 12).take (val4 b 8)) = lay4 (sumN (b.drop 4)) ++ b.drop 4 := by
    unfold page
    rw [h4]
   rw [h, hb4] at h5
   have := List.append_inj_left h5 (by simp [lay4_length])
   rw [← hb4] at this
   exact lay4_inj (val4_lt hz 0) (sumN_lt _ hs) this
  refine ⟨h0, ?_⟩
  rw [hp] at h4
  unfold rest at h4
  rw [hl] at h4
  have h6 := List.append_inj_right h4 rfl
  have h7 := List.append_inj_right h6 rfl
  exact (List.append_inj_right h7 rfl).symm
 ·rintro ⟨h0, h1⟩
  unfold page
  have : rest (val4 b 4) ((b.drop 12).take (val4 b 8)) = b.drop 4 := by
   rw [hp]
   unfold rest
   rw [hl, ← h1]
  rw [this, ← h0]
  exact hb4.symm
theorem unp_again (b : List Nat) (hb : b.length = 128) (hz : ∀ z ∈ b, z < 256) (hn : val4 b 8 ≤ 116) : unp b = if page (val4 b 4) ((b.drop 12).take (val4 b 8)) = b then some (val4 b 4, (b.drop 12).take (val4 b 8)) else none := by
 unfold unp
 by_cases h : page (val4 b 4) ((b.drop 12).take (val4 b 8)) = b
 ·obtain ⟨h1, h2⟩ := (again_iff b hb hz hn).1 h
  rw [if_pos h, if_pos h1, if_neg (by omega), if_pos h2]
 ·rw [if_neg h]
  by_cases h1 : val4 b 0 = sumN (b.drop 4)
  ·rw [if_pos h1, if_neg (by omega), if_neg (fun h2 => h ((again_iff b hb hz hn).2 ⟨h1, h2⟩))]
  ·rw [if_neg h1]
theorem unp_large (b : List Nat) (hn : 116 < val4 b 8) : unp b = none := by
 unfold unp
 rw [if_pos hn, ite_self]
theorem lays (id : Nat) (D : List Nat) (h : D.length ≤ 116) : splice (splice (splice (List.replicate 128 0) 12 D) 4 (lay4 id)) 8 (lay4 D.length) = [0, 0, 0, 0] ++ rest id D := by
 have e1 : splice (List.replicate 128 0) 12 D = List.replicate 12 0 ++ (D ++ List.replicate (116 - D.length) 0) := by
  unfold splice
  rw [List.take_replicate, List.drop_replicate]
  rw [show min 12 128 = 12 from rfl, show 128 - (12 + D.length) = 116 - D.length by omega]
 rw [e1]
 rfl
theorem lays_end (id : Nat) (D : List Nat) : splice ([0, 0, 0, 0] ++ rest id D) 0 (lay4 (sumN (([0, 0, 0, 0] ++ rest id D).drop 4))) = page id D := rfl
end Go.Proofs.YtlcglapcmdpkfaaGreat
