/- Texts of digits: their characters, and their numbers. -/
import Derived.Test.YtpphabkjnfgcmaaDoorLx4
namespace Go.Proofs.YtpphabkjnfgcmaaDoor
open Go.RowKit
set_option linter.unusedSimpArgs false
set_option linter.unusedVariables false

/-- A character that is a digit of one of the three scripts. -/
def OkR (r : Nat) : Prop := ∃ d, d < 10 ∧ (r = 48 + d ∨ r = 1632 + d ∨ r = 65296 + d)
def encR (r : Nat) : List UInt8 := (Utf8.encode (r : Int)).data.toList
def encL (l : List Nat) : List UInt8 := l.flatMap encR
def mkS (l : List Nat) : ByteArray := ⟨(encL l).toArray⟩
theorem ten {d : Nat} (h : d < 10) : d = 0 ∨ d = 1 ∨ d = 2 ∨ d = 3 ∨ d = 4 ∨ d = 5 ∨ d = 6 ∨ d = 7 ∨ d = 8 ∨ d = 9 := by omega
theorem enc48 {d : Nat} (h : d < 10) : encR (48 + d) = [UInt8.ofNat (48 + d)] := by
  rcases ten h with rfl | rfl | rfl | rfl | rfl | rfl | rfl | rfl | rfl | rfl <;> rfl
theorem enc16 {d : Nat} (h : d < 10) : encR (1632 + d) = [217, UInt8.ofNat (160 + d)] := by
  rcases ten h with rfl | rfl | rfl | rfl | rfl | rfl | rfl | rfl | rfl | rfl <;> rfl
theorem enc65 {d : Nat} (h : d < 10) : encR (65296 + d) = [239, 188, UInt8.ofNat (144 + d)] := by
  rcases ten h with rfl | rfl | rfl | rfl | rfl | rfl | rfl | rfl | rfl | rfl <;> rfl
theorem get_mid (pre post : List UInt8) (k : Nat) (hk : k < post.length) : (ByteArray.mk (pre ++ post).toArray).get! (pre.length + k) = post[k] := by
  simp [ByteArray.get!, hk]
theorem size_mk (l : List UInt8) : (ByteArray.mk l.toArray).size = l.length := by simp [ByteArray.size]
theorem decode_mid (pre post : List UInt8) {r : Nat} (h : OkR r) : Utf8.decode ⟨(pre ++ (encR r ++ post)).toArray⟩ pre.length = (r, (encR r).length) := by
  obtain ⟨d, hd, h⟩ := h
  have g := fun k hk => get_mid pre (encR r ++ post) k hk
  have sz := size_mk (pre ++ (encR r ++ post))
  obtain ⟨s, hs⟩ : ∃ s, s = ByteArray.mk (pre ++ (encR r ++ post)).toArray := ⟨_, rfl⟩
  rw [← hs] at g sz ⊢
  clear hs
  rcases h with rfl | rfl | rfl
  · rw [enc48 hd] at g sz ⊢
    have g0 := g 0 (by simp)
    clear g
    simp only [Nat.add_zero] at g0
    rcases ten hd with rfl | rfl | rfl | rfl | rfl | rfl | rfl | rfl | rfl | rfl <;> simp [Utf8.decode, g0]
  · rw [enc16 hd] at g sz ⊢
    have g0 := g 0 (by simp)
    have g1 := g 1 (by simp)
    clear g
    simp only [Nat.add_zero] at g0
    simp only [List.length_append, List.length_cons, List.length_nil] at sz
    have k1 : pre.length + 1 < s.size := by omega
    rcases ten hd with rfl | rfl | rfl | rfl | rfl | rfl | rfl | rfl | rfl | rfl <;> simp [Utf8.decode, g0, g1, k1]
  · rw [enc65 hd] at g sz ⊢
    have g0 := g 0 (by simp)
    have g1 := g 1 (by simp)
    have g2 := g 2 (by simp)
    clear g
    simp only [Nat.add_zero] at g0
    simp only [List.length_append, List.length_cons, List.length_nil] at sz
    have k1 : pre.length + 1 < s.size := by omega
    have k2 : pre.length + 2 < s.size := by omega
    rcases ten hd with rfl | rfl | rfl | rfl | rfl | rfl | rfl | rfl | rfl | rfl <;> simp [Utf8.decode, Utf8.valid, g0, g1, g2, k1, k2]
theorem enc_pos {r : Nat} (h : OkR r) : 1 ≤ (encR r).length := by
  obtain ⟨d, hd, h⟩ := h
  rcases h with rfl | rfl | rfl
  · rw [enc48 hd]; simp
  · rw [enc16 hd]; simp
  · rw [enc65 hd]; simp
theorem crs_enc (l : List Nat) : ∀ (pre : List UInt8) (b : Nat), (∀ r ∈ l, OkR r) → (encL l).length ≤ b → (crs ⟨(pre ++ encL l).toArray⟩ b pre.length).map (·.2) = l := by
  induction l with
  | nil =>
    intro pre b _ _
    rw [crs_end]
    · rfl
    · rw [size_mk]; simp [encL]
  | cons r l ih =>
    intro pre b h hb
    have hr := h r (List.mem_cons_self ..)
    have hp := enc_pos hr
    have e : encL (r :: l) = encR r ++ encL l := by simp [encL]
    rw [e] at hb ⊢
    rw [List.length_append] at hb
    cases b with
    | zero => omega
    | succ b =>
      have hd := decode_mid pre (encL l) hr
      have hsz : pre.length < (ByteArray.mk (pre ++ (encR r ++ encL l)).toArray).size := by rw [size_mk]; simp only [List.length_append]; omega
      have i2 := ih (pre ++ encR r) b (fun x hx => h x (List.mem_cons_of_mem _ hx)) (by omega)
      rw [List.append_assoc, List.length_append] at i2
      obtain ⟨s, hs⟩ : ∃ s, s = ByteArray.mk (pre ++ (encR r ++ encL l)).toArray := ⟨_, rfl⟩
      rw [← hs] at hd hsz i2 ⊢
      rw [crs, if_pos hsz, hd, List.map_cons, i2]
theorem rns_mk {l : List Nat} (h : ∀ r ∈ l, OkR r) : rns (mkS l) = l := by
  have := crs_enc l [] (mkS l).size h (by unfold mkS; rw [size_mk]; exact Nat.le_refl _)
  exact this
/-- A digit more, by its worth. -/
def dg (n d : Nat) : Nat := if n ≤ 1152921504606846976 then n * 10 + d else n
def valD (ds : List Nat) : Nat := ds.foldl dg 0
theorem nat_in {nt : Nat} (hn : nt = 48 ∨ nt = 1632 ∨ nt = 65296) {d : Nat} (hd : d < 10) : inS ((nt + d : Nat) : Int) (nt : Int) = true ∧ scr ((nt + d : Nat) : Int) = some (nt : Int) ∧ ∀ n, dig n (nt + d) (nt : Int) = dg n d := by
  refine ⟨by simp only [inS, decide_eq_true_eq]; omega, ?_, fun n => ?_⟩
  · unfold scr
    rcases hn with rfl | rfl | rfl
    · rw [if_pos (by simp only [inS, decide_eq_true_eq]; omega)]; rfl
    · rw [if_neg (by simp only [inS, decide_eq_true_eq]; omega), if_pos (by simp only [inS, decide_eq_true_eq]; omega)]; rfl
    · rw [if_neg (by simp only [inS, decide_eq_true_eq]; omega), if_neg (by simp only [inS, decide_eq_true_eq]; omega), if_pos (by simp only [inS, decide_eq_true_eq]; omega)]; rfl
  · unfold dig dg
    split
    · congr 1
      omega
    · rfl
theorem natL_go {nt : Nat} (hn : nt = 48 ∨ nt = 1632 ∨ nt = 65296) (post : List Nat) : ∀ (ds : List Nat) (n : Nat), (∀ d ∈ ds, d < 10) → natL (ds.map (nt + ·) ++ post) (nt : Int) true n = natL post (nt : Int) true (ds.foldl dg n)
  | [], n, _ => rfl
  | d :: ds, n, h => by
    obtain ⟨h1, _, h3⟩ := nat_in hn (h d (List.mem_cons_self ..))
    rw [List.map_cons, List.cons_append, natL, if_pos h1, h3, natL_go hn post ds _ (fun x hx => h x (List.mem_cons_of_mem _ hx))]
    rfl
theorem natL_all {nt : Nat} (hn : nt = 48 ∨ nt = 1632 ∨ nt = 65296) (post : List Nat) {ds : List Nat} (h : ∀ d ∈ ds, d < 10) (hne : ds ≠ []) : natL (ds.map (nt + ·) ++ post) 0 false 0 = natL post (nt : Int) true (valD ds) := by
  cases ds with
  | nil => exact absurd rfl hne
  | cons d ds =>
    obtain ⟨_, h2, h3⟩ := nat_in hn (h d (List.mem_cons_self ..))
    rw [List.map_cons, List.cons_append, natL, h2]
    simp only
    rw [h3, natL_go hn post ds _ (fun x hx => h x (List.mem_cons_of_mem _ hx))]
    rfl
theorem okR_map {nt : Nat} (hn : nt = 48 ∨ nt = 1632 ∨ nt = 65296) {ds : List Nat} (h : ∀ d ∈ ds, d < 10) : ∀ r ∈ ds.map (nt + ·), OkR r := by
  intro r hr
  obtain ⟨d, hd, rfl⟩ := List.mem_map.1 hr
  refine ⟨d, h d hd, ?_⟩
  rcases hn with rfl | rfl | rfl
  · exact .inl rfl
  · exact .inr (.inl rfl)
  · exact .inr (.inr rfl)
/-- What a row of digits is as a number: exact as long as it fits. -/
theorem dg_fold : ∀ (ds : List Nat) (a p : Nat), (∀ d ∈ ds, d < 10) → (a = p ∨ (1152921504606846976 < a ∧ 1152921504606846976 < p)) → (ds.foldl dg a = ds.foldl (fun n d => n * 10 + d) p ∨ (1152921504606846976 < ds.foldl dg a ∧ 1152921504606846976 < ds.foldl (fun n d => n * 10 + d) p))
  | [], a, p, _, h => h
  | d :: ds, a, p, hd, h => by
    rw [List.foldl_cons, List.foldl_cons]
    refine dg_fold ds _ _ (fun x hx => hd x (List.mem_cons_of_mem _ hx)) ?_
    unfold dg
    rcases h with rfl | ⟨h1, h2⟩
    · split
      · exact .inl rfl
      · exact .inr ⟨by omega, by omega⟩
    · rw [if_neg (by omega)]
      exact .inr ⟨h1, by omega⟩
def valX (ds : List Nat) : Nat := ds.foldl (fun n d => n * 10 + d) 0
theorem val_fits {ds : List Nat} (h : ∀ d ∈ ds, d < 10) : (valX ds ≤ 1152921504606846976 → valD ds = valX ds) ∧ (1152921504606846976 < valX ds → 1152921504606846976 < valD ds) := by
  have := dg_fold ds 0 0 h (.inl rfl)
  unfold valX valD
  constructor
  · intro g; omega
  · intro g; omega
/-- The number of a word of digits. -/
def numD (neg : Bool) (v : Nat) : Int × Int := if neg = true ∧ v ≤ 1152921504606846976 then (-(v : Int), 0) else if neg = false ∧ v ≤ 1152921504606846975 then ((v : Int), 0) else (0, 11)
end Go.Proofs.YtpphabkjnfgcmaaDoor
