/- LexNumbers: the law. -/
import Derived.Test.YtpphabkjnfgcmaaDoorLx8
namespace Go.Proofs.YtpphabkjnfgcmaaDoor
open Go.RowKit
set_option linter.unusedSimpArgs false
set_option linter.unusedVariables false
theorem mk_nought : (⟨#[48]⟩ : ByteArray) = mkS [48] := by
  unfold mkS
  rw [encL_one]
  have := enc48 (d := 0) (by omega)
  rw [Nat.add_zero] at this
  rw [this]
  rfl
/-- Digits with the number that they are. -/
structure Ds (N : Nat) (k : Nat) (ds : List Nat) : Prop where
  lt : ∀ d ∈ ds, d < 10
  val : valX ds = N
  ne : ds ≠ []
  len : ds.length ≤ 20 + k
theorem Ds.nought {N k : Nat} {ds : List Nat} (h : Ds N k ds) : Ds N (k + 1) (0 :: ds) :=
  ⟨fun d hd => by
    rcases List.mem_cons.1 hd with rfl | hd
    · omega
    · exact h.lt d hd, by rw [val_cons, Nat.zero_mul, Nat.zero_add, h.val], by simp, by rw [List.length_cons]; have := h.len; omega⟩
theorem Dg.ds {N : Nat} {ds : List Nat} (h : Dg N 0 ds) (hne : ds ≠ []) : Ds N 0 ds := ⟨h.lt, by have := h.sum; rw [Nat.zero_mul, Nat.zero_add] at this; exact this, hne, h.len⟩
theorem enc_size {nt : Nat} (hn : nt = 48 ∨ nt = 1632 ∨ nt = 65296) {d : Nat} (hd : d < 10) : (encR (nt + d)).length ≤ 3 := by
  rcases hn with rfl | rfl | rfl
  · rw [enc48 hd]; simp
  · rw [enc16 hd]; simp
  · rw [enc65 hd]; simp
theorem mk_size3 {nt : Nat} (hn : nt = 48 ∨ nt = 1632 ∨ nt = 65296) (ds : List Nat) : (∀ d ∈ ds, d < 10) → (mkS (ds.map (nt + ·))).size ≤ 3 * ds.length := by
  intro h
  unfold mkS
  rw [size_mk]
  induction ds with
  | nil => simp [encL]
  | cons d ds ih =>
    have h1 := enc_size hn (h d (List.mem_cons_self ..))
    have h2 := ih (fun x hx => h x (List.mem_cons_of_mem _ hx))
    unfold encL at h2 ⊢
    rw [List.map_cons, List.flatMap_cons, List.length_append, List.length_cons]
    omega
theorem mn_size (b : Bool) : (mnB b).size ≤ 1 := by cases b <;> simp [mnB, ByteArray.size]
theorem add_str (P : Program) (W : World) {a b c : ByteArray} (h1 : a ++ b = c) (h2 : a.size ≤ 1000000) (h3 : b.size ≤ 1000000) : (Op.stringOp .add a b).run P W = .ok (.string c) W := by
  rw [run_string_add_sum W a b (by omega), h1]
theorem mk_get {ds : List Nat} (h : ∀ d ∈ ds, d < 10) {i : Nat} (hi : i < ds.length) (hs : i < (mkS (ds.map (48 + ·))).size) : ((mkS (ds.map (48 + ·)))[i]'hs).toNat = 48 + ds[i] := by
  have e : encL (ds.map (48 + ·)) = ds.map (fun d => UInt8.ofNat (48 + d)) := by
    clear hs hi
    induction ds with
    | nil => rfl
    | cons d ds ih =>
      have := ih (fun x hx => h x (List.mem_cons_of_mem _ hx))
      unfold encL at this ⊢
      rw [List.map_cons, List.flatMap_cons, this, enc48 (h d (List.mem_cons_self ..))]
      rfl
  have e2 : (mkS (ds.map (48 + ·)))[i]'hs = (ds.map (fun d => UInt8.ofNat (48 + d)))[i]'(by simpa using hi) := by
    show (mkS (ds.map (48 + ·))).data[i]'hs = _
    simp only [mkS, e]
    simp
  rw [e2, List.getElem_map]
  have hd := h ds[i] (List.getElem_mem hi)
  rcases ten hd with g | g | g | g | g | g | g | g | g | g <;> rw [g] <;> rfl
theorem index_mk {ds : List Nat} (h : ∀ d ∈ ds, d < 10) {i : Nat} (hi : i < ds.length) (W : World) : (Instr.index 9 (.string (mkS (ds.map (48 + ·)))) (.int .i64 (i : Int))).run Tryd.prog W = .ok (.int .u8 ((48 + ds[i] : Nat) : Int)) W := by
  have hs := mk_size ds h
  rw [run_index_string W 9 _ _ _ Tryd.underlying9, dif_pos ⟨by omega, by rw [hs]; omega⟩]
  have := mk_get h hi (by rw [hs]; exact hi)
  congr 2
  rw [← this]
  rfl
theorem slice_mn {s : ByteArray} (W : World) : (Instr.slice 9 (.string (mnB true ++ s)) (some (.int .i64 1)) none none).run Tryd.prog W = .ok (.string s) W := by
  have hs : (mnB true ++ s).size = 1 + s.size := by rw [ByteArray.size_append]; rfl
  rw [run_slice_string_l W 9 _ Tryd.underlying9 _ _ (by omega) (by rw [hs]; omega)]
  congr 2
  refine ba_ext ?_
  rw [ByteArray.data_extract, app_data]
  have : (mnB true).data = #[45] := rfl
  rw [this, hs]
  apply Array.ext'
  simp
  exact List.take_of_length_le (Nat.le_of_eq rfl)
/-- What the law asks of the digits. -/
structure Asks (n : Int) (ds : List Nat) (R : Int × Int) : Prop where
  r1 : numR (mnB (decide (n < 0)) ++ mkS (ds.map (48 + ·))) = R
  r2 : numR (mnB (decide (n < 0)) ++ mkS (ds.map (1632 + ·))) = R
  r3 : numR (mnB (decide (n < 0)) ++ mkS (ds.map (65296 + ·))) = R
  r4 : (numR (mnB (decide (n < 0)) ++ mkS (ds.map (1632 + ·) ++ [48]))).2 = 9
  n1 : nameB (mnB (decide (n < 0)) ++ mkS (ds.map (48 + ·))) = false
  n3 : nameB (mnB (decide (n < 0)) ++ mkS (ds.map (65296 + ·))) = false
theorem Ds.asks {n : Int} {k : Nat} {ds : List Nat} (h : Ds n.natAbs k ds) (h1 : -9223372036854775808 ≤ n) (h2 : n ≤ 9223372036854775807) :
    ((-1152921504606846976 ≤ n ∧ n ≤ 1152921504606846975) → Asks n ds (n, 0)) ∧ (¬ (-1152921504606846976 ≤ n ∧ n ≤ 1152921504606846975) → Asks n ds (0, 11)) := by
  have hv := val_fits h.lt
  rw [h.val] at hv
  have hf := numD_fits h1 h2 hv
  refine ⟨fun g => ?_, fun g => ?_⟩
  · have e := hf.1 g
    exact ⟨by rw [num_word _ (.inl rfl) h.lt h.ne, e], by rw [num_word _ (.inr (.inl rfl)) h.lt h.ne, e], by rw [num_word _ (.inr (.inr rfl)) h.lt h.ne, e], num_mixed _ h.lt h.ne, name_word _ (.inl rfl) h.lt h.ne, name_word _ (.inr (.inr rfl)) h.lt h.ne⟩
  · have e := hf.2 g
    exact ⟨by rw [num_word _ (.inl rfl) h.lt h.ne, e], by rw [num_word _ (.inr (.inl rfl)) h.lt h.ne, e], by rw [num_word _ (.inr (.inr rfl)) h.lt h.ne, e], num_mixed _ h.lt h.ne, name_word _ (.inl rfl) h.lt h.ne, name_word _ (.inr (.inr rfl)) h.lt h.ne⟩
end Go.Proofs.YtpphabkjnfgcmaaDoor
