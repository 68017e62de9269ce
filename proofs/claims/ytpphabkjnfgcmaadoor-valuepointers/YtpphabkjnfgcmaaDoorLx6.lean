/- Words of digits with a sign: what Number and Name say of them. -/
import Derived.Test.YtpphabkjnfgcmaaDoorLx5
namespace Go.Proofs.YtpphabkjnfgcmaaDoor
open Go.RowKit
set_option linter.unusedSimpArgs false
set_option linter.unusedVariables false

def mnB (neg : Bool) : ByteArray := if neg then ⟨#[45]⟩ else ⟨#[]⟩
theorem ba_ext {a b : ByteArray} (h : a.data = b.data) : a = b := by cases a; cases b; simp at h; rw [h]
theorem app_data (a b : ByteArray) : (a ++ b).data = a.data ++ b.data := by simp
theorem app_mk (a b : List UInt8) : (ByteArray.mk a.toArray) ++ (ByteArray.mk b.toArray) = ByteArray.mk (a ++ b).toArray := ba_ext (by rw [app_data]; simp)
theorem pre_hy (b : UInt8) (t : List UInt8) : preB ⟨(b :: t).toArray⟩ hyB = (b == 45) := by
  have h1 : hyB.size = 1 := rfl
  have h2 : hyB.toList = [45] := by rw [ByteArray.toList_eq]; rfl
  have h3 : ((ByteArray.mk (b :: t).toArray).extract 0 1).toList = [b] := by
    rw [ByteArray.toList_eq, ByteArray.data_extract]
    simp
  unfold preB
  rw [h1, h2, h3, size_mk]
  simp
theorem pre_mi {b : UInt8} (t : List UInt8) (hb : b ≠ 226) : preB ⟨(b :: t).toArray⟩ miB = false := by
  have h1 : miB.size = 3 := rfl
  have h2 : miB.toList = [226, 136, 146] := by rw [ByteArray.toList_eq]; rfl
  have h3 : ((ByteArray.mk (b :: t).toArray).extract 0 3).toList = b :: t.take 2 := by
    rw [ByteArray.toList_eq, ByteArray.data_extract]
    simp
  unfold preB
  rw [h1, h2, h3]
  simp [hb]
theorem enc_head {r : Nat} (h : OkR r) : ∃ b t, encR r = b :: t ∧ b ≠ 45 ∧ b ≠ 226 := by
  obtain ⟨d, hd, h⟩ := h
  rcases h with rfl | rfl | rfl
  · rw [enc48 hd]
    rcases ten hd with rfl | rfl | rfl | rfl | rfl | rfl | rfl | rfl | rfl | rfl <;> exact ⟨_, _, rfl, by decide, by decide⟩
  · rw [enc16 hd]; exact ⟨_, _, rfl, by decide, by decide⟩
  · rw [enc65 hd]; exact ⟨_, _, rfl, by decide, by decide⟩
theorem sgn_word (neg : Bool) {l : List Nat} (h : ∀ r ∈ l, OkR r) (hne : l ≠ []) : sgn (mnB neg ++ mkS l) = (mkS l, neg) := by
  cases neg with
  | true =>
    have e : mnB true ++ mkS l = ⟨(45 :: encL l).toArray⟩ := app_mk [45] (encL l)
    rw [e]
    unfold sgn
    rw [pre_hy, if_pos (by rfl), size_mk]
    refine Prod.ext (ba_ext ?_) rfl
    rw [ByteArray.data_extract]
    simp [mkS]
  | false =>
    have e : mnB false ++ mkS l = mkS l := app_mk [] (encL l)
    rw [e]
    cases l with
    | nil => exact absurd rfl hne
    | cons r l =>
      obtain ⟨b, t, hb, h1, h2⟩ := enc_head (h r (List.mem_cons_self ..))
      have e2 : mkS (r :: l) = ⟨(b :: (t ++ encL l)).toArray⟩ := by
        unfold mkS encL
        rw [List.flatMap_cons, hb]
        rfl
      rw [e2]
      unfold sgn
      rw [pre_hy, if_neg (by simpa using h1), pre_mi _ h2, if_neg (by simp)]
theorem num_word (neg : Bool) {nt : Nat} (hn : nt = 48 ∨ nt = 1632 ∨ nt = 65296) {ds : List Nat} (h : ∀ d ∈ ds, d < 10) (hne : ds ≠ []) : numR (mnB neg ++ mkS (ds.map (nt + ·))) = numD neg (valD ds) := by
  have ho := okR_map hn h
  have hs := sgn_word neg ho (by simpa using hne)
  have hl : natL (rns (mkS (ds.map (nt + ·)))) 0 false 0 = (valD ds, true) := by
    rw [rns_mk ho]
    have := natL_all hn [] h hne
    rw [List.append_nil] at this
    exact this
  unfold numR
  rw [hs]
  simp only [hl]
  unfold numD
  cases neg <;> simp
theorem num_mixed (neg : Bool) {ds : List Nat} (h : ∀ d ∈ ds, d < 10) (hne : ds ≠ []) : (numR (mnB neg ++ mkS (ds.map (1632 + ·) ++ [48]))).2 = 9 := by
  have ho : ∀ r ∈ ds.map (1632 + ·) ++ [48], OkR r := by
    intro r hr
    rcases List.mem_append.1 hr with hr | hr
    · exact okR_map (.inr (.inl rfl)) h r hr
    · simp only [List.mem_cons, List.not_mem_nil, or_false] at hr
      exact ⟨0, by omega, .inl hr⟩
  have hs := sgn_word neg ho (by simp)
  have hl : natL (rns (mkS (ds.map (1632 + ·) ++ [48]))) 0 false 0 = (0, false) := by
    rw [rns_mk ho]
    have := natL_all (.inr (.inl rfl) : 1632 = 48 ∨ 1632 = 1632 ∨ 1632 = 65296) [48] h hne
    rw [this]
    rfl
  unfold numR
  rw [hs]
  simp only [hl]
  rfl
theorem encL_app (a b : List Nat) : encL (a ++ b) = encL a ++ encL b := by unfold encL; exact List.flatMap_append
theorem encL_one (r : Nat) : encL [r] = encR r := by unfold encL; rw [List.flatMap_cons, List.flatMap_nil, List.append_nil]
theorem mk_app (a b : List Nat) : mkS a ++ mkS b = mkS (a ++ b) := by
  unfold mkS
  rw [app_mk, encL_app]
theorem ba_list (b : ByteArray) : b = ⟨b.data.toList.toArray⟩ := ba_ext (by simp)
theorem encR_is (r : Nat) (b : ByteArray) (h : b = Utf8.encode (r : Int)) : encR r = b.data.toList :=
  (encR.eq_1 r).trans (congrArg (fun x : ByteArray => x.data.toList) h.symm)
theorem mk_oneg (r : Nat) (b : ByteArray) (h : b = Utf8.encode (r : Int)) : b = mkS [r] := by
  unfold mkS
  rw [encL_one, encR_is r b h]
theorem mk_one (r : Nat) : Utf8.encode (r : Int) = mkS [r] := mk_oneg r _ rfl
theorem mk_snoc (l : List Nat) (r : Nat) : mkS l ++ Utf8.encode (r : Int) = mkS (l ++ [r]) := by
  rw [mk_one, mk_app]
theorem mk_cons {d : Nat} (hd : d < 10) (ds : List Nat) : (⟨#[UInt8.ofNat (48 + d)]⟩ : ByteArray) ++ mkS (ds.map (48 + ·)) = mkS ((d :: ds).map (48 + ·)) := by
  refine ba_ext ?_
  rw [app_data]
  simp [mkS, encL, enc48 hd]
theorem numD_err (neg : Bool) (v : Nat) : (numD neg v).2 = 0 ∨ (numD neg v).2 = 11 := by
  unfold numD
  split
  · exact .inl rfl
  · split
    · exact .inl rfl
    · exact .inr rfl
theorem name_word (neg : Bool) {nt : Nat} (hn : nt = 48 ∨ nt = 1632 ∨ nt = 65296) {ds : List Nat} (h : ∀ d ∈ ds, d < 10) (hne : ds ≠ []) : nameB (mnB neg ++ mkS (ds.map (nt + ·))) = false := by
  unfold nameB
  rw [num_word neg hn h hne]
  have := numD_err neg (valD ds)
  have : ¬ (numD neg (valD ds)).2 = 9 := by omega
  simp [this]
/-- What a number is, by the digits of its size. -/
theorem numD_fits {n : Int} {v : Nat} (h1 : -9223372036854775808 ≤ n) (h2 : n ≤ 9223372036854775807) (hv : (n.natAbs ≤ 1152921504606846976 → v = n.natAbs) ∧ (1152921504606846976 < n.natAbs → 1152921504606846976 < v)) :
    ((-1152921504606846976 ≤ n ∧ n ≤ 1152921504606846975) → numD (decide (n < 0)) v = (n, 0)) ∧ (¬ (-1152921504606846976 ≤ n ∧ n ≤ 1152921504606846975) → numD (decide (n < 0)) v = (0, 11)) := by
  unfold numD
  constructor
  · intro hf
    have e := hv.1 (by omega)
    by_cases hn : n < 0
    · rw [if_pos (by simp [hn]; omega)]
      refine Prod.ext ?_ rfl
      show -(v : Int) = n
      omega
    · rw [if_neg (by simp [hn]), if_pos (by simp [hn]; omega)]
      refine Prod.ext ?_ rfl
      show (v : Int) = n
      omega
  · intro hf
    by_cases hn : n < 0
    · have e := hv.2 (by omega)
      rw [if_neg (by simp [hn]; omega), if_neg (by simp [hn])]
    · by_cases hb : n.natAbs ≤ 1152921504606846976
      · have e := hv.1 hb
        rw [if_neg (by simp [hn]), if_neg (by simp [hn]; omega)]
      · have e := hv.2 (by omega)
        rw [if_neg (by simp [hn]), if_neg (by simp [hn]; omega)]
end Go.Proofs.YtpphabkjnfgcmaaDoor
