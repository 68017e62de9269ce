/- Words of digits with a sign: what Number and Name say of them. Awake. The digits of a number: decimal. LexNumbers: the law. LexNumbers: the walk. Blanks, and the first character that is wanted: blank, begin's two functions, find, wordEnd. The first character that is wanted: find. wordEnd, remarked, stray. begin, stray. stray. unescape. -/
import Derived.Test.YtmmggnmgimgdfaaDoorGaa
import Derived.Laws.IdiomStrings
import Derived.Laws.Concat
import Derived.Laws.Runes
namespace Go.Proofs.YtmmggnmgimgdfaaDoor
open Go.RowKit
set_option linter.unusedSimpArgs false
set_option linter.unusedVariables false

def mnB (neg : Bool) : ByteArray := if neg then ⟨#[45]⟩ else ⟨#[]⟩
theorem ba_ext {a b : ByteArray} (h : a.data = b.data) : a = b := by cases a; cases b; simp at h; rw [h]
theorem app_data (a b : ByteArray) : (a ++ b).data = a.data ++ b.data := by simp
theorem app_mk (a b : List UInt8) : (ByteArray.mk a.toArray) ++ (ByteArray.mk b.toArray) = ByteArray.mk (a ++ b).toArray := ba_ext (by rw [app_data]; simp)
theorem pre_hy (b : UInt8) (t : List UInt8) : preB ⟨(b :: t).toArray⟩ hyB = (b == 45) := by
  have h1 : hyB.size = 1 := rfl
  have h2 : hyB.toList = [45] := by rw [ByteArray.toList_eq]; rfl
  have h3 : ((ByteArray.mk (b :: t).toArray).extract 0 1).toList = [b] := by
    rw [ByteArray.toList_eq, ByteArray.data_extract]
    simp
  unfold preB
  rw [h1, h2, h3, size_mk]
  simp
theorem pre_mi {b : UInt8} (t : List UInt8) (hb : b ≠ 226) : preB ⟨(b :: t).toArray⟩ miB = false := by
  have h1 : miB.size = 3 := rfl
  have h2 : miB.toList = [226, 136, 146] := by rw [ByteArray.toList_eq]; rfl
  have h3 : ((ByteArray.mk (b :: t).toArray).extract 0 3).toList = b :: t.take 2 := by
    rw [ByteArray.toList_eq, ByteArray.data_extract]
    simp
  unfold preB
  rw [h1, h2, h3]
  simp [hb]
theorem enc_head {r : Nat} (h : OkR r) : ∃ b t, encR r = b :: t ∧ b ≠ 45 ∧ b ≠ 226 := by
  obtain ⟨d, hd, h⟩ := h
  rcases h with rfl | rfl | rfl
  · rw [enc48 hd]
    rcases ten hd with rfl | rfl | rfl | rfl | rfl | rfl | rfl | rfl | rfl | rfl <;> exact ⟨_, _, rfl, by decide, by decide⟩
  · rw [enc16 hd]; exact ⟨_, _, rfl, by decide, by decide⟩
  · rw [enc65 hd]; exact ⟨_, _, rfl, by decide, by decide⟩
theorem sgn_word (neg : Bool) {l : List Nat} (h : ∀ r ∈ l, OkR r) (hne : l ≠ []) : sgn (mnB neg ++ mkS l) = (mkS l, neg) := by
  cases neg with
  | true =>
    have e : mnB true ++ mkS l = ⟨(45 :: encL l).toArray⟩ := app_mk [45] (encL l)
    rw [e]
    unfold sgn
    rw [pre_hy, if_pos (by rfl), size_mk]
    refine Prod.ext (ba_ext ?_) rfl
    rw [ByteArray.data_extract]
    simp [mkS]
  | false =>
    have e : mnB false ++ mkS l = mkS l := app_mk [] (encL l)
    rw [e]
    cases l with
    | nil => exact absurd rfl hne
    | cons r l =>
      obtain ⟨b, t, hb, h1, h2⟩ := enc_head (h r (List.mem_cons_self ..))
      have e2 : mkS (r :: l) = ⟨(b :: (t ++ encL l)).toArray⟩ := by
        unfold mkS encL
        rw [List.flatMap_cons, hb]
        rfl
      rw [e2]
      unfold sgn
      rw [pre_hy, if_neg (by simpa using h1), pre_mi _ h2, if_neg (by simp)]
theorem num_word (neg : Bool) {nt : Nat} (hn : nt = 48 ∨ nt = 1632 ∨ nt = 65296) {ds : List Nat} (h : ∀ d ∈ ds, d < 10) (hne : ds ≠ []) : numR (mnB neg ++ mkS (ds.map (nt + ·))) = numD neg (valD ds) := by
  have ho := okR_map hn h
  have hs := sgn_word neg ho (by simpa using hne)
  have hl : natL (rns (mkS (ds.map (nt + ·)))) 0 false 0 = (valD ds, true) := by
    rw [rns_mk ho]
    have := natL_all hn [] h hne
    rw [List.append_nil] at this
    exact this
  unfold numR
  rw [hs]
  simp only [hl]
  unfold numD
  cases neg <;> simp
theorem num_mixed (neg : Bool) {ds : List Nat} (h : ∀ d ∈ ds, d < 10) (hne : ds ≠ []) : (numR (mnB neg ++ mkS (ds.map (1632 + ·) ++ [48]))).2 = 9 := by
  have ho : ∀ r ∈ ds.map (1632 + ·) ++ [48], OkR r := by
    intro r hr
    rcases List.mem_append.1 hr with hr | hr
    · exact okR_map (.inr (.inl rfl)) h r hr
    · simp only [List.mem_cons, List.not_mem_nil, or_false] at hr
      exact ⟨0, by omega, .inl hr⟩
  have hs := sgn_word neg ho (by simp)
  have hl : natL (rns (mkS (ds.map (1632 + ·) ++ [48]))) 0 false 0 = (0, false) := by
    rw [rns_mk ho]
    have := natL_all (.inr (.inl rfl) : 1632 = 48 ∨ 1632 = 1632 ∨ 1632 = 65296) [48] h hne
    rw [this]
    rfl
  unfold numR
  rw [hs]
  simp only [hl]
  rfl
theorem encL_app (a b : List Nat) : encL (a ++ b) = encL a ++ encL b := by unfold encL; exact List.flatMap_append
theorem encL_one (r : Nat) : encL [r] = encR r := by unfold encL; rw [List.flatMap_cons, List.flatMap_nil, List.append_nil]
theorem mk_app (a b : List Nat) : mkS a ++ mkS b = mkS (a ++ b) := by
  unfold mkS
  rw [app_mk, encL_app]
theorem ba_list (b : ByteArray) : b = ⟨b.data.toList.toArray⟩ := ba_ext (by simp)
theorem encR_is (r : Nat) (b : ByteArray) (h : b = Utf8.encode (r : Int)) : encR r = b.data.toList :=
  (encR.eq_1 r).trans (congrArg (fun x : ByteArray => x.data.toList) h.symm)
theorem mk_oneg (r : Nat) (b : ByteArray) (h : b = Utf8.encode (r : Int)) : b = mkS [r] := by
  unfold mkS
  rw [encL_one, encR_is r b h]
theorem mk_one (r : Nat) : Utf8.encode (r : Int) = mkS [r] := mk_oneg r _ rfl
theorem mk_snoc (l : List Nat) (r : Nat) : mkS l ++ Utf8.encode (r : Int) = mkS (l ++ [r]) := by
  rw [mk_one, mk_app]
theorem mk_cons {d : Nat} (hd : d < 10) (ds : List Nat) : (⟨#[UInt8.ofNat (48 + d)]⟩ : ByteArray) ++ mkS (ds.map (48 + ·)) = mkS ((d :: ds).map (48 + ·)) := by
  refine ba_ext ?_
  rw [app_data]
  simp [mkS, encL, enc48 hd]
theorem numD_err (neg : Bool) (v : Nat) : (numD neg v).2 = 0 ∨ (numD neg v).2 = 11 := by
  unfold numD
  split
  · exact .inl rfl
  · split
    · exact .inl rfl
    · exact .inr rfl
theorem name_word (neg : Bool) {nt : Nat} (hn : nt = 48 ∨ nt = 1632 ∨ nt = 65296) {ds : List Nat} (h : ∀ d ∈ ds, d < 10) (hne : ds ≠ []) : nameB (mnB neg ++ mkS (ds.map (nt + ·))) = false := by
  unfold nameB
  rw [num_word neg hn h hne]
  have := numD_err neg (valD ds)
  have : ¬ (numD neg (valD ds)).2 = 9 := by omega
  simp [this]
/-- What a number is, by the digits of its size. -/
theorem numD_fits {n : Int} {v : Nat} (h1 : -9223372036854775808 ≤ n) (h2 : n ≤ 9223372036854775807) (hv : (n.natAbs ≤ 1152921504606846976 → v = n.natAbs) ∧ (1152921504606846976 < n.natAbs → 1152921504606846976 < v)) :
    ((-1152921504606846976 ≤ n ∧ n ≤ 1152921504606846975) → numD (decide (n < 0)) v = (n, 0)) ∧ (¬ (-1152921504606846976 ≤ n ∧ n ≤ 1152921504606846975) → numD (decide (n < 0)) v = (0, 11)) := by
  unfold numD
  constructor
  · intro hf
    have e := hv.1 (by omega)
    by_cases hn : n < 0
    · rw [if_pos (by simp [hn]; omega)]
      refine Prod.ext ?_ rfl
      show -(v : Int) = n
      omega
    · rw [if_neg (by simp [hn]), if_pos (by simp [hn]; omega)]
      refine Prod.ext ?_ rfl
      show (v : Int) = n
      omega
  · intro hf
    by_cases hn : n < 0
    · have e := hv.2 (by omega)
      rw [if_neg (by simp [hn]; omega), if_neg (by simp [hn])]
    · by_cases hb : n.natAbs ≤ 1152921504606846976
      · have e := hv.1 hb
        rw [if_neg (by simp [hn]), if_neg (by simp [hn]; omega)]
      · have e := hv.2 (by omega)
        rw [if_neg (by simp [hn]), if_neg (by simp [hn]; omega)]
end Go.Proofs.YtmmggnmgimgdfaaDoor
namespace Go.Proofs.YtmmggnmgimgdfaaDoor
open Go.RowKit
set_option linter.unusedSimpArgs false
set_option linter.unusedVariables false
theorem name_dup : nameB ⟨#[100, 117, 112]⟩ = true := by kernel_rfl
theorem name_7 : nameB ⟨#[55]⟩ = false := by kernel_rfl
end Go.Proofs.YtmmggnmgimgdfaaDoor
namespace Go.Proofs.YtmmggnmgimgdfaaDoor
open Go.RowKit
set_option linter.unusedSimpArgs false
set_option linter.unusedVariables false
theorem val_go : ∀ (ds : List Nat) (a : Nat), ds.foldl (fun n d => n * 10 + d) a = a * 10 ^ ds.length + valX ds := by
  intro ds
  induction ds with
  | nil => intro a; simp [valX]
  | cons d ds ih =>
    intro a
    unfold valX
    rw [List.foldl_cons, List.foldl_cons, ih, ih, List.length_cons, Nat.pow_succ, Nat.add_mul, Nat.zero_mul, Nat.zero_add, Nat.add_assoc, Nat.mul_assoc, Nat.mul_comm 10]
theorem val_cons (d : Nat) (ds : List Nat) : valX (d :: ds) = d * 10 ^ ds.length + valX ds := by
  have := val_go ds (0 * 10 + d)
  rw [Nat.zero_mul, Nat.zero_add] at this
  rw [← this]
  unfold valX
  rw [List.foldl_cons, Nat.zero_mul, Nat.zero_add]
theorem mk_size (ds : List Nat) : (∀ d ∈ ds, d < 10) → (mkS (ds.map (48 + ·))).size = ds.length := by
  intro h
  unfold mkS
  rw [size_mk]
  induction ds with
  | nil => rfl
  | cons d ds ih =>
    unfold encL
    rw [List.map_cons, List.flatMap_cons, enc48 (h d (List.mem_cons_self ..)), List.length_append, List.length_cons]
    have := ih (fun x hx => h x (List.mem_cons_of_mem _ hx))
    unfold encL at this
    rw [this]
    simp
    omega
/-- The digits under way: u is still to be laid. -/
structure Dg (U u : Nat) (ds : List Nat) : Prop where
  lt : ∀ d ∈ ds, d < 10
  sum : u * 10 ^ ds.length + valX ds = U
  len : ds.length ≤ 20
  room : u < 10 ^ (20 - ds.length)
theorem Dg.none {U : Nat} (h : U < 100000000000000000000) : Dg U U [] := ⟨by simp, by simp [valX], by simp, by simpa using h⟩
theorem Dg.more {U u : Nat} {ds : List Nat} (h : Dg U u ds) (hu : 0 < u ∨ ds = []) : Dg U (u / 10) (u % 10 :: ds) := by
  have hl : ds.length < 20 := by
    rcases hu with hu | rfl
    · rcases Nat.lt_or_ge ds.length 20 with g | g
      · exact g
      · have := h.room
        rw [show 20 - ds.length = 0 by omega] at this
        simp at this
        omega
    · simp
  refine ⟨?_, ?_, by rw [List.length_cons]; omega, ?_⟩
  · intro d hd
    rcases List.mem_cons.1 hd with rfl | hd
    · exact Nat.mod_lt _ (by omega)
    · exact h.lt d hd
  · rw [val_cons, List.length_cons, Nat.pow_succ, ← Nat.add_assoc, ← h.sum, Nat.mul_comm (10 ^ ds.length) 10, ← Nat.mul_assoc, ← Nat.add_mul]
    congr 2
    omega
  · rw [List.length_cons]
    have := h.room
    rw [show 20 - ds.length = (20 - (ds.length + 1)) + 1 by omega, Nat.pow_succ] at this
    exact Nat.div_lt_of_lt_mul (by rw [Nat.mul_comm]; exact this)
theorem Dg.size {U u : Nat} {ds : List Nat} (h : Dg U u ds) : (mkS (ds.map (48 + ·))).size ≤ 20 := by
  rw [mk_size ds h.lt]; exact h.len
theorem Dg.le {U u : Nat} {ds : List Nat} (h : Dg U u ds) : u ≤ U := by
  have h1 := h.sum
  have h2 : u * 1 ≤ u * 10 ^ ds.length := Nat.mul_le_mul_left _ (Nat.pos_of_ne_zero (by simp))
  omega
theorem one_byte {d : Nat} (hd : d < 10) (w : World) :
    (convert 98 9 (.slice (some ⟨w.heap.size, 0, none⟩) 1 1)).run Tryd.prog (w.alloc (.cells #[.int .u8 ((48 + d : Nat) : Int)] 5)) = .ok (.string ⟨#[UInt8.ofNat (48 + d)]⟩) (w.alloc (.cells #[.int .u8 ((48 + d : Nat) : Int)] 5)) := by
  have := run_convert_bytes_back (P := Tryd.prog) (w.alloc (.cells #[.int .u8 ((48 + d : Nat) : Int)] 5)) 98 9 5 ⟨w.heap.size, 0, none⟩ 1 [UInt8.ofNat (48 + d)] Tryd.underlying98 Tryd.underlying5 Tryd.underlying9 (fun j hj => by
    have : j = 0 := by simpa using hj
    subst this
    have e : ((UInt8.ofNat (48 + d)).toNat : Int) = ((48 + d : Nat) : Int) := by
      rcases ten hd with rfl | rfl | rfl | rfl | rfl | rfl | rfl | rfl | rfl | rfl <;> rfl
    simp only [List.getElem_cons_zero, e]
    exact World.cell?_alloc_at _ _ w.heap.size 0 rfl)
  exact this
def DecIs (n : Int) (w : World) (e : Ending) (w' : World) : Prop := ∃ ds, Dg n.natAbs 0 ds ∧ ds ≠ [] ∧ e = .returned (.string (mnB (decide (n < 0)) ++ mkS (ds.map (48 + ·)))) ∧ Only (fun _ => False) w w'
def uOf : Value → Nat
  | .int _ m => m.toNat
  | _ => 0
def sOf : Value → Nat
  | .string b => 1 - b.size
  | _ => 0
end Go.Proofs.YtmmggnmgimgdfaaDoor
namespace Go.Proofs.YtmmggnmgimgdfaaDoor
open Go.RowKit
set_option linter.unusedSimpArgs false
set_option linter.unusedVariables false
theorem mk_nought : (⟨#[48]⟩ : ByteArray) = mkS [48] := by
  unfold mkS
  rw [encL_one]
  have := enc48 (d := 0) (by omega)
  rw [Nat.add_zero] at this
  rw [this]
  rfl
/-- Digits with the number that they are. -/
structure Ds (N : Nat) (k : Nat) (ds : List Nat) : Prop where
  lt : ∀ d ∈ ds, d < 10
  val : valX ds = N
  ne : ds ≠ []
  len : ds.length ≤ 20 + k
theorem Ds.nought {N k : Nat} {ds : List Nat} (h : Ds N k ds) : Ds N (k + 1) (0 :: ds) :=
  ⟨fun d hd => by
    rcases List.mem_cons.1 hd with rfl | hd
    · omega
    · exact h.lt d hd, by rw [val_cons, Nat.zero_mul, Nat.zero_add, h.val], by simp, by rw [List.length_cons]; have := h.len; omega⟩
theorem Dg.ds {N : Nat} {ds : List Nat} (h : Dg N 0 ds) (hne : ds ≠ []) : Ds N 0 ds := ⟨h.lt, by have := h.sum; rw [Nat.zero_mul, Nat.zero_add] at this; exact this, hne, h.len⟩
theorem enc_size {nt : Nat} (hn : nt = 48 ∨ nt = 1632 ∨ nt = 65296) {d : Nat} (hd : d < 10) : (encR (nt + d)).length ≤ 3 := by
  rcases hn with rfl | rfl | rfl
  · rw [enc48 hd]; simp
  · rw [enc16 hd]; simp
  · rw [enc65 hd]; simp
theorem mk_size3 {nt : Nat} (hn : nt = 48 ∨ nt = 1632 ∨ nt = 65296) (ds : List Nat) : (∀ d ∈ ds, d < 10) → (mkS (ds.map (nt + ·))).size ≤ 3 * ds.length := by
  intro h
  unfold mkS
  rw [size_mk]
  induction ds with
  | nil => simp [encL]
  | cons d ds ih =>
    have h1 := enc_size hn (h d (List.mem_cons_self ..))
    have h2 := ih (fun x hx => h x (List.mem_cons_of_mem _ hx))
    unfold encL at h2 ⊢
    rw [List.map_cons, List.flatMap_cons, List.length_append, List.length_cons]
    omega
theorem mn_size (b : Bool) : (mnB b).size ≤ 1 := by cases b <;> simp [mnB, ByteArray.size]
theorem add_str (P : Program) (W : World) {a b c : ByteArray} (h1 : a ++ b = c) (h2 : a.size ≤ 1000000) (h3 : b.size ≤ 1000000) : (Op.stringOp .add a b).run P W = .ok (.string c) W := by
  rw [run_string_add_sum W a b (by omega), h1]
theorem mk_get {ds : List Nat} (h : ∀ d ∈ ds, d < 10) {i : Nat} (hi : i < ds.length) (hs : i < (mkS (ds.map (48 + ·))).size) : ((mkS (ds.map (48 + ·)))[i]'hs).toNat = 48 + ds[i] := by
  have e : encL (ds.map (48 + ·)) = ds.map (fun d => UInt8.ofNat (48 + d)) := by
    clear hs hi
    induction ds with
    | nil => rfl
    | cons d ds ih =>
      have := ih (fun x hx => h x (List.mem_cons_of_mem _ hx))
      unfold encL at this ⊢
      rw [List.map_cons, List.flatMap_cons, this, enc48 (h d (List.mem_cons_self ..))]
      rfl
  have e2 : (mkS (ds.map (48 + ·)))[i]'hs = (ds.map (fun d => UInt8.ofNat (48 + d)))[i]'(by simpa using hi) := by
    show (mkS (ds.map (48 + ·))).data[i]'hs = _
    simp only [mkS, e]
    simp
  rw [e2, List.getElem_map]
  have hd := h ds[i] (List.getElem_mem hi)
  rcases ten hd with g | g | g | g | g | g | g | g | g | g <;> rw [g] <;> rfl
theorem index_mk {ds : List Nat} (h : ∀ d ∈ ds, d < 10) {i : Nat} (hi : i < ds.length) (W : World) : (Instr.index 9 (.string (mkS (ds.map (48 + ·)))) (.int .i64 (i : Int))).run Tryd.prog W = .ok (.int .u8 ((48 + ds[i] : Nat) : Int)) W := by
  have hs := mk_size ds h
  rw [run_index_string W 9 _ _ _ Tryd.underlying9, dif_pos ⟨by omega, by rw [hs]; omega⟩]
  have := mk_get h hi (by rw [hs]; exact hi)
  congr 2
  rw [← this]
  rfl
theorem slice_mn {s : ByteArray} (W : World) : (Instr.slice 9 (.string (mnB true ++ s)) (some (.int .i64 1)) none none).run Tryd.prog W = .ok (.string s) W := by
  have hs : (mnB true ++ s).size = 1 + s.size := by rw [ByteArray.size_append]; rfl
  rw [run_slice_string_l W 9 _ Tryd.underlying9 _ _ (by omega) (by rw [hs]; omega)]
  congr 2
  refine ba_ext ?_
  rw [ByteArray.data_extract, app_data]
  have : (mnB true).data = #[45] := rfl
  rw [this, hs]
  apply Array.ext'
  simp
  exact List.take_of_length_le (Nat.le_of_eq rfl)
/-- What the law asks of the digits. -/
structure Asks (n : Int) (ds : List Nat) (R : Int × Int) : Prop where
  r1 : numR (mnB (decide (n < 0)) ++ mkS (ds.map (48 + ·))) = R
  r2 : numR (mnB (decide (n < 0)) ++ mkS (ds.map (1632 + ·))) = R
  r3 : numR (mnB (decide (n < 0)) ++ mkS (ds.map (65296 + ·))) = R
  r4 : (numR (mnB (decide (n < 0)) ++ mkS (ds.map (1632 + ·) ++ [48]))).2 = 9
  n1 : nameB (mnB (decide (n < 0)) ++ mkS (ds.map (48 + ·))) = false
  n3 : nameB (mnB (decide (n < 0)) ++ mkS (ds.map (65296 + ·))) = false
theorem Ds.asks {n : Int} {k : Nat} {ds : List Nat} (h : Ds n.natAbs k ds) (h1 : -9223372036854775808 ≤ n) (h2 : n ≤ 9223372036854775807) :
    ((-1152921504606846976 ≤ n ∧ n ≤ 1152921504606846975) → Asks n ds (n, 0)) ∧ (¬ (-1152921504606846976 ≤ n ∧ n ≤ 1152921504606846975) → Asks n ds (0, 11)) := by
  have hv := val_fits h.lt
  rw [h.val] at hv
  have hf := numD_fits h1 h2 hv
  refine ⟨fun g => ?_, fun g => ?_⟩
  · have e := hf.1 g
    exact ⟨by rw [num_word _ (.inl rfl) h.lt h.ne, e], by rw [num_word _ (.inr (.inl rfl)) h.lt h.ne, e], by rw [num_word _ (.inr (.inr rfl)) h.lt h.ne, e], num_mixed _ h.lt h.ne, name_word _ (.inl rfl) h.lt h.ne, name_word _ (.inr (.inr rfl)) h.lt h.ne⟩
  · have e := hf.2 g
    exact ⟨by rw [num_word _ (.inl rfl) h.lt h.ne, e], by rw [num_word _ (.inr (.inl rfl)) h.lt h.ne, e], by rw [num_word _ (.inr (.inr rfl)) h.lt h.ne, e], num_mixed _ h.lt h.ne, name_word _ (.inl rfl) h.lt h.ne, name_word _ (.inr (.inr rfl)) h.lt h.ne⟩
end Go.Proofs.YtmmggnmgimgdfaaDoor
namespace Go.Proofs.YtmmggnmgimgdfaaDoor
open Go.RowKit
set_option linter.unusedSimpArgs false
set_option linter.unusedVariables false
def tkS (nt : Nat) (ds : List Nat) (i : Nat) : ByteArray := mkS ((ds.take i).map (nt + ·))
theorem tk_none (nt : Nat) (ds : List Nat) : tkS nt ds 0 = ⟨#[]⟩ := rfl
theorem tk_all (nt : Nat) (ds : List Nat) {i : Nat} (h : ds.length ≤ i) : tkS nt ds i = mkS (ds.map (nt + ·)) := by unfold tkS; rw [List.take_of_length_le h]
theorem tk_size {nt : Nat} (hn : nt = 48 ∨ nt = 1632 ∨ nt = 65296) {ds : List Nat} (h : ∀ d ∈ ds, d < 10) (i : Nat) : (tkS nt ds i).size ≤ 3 * ds.length := by
  have := mk_size3 hn (ds.take i) (fun d hd => h d (List.mem_of_mem_take hd))
  have h2 : (ds.take i).length ≤ ds.length := by rw [List.length_take]; omega
  unfold tkS
  omega
theorem tk_go {nt : Nat} {ds : List Nat} {i : Nat} (hi : i < ds.length) : tkS nt ds i ++ Utf8.encode ((nt + ds[i] : Nat) : Int) = tkS nt ds (i + 1) := by
  unfold tkS
  rw [mk_snoc, List.take_add_one, List.getElem?_eq_getElem hi, List.map_append]
  rfl
theorem enc_size2 {nt : Nat} (hn : nt = 48 ∨ nt = 1632 ∨ nt = 65296) {d : Nat} (hd : d < 10) : (Utf8.encode ((nt + d : Nat) : Int)).size ≤ 3 := by
  have := enc_size hn hd
  rw [mk_one]
  unfold mkS
  rw [size_mk, encL_one]
  exact this
end Go.Proofs.YtmmggnmgimgdfaaDoor
namespace Go.Proofs.YtmmggnmgimgdfaaDoor
open Go.RowKit
set_option linter.unusedSimpArgs false
set_option linter.unusedVariables false
set_option maxRecDepth 100000 in
theorem notblank_any (c : Nat) (w : World) : Calls Tryd.prog 76 #[.int .i32 (c : Int)] w fun e w' => e = .returned (.bool (!blk c)) ∧ w' = w := by
  have HB : Hid (Calls Tryd.prog 61 #[.int .i32 (c : Int)] w fun e w' => e = .returned (.bool (blk c)) ∧ w' = w) := blank_any c w
  obtain ⟨b, hb⟩ : ∃ b, b = blk c := ⟨_, rfl⟩
  rw [← hb] at HB ⊢
  clear hb
  go_enter Tryd.func76, Tryd.ntmps76
  go_wp2_with fail
  refine (show Calls Tryd.prog 61 _ _ _ from HB.out).mono ?_
  rintro e wz ⟨rfl, rfl⟩
  clear HB
  go_wp2
  go_ret
  exact ⟨rfl, rfl⟩
set_option maxRecDepth 100000 in
theorem newline_any (c : Nat) (w : World) : Calls Tryd.prog 78 #[.int .i32 (c : Int)] w fun e w' => e = .returned (.bool (decide (c = 10))) ∧ w' = w := by
  have e : ((c : Int) == 10) = decide (c = 10) := by
    by_cases h : c = 10
    · subst h; rfl
    · have : ¬ (c : Int) = 10 := by omega
      simp [h, this]
  rw [← e]
  clear e
  go_enter Tryd.func78, Tryd.ntmps78
  go_wp2
  go_ret
  exact ⟨rfl, rfl⟩
end Go.Proofs.YtmmggnmgimgdfaaDoor
namespace Go.Proofs.YtmmggnmgimgdfaaDoor
open Go.RowKit
set_option linter.unusedSimpArgs false
set_option linter.unusedVariables false
def fndL (p : Nat → Bool) (a n : Nat) : List (Nat × Nat) → Nat
  | [] => n
  | (i, c) :: l => if p c = true then a + i else fndL p a n l
/-- The place of the first character that p wants, from a on, or the text's length. -/
def fnd (p : Nat → Bool) (s : ByteArray) (a : Nat) : Nat := fndL p a s.size (crs (s.extract a s.size) (s.extract a s.size).size 0)
set_option maxRecDepth 100000 in
set_option maxHeartbeats 1000000 in
theorem find_blank (s : ByteArray) (a : Nat) (ha : a ≤ s.size) (hs : s.size ≤ 1000000) (w : World) :
    Calls Tryd.prog 75 #[.string s, .int .i64 (a : Int), .func (.func 61) #[] #[]] w fun e w' => e = .returned (.int .i64 (fnd (fun c => blk c) s a : Nat)) ∧ Only (fun _ => False) w w' := by
  have HC : Hid (∀ (c : Nat) w1, Calls Tryd.prog 61 #[.int .i32 (c : Int)] w1 fun e w' => e = .returned (.bool (blk c)) ∧ w' = w1) := fun c w1 => blank_any c w1
  unfold fnd
  obtain ⟨S, hS⟩ : ∃ S, S = s.extract a s.size := ⟨_, rfl⟩
  have hsl : ∀ W : World, (Instr.slice 9 (.string s) (some (.int .i64 (a : Int))) none none).run Tryd.prog W = .ok (.string S) W := fun W => by
    rw [run_slice_string_l W 9 s Tryd.underlying9 _ _ (by omega) (by omega), hS]
    rfl
  have hsz : S.size = s.size - a := by rw [hS, ByteArray.size_extract]; omega
  rw [← hS]
  clear hS
  obtain ⟨Z, hZ⟩ : ∃ Z, Z = fndL (fun c => blk c) a s.size (crs S S.size 0) := ⟨_, rfl⟩
  have HZ : Hid (Z = fndL (fun c => blk c) a s.size (crs S S.size 0)) := hZ
  rw [← hZ]
  clear hZ
  go_enter Tryd.func75, Tryd.ntmps75
  go_wp2
  go_loopw [6] (fun r w' => ∃ (pos b : Nat), w' = w.iter S pos ∧ r = .int .i64 0 ∧ Hid (Z = fndL (fun c => blk c) a s.size (crs S b pos) ∧ S.size ≤ pos + b)) (fun _ w' => S.size - w'.iterPos w.heap.size)
  case atStart => exact ⟨0, S.size, rfl, rfl, HZ.out, by omega⟩
  case round =>
    obtain ⟨pos, b, rfl, rfl, HI⟩ := hrel
    clear HZ
    by_cases hp : pos < S.size
    · have hnx : ∀ ty, (Instr.next (.pointer (some ⟨w.heap.size, 0, none⟩)) true ty).run Tryd.prog (w.iter S pos) = _ := fun ty => run_next_any w S pos ty hp
      have hwd := wid_pos S pos hp
      obtain ⟨b', hb', hcr⟩ := crs_go hp HI.out.2
      have hdl := decode_le S pos
      obtain ⟨c, hc⟩ : ∃ c, c = (Utf8.decode S pos).1 := ⟨_, rfl⟩
      obtain ⟨wd, hw⟩ : ∃ c, c = (Utf8.decode S pos).2 := ⟨_, rfl⟩
      rw [← hc, ← hw] at hnx hcr
      rw [← hc] at hdl
      rw [← hw] at hwd
      have HZ2 : Hid (Z = fndL (fun c => blk c) a s.size ((pos, c) :: crs S b' (pos + wd)) ∧ S.size ≤ pos + wd + b') := ⟨by rw [HI.out.1, hcr], by have := HI.out.2; omega⟩
      clear HI hc hw hcr hb'
      have OI : Hid (Only (fun _ => False) w (w.iter S (pos + wd))) := (Only.refl _ w).iter S _
      have HC1 : Hid (Calls Tryd.prog 61 #[.int .i32 (c : Int)] (w.iter S (pos + wd)) fun e w' => e = .returned (.bool (blk c)) ∧ w' = w.iter S (pos + wd)) := HC.out _ _
      cases hin : (blk c) with
      | true =>
        rw [hin] at HC1
        have HE : Hid (Z = a + pos) := by rw [HZ2.out.1]; exact if_pos hin
        clear HZ2 hin HC
        go_wp2_with (go_at_call 61; refine (show Calls Tryd.prog 61 _ _ _ from HC1.out).mono ?_; rintro e wz ⟨rfl, rfl⟩)
        go_ret
        exact ⟨congrArg (fun z : Nat => Ending.returned (.int .i64 (z : Int))) (show a + pos = Z from HE.out.symm), OI.out⟩
      | false =>
        rw [hin] at HC1
        have HN : Hid (Z = fndL (fun c => blk c) a s.size (crs S b' (pos + wd)) ∧ S.size ≤ pos + wd + b') := ⟨by rw [HZ2.out.1]; exact if_neg (by show ¬ (blk c) = true; rw [hin]; simp), HZ2.out.2⟩
        clear HZ2 hin
        go_wp2_with (go_at_call 61; refine (show Calls Tryd.prog 61 _ _ _ from HC1.out).mono ?_; rintro e wz ⟨rfl, rfl⟩)
        go_roundw
        case rel => exact ⟨pos + wd, b', rfl, rfl, HN.out⟩
        case measure => simp; omega
    · have hnx : ∀ ty, (Instr.next (.pointer (some ⟨w.heap.size, 0, none⟩)) true ty).run Tryd.prog (w.iter S pos) = _ := fun ty => run_next_end w S pos ty hp
      have HE : Hid (Z = s.size) := by rw [HI.out.1, crs_end hp]; rfl
      have OI : Hid (Only (fun _ => False) w (w.iter S pos)) := (Only.refl _ w).iter S _
      clear HI HC
      go_wp2
      go_ret
      exact ⟨by rw [show Z = s.size from HE.out]; rfl, OI.out⟩
set_option maxRecDepth 100000 in
set_option maxHeartbeats 1000000 in
theorem find_notblank (s : ByteArray) (a : Nat) (ha : a ≤ s.size) (hs : s.size ≤ 1000000) (w : World) :
    Calls Tryd.prog 75 #[.string s, .int .i64 (a : Int), .func (.func 76) #[] #[]] w fun e w' => e = .returned (.int .i64 (fnd (fun c => !blk c) s a : Nat)) ∧ Only (fun _ => False) w w' := by
  have HC : Hid (∀ (c : Nat) w1, Calls Tryd.prog 76 #[.int .i32 (c : Int)] w1 fun e w' => e = .returned (.bool (!blk c)) ∧ w' = w1) := fun c w1 => notblank_any c w1
  unfold fnd
  obtain ⟨S, hS⟩ : ∃ S, S = s.extract a s.size := ⟨_, rfl⟩
  have hsl : ∀ W : World, (Instr.slice 9 (.string s) (some (.int .i64 (a : Int))) none none).run Tryd.prog W = .ok (.string S) W := fun W => by
    rw [run_slice_string_l W 9 s Tryd.underlying9 _ _ (by omega) (by omega), hS]
    rfl
  have hsz : S.size = s.size - a := by rw [hS, ByteArray.size_extract]; omega
  rw [← hS]
  clear hS
  obtain ⟨Z, hZ⟩ : ∃ Z, Z = fndL (fun c => !blk c) a s.size (crs S S.size 0) := ⟨_, rfl⟩
  have HZ : Hid (Z = fndL (fun c => !blk c) a s.size (crs S S.size 0)) := hZ
  rw [← hZ]
  clear hZ
  go_enter Tryd.func75, Tryd.ntmps75
  go_wp2
  go_loopw [6] (fun r w' => ∃ (pos b : Nat), w' = w.iter S pos ∧ r = .int .i64 0 ∧ Hid (Z = fndL (fun c => !blk c) a s.size (crs S b pos) ∧ S.size ≤ pos + b)) (fun _ w' => S.size - w'.iterPos w.heap.size)
  case atStart => exact ⟨0, S.size, rfl, rfl, HZ.out, by omega⟩
  case round =>
    obtain ⟨pos, b, rfl, rfl, HI⟩ := hrel
    clear HZ
    by_cases hp : pos < S.size
    · have hnx : ∀ ty, (Instr.next (.pointer (some ⟨w.heap.size, 0, none⟩)) true ty).run Tryd.prog (w.iter S pos) = _ := fun ty => run_next_any w S pos ty hp
      have hwd := wid_pos S pos hp
      obtain ⟨b', hb', hcr⟩ := crs_go hp HI.out.2
      have hdl := decode_le S pos
      obtain ⟨c, hc⟩ : ∃ c, c = (Utf8.decode S pos).1 := ⟨_, rfl⟩
      obtain ⟨wd, hw⟩ : ∃ c, c = (Utf8.decode S pos).2 := ⟨_, rfl⟩
      rw [← hc, ← hw] at hnx hcr
      rw [← hc] at hdl
      rw [← hw] at hwd
      have HZ2 : Hid (Z = fndL (fun c => !blk c) a s.size ((pos, c) :: crs S b' (pos + wd)) ∧ S.size ≤ pos + wd + b') := ⟨by rw [HI.out.1, hcr], by have := HI.out.2; omega⟩
      clear HI hc hw hcr hb'
      have OI : Hid (Only (fun _ => False) w (w.iter S (pos + wd))) := (Only.refl _ w).iter S _
      have HC1 : Hid (Calls Tryd.prog 76 #[.int .i32 (c : Int)] (w.iter S (pos + wd)) fun e w' => e = .returned (.bool (!blk c)) ∧ w' = w.iter S (pos + wd)) := HC.out _ _
      cases hin : (!blk c) with
      | true =>
        rw [hin] at HC1
        have HE : Hid (Z = a + pos) := by rw [HZ2.out.1]; exact if_pos hin
        clear HZ2 hin HC
        go_wp2_with (go_at_call 76; refine (show Calls Tryd.prog 76 _ _ _ from HC1.out).mono ?_; rintro e wz ⟨rfl, rfl⟩)
        go_ret
        exact ⟨congrArg (fun z : Nat => Ending.returned (.int .i64 (z : Int))) (show a + pos = Z from HE.out.symm), OI.out⟩
      | false =>
        rw [hin] at HC1
        have HN : Hid (Z = fndL (fun c => !blk c) a s.size (crs S b' (pos + wd)) ∧ S.size ≤ pos + wd + b') := ⟨by rw [HZ2.out.1]; exact if_neg (by show ¬ (!blk c) = true; rw [hin]; simp), HZ2.out.2⟩
        clear HZ2 hin
        go_wp2_with (go_at_call 76; refine (show Calls Tryd.prog 76 _ _ _ from HC1.out).mono ?_; rintro e wz ⟨rfl, rfl⟩)
        go_roundw
        case rel => exact ⟨pos + wd, b', rfl, rfl, HN.out⟩
        case measure => simp; omega
    · have hnx : ∀ ty, (Instr.next (.pointer (some ⟨w.heap.size, 0, none⟩)) true ty).run Tryd.prog (w.iter S pos) = _ := fun ty => run_next_end w S pos ty hp
      have HE : Hid (Z = s.size) := by rw [HI.out.1, crs_end hp]; rfl
      have OI : Hid (Only (fun _ => False) w (w.iter S pos)) := (Only.refl _ w).iter S _
      clear HI HC
      go_wp2
      go_ret
      exact ⟨by rw [show Z = s.size from HE.out]; rfl, OI.out⟩
set_option maxRecDepth 100000 in
set_option maxHeartbeats 1000000 in
theorem find_newline (s : ByteArray) (a : Nat) (ha : a ≤ s.size) (hs : s.size ≤ 1000000) (w : World) :
    Calls Tryd.prog 75 #[.string s, .int .i64 (a : Int), .func (.func 78) #[] #[]] w fun e w' => e = .returned (.int .i64 (fnd (fun c => decide (c = 10)) s a : Nat)) ∧ Only (fun _ => False) w w' := by
  have HC : Hid (∀ (c : Nat) w1, Calls Tryd.prog 78 #[.int .i32 (c : Int)] w1 fun e w' => e = .returned (.bool (decide (c = 10))) ∧ w' = w1) := fun c w1 => newline_any c w1
  unfold fnd
  obtain ⟨S, hS⟩ : ∃ S, S = s.extract a s.size := ⟨_, rfl⟩
  have hsl : ∀ W : World, (Instr.slice 9 (.string s) (some (.int .i64 (a : Int))) none none).run Tryd.prog W = .ok (.string S) W := fun W => by
    rw [run_slice_string_l W 9 s Tryd.underlying9 _ _ (by omega) (by omega), hS]
    rfl
  have hsz : S.size = s.size - a := by rw [hS, ByteArray.size_extract]; omega
  rw [← hS]
  clear hS
  obtain ⟨Z, hZ⟩ : ∃ Z, Z = fndL (fun c => decide (c = 10)) a s.size (crs S S.size 0) := ⟨_, rfl⟩
  have HZ : Hid (Z = fndL (fun c => decide (c = 10)) a s.size (crs S S.size 0)) := hZ
  rw [← hZ]
  clear hZ
  go_enter Tryd.func75, Tryd.ntmps75
  go_wp2
  go_loopw [6] (fun r w' => ∃ (pos b : Nat), w' = w.iter S pos ∧ r = .int .i64 0 ∧ Hid (Z = fndL (fun c => decide (c = 10)) a s.size (crs S b pos) ∧ S.size ≤ pos + b)) (fun _ w' => S.size - w'.iterPos w.heap.size)
  case atStart => exact ⟨0, S.size, rfl, rfl, HZ.out, by omega⟩
  case round =>
    obtain ⟨pos, b, rfl, rfl, HI⟩ := hrel
    clear HZ
    by_cases hp : pos < S.size
    · have hnx : ∀ ty, (Instr.next (.pointer (some ⟨w.heap.size, 0, none⟩)) true ty).run Tryd.prog (w.iter S pos) = _ := fun ty => run_next_any w S pos ty hp
      have hwd := wid_pos S pos hp
      obtain ⟨b', hb', hcr⟩ := crs_go hp HI.out.2
      have hdl := decode_le S pos
      obtain ⟨c, hc⟩ : ∃ c, c = (Utf8.decode S pos).1 := ⟨_, rfl⟩
      obtain ⟨wd, hw⟩ : ∃ c, c = (Utf8.decode S pos).2 := ⟨_, rfl⟩
      rw [← hc, ← hw] at hnx hcr
      rw [← hc] at hdl
      rw [← hw] at hwd
      have HZ2 : Hid (Z = fndL (fun c => decide (c = 10)) a s.size ((pos, c) :: crs S b' (pos + wd)) ∧ S.size ≤ pos + wd + b') := ⟨by rw [HI.out.1, hcr], by have := HI.out.2; omega⟩
      clear HI hc hw hcr hb'
      have OI : Hid (Only (fun _ => False) w (w.iter S (pos + wd))) := (Only.refl _ w).iter S _
      have HC1 : Hid (Calls Tryd.prog 78 #[.int .i32 (c : Int)] (w.iter S (pos + wd)) fun e w' => e = .returned (.bool (decide (c = 10))) ∧ w' = w.iter S (pos + wd)) := HC.out _ _
      cases hin : (decide (c = 10)) with
      | true =>
        rw [hin] at HC1
        have HE : Hid (Z = a + pos) := by rw [HZ2.out.1]; exact if_pos hin
        clear HZ2 hin HC
        go_wp2_with (go_at_call 78; refine (show Calls Tryd.prog 78 _ _ _ from HC1.out).mono ?_; rintro e wz ⟨rfl, rfl⟩)
        go_ret
        exact ⟨congrArg (fun z : Nat => Ending.returned (.int .i64 (z : Int))) (show a + pos = Z from HE.out.symm), OI.out⟩
      | false =>
        rw [hin] at HC1
        have HN : Hid (Z = fndL (fun c => decide (c = 10)) a s.size (crs S b' (pos + wd)) ∧ S.size ≤ pos + wd + b') := ⟨by rw [HZ2.out.1]; exact if_neg (by show ¬ (decide (c = 10)) = true; rw [hin]; simp), HZ2.out.2⟩
        clear HZ2 hin
        go_wp2_with (go_at_call 78; refine (show Calls Tryd.prog 78 _ _ _ from HC1.out).mono ?_; rintro e wz ⟨rfl, rfl⟩)
        go_roundw
        case rel => exact ⟨pos + wd, b', rfl, rfl, HN.out⟩
        case measure => simp; omega
    · have hnx : ∀ ty, (Instr.next (.pointer (some ⟨w.heap.size, 0, none⟩)) true ty).run Tryd.prog (w.iter S pos) = _ := fun ty => run_next_end w S pos ty hp
      have HE : Hid (Z = s.size) := by rw [HI.out.1, crs_end hp]; rfl
      have OI : Hid (Only (fun _ => False) w (w.iter S pos)) := (Only.refl _ w).iter S _
      clear HI HC
      go_wp2
      go_ret
      exact ⟨by rw [show Z = s.size from HE.out]; rfl, OI.out⟩
end Go.Proofs.YtmmggnmgimgdfaaDoor
namespace Go.Proofs.YtmmggnmgimgdfaaDoor
open Go.RowKit
set_option linter.unusedSimpArgs false
set_option linter.unusedVariables false
theorem fndL_le (p : Nat → Bool) (a n : Nat) (S : ByteArray) (h : a + S.size ≤ n) : ∀ (b pos : Nat), fndL p a n (crs S b pos) ≤ n := by
  intro b
  induction b with
  | zero => intro pos; exact Nat.le_refl _
  | succ b ih =>
    intro pos
    by_cases hp : pos < S.size
    · rw [show crs S (b + 1) pos = (pos, (Utf8.decode S pos).1) :: crs S b (pos + (Utf8.decode S pos).2) by simp [crs, hp]]
      unfold fndL
      split
      · omega
      · exact ih _
    · rw [crs_end hp]; exact Nat.le_refl _
theorem fndL_ge (p : Nat → Bool) (a n : Nat) (S : ByteArray) (h : a + S.size ≤ n) : ∀ (b pos : Nat), pos ≤ S.size → a + pos ≤ fndL p a n (crs S b pos) := by
  intro b
  induction b with
  | zero => intro pos hq; show a + pos ≤ n; omega
  | succ b ih =>
    intro pos hq
    by_cases hp : pos < S.size
    · rw [show crs S (b + 1) pos = (pos, (Utf8.decode S pos).1) :: crs S b (pos + (Utf8.decode S pos).2) by simp [crs, hp]]
      unfold fndL
      split
      · exact Nat.le_refl _
      · by_cases hr : pos + (Utf8.decode S pos).2 ≤ S.size
        · have := ih (pos + (Utf8.decode S pos).2) hr
          omega
        · rw [crs_end (by omega)]
          show a + pos ≤ n
          omega
    · rw [crs_end hp]
      show a + pos ≤ n
      omega
theorem fnd_le (p : Nat → Bool) (s : ByteArray) {a : Nat} (ha : a ≤ s.size) : a ≤ fnd p s a ∧ fnd p s a ≤ s.size := by
  have hz : (s.extract a s.size).size = s.size - a := by rw [ByteArray.size_extract]; omega
  exact ⟨fndL_ge p a s.size _ (by omega) _ 0 (by omega), fndL_le p a s.size _ (by omega) _ 0⟩
set_option maxRecDepth 100000 in
theorem wordEnd_any (s : ByteArray) (a : Nat) (ha : a ≤ s.size) (hs : s.size ≤ 1000000) (w : World) : Calls Tryd.prog 84 #[.string s, .int .i64 (a : Int)] w fun e w' => e = .returned (.int .i64 (fnd (fun c => blk c) s a : Nat)) ∧ Only (fun _ => False) w w' := by
  have HC : Hid (Calls Tryd.prog 75 #[.string s, .int .i64 (a : Int), .func (.func 61) #[] #[]] w fun e w' => e = .returned (.int .i64 (fnd (fun c => blk c) s a : Nat)) ∧ Only (fun _ => False) w w') := find_blank s a ha hs w
  obtain ⟨z, hz⟩ : ∃ z, z = fnd (fun c => blk c) s a := ⟨_, rfl⟩
  rw [← hz] at HC ⊢
  clear hz
  go_enter Tryd.func84, Tryd.ntmps84
  go_wp2_with fail
  refine (show Calls Tryd.prog 75 _ _ _ from HC.out).mono ?_
  rintro e wz ⟨rfl, o⟩
  have O : Hid (Only (fun _ => False) w wz) := o
  clear HC o
  go_wp2
  go_ret
  exact ⟨rfl, O.out⟩
def exB : ByteArray := ⟨#[33]⟩
/-- Is the word at a the remark's? -/
def rmk (s : ByteArray) (a : Nat) : Bool := preB (s.extract a s.size) exB && decide (fnd (fun c => blk c) s a = a + 1)
set_option maxRecDepth 100000 in
set_option maxHeartbeats 1000000 in
theorem remarked_any (s : ByteArray) (a : Nat) (ha : a ≤ s.size) (hs : s.size ≤ 1000000) (w : World) : Calls Tryd.prog 77 #[.string s, .int .i64 (a : Int)] w fun e w' => e = .returned (.bool (rmk s a)) ∧ Only (fun _ => False) w w' := by
  obtain ⟨S, hS⟩ : ∃ S, S = s.extract a s.size := ⟨_, rfl⟩
  have hsl : ∀ W : World, (Instr.slice 9 (.string s) (some (.int .i64 (a : Int))) none none).run Tryd.prog W = .ok (.string S) W := fun W => by
    rw [run_slice_string_l W 9 s Tryd.underlying9 _ _ (by omega) (by omega), hS]
    rfl
  have HP : Hid (∀ w1, Calls Tryd.prog 46 #[.string S, .string exB] w1 fun e w' => e = .returned (.bool (preB S exB)) ∧ w' = w1) := fun w1 => hasprefix_any S exB w1
  have HW : Hid (∀ w1, Calls Tryd.prog 84 #[.string s, .int .i64 (a : Int)] w1 fun e w' => e = .returned (.int .i64 (fnd (fun c => blk c) s a : Nat)) ∧ Only (fun _ => False) w1 w') := fun w1 => wordEnd_any s a ha hs w1
  unfold rmk
  rw [← hS]
  obtain ⟨z, hz⟩ : ∃ z, z = fnd (fun c => blk c) s a := ⟨_, rfl⟩
  obtain ⟨b, hb⟩ : ∃ b, b = preB S exB := ⟨_, rfl⟩
  rw [← hz] at HW ⊢
  rw [← hb] at HP ⊢
  clear hz hb hS
  cases b with
  | false =>
    go_enter Tryd.func77, Tryd.ntmps77
    go_wp2_with fail
    refine (show Calls Tryd.prog 46 _ _ _ from HP.out _).mono ?_
    rintro e wz ⟨rfl, rfl⟩
    clear HP HW
    go_wp2
    go_ret
    exact ⟨rfl, Only.refl _ _⟩
  | true =>
    have e1 : decide (z = a + 1) = ((z : Int) == (a : Int) + 1) := by
      by_cases g : z = a + 1
      · subst g; simp
      · have : ¬ (z : Int) = (a : Int) + 1 := by omega
        simp [g, this]
    rw [Bool.true_and, e1]
    clear e1
    go_enter Tryd.func77, Tryd.ntmps77
    go_wp2_with fail
    refine (show Calls Tryd.prog 46 _ _ _ from HP.out _).mono ?_
    rintro e wz ⟨rfl, rfl⟩
    clear HP
    go_wp2_with fail
    refine (show Calls Tryd.prog 84 _ _ _ from HW.out _).mono ?_
    rintro e wy ⟨rfl, o⟩
    have O : Hid (Only (fun _ => False) wz wy) := o
    clear HW o
    go_wp2
    go_ret
    exact ⟨rfl, O.out⟩
end Go.Proofs.YtmmggnmgimgdfaaDoor
namespace Go.Proofs.YtmmggnmgimgdfaaDoor
open Go.RowKit
set_option linter.unusedSimpArgs false
set_option linter.unusedVariables false
/-- Where the next token begins. -/
def bgn (s : ByteArray) : Nat → Nat → Nat
  | 0, a => a
  | f + 1, a => if rmk s (fnd (fun c => !blk c) s a) = true then bgn s f (fnd (fun c => decide (c = 10)) s (fnd (fun c => !blk c) s a)) else fnd (fun c => !blk c) s a
theorem pre_get {S p : ByteArray} {b : UInt8} (hp : p = ⟨#[b]⟩) (h : preB S p = true) : ∃ hs : 0 < S.size, S[0]'hs = b := by
  subst hp
  unfold preB at h
  have h1 : (ByteArray.mk #[b]).size = 1 := rfl
  have h2 : (ByteArray.mk #[b]).toList = [b] := by rw [ByteArray.toList_eq]
  rw [h1, h2] at h
  simp only [Bool.and_eq_true, decide_eq_true_eq, beq_iff_eq] at h
  have hs : 0 < S.size := by omega
  refine ⟨hs, ?_⟩
  have h3 := h.2
  rw [ByteArray.toList_eq, ByteArray.data_extract] at h3
  have h4 : S.data.size = S.size := rfl
  have : (S.data.extract 0 1).toList = [S.data[0]'(by omega)] := by
    apply List.ext_getElem
    · simp; omega
    · intro i h1 h2
      have : i = 0 := by simp at h2; omega
      subst this
      simp
  rw [this] at h3
  have h5 := List.head_eq_of_cons_eq h3
  exact h5
theorem rmk_go {s : ByteArray} {a : Nat} (ha : a ≤ s.size) (h : rmk s a = true) : a < fnd (fun c => decide (c = 10)) s a := by
  unfold rmk at h
  simp only [Bool.and_eq_true] at h
  obtain ⟨hs, hb⟩ := pre_get (b := 33) rfl h.1
  have hz : (s.extract a s.size).size = s.size - a := by rw [ByteArray.size_extract]; omega
  unfold fnd
  generalize s.extract a s.size = S at *
  obtain ⟨b', hb', hc⟩ := crs_go (s := S) (b := S.size) (pos := 0) hs (by omega)
  have hd := decode_ascii S 0 hs (by rw [hb]; decide)
  rw [hb] at hd
  rw [hc, hd]
  unfold fndL
  rw [if_neg (by decide)]
  have := fndL_ge (fun c => decide (c = 10)) a s.size S (by omega) b' (0 + 1) (by omega)
  show a < fndL (fun c => decide (c = 10)) a s.size (crs S b' (0 + 1))
  omega
set_option maxRecDepth 100000 in
set_option maxHeartbeats 1000000 in
theorem begin_any (s : ByteArray) (hs : s.size ≤ 1000000) (a f : Nat) (ha : a ≤ s.size) (hf : s.size - a < f) (w : World) : Calls Tryd.prog 63 #[.string s, .int .i64 (a : Int)] w fun e w' => e = .returned (.int .i64 (bgn s f a : Nat)) ∧ Only (fun _ => False) w w' := by
  have H1 : Hid (∀ a w, a ≤ s.size → Calls Tryd.prog 75 #[.string s, .int .i64 (a : Nat), .func (.func 76) #[] #[]] w fun e w' => e = .returned (.int .i64 (fnd (fun c => !blk c) s a : Nat)) ∧ Only (fun _ => False) w w') := fun a w ha => find_notblank s a ha hs w
  have H2 : Hid (∀ a w, a ≤ s.size → Calls Tryd.prog 75 #[.string s, .int .i64 (a : Nat), .func (.func 78) #[] #[]] w fun e w' => e = .returned (.int .i64 (fnd (fun c => decide (c = 10)) s a : Nat)) ∧ Only (fun _ => False) w w') := fun a w ha => find_newline s a ha hs w
  have H3 : Hid (∀ a w, a ≤ s.size → Calls Tryd.prog 77 #[.string s, .int .i64 (a : Nat)] w fun e w' => e = .returned (.bool (rmk s a)) ∧ Only (fun _ => False) w w') := fun a w ha => remarked_any s a ha hs w
  obtain ⟨Z, hZ⟩ : ∃ Z, Z = bgn s f a := ⟨_, rfl⟩
  have HZ : Hid (Z = bgn s f a ∧ s.size - a < f ∧ Only (fun _ => False) w w) := ⟨hZ, hf, Only.refl _ _⟩
  rw [← hZ]
  clear hZ hf
  go_enter Tryd.func63, Tryd.ntmps63
  go_wp2
  go_loopw [1] (fun x w' => ∃ (a f : Nat), x = .int .i64 (a : Nat) ∧ a ≤ s.size ∧ Hid (Z = bgn s f a ∧ s.size - a < f ∧ Only (fun _ => False) w w')) (fun x _ => s.size + 1 - uOf x)
  case atStart => exact ⟨a, f, rfl, ha, HZ.out⟩
  case round =>
    clear HZ ha
    obtain ⟨a, f, rfl, ha, HI⟩ := hrel
    obtain ⟨g, rfl⟩ : ∃ g, f = g + 1 := ⟨f - 1, by have := HI.out.2.1; omega⟩
    have C1 := H1.out a wr ha
    have l1 := fnd_le (fun c => !blk c) s ha
    have HB : Hid (Z = if rmk s (fnd (fun c => !blk c) s a) = true then bgn s g (fnd (fun c => decide (c = 10)) s (fnd (fun c => !blk c) s a)) else fnd (fun c => !blk c) s a) := HI.out.1
    obtain ⟨a1, ha1⟩ : ∃ a1, a1 = fnd (fun c => !blk c) s a := ⟨_, rfl⟩
    rw [← ha1] at C1 l1 HB
    clear ha1
    have HC1 : Hid (Calls Tryd.prog 75 _ _ _) := C1
    clear C1
    go_wp2_with fail
    refine (show Calls Tryd.prog 75 _ _ _ from HC1.out).mono ?_
    rintro e w1 ⟨rfl, o1⟩
    have O1 : Hid (Only (fun _ => False) w w1) := HI.out.2.2.trans o1 (fun _ _ g => g)
    have HG : Hid (s.size - a < g + 1) := HI.out.2.1
    have C2 := H3.out a1 w1 l1.2
    have HR : Hid (rmk s a1 = true → a1 < fnd (fun c => decide (c = 10)) s a1) := fun h => rmk_go l1.2 h
    clear HI HC1 o1
    cases hr : rmk s a1 with
    | false =>
      rw [hr] at C2
      have HE : Hid (Z = a1) := by rw [HB.out]; exact if_neg (by rw [hr]; simp)
      have HC2 : Hid (Calls Tryd.prog 77 _ _ _) := C2
      clear C2 HR HB hr
      go_wp2_with fail
      refine (show Calls Tryd.prog 77 _ _ _ from HC2.out).mono ?_
      rintro e w2 ⟨rfl, o2⟩
      have O2 : Hid (Only (fun _ => False) w w2) := O1.out.trans o2 (fun _ _ g => g)
      clear HC2 o2
      go_wp2
      go_ret
      exact ⟨by rw [show Z = a1 from HE.out]; rfl, O2.out⟩
    | true =>
      rw [hr] at C2
      have hlt := HR.out hr
      have l2 := fnd_le (fun c => decide (c = 10)) s l1.2
      have HE : Hid (Z = bgn s g (fnd (fun c => decide (c = 10)) s a1)) := by rw [HB.out]; exact if_pos hr
      have C3 := fun w => H2.out a1 w l1.2
      obtain ⟨a2, ha2⟩ : ∃ a2, a2 = fnd (fun c => decide (c = 10)) s a1 := ⟨_, rfl⟩
      rw [← ha2] at C3 hlt l2 HE
      have HC2 : Hid (Calls Tryd.prog 77 _ _ _) := C2
      have HC3 : Hid (∀ w, Calls Tryd.prog 75 _ _ _) := C3
      clear C2 C3 HR HB hr ha2
      go_wp2_with fail
      refine (show Calls Tryd.prog 77 _ _ _ from HC2.out).mono ?_
      rintro e w2 ⟨rfl, o2⟩
      have O2 : Hid (Only (fun _ => False) w w2) := O1.out.trans o2 (fun _ _ g => g)
      clear HC2 o2
      go_wp2_with fail
      refine (show Calls Tryd.prog 75 _ _ _ from HC3.out _).mono ?_
      rintro e w3 ⟨rfl, o3⟩
      have O3 : Hid (Only (fun _ => False) w w3) := O2.out.trans o3 (fun _ _ g => g)
      clear HC3 o3
      go_wp2
      go_roundw
      case rel => exact ⟨a2, g, rfl, l2.2, HE.out, by have : s.size - a < g + 1 := HG.out; omega, O3.out⟩
      case measure => simp only [uOf]; omega
end Go.Proofs.YtmmggnmgimgdfaaDoor
namespace Go.Proofs.YtmmggnmgimgdfaaDoor
open Go.RowKit
set_option linter.unusedSimpArgs false
set_option linter.unusedVariables false
def rpB : ByteArray := ⟨#[239, 191, 189]⟩
def stL (s : ByteArray) : List (Nat × Nat) → Nat
  | [] => s.size
  | (i, c) :: l => if c = 65533 ∧ preB (s.extract i s.size) rpB = false then i else stL s l
/-- The place of the first byte that belongs to no character, or the length. -/
def stR (s : ByteArray) : Nat := stL s (crs s s.size 0)
set_option maxRecDepth 100000 in
set_option maxHeartbeats 1000000 in
theorem stray_any (s : ByteArray) (hs : s.size ≤ 1000000000000) (w : World) : Calls Tryd.prog 62 #[.string s] w fun e w' => e = .returned (.int .i64 (stR s : Nat)) ∧ Only (fun _ => False) w w' := by
  have HP : Hid (∀ S w1, Calls Tryd.prog 46 #[.string S, .string rpB] w1 fun e w' => e = .returned (.bool (preB S rpB)) ∧ w' = w1) := fun S w1 => hasprefix_any S rpB w1
  obtain ⟨Z, hZ⟩ : ∃ Z, Z = stR s := ⟨_, rfl⟩
  have HZ : Hid (Z = stL s (crs s s.size 0)) := hZ
  rw [← hZ]
  clear hZ
  go_enter Tryd.func62, Tryd.ntmps62
  go_wp2
  go_loopw [2] (fun r w' => ∃ (pos b : Nat), w' = w.iter s pos ∧ r = .int .i64 0 ∧ Hid (Z = stL s (crs s b pos) ∧ s.size ≤ pos + b)) (fun _ w' => s.size - w'.iterPos w.heap.size)
  case atStart => exact ⟨0, s.size, rfl, rfl, HZ.out, by omega⟩
  case round =>
    obtain ⟨pos, b, rfl, rfl, HI⟩ := hrel
    clear HZ
    by_cases hp : pos < s.size
    · have hnx : ∀ ty, (Instr.next (.pointer (some ⟨w.heap.size, 0, none⟩)) true ty).run Tryd.prog (w.iter s pos) = _ := fun ty => run_next_any w s pos ty hp
      have hwd := wid_pos s pos hp
      obtain ⟨b', hb', hcr⟩ := crs_go hp HI.out.2
      have hdl := decode_le s pos
      obtain ⟨c, hc⟩ : ∃ c, c = (Utf8.decode s pos).1 := ⟨_, rfl⟩
      obtain ⟨wd, hw⟩ : ∃ c, c = (Utf8.decode s pos).2 := ⟨_, rfl⟩
      rw [← hc, ← hw] at hnx hcr
      rw [← hc] at hdl
      rw [← hw] at hwd
      have HZ2 : Hid (Z = stL s ((pos, c) :: crs s b' (pos + wd)) ∧ s.size ≤ pos + wd + b') := ⟨by rw [HI.out.1, hcr], by have := HI.out.2; omega⟩
      clear HI hc hw hcr hb'
      have OI : Hid (Only (fun _ => False) w (w.iter s (pos + wd))) := (Only.refl _ w).iter s _
      by_cases h3 : c = 65533
      · obtain ⟨S, hS⟩ : ∃ S, S = s.extract pos s.size := ⟨_, rfl⟩
        have hsl : ∀ W : World, (Instr.slice 9 (.string s) (some (.int .i64 (pos : Int))) none none).run Tryd.prog W = .ok (.string S) W := fun W => by
          rw [run_slice_string_l W 9 s Tryd.underlying9 _ _ (by omega) (by omega), hS]
          rfl
        have HC1 := HP.out S (w.iter s (pos + wd))
        cases hin : preB S rpB with
        | false =>
          rw [hin] at HC1
          have HE : Hid (Z = pos) := by rw [HZ2.out.1]; exact if_pos ⟨h3, by rw [← hS]; exact hin⟩
          have HC2 : Hid (Calls Tryd.prog 46 _ _ _) := HC1
          subst h3
          clear HZ2 hin HP HC1 hS
          go_wp2_with fail
          refine (show Calls Tryd.prog 46 _ _ _ from HC2.out).mono ?_
          rintro e wz ⟨rfl, rfl⟩
          clear HC2
          go_wp2
          go_ret
          exact ⟨by rw [show Z = pos from HE.out]; rfl, OI.out⟩
        | true =>
          rw [hin] at HC1
          have HN : Hid (Z = stL s (crs s b' (pos + wd)) ∧ s.size ≤ pos + wd + b') := ⟨by rw [HZ2.out.1]; exact if_neg (fun g => by rw [← hS, hin] at g; exact absurd g.2 (by simp)), HZ2.out.2⟩
          have HC2 : Hid (Calls Tryd.prog 46 _ _ _) := HC1
          subst h3
          clear HZ2 hin HC1 hS
          go_wp2_with fail
          refine (show Calls Tryd.prog 46 _ _ _ from HC2.out).mono ?_
          rintro e wz ⟨rfl, rfl⟩
          clear HC2
          go_wp2
          go_roundw
          case rel => exact ⟨pos + wd, b', rfl, rfl, HN.out⟩
          case measure => simp; omega
      · have i3 : ¬ (c : Int) = 65533 := by omega
        have HN : Hid (Z = stL s (crs s b' (pos + wd)) ∧ s.size ≤ pos + wd + b') := ⟨by rw [HZ2.out.1]; exact if_neg (fun g => h3 g.1), HZ2.out.2⟩
        clear HZ2
        go_wp2
        go_roundw
        case rel => exact ⟨pos + wd, b', rfl, rfl, HN.out⟩
        case measure => simp; omega
    · have hnx : ∀ ty, (Instr.next (.pointer (some ⟨w.heap.size, 0, none⟩)) true ty).run Tryd.prog (w.iter s pos) = _ := fun ty => run_next_end w s pos ty hp
      have HE : Hid (Z = s.size) := by rw [HI.out.1, crs_end hp]; rfl
      have OI : Hid (Only (fun _ => False) w (w.iter s pos)) := (Only.refl _ w).iter s _
      clear HI HP
      go_wp2
      go_ret
      exact ⟨by rw [show Z = s.size from HE.out]; rfl, OI.out⟩
end Go.Proofs.YtmmggnmgimgdfaaDoor
namespace Go.Proofs.YtmmggnmgimgdfaaDoor
open Go.RowKit
set_option linter.unusedSimpArgs false
set_option linter.unusedVariables false
/-- What a sign behind a backslash means. -/
def une (c : Nat) : Option Nat := if c = 110 then some 10 else if c = 34 ∨ c = 92 then some c else none
def uneV (o : Option Nat) : Value := match o with
  | some c => .tuple #[.int .i32 (c : Int), .bool true]
  | none => .tuple #[.int .i32 0, .bool false]
set_option maxRecDepth 100000 in
set_option maxHeartbeats 1000000 in
theorem unescape_any (c : Nat) (w : World) : Calls Tryd.prog 85 #[.int .i32 (c : Int)] w fun e w' => e = .returned (uneV (une c)) ∧ w' = w := by
  by_cases h1 : c = 110
  · subst h1
    rw [show une 110 = some 10 from rfl]
    go_enter Tryd.func85, Tryd.ntmps85
    go_wp2
    go_ret2
    exact ⟨rfl, rfl⟩
  · by_cases h2 : c = 34
    · subst h2
      rw [show une 34 = some 34 from rfl]
      go_enter Tryd.func85, Tryd.ntmps85
      go_wp2
      go_ret2
      exact ⟨rfl, rfl⟩
    · by_cases h3 : c = 92
      · subst h3
        rw [show une 92 = some 92 from rfl]
        go_enter Tryd.func85, Tryd.ntmps85
        go_wp2
        go_ret2
        exact ⟨rfl, rfl⟩
      · have e : une c = none := by
          unfold une
          rw [if_neg h1, if_neg (by omega)]
        rw [e]
        have i1 : ¬ (c : Int) = 110 := by omega
        have i2 : ¬ (c : Int) = 34 := by omega
        have i3 : ¬ (c : Int) = 92 := by omega
        go_enter Tryd.func85, Tryd.ntmps85
        go_wp2
        go_ret2
        exact ⟨rfl, rfl⟩
end Go.Proofs.YtmmggnmgimgdfaaDoor
