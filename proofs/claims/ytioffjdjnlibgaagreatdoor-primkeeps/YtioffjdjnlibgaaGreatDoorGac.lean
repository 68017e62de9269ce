/- LexNumbers: the law. LexNumbers: the walk. Blanks, and the first character that is wanted: blank, begin's two functions, find, wordEnd. The first character that is wanted: find. wordEnd, remarked, stray. begin, stray. stray. unescape. -/
import Derived.Test.YtioffjdjnlibgaaGreatDoorGab
namespace Go.Proofs.YtioffjdjnlibgaaGreatDoor
open Go.RowKit
set_option linter.unusedSimpArgs false
set_option linter.unusedVariables false
theorem mk_nought : (⟨#[48]⟩ : ByteArray) = mkS [48] := by
  unfold mkS
  rw [encL_one]
  have := enc48 (d := 0) (by omega)
  rw [Nat.add_zero] at this
  rw [this]
  rfl
/-- Digits with the number that they are. -/
structure Ds (N : Nat) (k : Nat) (ds : List Nat) : Prop where
  lt : ∀ d ∈ ds, d < 10
  val : valX ds = N
  ne : ds ≠ []
  len : ds.length ≤ 20 + k
theorem Ds.nought {N k : Nat} {ds : List Nat} (h : Ds N k ds) : Ds N (k + 1) (0 :: ds) :=
  ⟨fun d hd => by
    rcases List.mem_cons.1 hd with rfl | hd
    · omega
    · exact h.lt d hd, by rw [val_cons, Nat.zero_mul, Nat.zero_add, h.val], by simp, by rw [List.length_cons]; have := h.len; omega⟩
theorem Dg.ds {N : Nat} {ds : List Nat} (h : Dg N 0 ds) (hne : ds ≠ []) : Ds N 0 ds := ⟨h.lt, by have := h.sum; rw [Nat.zero_mul, Nat.zero_add] at this; exact this, hne, h.len⟩
theorem enc_size {nt : Nat} (hn : nt = 48 ∨ nt = 1632 ∨ nt = 65296) {d : Nat} (hd : d < 10) : (encR (nt + d)).length ≤ 3 := by
  rcases hn with rfl | rfl | rfl
  · rw [enc48 hd]; simp
  · rw [enc16 hd]; simp
  · rw [enc65 hd]; simp
theorem mk_size3 {nt : Nat} (hn : nt = 48 ∨ nt = 1632 ∨ nt = 65296) (ds : List Nat) : (∀ d ∈ ds, d < 10) → (mkS (ds.map (nt + ·))).size ≤ 3 * ds.length := by
  intro h
  unfold mkS
  rw [size_mk]
  induction ds with
  | nil => simp [encL]
  | cons d ds ih =>
    have h1 := enc_size hn (h d (List.mem_cons_self ..))
    have h2 := ih (fun x hx => h x (List.mem_cons_of_mem _ hx))
    unfold encL at h2 ⊢
    rw [List.map_cons, List.flatMap_cons, List.length_append, List.length_cons]
    omega
theorem mn_size (b : Bool) : (mnB b).size ≤ 1 := by cases b <;> simp [mnB, ByteArray.size]
theorem add_str (P : Program) (W : World) {a b c : ByteArray} (h1 : a ++ b = c) (h2 : a.size ≤ 1000000) (h3 : b.size ≤ 1000000) : (Op.stringOp .add a b).run P W = .ok (.string c) W := by
  rw [run_string_add_sum W a b (by omega), h1]
theorem mk_get {ds : List Nat} (h : ∀ d ∈ ds, d < 10) {i : Nat} (hi : i < ds.length) (hs : i < (mkS (ds.map (48 + ·))).size) : ((mkS (ds.map (48 + ·)))[i]'hs).toNat = 48 + ds[i] := by
  have e : encL (ds.map (48 + ·)) = ds.map (fun d => UInt8.ofNat (48 + d)) := by
    clear hs hi
    induction ds with
    | nil => rfl
    | cons d ds ih =>
      have := ih (fun x hx => h x (List.mem_cons_of_mem _ hx))
      unfold encL at this ⊢
      rw [List.map_cons, List.flatMap_cons, this, enc48 (h d (List.mem_cons_self ..))]
      rfl
  have e2 : (mkS (ds.map (48 + ·)))[i]'hs = (ds.map (fun d => UInt8.ofNat (48 + d)))[i]'(by simpa using hi) := by
    show (mkS (ds.map (48 + ·))).data[i]'hs = _
    simp only [mkS, e]
    simp
  rw [e2, List.getElem_map]
  have hd := h ds[i] (List.getElem_mem hi)
  rcases ten hd with g | g | g | g | g | g | g | g | g | g <;> rw [g] <;> rfl
theorem index_mk {ds : List Nat} (h : ∀ d ∈ ds, d < 10) {i : Nat} (hi : i < ds.length) (W : World) : (Instr.index 9 (.string (mkS (ds.map (48 + ·)))) (.int .i64 (i : Int))).run Tryz.prog W = .ok (.int .u8 ((48 + ds[i] : Nat) : Int)) W := by
  have hs := mk_size ds h
  rw [run_index_string W 9 _ _ _ Tryz.underlying9, dif_pos ⟨by omega, by rw [hs]; omega⟩]
  have := mk_get h hi (by rw [hs]; exact hi)
  congr 2
  rw [← this]
  rfl
theorem slice_mn {s : ByteArray} (W : World) : (Instr.slice 9 (.string (mnB true ++ s)) (some (.int .i64 1)) none none).run Tryz.prog W = .ok (.string s) W := by
  have hs : (mnB true ++ s).size = 1 + s.size := by rw [ByteArray.size_append]; rfl
  rw [run_slice_string_l W 9 _ Tryz.underlying9 _ _ (by omega) (by rw [hs]; omega)]
  congr 2
  refine ba_ext ?_
  rw [ByteArray.data_extract, app_data]
  have : (mnB true).data = #[45] := rfl
  rw [this, hs]
  apply Array.ext'
  simp
  exact List.take_of_length_le (Nat.le_of_eq rfl)
/-- What the law asks of the digits. -/
structure Asks (n : Int) (ds : List Nat) (R : Int × Int) : Prop where
  r1 : numR (mnB (decide (n < 0)) ++ mkS (ds.map (48 + ·))) = R
  r2 : numR (mnB (decide (n < 0)) ++ mkS (ds.map (1632 + ·))) = R
  r3 : numR (mnB (decide (n < 0)) ++ mkS (ds.map (65296 + ·))) = R
  r4 : (numR (mnB (decide (n < 0)) ++ mkS (ds.map (1632 + ·) ++ [48]))).2 = 9
  n1 : nameB (mnB (decide (n < 0)) ++ mkS (ds.map (48 + ·))) = false
  n3 : nameB (mnB (decide (n < 0)) ++ mkS (ds.map (65296 + ·))) = false
theorem Ds.asks {n : Int} {k : Nat} {ds : List Nat} (h : Ds n.natAbs k ds) (h1 : -9223372036854775808 ≤ n) (h2 : n ≤ 9223372036854775807) :
    ((-1152921504606846976 ≤ n ∧ n ≤ 1152921504606846975) → Asks n ds (n, 0)) ∧ (¬ (-1152921504606846976 ≤ n ∧ n ≤ 1152921504606846975) → Asks n ds (0, 11)) := by
  have hv := val_fits h.lt
  rw [h.val] at hv
  have hf := numD_fits h1 h2 hv
  refine ⟨fun g => ?_, fun g => ?_⟩
  · have e := hf.1 g
    exact ⟨by rw [num_word _ (.inl rfl) h.lt h.ne, e], by rw [num_word _ (.inr (.inl rfl)) h.lt h.ne, e], by rw [num_word _ (.inr (.inr rfl)) h.lt h.ne, e], num_mixed _ h.lt h.ne, name_word _ (.inl rfl) h.lt h.ne, name_word _ (.inr (.inr rfl)) h.lt h.ne⟩
  · have e := hf.2 g
    exact ⟨by rw [num_word _ (.inl rfl) h.lt h.ne, e], by rw [num_word _ (.inr (.inl rfl)) h.lt h.ne, e], by rw [num_word _ (.inr (.inr rfl)) h.lt h.ne, e], num_mixed _ h.lt h.ne, name_word _ (.inl rfl) h.lt h.ne, name_word _ (.inr (.inr rfl)) h.lt h.ne⟩
end Go.Proofs.YtioffjdjnlibgaaGreatDoor
namespace Go.Proofs.YtioffjdjnlibgaaGreatDoor
open Go.RowKit
set_option linter.unusedSimpArgs false
set_option linter.unusedVariables false
def tkS (nt : Nat) (ds : List Nat) (i : Nat) : ByteArray := mkS ((ds.take i).map (nt + ·))
theorem tk_none (nt : Nat) (ds : List Nat) : tkS nt ds 0 = ⟨#[]⟩ := rfl
theorem tk_all (nt : Nat) (ds : List Nat) {i : Nat} (h : ds.length ≤ i) : tkS nt ds i = mkS (ds.map (nt + ·)) := by unfold tkS; rw [List.take_of_length_le h]
theorem tk_size {nt : Nat} (hn : nt = 48 ∨ nt = 1632 ∨ nt = 65296) {ds : List Nat} (h : ∀ d ∈ ds, d < 10) (i : Nat) : (tkS nt ds i).size ≤ 3 * ds.length := by
  have := mk_size3 hn (ds.take i) (fun d hd => h d (List.mem_of_mem_take hd))
  have h2 : (ds.take i).length ≤ ds.length := by rw [List.length_take]; omega
  unfold tkS
  omega
theorem tk_go {nt : Nat} {ds : List Nat} {i : Nat} (hi : i < ds.length) : tkS nt ds i ++ Utf8.encode ((nt + ds[i] : Nat) : Int) = tkS nt ds (i + 1) := by
  unfold tkS
  rw [mk_snoc, List.take_add_one, List.getElem?_eq_getElem hi, List.map_append]
  rfl
theorem enc_size2 {nt : Nat} (hn : nt = 48 ∨ nt = 1632 ∨ nt = 65296) {d : Nat} (hd : d < 10) : (Utf8.encode ((nt + d : Nat) : Int)).size ≤ 3 := by
  have := enc_size hn hd
  rw [mk_one]
  unfold mkS
  rw [size_mk, encL_one]
  exact this
end Go.Proofs.YtioffjdjnlibgaaGreatDoor
namespace Go.Proofs.YtioffjdjnlibgaaGreatDoor
open Go.RowKit
set_option linter.unusedSimpArgs false
set_option linter.unusedVariables false
end Go.Proofs.YtioffjdjnlibgaaGreatDoor
namespace Go.Proofs.YtioffjdjnlibgaaGreatDoor
open Go.RowKit
set_option linter.unusedSimpArgs false
set_option linter.unusedVariables false
def fndL (p : Nat → Bool) (a n : Nat) : List (Nat × Nat) → Nat
  | [] => n
  | (i, c) :: l => if p c = true then a + i else fndL p a n l
/-- The place of the first character that p wants, from a on, or the text's length. -/
def fnd (p : Nat → Bool) (s : ByteArray) (a : Nat) : Nat := fndL p a s.size (crs (s.extract a s.size) (s.extract a s.size).size 0)
end Go.Proofs.YtioffjdjnlibgaaGreatDoor
namespace Go.Proofs.YtioffjdjnlibgaaGreatDoor
open Go.RowKit
set_option linter.unusedSimpArgs false
set_option linter.unusedVariables false
theorem fndL_le (p : Nat → Bool) (a n : Nat) (S : ByteArray) (h : a + S.size ≤ n) : ∀ (b pos : Nat), fndL p a n (crs S b pos) ≤ n := by
  intro b
  induction b with
  | zero => intro pos; exact Nat.le_refl _
  | succ b ih =>
    intro pos
    by_cases hp : pos < S.size
    · rw [show crs S (b + 1) pos = (pos, (Utf8.decode S pos).1) :: crs S b (pos + (Utf8.decode S pos).2) by simp [crs, hp]]
      unfold fndL
      split
      · omega
      · exact ih _
    · rw [crs_end hp]; exact Nat.le_refl _
theorem fndL_ge (p : Nat → Bool) (a n : Nat) (S : ByteArray) (h : a + S.size ≤ n) : ∀ (b pos : Nat), pos ≤ S.size → a + pos ≤ fndL p a n (crs S b pos) := by
  intro b
  induction b with
  | zero => intro pos hq; show a + pos ≤ n; omega
  | succ b ih =>
    intro pos hq
    by_cases hp : pos < S.size
    · rw [show crs S (b + 1) pos = (pos, (Utf8.decode S pos).1) :: crs S b (pos + (Utf8.decode S pos).2) by simp [crs, hp]]
      unfold fndL
      split
      · exact Nat.le_refl _
      · by_cases hr : pos + (Utf8.decode S pos).2 ≤ S.size
        · have := ih (pos + (Utf8.decode S pos).2) hr
          omega
        · rw [crs_end (by omega)]
          show a + pos ≤ n
          omega
    · rw [crs_end hp]
      show a + pos ≤ n
      omega
theorem fnd_le (p : Nat → Bool) (s : ByteArray) {a : Nat} (ha : a ≤ s.size) : a ≤ fnd p s a ∧ fnd p s a ≤ s.size := by
  have hz : (s.extract a s.size).size = s.size - a := by rw [ByteArray.size_extract]; omega
  exact ⟨fndL_ge p a s.size _ (by omega) _ 0 (by omega), fndL_le p a s.size _ (by omega) _ 0⟩
def exB : ByteArray := ⟨#[33]⟩
/-- Is the word at a the remark's? -/
def rmk (s : ByteArray) (a : Nat) : Bool := preB (s.extract a s.size) exB && decide (fnd (fun c => blk c) s a = a + 1)
end Go.Proofs.YtioffjdjnlibgaaGreatDoor
namespace Go.Proofs.YtioffjdjnlibgaaGreatDoor
open Go.RowKit
set_option linter.unusedSimpArgs false
set_option linter.unusedVariables false
/-- Where the next token begins. -/
def bgn (s : ByteArray) : Nat → Nat → Nat
  | 0, a => a
  | f + 1, a => if rmk s (fnd (fun c => !blk c) s a) = true then bgn s f (fnd (fun c => decide (c = 10)) s (fnd (fun c => !blk c) s a)) else fnd (fun c => !blk c) s a
theorem pre_get {S p : ByteArray} {b : UInt8} (hp : p = ⟨#[b]⟩) (h : preB S p = true) : ∃ hs : 0 < S.size, S[0]'hs = b := by
  subst hp
  unfold preB at h
  have h1 : (ByteArray.mk #[b]).size = 1 := rfl
  have h2 : (ByteArray.mk #[b]).toList = [b] := by rw [ByteArray.toList_eq]
  rw [h1, h2] at h
  simp only [Bool.and_eq_true, decide_eq_true_eq, beq_iff_eq] at h
  have hs : 0 < S.size := by omega
  refine ⟨hs, ?_⟩
  have h3 := h.2
  rw [ByteArray.toList_eq, ByteArray.data_extract] at h3
  have h4 : S.data.size = S.size := rfl
  have : (S.data.extract 0 1).toList = [S.data[0]'(by omega)] := by
    apply List.ext_getElem
    · simp; omega
    · intro i h1 h2
      have : i = 0 := by simp at h2; omega
      subst this
      simp
  rw [this] at h3
  have h5 := List.head_eq_of_cons_eq h3
  exact h5
theorem rmk_go {s : ByteArray} {a : Nat} (ha : a ≤ s.size) (h : rmk s a = true) : a < fnd (fun c => decide (c = 10)) s a := by
  unfold rmk at h
  simp only [Bool.and_eq_true] at h
  obtain ⟨hs, hb⟩ := pre_get (b := 33) rfl h.1
  have hz : (s.extract a s.size).size = s.size - a := by rw [ByteArray.size_extract]; omega
  unfold fnd
  generalize s.extract a s.size = S at *
  obtain ⟨b', hb', hc⟩ := crs_go (s := S) (b := S.size) (pos := 0) hs (by omega)
  have hd := decode_ascii S 0 hs (by rw [hb]; decide)
  rw [hb] at hd
  rw [hc, hd]
  unfold fndL
  rw [if_neg (by decide)]
  have := fndL_ge (fun c => decide (c = 10)) a s.size S (by omega) b' (0 + 1) (by omega)
  show a < fndL (fun c => decide (c = 10)) a s.size (crs S b' (0 + 1))
  omega
end Go.Proofs.YtioffjdjnlibgaaGreatDoor
namespace Go.Proofs.YtioffjdjnlibgaaGreatDoor
open Go.RowKit
set_option linter.unusedSimpArgs false
set_option linter.unusedVariables false
def rpB : ByteArray := ⟨#[239, 191, 189]⟩
def stL (s : ByteArray) : List (Nat × Nat) → Nat
  | [] => s.size
  | (i, c) :: l => if c = 65533 ∧ preB (s.extract i s.size) rpB = false then i else stL s l
/-- The place of the first byte that belongs to no character, or the length. -/
def stR (s : ByteArray) : Nat := stL s (crs s s.size 0)
set_option maxRecDepth 100000 in
set_option maxHeartbeats 1000000 in
theorem stray_any (s : ByteArray) (hs : s.size ≤ 1000000000000) (w : World) : Calls Tryz.prog 133 #[.string s] w fun e w' => e = .returned (.int .i64 (stR s : Nat)) ∧ Only (fun _ => False) w w' := by
  have HP : Hid (∀ S w1, Calls Tryz.prog 140 #[.string S, .string rpB] w1 fun e w' => e = .returned (.bool (preB S rpB)) ∧ w' = w1) := fun S w1 => hasprefix_any S rpB w1
  obtain ⟨Z, hZ⟩ : ∃ Z, Z = stR s := ⟨_, rfl⟩
  have HZ : Hid (Z = stL s (crs s s.size 0)) := hZ
  rw [← hZ]
  clear hZ
  go_enter Tryz.func133, Tryz.ntmps133
  go_wp2
  go_loopw [2] (fun r w' => ∃ (pos b : Nat), w' = w.iter s pos ∧ r = .int .i64 0 ∧ Hid (Z = stL s (crs s b pos) ∧ s.size ≤ pos + b)) (fun _ w' => s.size - w'.iterPos w.heap.size)
  case atStart => exact ⟨0, s.size, rfl, rfl, HZ.out, by omega⟩
  case round =>
    obtain ⟨pos, b, rfl, rfl, HI⟩ := hrel
    clear HZ
    by_cases hp : pos < s.size
    · have hnx : ∀ ty, (Instr.next (.pointer (some ⟨w.heap.size, 0, none⟩)) true ty).run Tryz.prog (w.iter s pos) = _ := fun ty => run_next_any w s pos ty hp
      have hwd := wid_pos s pos hp
      obtain ⟨b', hb', hcr⟩ := crs_go hp HI.out.2
      have hdl := decode_le s pos
      obtain ⟨c, hc⟩ : ∃ c, c = (Utf8.decode s pos).1 := ⟨_, rfl⟩
      obtain ⟨wd, hw⟩ : ∃ c, c = (Utf8.decode s pos).2 := ⟨_, rfl⟩
      rw [← hc, ← hw] at hnx hcr
      rw [← hc] at hdl
      rw [← hw] at hwd
      have HZ2 : Hid (Z = stL s ((pos, c) :: crs s b' (pos + wd)) ∧ s.size ≤ pos + wd + b') := ⟨by rw [HI.out.1, hcr], by have := HI.out.2; omega⟩
      clear HI hc hw hcr hb'
      have OI : Hid (Only (fun _ => False) w (w.iter s (pos + wd))) := (Only.refl _ w).iter s _
      by_cases h3 : c = 65533
      · obtain ⟨S, hS⟩ : ∃ S, S = s.extract pos s.size := ⟨_, rfl⟩
        have hsl : ∀ W : World, (Instr.slice 9 (.string s) (some (.int .i64 (pos : Int))) none none).run Tryz.prog W = .ok (.string S) W := fun W => by
          rw [run_slice_string_l W 9 s Tryz.underlying9 _ _ (by omega) (by omega), hS]
          rfl
        have HC1 := HP.out S (w.iter s (pos + wd))
        cases hin : preB S rpB with
        | false =>
          rw [hin] at HC1
          have HE : Hid (Z = pos) := by rw [HZ2.out.1]; exact if_pos ⟨h3, by rw [← hS]; exact hin⟩
          have HC2 : Hid (Calls Tryz.prog 140 _ _ _) := HC1
          subst h3
          clear HZ2 hin HP HC1 hS
          go_wp2_with fail
          refine (show Calls Tryz.prog 140 _ _ _ from HC2.out).mono ?_
          rintro e wz ⟨rfl, rfl⟩
          clear HC2
          go_wp2
          go_ret
          exact ⟨by rw [show Z = pos from HE.out]; rfl, OI.out⟩
        | true =>
          rw [hin] at HC1
          have HN : Hid (Z = stL s (crs s b' (pos + wd)) ∧ s.size ≤ pos + wd + b') := ⟨by rw [HZ2.out.1]; exact if_neg (fun g => by rw [← hS, hin] at g; exact absurd g.2 (by simp)), HZ2.out.2⟩
          have HC2 : Hid (Calls Tryz.prog 140 _ _ _) := HC1
          subst h3
          clear HZ2 hin HC1 hS
          go_wp2_with fail
          refine (show Calls Tryz.prog 140 _ _ _ from HC2.out).mono ?_
          rintro e wz ⟨rfl, rfl⟩
          clear HC2
          go_wp2
          go_roundw
          case rel => exact ⟨pos + wd, b', rfl, rfl, HN.out⟩
          case measure => simp; omega
      · have i3 : ¬ (c : Int) = 65533 := by omega
        have HN : Hid (Z = stL s (crs s b' (pos + wd)) ∧ s.size ≤ pos + wd + b') := ⟨by rw [HZ2.out.1]; exact if_neg (fun g => h3 g.1), HZ2.out.2⟩
        clear HZ2
        go_wp2
        go_roundw
        case rel => exact ⟨pos + wd, b', rfl, rfl, HN.out⟩
        case measure => simp; omega
    · have hnx : ∀ ty, (Instr.next (.pointer (some ⟨w.heap.size, 0, none⟩)) true ty).run Tryz.prog (w.iter s pos) = _ := fun ty => run_next_end w s pos ty hp
      have HE : Hid (Z = s.size) := by rw [HI.out.1, crs_end hp]; rfl
      have OI : Hid (Only (fun _ => False) w (w.iter s pos)) := (Only.refl _ w).iter s _
      clear HI HP
      go_wp2
      go_ret
      exact ⟨by rw [show Z = s.size from HE.out]; rfl, OI.out⟩
end Go.Proofs.YtioffjdjnlibgaaGreatDoor
namespace Go.Proofs.YtioffjdjnlibgaaGreatDoor
open Go.RowKit
set_option linter.unusedSimpArgs false
set_option linter.unusedVariables false
/-- What a sign behind a backslash means. -/
def une (c : Nat) : Option Nat := if c = 110 then some 10 else if c = 34 ∨ c = 92 then some c else none
def uneV (o : Option Nat) : Value := match o with
  | some c => .tuple #[.int .i32 (c : Int), .bool true]
  | none => .tuple #[.int .i32 0, .bool false]
end Go.Proofs.YtioffjdjnlibgaaGreatDoor
