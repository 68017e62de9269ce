/- Awake. The digits of a number: decimal. LexNumbers: the law. LexNumbers: the walk. Blanks, and the first character that is wanted: blank, begin's two functions, find, wordEnd. The first character that is wanted: find. wordEnd, remarked, stray. begin, stray. stray. unescape. DERIVED: THE SHELF's CONTRACTS AT THIS DUMP, IN PLAIN WORDS (tools/lay-plain.mjs out of 'TrydShelf.lean', which tools/lay-shelf.mjs wrote): THE SAME DECLARATIONS UNDER THE SAME NAMES: 'import', 'namespace', 'open', 'def', 'theorem' AND NOTHING ELSE: no command of the shelf's: FOR A HAND-IN. Each laying: the table of numbers ('.._ren') and one theorem, a field a fact of the dump's own or the kernel's comparison; each contract: ONE APPLICATION. strings.Clone. -/
import Derived.Test.YtokponkokpdhiaaDoorGaa
import Derived.Laws.IdiomStrings
import Derived.Laws.Concat
import Derived.Laws.Runes
import Derived.Shelf.Strings.Builder1
import Derived.Shelf.Strings.BuilderF
import Derived.Shelf.Strings.BuilderK
import Derived.Shelf.Strings.BuilderRune
import Derived.Shelf.LaysM
import Derived.Shelf.Strconv.Clone
import Derived.Test.YtokponkokpdhiaaDoorProg
namespace Go.Proofs.YtokponkokpdhiaaDoor
open Go.RowKit
set_option linter.unusedSimpArgs false
set_option linter.unusedVariables false
theorem name_dup : nameB ⟨#[100, 117, 112]⟩ = true := by kernel_rfl
theorem name_7 : nameB ⟨#[55]⟩ = false := by kernel_rfl
end Go.Proofs.YtokponkokpdhiaaDoor
namespace Go.Proofs.YtokponkokpdhiaaDoor
open Go.RowKit
set_option linter.unusedSimpArgs false
set_option linter.unusedVariables false
theorem val_go : ∀ (ds : List Nat) (a : Nat), ds.foldl (fun n d => n * 10 + d) a = a * 10 ^ ds.length + valX ds := by
  intro ds
  induction ds with
  | nil => intro a; simp [valX]
  | cons d ds ih =>
    intro a
    unfold valX
    rw [List.foldl_cons, List.foldl_cons, ih, ih, List.length_cons, Nat.pow_succ, Nat.add_mul, Nat.zero_mul, Nat.zero_add, Nat.add_assoc, Nat.mul_assoc, Nat.mul_comm 10]
theorem val_cons (d : Nat) (ds : List Nat) : valX (d :: ds) = d * 10 ^ ds.length + valX ds := by
  have := val_go ds (0 * 10 + d)
  rw [Nat.zero_mul, Nat.zero_add] at this
  rw [← this]
  unfold valX
  rw [List.foldl_cons, Nat.zero_mul, Nat.zero_add]
theorem mk_size (ds : List Nat) : (∀ d ∈ ds, d < 10) → (mkS (ds.map (48 + ·))).size = ds.length := by
  intro h
  unfold mkS
  rw [size_mk]
  induction ds with
  | nil => rfl
  | cons d ds ih =>
    unfold encL
    rw [List.map_cons, List.flatMap_cons, enc48 (h d (List.mem_cons_self ..)), List.length_append, List.length_cons]
    have := ih (fun x hx => h x (List.mem_cons_of_mem _ hx))
    unfold encL at this
    rw [this]
    simp
    omega
/-- The digits under way: u is still to be laid. -/
structure Dg (U u : Nat) (ds : List Nat) : Prop where
  lt : ∀ d ∈ ds, d < 10
  sum : u * 10 ^ ds.length + valX ds = U
  len : ds.length ≤ 20
  room : u < 10 ^ (20 - ds.length)
theorem Dg.none {U : Nat} (h : U < 100000000000000000000) : Dg U U [] := ⟨by simp, by simp [valX], by simp, by simpa using h⟩
theorem Dg.more {U u : Nat} {ds : List Nat} (h : Dg U u ds) (hu : 0 < u ∨ ds = []) : Dg U (u / 10) (u % 10 :: ds) := by
  have hl : ds.length < 20 := by
    rcases hu with hu | rfl
    · rcases Nat.lt_or_ge ds.length 20 with g | g
      · exact g
      · have := h.room
        rw [show 20 - ds.length = 0 by omega] at this
        simp at this
        omega
    · simp
  refine ⟨?_, ?_, by rw [List.length_cons]; omega, ?_⟩
  · intro d hd
    rcases List.mem_cons.1 hd with rfl | hd
    · exact Nat.mod_lt _ (by omega)
    · exact h.lt d hd
  · rw [val_cons, List.length_cons, Nat.pow_succ, ← Nat.add_assoc, ← h.sum, Nat.mul_comm (10 ^ ds.length) 10, ← Nat.mul_assoc, ← Nat.add_mul]
    congr 2
    omega
  · rw [List.length_cons]
    have := h.room
    rw [show 20 - ds.length = (20 - (ds.length + 1)) + 1 by omega, Nat.pow_succ] at this
    exact Nat.div_lt_of_lt_mul (by rw [Nat.mul_comm]; exact this)
theorem Dg.size {U u : Nat} {ds : List Nat} (h : Dg U u ds) : (mkS (ds.map (48 + ·))).size ≤ 20 := by
  rw [mk_size ds h.lt]; exact h.len
theorem Dg.le {U u : Nat} {ds : List Nat} (h : Dg U u ds) : u ≤ U := by
  have h1 := h.sum
  have h2 : u * 1 ≤ u * 10 ^ ds.length := Nat.mul_le_mul_left _ (Nat.pos_of_ne_zero (by simp))
  omega
theorem one_byte {d : Nat} (hd : d < 10) (w : World) :
    (convert 129 9 (.slice (some ⟨w.heap.size, 0, none⟩) 1 1)).run Tryd.prog (w.alloc (.cells #[.int .u8 ((48 + d : Nat) : Int)] 5)) = .ok (.string ⟨#[UInt8.ofNat (48 + d)]⟩) (w.alloc (.cells #[.int .u8 ((48 + d : Nat) : Int)] 5)) := by
  have := run_convert_bytes_back (P := Tryd.prog) (w.alloc (.cells #[.int .u8 ((48 + d : Nat) : Int)] 5)) 129 9 5 ⟨w.heap.size, 0, none⟩ 1 [UInt8.ofNat (48 + d)] Tryd.underlying129 Tryd.underlying5 Tryd.underlying9 (fun j hj => by
    have : j = 0 := by simpa using hj
    subst this
    have e : ((UInt8.ofNat (48 + d)).toNat : Int) = ((48 + d : Nat) : Int) := by
      rcases ten hd with rfl | rfl | rfl | rfl | rfl | rfl | rfl | rfl | rfl | rfl <;> rfl
    simp only [List.getElem_cons_zero, e]
    exact World.cell?_alloc_at _ _ w.heap.size 0 rfl)
  exact this
def DecIs (n : Int) (w : World) (e : Ending) (w' : World) : Prop := ∃ ds, Dg n.natAbs 0 ds ∧ ds ≠ [] ∧ e = .returned (.string (mnB (decide (n < 0)) ++ mkS (ds.map (48 + ·)))) ∧ Only (fun _ => False) w w'
def uOf : Value → Nat
  | .int _ m => m.toNat
  | _ => 0
def sOf : Value → Nat
  | .string b => 1 - b.size
  | _ => 0
end Go.Proofs.YtokponkokpdhiaaDoor
namespace Go.Proofs.YtokponkokpdhiaaDoor
open Go.RowKit
set_option linter.unusedSimpArgs false
set_option linter.unusedVariables false
theorem mk_nought : (⟨#[48]⟩ : ByteArray) = mkS [48] := by
  unfold mkS
  rw [encL_one]
  have := enc48 (d := 0) (by omega)
  rw [Nat.add_zero] at this
  rw [this]
  rfl
/-- Digits with the number that they are. -/
structure Ds (N : Nat) (k : Nat) (ds : List Nat) : Prop where
  lt : ∀ d ∈ ds, d < 10
  val : valX ds = N
  ne : ds ≠ []
  len : ds.length ≤ 20 + k
theorem Ds.nought {N k : Nat} {ds : List Nat} (h : Ds N k ds) : Ds N (k + 1) (0 :: ds) :=
  ⟨fun d hd => by
    rcases List.mem_cons.1 hd with rfl | hd
    · omega
    · exact h.lt d hd, by rw [val_cons, Nat.zero_mul, Nat.zero_add, h.val], by simp, by rw [List.length_cons]; have := h.len; omega⟩
theorem Dg.ds {N : Nat} {ds : List Nat} (h : Dg N 0 ds) (hne : ds ≠ []) : Ds N 0 ds := ⟨h.lt, by have := h.sum; rw [Nat.zero_mul, Nat.zero_add] at this; exact this, hne, h.len⟩
theorem enc_size {nt : Nat} (hn : nt = 48 ∨ nt = 1632 ∨ nt = 65296) {d : Nat} (hd : d < 10) : (encR (nt + d)).length ≤ 3 := by
  rcases hn with rfl | rfl | rfl
  · rw [enc48 hd]; simp
  · rw [enc16 hd]; simp
  · rw [enc65 hd]; simp
theorem mk_size3 {nt : Nat} (hn : nt = 48 ∨ nt = 1632 ∨ nt = 65296) (ds : List Nat) : (∀ d ∈ ds, d < 10) → (mkS (ds.map (nt + ·))).size ≤ 3 * ds.length := by
  intro h
  unfold mkS
  rw [size_mk]
  induction ds with
  | nil => simp [encL]
  | cons d ds ih =>
    have h1 := enc_size hn (h d (List.mem_cons_self ..))
    have h2 := ih (fun x hx => h x (List.mem_cons_of_mem _ hx))
    unfold encL at h2 ⊢
    rw [List.map_cons, List.flatMap_cons, List.length_append, List.length_cons]
    omega
theorem mn_size (b : Bool) : (mnB b).size ≤ 1 := by cases b <;> simp [mnB, ByteArray.size]
theorem add_str (P : Program) (W : World) {a b c : ByteArray} (h1 : a ++ b = c) (h2 : a.size ≤ 1000000) (h3 : b.size ≤ 1000000) : (Op.stringOp .add a b).run P W = .ok (.string c) W := by
  rw [run_string_add_sum W a b (by omega), h1]
theorem mk_get {ds : List Nat} (h : ∀ d ∈ ds, d < 10) {i : Nat} (hi : i < ds.length) (hs : i < (mkS (ds.map (48 + ·))).size) : ((mkS (ds.map (48 + ·)))[i]'hs).toNat = 48 + ds[i] := by
  have e : encL (ds.map (48 + ·)) = ds.map (fun d => UInt8.ofNat (48 + d)) := by
    clear hs hi
    induction ds with
    | nil => rfl
    | cons d ds ih =>
      have := ih (fun x hx => h x (List.mem_cons_of_mem _ hx))
      unfold encL at this ⊢
      rw [List.map_cons, List.flatMap_cons, this, enc48 (h d (List.mem_cons_self ..))]
      rfl
  have e2 : (mkS (ds.map (48 + ·)))[i]'hs = (ds.map (fun d => UInt8.ofNat (48 + d)))[i]'(by simpa using hi) := by
    show (mkS (ds.map (48 + ·))).data[i]'hs = _
    simp only [mkS, e]
    simp
  rw [e2, List.getElem_map]
  have hd := h ds[i] (List.getElem_mem hi)
  rcases ten hd with g | g | g | g | g | g | g | g | g | g <;> rw [g] <;> rfl
theorem index_mk {ds : List Nat} (h : ∀ d ∈ ds, d < 10) {i : Nat} (hi : i < ds.length) (W : World) : (Instr.index 9 (.string (mkS (ds.map (48 + ·)))) (.int .i64 (i : Int))).run Tryd.prog W = .ok (.int .u8 ((48 + ds[i] : Nat) : Int)) W := by
  have hs := mk_size ds h
  rw [run_index_string W 9 _ _ _ Tryd.underlying9, dif_pos ⟨by omega, by rw [hs]; omega⟩]
  have := mk_get h hi (by rw [hs]; exact hi)
  congr 2
  rw [← this]
  rfl
theorem slice_mn {s : ByteArray} (W : World) : (Instr.slice 9 (.string (mnB true ++ s)) (some (.int .i64 1)) none none).run Tryd.prog W = .ok (.string s) W := by
  have hs : (mnB true ++ s).size = 1 + s.size := by rw [ByteArray.size_append]; rfl
  rw [run_slice_string_l W 9 _ Tryd.underlying9 _ _ (by omega) (by rw [hs]; omega)]
  congr 2
  refine ba_ext ?_
  rw [ByteArray.data_extract, app_data]
  have : (mnB true).data = #[45] := rfl
  rw [this, hs]
  apply Array.ext'
  simp
  exact List.take_of_length_le (Nat.le_of_eq rfl)
/-- What the law asks of the digits. -/
structure Asks (n : Int) (ds : List Nat) (R : Int × Int) : Prop where
  r1 : numR (mnB (decide (n < 0)) ++ mkS (ds.map (48 + ·))) = R
  r2 : numR (mnB (decide (n < 0)) ++ mkS (ds.map (1632 + ·))) = R
  r3 : numR (mnB (decide (n < 0)) ++ mkS (ds.map (65296 + ·))) = R
  r4 : (numR (mnB (decide (n < 0)) ++ mkS (ds.map (1632 + ·) ++ [48]))).2 = 9
  n1 : nameB (mnB (decide (n < 0)) ++ mkS (ds.map (48 + ·))) = false
  n3 : nameB (mnB (decide (n < 0)) ++ mkS (ds.map (65296 + ·))) = false
theorem Ds.asks {n : Int} {k : Nat} {ds : List Nat} (h : Ds n.natAbs k ds) (h1 : -9223372036854775808 ≤ n) (h2 : n ≤ 9223372036854775807) :
    ((-1152921504606846976 ≤ n ∧ n ≤ 1152921504606846975) → Asks n ds (n, 0)) ∧ (¬ (-1152921504606846976 ≤ n ∧ n ≤ 1152921504606846975) → Asks n ds (0, 11)) := by
  have hv := val_fits h.lt
  rw [h.val] at hv
  have hf := numD_fits h1 h2 hv
  refine ⟨fun g => ?_, fun g => ?_⟩
  · have e := hf.1 g
    exact ⟨by rw [num_word _ (.inl rfl) h.lt h.ne, e], by rw [num_word _ (.inr (.inl rfl)) h.lt h.ne, e], by rw [num_word _ (.inr (.inr rfl)) h.lt h.ne, e], num_mixed _ h.lt h.ne, name_word _ (.inl rfl) h.lt h.ne, name_word _ (.inr (.inr rfl)) h.lt h.ne⟩
  · have e := hf.2 g
    exact ⟨by rw [num_word _ (.inl rfl) h.lt h.ne, e], by rw [num_word _ (.inr (.inl rfl)) h.lt h.ne, e], by rw [num_word _ (.inr (.inr rfl)) h.lt h.ne, e], num_mixed _ h.lt h.ne, name_word _ (.inl rfl) h.lt h.ne, name_word _ (.inr (.inr rfl)) h.lt h.ne⟩
end Go.Proofs.YtokponkokpdhiaaDoor
namespace Go.Proofs.YtokponkokpdhiaaDoor
open Go.RowKit
set_option linter.unusedSimpArgs false
set_option linter.unusedVariables false
def tkS (nt : Nat) (ds : List Nat) (i : Nat) : ByteArray := mkS ((ds.take i).map (nt + ·))
theorem tk_none (nt : Nat) (ds : List Nat) : tkS nt ds 0 = ⟨#[]⟩ := rfl
theorem tk_all (nt : Nat) (ds : List Nat) {i : Nat} (h : ds.length ≤ i) : tkS nt ds i = mkS (ds.map (nt + ·)) := by unfold tkS; rw [List.take_of_length_le h]
theorem tk_size {nt : Nat} (hn : nt = 48 ∨ nt = 1632 ∨ nt = 65296) {ds : List Nat} (h : ∀ d ∈ ds, d < 10) (i : Nat) : (tkS nt ds i).size ≤ 3 * ds.length := by
  have := mk_size3 hn (ds.take i) (fun d hd => h d (List.mem_of_mem_take hd))
  have h2 : (ds.take i).length ≤ ds.length := by rw [List.length_take]; omega
  unfold tkS
  omega
theorem tk_go {nt : Nat} {ds : List Nat} {i : Nat} (hi : i < ds.length) : tkS nt ds i ++ Utf8.encode ((nt + ds[i] : Nat) : Int) = tkS nt ds (i + 1) := by
  unfold tkS
  rw [mk_snoc, List.take_add_one, List.getElem?_eq_getElem hi, List.map_append]
  rfl
theorem enc_size2 {nt : Nat} (hn : nt = 48 ∨ nt = 1632 ∨ nt = 65296) {d : Nat} (hd : d < 10) : (Utf8.encode ((nt + d : Nat) : Int)).size ≤ 3 := by
  have := enc_size hn hd
  rw [mk_one]
  unfold mkS
  rw [size_mk, encL_one]
  exact this
end Go.Proofs.YtokponkokpdhiaaDoor
namespace Go.Proofs.YtokponkokpdhiaaDoor
open Go.RowKit
set_option linter.unusedSimpArgs false
set_option linter.unusedVariables false
set_option maxRecDepth 100000 in
theorem notblank_any (c : Nat) (w : World) : Calls Tryd.prog 63 #[.int .i32 (c : Int)] w fun e w' => e = .returned (.bool (!blk c)) ∧ w' = w := by
  have HB : Hid (Calls Tryd.prog 64 #[.int .i32 (c : Int)] w fun e w' => e = .returned (.bool (blk c)) ∧ w' = w) := blank_any c w
  obtain ⟨b, hb⟩ : ∃ b, b = blk c := ⟨_, rfl⟩
  rw [← hb] at HB ⊢
  clear hb
  go_enter Tryd.func63, Tryd.ntmps63
  go_wp2_with fail
  refine (show Calls Tryd.prog 64 _ _ _ from HB.out).mono ?_
  rintro e wz ⟨rfl, rfl⟩
  clear HB
  go_wp2
  go_ret
  exact ⟨rfl, rfl⟩
set_option maxRecDepth 100000 in
theorem newline_any (c : Nat) (w : World) : Calls Tryd.prog 66 #[.int .i32 (c : Int)] w fun e w' => e = .returned (.bool (decide (c = 10))) ∧ w' = w := by
  have e : ((c : Int) == 10) = decide (c = 10) := by
    by_cases h : c = 10
    · subst h; rfl
    · have : ¬ (c : Int) = 10 := by omega
      simp [h, this]
  rw [← e]
  clear e
  go_enter Tryd.func66, Tryd.ntmps66
  go_wp2
  go_ret
  exact ⟨rfl, rfl⟩
end Go.Proofs.YtokponkokpdhiaaDoor
namespace Go.Proofs.YtokponkokpdhiaaDoor
open Go.RowKit
set_option linter.unusedSimpArgs false
set_option linter.unusedVariables false
def fndL (p : Nat → Bool) (a n : Nat) : List (Nat × Nat) → Nat
  | [] => n
  | (i, c) :: l => if p c = true then a + i else fndL p a n l
/-- The place of the first character that p wants, from a on, or the text's length. -/
def fnd (p : Nat → Bool) (s : ByteArray) (a : Nat) : Nat := fndL p a s.size (crs (s.extract a s.size) (s.extract a s.size).size 0)
set_option maxRecDepth 100000 in
set_option maxHeartbeats 1000000 in
theorem find_blank (s : ByteArray) (a : Nat) (ha : a ≤ s.size) (hs : s.size ≤ 1000000) (w : World) :
    Calls Tryd.prog 62 #[.string s, .int .i64 (a : Int), .func (.func 64) #[] #[]] w fun e w' => e = .returned (.int .i64 (fnd (fun c => blk c) s a : Nat)) ∧ Only (fun _ => False) w w' := by
  have HC : Hid (∀ (c : Nat) w1, Calls Tryd.prog 64 #[.int .i32 (c : Int)] w1 fun e w' => e = .returned (.bool (blk c)) ∧ w' = w1) := fun c w1 => blank_any c w1
  unfold fnd
  obtain ⟨S, hS⟩ : ∃ S, S = s.extract a s.size := ⟨_, rfl⟩
  have hsl : ∀ W : World, (Instr.slice 9 (.string s) (some (.int .i64 (a : Int))) none none).run Tryd.prog W = .ok (.string S) W := fun W => by
    rw [run_slice_string_l W 9 s Tryd.underlying9 _ _ (by omega) (by omega), hS]
    rfl
  have hsz : S.size = s.size - a := by rw [hS, ByteArray.size_extract]; omega
  rw [← hS]
  clear hS
  obtain ⟨Z, hZ⟩ : ∃ Z, Z = fndL (fun c => blk c) a s.size (crs S S.size 0) := ⟨_, rfl⟩
  have HZ : Hid (Z = fndL (fun c => blk c) a s.size (crs S S.size 0)) := hZ
  rw [← hZ]
  clear hZ
  go_enter Tryd.func62, Tryd.ntmps62
  go_wp2
  go_loopw [6] (fun r w' => ∃ (pos b : Nat), w' = w.iter S pos ∧ r = .int .i64 0 ∧ Hid (Z = fndL (fun c => blk c) a s.size (crs S b pos) ∧ S.size ≤ pos + b)) (fun _ w' => S.size - w'.iterPos w.heap.size)
  case atStart => exact ⟨0, S.size, rfl, rfl, HZ.out, by omega⟩
  case round =>
    obtain ⟨pos, b, rfl, rfl, HI⟩ := hrel
    clear HZ
    by_cases hp : pos < S.size
    · have hnx : ∀ ty, (Instr.next (.pointer (some ⟨w.heap.size, 0, none⟩)) true ty).run Tryd.prog (w.iter S pos) = _ := fun ty => run_next_any w S pos ty hp
      have hwd := wid_pos S pos hp
      obtain ⟨b', hb', hcr⟩ := crs_go hp HI.out.2
      have hdl := decode_le S pos
      obtain ⟨c, hc⟩ : ∃ c, c = (Utf8.decode S pos).1 := ⟨_, rfl⟩
      obtain ⟨wd, hw⟩ : ∃ c, c = (Utf8.decode S pos).2 := ⟨_, rfl⟩
      rw [← hc, ← hw] at hnx hcr
      rw [← hc] at hdl
      rw [← hw] at hwd
      have HZ2 : Hid (Z = fndL (fun c => blk c) a s.size ((pos, c) :: crs S b' (pos + wd)) ∧ S.size ≤ pos + wd + b') := ⟨by rw [HI.out.1, hcr], by have := HI.out.2; omega⟩
      clear HI hc hw hcr hb'
      have OI : Hid (Only (fun _ => False) w (w.iter S (pos + wd))) := (Only.refl _ w).iter S _
      have HC1 : Hid (Calls Tryd.prog 64 #[.int .i32 (c : Int)] (w.iter S (pos + wd)) fun e w' => e = .returned (.bool (blk c)) ∧ w' = w.iter S (pos + wd)) := HC.out _ _
      cases hin : (blk c) with
      | true =>
        rw [hin] at HC1
        have HE : Hid (Z = a + pos) := by rw [HZ2.out.1]; exact if_pos hin
        clear HZ2 hin HC
        go_wp2_with (go_at_call 64; refine (show Calls Tryd.prog 64 _ _ _ from HC1.out).mono ?_; rintro e wz ⟨rfl, rfl⟩)
        go_ret
        exact ⟨congrArg (fun z : Nat => Ending.returned (.int .i64 (z : Int))) (show a + pos = Z from HE.out.symm), OI.out⟩
      | false =>
        rw [hin] at HC1
        have HN : Hid (Z = fndL (fun c => blk c) a s.size (crs S b' (pos + wd)) ∧ S.size ≤ pos + wd + b') := ⟨by rw [HZ2.out.1]; exact if_neg (by show ¬ (blk c) = true; rw [hin]; simp), HZ2.out.2⟩
        clear HZ2 hin
        go_wp2_with (go_at_call 64; refine (show Calls Tryd.prog 64 _ _ _ from HC1.out).mono ?_; rintro e wz ⟨rfl, rfl⟩)
        go_roundw
        case rel => exact ⟨pos + wd, b', rfl, rfl, HN.out⟩
        case measure => simp; omega
    · have hnx : ∀ ty, (Instr.next (.pointer (some ⟨w.heap.size, 0, none⟩)) true ty).run Tryd.prog (w.iter S pos) = _ := fun ty => run_next_end w S pos ty hp
      have HE : Hid (Z = s.size) := by rw [HI.out.1, crs_end hp]; rfl
      have OI : Hid (Only (fun _ => False) w (w.iter S pos)) := (Only.refl _ w).iter S _
      clear HI HC
      go_wp2
      go_ret
      exact ⟨by rw [show Z = s.size from HE.out]; rfl, OI.out⟩
set_option maxRecDepth 100000 in
set_option maxHeartbeats 1000000 in
theorem find_notblank (s : ByteArray) (a : Nat) (ha : a ≤ s.size) (hs : s.size ≤ 1000000) (w : World) :
    Calls Tryd.prog 62 #[.string s, .int .i64 (a : Int), .func (.func 63) #[] #[]] w fun e w' => e = .returned (.int .i64 (fnd (fun c => !blk c) s a : Nat)) ∧ Only (fun _ => False) w w' := by
  have HC : Hid (∀ (c : Nat) w1, Calls Tryd.prog 63 #[.int .i32 (c : Int)] w1 fun e w' => e = .returned (.bool (!blk c)) ∧ w' = w1) := fun c w1 => notblank_any c w1
  unfold fnd
  obtain ⟨S, hS⟩ : ∃ S, S = s.extract a s.size := ⟨_, rfl⟩
  have hsl : ∀ W : World, (Instr.slice 9 (.string s) (some (.int .i64 (a : Int))) none none).run Tryd.prog W = .ok (.string S) W := fun W => by
    rw [run_slice_string_l W 9 s Tryd.underlying9 _ _ (by omega) (by omega), hS]
    rfl
  have hsz : S.size = s.size - a := by rw [hS, ByteArray.size_extract]; omega
  rw [← hS]
  clear hS
  obtain ⟨Z, hZ⟩ : ∃ Z, Z = fndL (fun c => !blk c) a s.size (crs S S.size 0) := ⟨_, rfl⟩
  have HZ : Hid (Z = fndL (fun c => !blk c) a s.size (crs S S.size 0)) := hZ
  rw [← hZ]
  clear hZ
  go_enter Tryd.func62, Tryd.ntmps62
  go_wp2
  go_loopw [6] (fun r w' => ∃ (pos b : Nat), w' = w.iter S pos ∧ r = .int .i64 0 ∧ Hid (Z = fndL (fun c => !blk c) a s.size (crs S b pos) ∧ S.size ≤ pos + b)) (fun _ w' => S.size - w'.iterPos w.heap.size)
  case atStart => exact ⟨0, S.size, rfl, rfl, HZ.out, by omega⟩
  case round =>
    obtain ⟨pos, b, rfl, rfl, HI⟩ := hrel
    clear HZ
    by_cases hp : pos < S.size
    · have hnx : ∀ ty, (Instr.next (.pointer (some ⟨w.heap.size, 0, none⟩)) true ty).run Tryd.prog (w.iter S pos) = _ := fun ty => run_next_any w S pos ty hp
      have hwd := wid_pos S pos hp
      obtain ⟨b', hb', hcr⟩ := crs_go hp HI.out.2
      have hdl := decode_le S pos
      obtain ⟨c, hc⟩ : ∃ c, c = (Utf8.decode S pos).1 := ⟨_, rfl⟩
      obtain ⟨wd, hw⟩ : ∃ c, c = (Utf8.decode S pos).2 := ⟨_, rfl⟩
      rw [← hc, ← hw] at hnx hcr
      rw [← hc] at hdl
      rw [← hw] at hwd
      have HZ2 : Hid (Z = fndL (fun c => !blk c) a s.size ((pos, c) :: crs S b' (pos + wd)) ∧ S.size ≤ pos + wd + b') := ⟨by rw [HI.out.1, hcr], by have := HI.out.2; omega⟩
      clear HI hc hw hcr hb'
      have OI : Hid (Only (fun _ => False) w (w.iter S (pos + wd))) := (Only.refl _ w).iter S _
      have HC1 : Hid (Calls Tryd.prog 63 #[.int .i32 (c : Int)] (w.iter S (pos + wd)) fun e w' => e = .returned (.bool (!blk c)) ∧ w' = w.iter S (pos + wd)) := HC.out _ _
      cases hin : (!blk c) with
      | true =>
        rw [hin] at HC1
        have HE : Hid (Z = a + pos) := by rw [HZ2.out.1]; exact if_pos hin
        clear HZ2 hin HC
        go_wp2_with (go_at_call 63; refine (show Calls Tryd.prog 63 _ _ _ from HC1.out).mono ?_; rintro e wz ⟨rfl, rfl⟩)
        go_ret
        exact ⟨congrArg (fun z : Nat => Ending.returned (.int .i64 (z : Int))) (show a + pos = Z from HE.out.symm), OI.out⟩
      | false =>
        rw [hin] at HC1
        have HN : Hid (Z = fndL (fun c => !blk c) a s.size (crs S b' (pos + wd)) ∧ S.size ≤ pos + wd + b') := ⟨by rw [HZ2.out.1]; exact if_neg (by show ¬ (!blk c) = true; rw [hin]; simp), HZ2.out.2⟩
        clear HZ2 hin
        go_wp2_with (go_at_call 63; refine (show Calls Tryd.prog 63 _ _ _ from HC1.out).mono ?_; rintro e wz ⟨rfl, rfl⟩)
        go_roundw
        case rel => exact ⟨pos + wd, b', rfl, rfl, HN.out⟩
        case measure => simp; omega
    · have hnx : ∀ ty, (Instr.next (.pointer (some ⟨w.heap.size, 0, none⟩)) true ty).run Tryd.prog (w.iter S pos) = _ := fun ty => run_next_end w S pos ty hp
      have HE : Hid (Z = s.size) := by rw [HI.out.1, crs_end hp]; rfl
      have OI : Hid (Only (fun _ => False) w (w.iter S pos)) := (Only.refl _ w).iter S _
      clear HI HC
      go_wp2
      go_ret
      exact ⟨by rw [show Z = s.size from HE.out]; rfl, OI.out⟩
set_option maxRecDepth 100000 in
set_option maxHeartbeats 1000000 in
theorem find_newline (s : ByteArray) (a : Nat) (ha : a ≤ s.size) (hs : s.size ≤ 1000000) (w : World) :
    Calls Tryd.prog 62 #[.string s, .int .i64 (a : Int), .func (.func 66) #[] #[]] w fun e w' => e = .returned (.int .i64 (fnd (fun c => decide (c = 10)) s a : Nat)) ∧ Only (fun _ => False) w w' := by
  have HC : Hid (∀ (c : Nat) w1, Calls Tryd.prog 66 #[.int .i32 (c : Int)] w1 fun e w' => e = .returned (.bool (decide (c = 10))) ∧ w' = w1) := fun c w1 => newline_any c w1
  unfold fnd
  obtain ⟨S, hS⟩ : ∃ S, S = s.extract a s.size := ⟨_, rfl⟩
  have hsl : ∀ W : World, (Instr.slice 9 (.string s) (some (.int .i64 (a : Int))) none none).run Tryd.prog W = .ok (.string S) W := fun W => by
    rw [run_slice_string_l W 9 s Tryd.underlying9 _ _ (by omega) (by omega), hS]
    rfl
  have hsz : S.size = s.size - a := by rw [hS, ByteArray.size_extract]; omega
  rw [← hS]
  clear hS
  obtain ⟨Z, hZ⟩ : ∃ Z, Z = fndL (fun c => decide (c = 10)) a s.size (crs S S.size 0) := ⟨_, rfl⟩
  have HZ : Hid (Z = fndL (fun c => decide (c = 10)) a s.size (crs S S.size 0)) := hZ
  rw [← hZ]
  clear hZ
  go_enter Tryd.func62, Tryd.ntmps62
  go_wp2
  go_loopw [6] (fun r w' => ∃ (pos b : Nat), w' = w.iter S pos ∧ r = .int .i64 0 ∧ Hid (Z = fndL (fun c => decide (c = 10)) a s.size (crs S b pos) ∧ S.size ≤ pos + b)) (fun _ w' => S.size - w'.iterPos w.heap.size)
  case atStart => exact ⟨0, S.size, rfl, rfl, HZ.out, by omega⟩
  case round =>
    obtain ⟨pos, b, rfl, rfl, HI⟩ := hrel
    clear HZ
    by_cases hp : pos < S.size
    · have hnx : ∀ ty, (Instr.next (.pointer (some ⟨w.heap.size, 0, none⟩)) true ty).run Tryd.prog (w.iter S pos) = _ := fun ty => run_next_any w S pos ty hp
      have hwd := wid_pos S pos hp
      obtain ⟨b', hb', hcr⟩ := crs_go hp HI.out.2
      have hdl := decode_le S pos
      obtain ⟨c, hc⟩ : ∃ c, c = (Utf8.decode S pos).1 := ⟨_, rfl⟩
      obtain ⟨wd, hw⟩ : ∃ c, c = (Utf8.decode S pos).2 := ⟨_, rfl⟩
      rw [← hc, ← hw] at hnx hcr
      rw [← hc] at hdl
      rw [← hw] at hwd
      have HZ2 : Hid (Z = fndL (fun c => decide (c = 10)) a s.size ((pos, c) :: crs S b' (pos + wd)) ∧ S.size ≤ pos + wd + b') := ⟨by rw [HI.out.1, hcr], by have := HI.out.2; omega⟩
      clear HI hc hw hcr hb'
      have OI : Hid (Only (fun _ => False) w (w.iter S (pos + wd))) := (Only.refl _ w).iter S _
      have HC1 : Hid (Calls Tryd.prog 66 #[.int .i32 (c : Int)] (w.iter S (pos + wd)) fun e w' => e = .returned (.bool (decide (c = 10))) ∧ w' = w.iter S (pos + wd)) := HC.out _ _
      cases hin : (decide (c = 10)) with
      | true =>
        rw [hin] at HC1
        have HE : Hid (Z = a + pos) := by rw [HZ2.out.1]; exact if_pos hin
        clear HZ2 hin HC
        go_wp2_with (go_at_call 66; refine (show Calls Tryd.prog 66 _ _ _ from HC1.out).mono ?_; rintro e wz ⟨rfl, rfl⟩)
        go_ret
        exact ⟨congrArg (fun z : Nat => Ending.returned (.int .i64 (z : Int))) (show a + pos = Z from HE.out.symm), OI.out⟩
      | false =>
        rw [hin] at HC1
        have HN : Hid (Z = fndL (fun c => decide (c = 10)) a s.size (crs S b' (pos + wd)) ∧ S.size ≤ pos + wd + b') := ⟨by rw [HZ2.out.1]; exact if_neg (by show ¬ (decide (c = 10)) = true; rw [hin]; simp), HZ2.out.2⟩
        clear HZ2 hin
        go_wp2_with (go_at_call 66; refine (show Calls Tryd.prog 66 _ _ _ from HC1.out).mono ?_; rintro e wz ⟨rfl, rfl⟩)
        go_roundw
        case rel => exact ⟨pos + wd, b', rfl, rfl, HN.out⟩
        case measure => simp; omega
    · have hnx : ∀ ty, (Instr.next (.pointer (some ⟨w.heap.size, 0, none⟩)) true ty).run Tryd.prog (w.iter S pos) = _ := fun ty => run_next_end w S pos ty hp
      have HE : Hid (Z = s.size) := by rw [HI.out.1, crs_end hp]; rfl
      have OI : Hid (Only (fun _ => False) w (w.iter S pos)) := (Only.refl _ w).iter S _
      clear HI HC
      go_wp2
      go_ret
      exact ⟨by rw [show Z = s.size from HE.out]; rfl, OI.out⟩
end Go.Proofs.YtokponkokpdhiaaDoor
namespace Go.Proofs.YtokponkokpdhiaaDoor
open Go.RowKit
set_option linter.unusedSimpArgs false
set_option linter.unusedVariables false
theorem fndL_le (p : Nat → Bool) (a n : Nat) (S : ByteArray) (h : a + S.size ≤ n) : ∀ (b pos : Nat), fndL p a n (crs S b pos) ≤ n := by
  intro b
  induction b with
  | zero => intro pos; exact Nat.le_refl _
  | succ b ih =>
    intro pos
    by_cases hp : pos < S.size
    · rw [show crs S (b + 1) pos = (pos, (Utf8.decode S pos).1) :: crs S b (pos + (Utf8.decode S pos).2) by simp [crs, hp]]
      unfold fndL
      split
      · omega
      · exact ih _
    · rw [crs_end hp]; exact Nat.le_refl _
theorem fndL_ge (p : Nat → Bool) (a n : Nat) (S : ByteArray) (h : a + S.size ≤ n) : ∀ (b pos : Nat), pos ≤ S.size → a + pos ≤ fndL p a n (crs S b pos) := by
  intro b
  induction b with
  | zero => intro pos hq; show a + pos ≤ n; omega
  | succ b ih =>
    intro pos hq
    by_cases hp : pos < S.size
    · rw [show crs S (b + 1) pos = (pos, (Utf8.decode S pos).1) :: crs S b (pos + (Utf8.decode S pos).2) by simp [crs, hp]]
      unfold fndL
      split
      · exact Nat.le_refl _
      · by_cases hr : pos + (Utf8.decode S pos).2 ≤ S.size
        · have := ih (pos + (Utf8.decode S pos).2) hr
          omega
        · rw [crs_end (by omega)]
          show a + pos ≤ n
          omega
    · rw [crs_end hp]
      show a + pos ≤ n
      omega
theorem fnd_le (p : Nat → Bool) (s : ByteArray) {a : Nat} (ha : a ≤ s.size) : a ≤ fnd p s a ∧ fnd p s a ≤ s.size := by
  have hz : (s.extract a s.size).size = s.size - a := by rw [ByteArray.size_extract]; omega
  exact ⟨fndL_ge p a s.size _ (by omega) _ 0 (by omega), fndL_le p a s.size _ (by omega) _ 0⟩
set_option maxRecDepth 100000 in
theorem wordEnd_any (s : ByteArray) (a : Nat) (ha : a ≤ s.size) (hs : s.size ≤ 1000000) (w : World) : Calls Tryd.prog 70 #[.string s, .int .i64 (a : Int)] w fun e w' => e = .returned (.int .i64 (fnd (fun c => blk c) s a : Nat)) ∧ Only (fun _ => False) w w' := by
  have HC : Hid (Calls Tryd.prog 62 #[.string s, .int .i64 (a : Int), .func (.func 64) #[] #[]] w fun e w' => e = .returned (.int .i64 (fnd (fun c => blk c) s a : Nat)) ∧ Only (fun _ => False) w w') := find_blank s a ha hs w
  obtain ⟨z, hz⟩ : ∃ z, z = fnd (fun c => blk c) s a := ⟨_, rfl⟩
  rw [← hz] at HC ⊢
  clear hz
  go_enter Tryd.func70, Tryd.ntmps70
  go_wp2_with fail
  refine (show Calls Tryd.prog 62 _ _ _ from HC.out).mono ?_
  rintro e wz ⟨rfl, o⟩
  have O : Hid (Only (fun _ => False) w wz) := o
  clear HC o
  go_wp2
  go_ret
  exact ⟨rfl, O.out⟩
def exB : ByteArray := ⟨#[33]⟩
/-- Is the word at a the remark's? -/
def rmk (s : ByteArray) (a : Nat) : Bool := preB (s.extract a s.size) exB && decide (fnd (fun c => blk c) s a = a + 1)
set_option maxRecDepth 100000 in
set_option maxHeartbeats 1000000 in
theorem remarked_any (s : ByteArray) (a : Nat) (ha : a ≤ s.size) (hs : s.size ≤ 1000000) (w : World) : Calls Tryd.prog 65 #[.string s, .int .i64 (a : Int)] w fun e w' => e = .returned (.bool (rmk s a)) ∧ Only (fun _ => False) w w' := by
  obtain ⟨S, hS⟩ : ∃ S, S = s.extract a s.size := ⟨_, rfl⟩
  have hsl : ∀ W : World, (Instr.slice 9 (.string s) (some (.int .i64 (a : Int))) none none).run Tryd.prog W = .ok (.string S) W := fun W => by
    rw [run_slice_string_l W 9 s Tryd.underlying9 _ _ (by omega) (by omega), hS]
    rfl
  have HP : Hid (∀ w1, Calls Tryd.prog 61 #[.string S, .string exB] w1 fun e w' => e = .returned (.bool (preB S exB)) ∧ w' = w1) := fun w1 => hasprefix_any S exB w1
  have HW : Hid (∀ w1, Calls Tryd.prog 70 #[.string s, .int .i64 (a : Int)] w1 fun e w' => e = .returned (.int .i64 (fnd (fun c => blk c) s a : Nat)) ∧ Only (fun _ => False) w1 w') := fun w1 => wordEnd_any s a ha hs w1
  unfold rmk
  rw [← hS]
  obtain ⟨z, hz⟩ : ∃ z, z = fnd (fun c => blk c) s a := ⟨_, rfl⟩
  obtain ⟨b, hb⟩ : ∃ b, b = preB S exB := ⟨_, rfl⟩
  rw [← hz] at HW ⊢
  rw [← hb] at HP ⊢
  clear hz hb hS
  cases b with
  | false =>
    go_enter Tryd.func65, Tryd.ntmps65
    go_wp2_with fail
    refine (show Calls Tryd.prog 61 _ _ _ from HP.out _).mono ?_
    rintro e wz ⟨rfl, rfl⟩
    clear HP HW
    go_wp2
    go_ret
    exact ⟨rfl, Only.refl _ _⟩
  | true =>
    have e1 : decide (z = a + 1) = ((z : Int) == (a : Int) + 1) := by
      by_cases g : z = a + 1
      · subst g; simp
      · have : ¬ (z : Int) = (a : Int) + 1 := by omega
        simp [g, this]
    rw [Bool.true_and, e1]
    clear e1
    go_enter Tryd.func65, Tryd.ntmps65
    go_wp2_with fail
    refine (show Calls Tryd.prog 61 _ _ _ from HP.out _).mono ?_
    rintro e wz ⟨rfl, rfl⟩
    clear HP
    go_wp2_with fail
    refine (show Calls Tryd.prog 70 _ _ _ from HW.out _).mono ?_
    rintro e wy ⟨rfl, o⟩
    have O : Hid (Only (fun _ => False) wz wy) := o
    clear HW o
    go_wp2
    go_ret
    exact ⟨rfl, O.out⟩
end Go.Proofs.YtokponkokpdhiaaDoor
namespace Go.Proofs.YtokponkokpdhiaaDoor
open Go.RowKit
set_option linter.unusedSimpArgs false
set_option linter.unusedVariables false
/-- Where the next token begins. -/
def bgn (s : ByteArray) : Nat → Nat → Nat
  | 0, a => a
  | f + 1, a => if rmk s (fnd (fun c => !blk c) s a) = true then bgn s f (fnd (fun c => decide (c = 10)) s (fnd (fun c => !blk c) s a)) else fnd (fun c => !blk c) s a
theorem pre_get {S p : ByteArray} {b : UInt8} (hp : p = ⟨#[b]⟩) (h : preB S p = true) : ∃ hs : 0 < S.size, S[0]'hs = b := by
  subst hp
  unfold preB at h
  have h1 : (ByteArray.mk #[b]).size = 1 := rfl
  have h2 : (ByteArray.mk #[b]).toList = [b] := by rw [ByteArray.toList_eq]
  rw [h1, h2] at h
  simp only [Bool.and_eq_true, decide_eq_true_eq, beq_iff_eq] at h
  have hs : 0 < S.size := by omega
  refine ⟨hs, ?_⟩
  have h3 := h.2
  rw [ByteArray.toList_eq, ByteArray.data_extract] at h3
  have h4 : S.data.size = S.size := rfl
  have : (S.data.extract 0 1).toList = [S.data[0]'(by omega)] := by
    apply List.ext_getElem
    · simp; omega
    · intro i h1 h2
      have : i = 0 := by simp at h2; omega
      subst this
      simp
  rw [this] at h3
  have h5 := List.head_eq_of_cons_eq h3
  exact h5
theorem rmk_go {s : ByteArray} {a : Nat} (ha : a ≤ s.size) (h : rmk s a = true) : a < fnd (fun c => decide (c = 10)) s a := by
  unfold rmk at h
  simp only [Bool.and_eq_true] at h
  obtain ⟨hs, hb⟩ := pre_get (b := 33) rfl h.1
  have hz : (s.extract a s.size).size = s.size - a := by rw [ByteArray.size_extract]; omega
  unfold fnd
  generalize s.extract a s.size = S at *
  obtain ⟨b', hb', hc⟩ := crs_go (s := S) (b := S.size) (pos := 0) hs (by omega)
  have hd := decode_ascii S 0 hs (by rw [hb]; decide)
  rw [hb] at hd
  rw [hc, hd]
  unfold fndL
  rw [if_neg (by decide)]
  have := fndL_ge (fun c => decide (c = 10)) a s.size S (by omega) b' (0 + 1) (by omega)
  show a < fndL (fun c => decide (c = 10)) a s.size (crs S b' (0 + 1))
  omega
set_option maxRecDepth 100000 in
set_option maxHeartbeats 1000000 in
theorem begin_any (s : ByteArray) (hs : s.size ≤ 1000000) (a f : Nat) (ha : a ≤ s.size) (hf : s.size - a < f) (w : World) : Calls Tryd.prog 49 #[.string s, .int .i64 (a : Int)] w fun e w' => e = .returned (.int .i64 (bgn s f a : Nat)) ∧ Only (fun _ => False) w w' := by
  have H1 : Hid (∀ a w, a ≤ s.size → Calls Tryd.prog 62 #[.string s, .int .i64 (a : Nat), .func (.func 63) #[] #[]] w fun e w' => e = .returned (.int .i64 (fnd (fun c => !blk c) s a : Nat)) ∧ Only (fun _ => False) w w') := fun a w ha => find_notblank s a ha hs w
  have H2 : Hid (∀ a w, a ≤ s.size → Calls Tryd.prog 62 #[.string s, .int .i64 (a : Nat), .func (.func 66) #[] #[]] w fun e w' => e = .returned (.int .i64 (fnd (fun c => decide (c = 10)) s a : Nat)) ∧ Only (fun _ => False) w w') := fun a w ha => find_newline s a ha hs w
  have H3 : Hid (∀ a w, a ≤ s.size → Calls Tryd.prog 65 #[.string s, .int .i64 (a : Nat)] w fun e w' => e = .returned (.bool (rmk s a)) ∧ Only (fun _ => False) w w') := fun a w ha => remarked_any s a ha hs w
  obtain ⟨Z, hZ⟩ : ∃ Z, Z = bgn s f a := ⟨_, rfl⟩
  have HZ : Hid (Z = bgn s f a ∧ s.size - a < f ∧ Only (fun _ => False) w w) := ⟨hZ, hf, Only.refl _ _⟩
  rw [← hZ]
  clear hZ hf
  go_enter Tryd.func49, Tryd.ntmps49
  go_wp2
  go_loopw [1] (fun x w' => ∃ (a f : Nat), x = .int .i64 (a : Nat) ∧ a ≤ s.size ∧ Hid (Z = bgn s f a ∧ s.size - a < f ∧ Only (fun _ => False) w w')) (fun x _ => s.size + 1 - uOf x)
  case atStart => exact ⟨a, f, rfl, ha, HZ.out⟩
  case round =>
    clear HZ ha
    obtain ⟨a, f, rfl, ha, HI⟩ := hrel
    obtain ⟨g, rfl⟩ : ∃ g, f = g + 1 := ⟨f - 1, by have := HI.out.2.1; omega⟩
    have C1 := H1.out a wr ha
    have l1 := fnd_le (fun c => !blk c) s ha
    have HB : Hid (Z = if rmk s (fnd (fun c => !blk c) s a) = true then bgn s g (fnd (fun c => decide (c = 10)) s (fnd (fun c => !blk c) s a)) else fnd (fun c => !blk c) s a) := HI.out.1
    obtain ⟨a1, ha1⟩ : ∃ a1, a1 = fnd (fun c => !blk c) s a := ⟨_, rfl⟩
    rw [← ha1] at C1 l1 HB
    clear ha1
    have HC1 : Hid (Calls Tryd.prog 62 _ _ _) := C1
    clear C1
    go_wp2_with fail
    refine (show Calls Tryd.prog 62 _ _ _ from HC1.out).mono ?_
    rintro e w1 ⟨rfl, o1⟩
    have O1 : Hid (Only (fun _ => False) w w1) := HI.out.2.2.trans o1 (fun _ _ g => g)
    have HG : Hid (s.size - a < g + 1) := HI.out.2.1
    have C2 := H3.out a1 w1 l1.2
    have HR : Hid (rmk s a1 = true → a1 < fnd (fun c => decide (c = 10)) s a1) := fun h => rmk_go l1.2 h
    clear HI HC1 o1
    cases hr : rmk s a1 with
    | false =>
      rw [hr] at C2
      have HE : Hid (Z = a1) := by rw [HB.out]; exact if_neg (by rw [hr]; simp)
      have HC2 : Hid (Calls Tryd.prog 65 _ _ _) := C2
      clear C2 HR HB hr
      go_wp2_with fail
      refine (show Calls Tryd.prog 65 _ _ _ from HC2.out).mono ?_
      rintro e w2 ⟨rfl, o2⟩
      have O2 : Hid (Only (fun _ => False) w w2) := O1.out.trans o2 (fun _ _ g => g)
      clear HC2 o2
      go_wp2
      go_ret
      exact ⟨by rw [show Z = a1 from HE.out]; rfl, O2.out⟩
    | true =>
      rw [hr] at C2
      have hlt := HR.out hr
      have l2 := fnd_le (fun c => decide (c = 10)) s l1.2
      have HE : Hid (Z = bgn s g (fnd (fun c => decide (c = 10)) s a1)) := by rw [HB.out]; exact if_pos hr
      have C3 := fun w => H2.out a1 w l1.2
      obtain ⟨a2, ha2⟩ : ∃ a2, a2 = fnd (fun c => decide (c = 10)) s a1 := ⟨_, rfl⟩
      rw [← ha2] at C3 hlt l2 HE
      have HC2 : Hid (Calls Tryd.prog 65 _ _ _) := C2
      have HC3 : Hid (∀ w, Calls Tryd.prog 62 _ _ _) := C3
      clear C2 C3 HR HB hr ha2
      go_wp2_with fail
      refine (show Calls Tryd.prog 65 _ _ _ from HC2.out).mono ?_
      rintro e w2 ⟨rfl, o2⟩
      have O2 : Hid (Only (fun _ => False) w w2) := O1.out.trans o2 (fun _ _ g => g)
      clear HC2 o2
      go_wp2_with fail
      refine (show Calls Tryd.prog 62 _ _ _ from HC3.out _).mono ?_
      rintro e w3 ⟨rfl, o3⟩
      have O3 : Hid (Only (fun _ => False) w w3) := O2.out.trans o3 (fun _ _ g => g)
      clear HC3 o3
      go_wp2
      go_roundw
      case rel => exact ⟨a2, g, rfl, l2.2, HE.out, by have : s.size - a < g + 1 := HG.out; omega, O3.out⟩
      case measure => simp only [uOf]; omega
end Go.Proofs.YtokponkokpdhiaaDoor
namespace Go.Proofs.YtokponkokpdhiaaDoor
open Go.RowKit
set_option linter.unusedSimpArgs false
set_option linter.unusedVariables false
def rpB : ByteArray := ⟨#[239, 191, 189]⟩
def stL (s : ByteArray) : List (Nat × Nat) → Nat
  | [] => s.size
  | (i, c) :: l => if c = 65533 ∧ preB (s.extract i s.size) rpB = false then i else stL s l
/-- The place of the first byte that belongs to no character, or the length. -/
def stR (s : ByteArray) : Nat := stL s (crs s s.size 0)
set_option maxRecDepth 100000 in
set_option maxHeartbeats 1000000 in
theorem stray_any (s : ByteArray) (hs : s.size ≤ 1000000000000) (w : World) : Calls Tryd.prog 48 #[.string s] w fun e w' => e = .returned (.int .i64 (stR s : Nat)) ∧ Only (fun _ => False) w w' := by
  have HP : Hid (∀ S w1, Calls Tryd.prog 61 #[.string S, .string rpB] w1 fun e w' => e = .returned (.bool (preB S rpB)) ∧ w' = w1) := fun S w1 => hasprefix_any S rpB w1
  obtain ⟨Z, hZ⟩ : ∃ Z, Z = stR s := ⟨_, rfl⟩
  have HZ : Hid (Z = stL s (crs s s.size 0)) := hZ
  rw [← hZ]
  clear hZ
  go_enter Tryd.func48, Tryd.ntmps48
  go_wp2
  go_loopw [2] (fun r w' => ∃ (pos b : Nat), w' = w.iter s pos ∧ r = .int .i64 0 ∧ Hid (Z = stL s (crs s b pos) ∧ s.size ≤ pos + b)) (fun _ w' => s.size - w'.iterPos w.heap.size)
  case atStart => exact ⟨0, s.size, rfl, rfl, HZ.out, by omega⟩
  case round =>
    obtain ⟨pos, b, rfl, rfl, HI⟩ := hrel
    clear HZ
    by_cases hp : pos < s.size
    · have hnx : ∀ ty, (Instr.next (.pointer (some ⟨w.heap.size, 0, none⟩)) true ty).run Tryd.prog (w.iter s pos) = _ := fun ty => run_next_any w s pos ty hp
      have hwd := wid_pos s pos hp
      obtain ⟨b', hb', hcr⟩ := crs_go hp HI.out.2
      have hdl := decode_le s pos
      obtain ⟨c, hc⟩ : ∃ c, c = (Utf8.decode s pos).1 := ⟨_, rfl⟩
      obtain ⟨wd, hw⟩ : ∃ c, c = (Utf8.decode s pos).2 := ⟨_, rfl⟩
      rw [← hc, ← hw] at hnx hcr
      rw [← hc] at hdl
      rw [← hw] at hwd
      have HZ2 : Hid (Z = stL s ((pos, c) :: crs s b' (pos + wd)) ∧ s.size ≤ pos + wd + b') := ⟨by rw [HI.out.1, hcr], by have := HI.out.2; omega⟩
      clear HI hc hw hcr hb'
      have OI : Hid (Only (fun _ => False) w (w.iter s (pos + wd))) := (Only.refl _ w).iter s _
      by_cases h3 : c = 65533
      · obtain ⟨S, hS⟩ : ∃ S, S = s.extract pos s.size := ⟨_, rfl⟩
        have hsl : ∀ W : World, (Instr.slice 9 (.string s) (some (.int .i64 (pos : Int))) none none).run Tryd.prog W = .ok (.string S) W := fun W => by
          rw [run_slice_string_l W 9 s Tryd.underlying9 _ _ (by omega) (by omega), hS]
          rfl
        have HC1 := HP.out S (w.iter s (pos + wd))
        cases hin : preB S rpB with
        | false =>
          rw [hin] at HC1
          have HE : Hid (Z = pos) := by rw [HZ2.out.1]; exact if_pos ⟨h3, by rw [← hS]; exact hin⟩
          have HC2 : Hid (Calls Tryd.prog 61 _ _ _) := HC1
          subst h3
          clear HZ2 hin HP HC1 hS
          go_wp2_with fail
          refine (show Calls Tryd.prog 61 _ _ _ from HC2.out).mono ?_
          rintro e wz ⟨rfl, rfl⟩
          clear HC2
          go_wp2
          go_ret
          exact ⟨by rw [show Z = pos from HE.out]; rfl, OI.out⟩
        | true =>
          rw [hin] at HC1
          have HN : Hid (Z = stL s (crs s b' (pos + wd)) ∧ s.size ≤ pos + wd + b') := ⟨by rw [HZ2.out.1]; exact if_neg (fun g => by rw [← hS, hin] at g; exact absurd g.2 (by simp)), HZ2.out.2⟩
          have HC2 : Hid (Calls Tryd.prog 61 _ _ _) := HC1
          subst h3
          clear HZ2 hin HC1 hS
          go_wp2_with fail
          refine (show Calls Tryd.prog 61 _ _ _ from HC2.out).mono ?_
          rintro e wz ⟨rfl, rfl⟩
          clear HC2
          go_wp2
          go_roundw
          case rel => exact ⟨pos + wd, b', rfl, rfl, HN.out⟩
          case measure => simp; omega
      · have i3 : ¬ (c : Int) = 65533 := by omega
        have HN : Hid (Z = stL s (crs s b' (pos + wd)) ∧ s.size ≤ pos + wd + b') := ⟨by rw [HZ2.out.1]; exact if_neg (fun g => h3 g.1), HZ2.out.2⟩
        clear HZ2
        go_wp2
        go_roundw
        case rel => exact ⟨pos + wd, b', rfl, rfl, HN.out⟩
        case measure => simp; omega
    · have hnx : ∀ ty, (Instr.next (.pointer (some ⟨w.heap.size, 0, none⟩)) true ty).run Tryd.prog (w.iter s pos) = _ := fun ty => run_next_end w s pos ty hp
      have HE : Hid (Z = s.size) := by rw [HI.out.1, crs_end hp]; rfl
      have OI : Hid (Only (fun _ => False) w (w.iter s pos)) := (Only.refl _ w).iter s _
      clear HI HP
      go_wp2
      go_ret
      exact ⟨by rw [show Z = s.size from HE.out]; rfl, OI.out⟩
end Go.Proofs.YtokponkokpdhiaaDoor
namespace Go.Proofs.YtokponkokpdhiaaDoor
open Go.RowKit
set_option linter.unusedSimpArgs false
set_option linter.unusedVariables false
/-- What a sign behind a backslash means. -/
def une (c : Nat) : Option Nat := if c = 110 then some 10 else if c = 34 ∨ c = 92 then some c else none
def uneV (o : Option Nat) : Value := match o with
  | some c => .tuple #[.int .i32 (c : Int), .bool true]
  | none => .tuple #[.int .i32 0, .bool false]
set_option maxRecDepth 100000 in
set_option maxHeartbeats 1000000 in
theorem unescape_any (c : Nat) (w : World) : Calls Tryd.prog 71 #[.int .i32 (c : Int)] w fun e w' => e = .returned (uneV (une c)) ∧ w' = w := by
  by_cases h1 : c = 110
  · subst h1
    rw [show une 110 = some 10 from rfl]
    go_enter Tryd.func71, Tryd.ntmps71
    go_wp2
    go_ret2
    exact ⟨rfl, rfl⟩
  · by_cases h2 : c = 34
    · subst h2
      rw [show une 34 = some 34 from rfl]
      go_enter Tryd.func71, Tryd.ntmps71
      go_wp2
      go_ret2
      exact ⟨rfl, rfl⟩
    · by_cases h3 : c = 92
      · subst h3
        rw [show une 92 = some 92 from rfl]
        go_enter Tryd.func71, Tryd.ntmps71
        go_wp2
        go_ret2
        exact ⟨rfl, rfl⟩
      · have e : une c = none := by
          unfold une
          rw [if_neg h1, if_neg (by omega)]
        rw [e]
        have i1 : ¬ (c : Int) = 110 := by omega
        have i2 : ¬ (c : Int) = 34 := by omega
        have i3 : ¬ (c : Int) = 92 := by omega
        go_enter Tryd.func71, Tryd.ntmps71
        go_wp2
        go_ret2
        exact ⟨rfl, rfl⟩
end Go.Proofs.YtokponkokpdhiaaDoor
namespace Go.Proofs
open Go.Shelf
def Tryd.lays170_ren : Go.Shelf.Ren := ⟨fun | 170 => 73 | n => n, fun | 70 => 128 | 3 => 3 | 0 => 0 | 72 => 131 | 37 => 129 | 5 => 5 | n => n, fun | n => n⟩
theorem Tryd.lays170 : Go.Proofs.Lays.n170 Tryd.prog Tryd.lays170_ren := {
  mixed := by kernel_rfl
  f170 := Tryd.func73.trans (congrArg some (by kernel_rfl))
  t0 := Tryd.underlying0
  a0 := Tryd.isAgg0
  z0 := Tryd.sizeOf0
  v0 := Tryd.zeroValue0
  t3 := Tryd.underlying3
  a3 := Tryd.isAgg3
  z3 := Tryd.sizeOf3
  v3 := Tryd.zeroValue3
  t37 := Tryd.underlying129
  a37 := Tryd.isAgg129
  z37 := Tryd.sizeOf129
  v37 := Tryd.zeroValue129
  t70 := Tryd.underlying128
  a70 := Tryd.isAgg128
  z70 := Tryd.sizeOf128
  v70 := Tryd.zeroValue128
  t72 := Tryd.underlying131
  a72 := Tryd.isAgg131
  z72 := Tryd.sizeOf131
  v72 := Tryd.zeroValue131 }
open Go.RowKit in
/-- (*strings.Builder).Len: "Len returns the number of accumulated bytes; b.Len() == len(b.String()).": the world is as it was. (LAID: no walk: one application.) -/
theorem Tryd.Builder_Len (B b : Nat) (bs : List Value) (w : World) (h : Lib.IsBuilder 131 5 B b bs w) :
    Calls Tryd.prog 73 #[.pointer (some ⟨b, 0, none⟩)] w fun e w' => e = .returned (.int .i64 bs.length) ∧ w' = w := Any.Builder_Len Tryd.lays170 B b bs w h
def Tryd.lays169_ren : Go.Shelf.Ren := ⟨fun | 169 => 74 | n => n, fun | 70 => 128 | 9 => 9 | 0 => 0 | 72 => 131 | 37 => 129 | 127 => 142 | 3 => 3 | 5 => 5 | n => n, fun | n => n⟩
theorem Tryd.lays169 : Go.Proofs.Lays.n169 Tryd.prog Tryd.lays169_ren := {
  mixed := by kernel_rfl
  f169 := Tryd.func74.trans (congrArg some (by kernel_rfl))
  t0 := Tryd.underlying0
  a0 := Tryd.isAgg0
  z0 := Tryd.sizeOf0
  v0 := Tryd.zeroValue0
  t3 := Tryd.underlying3
  a3 := Tryd.isAgg3
  z3 := Tryd.sizeOf3
  v3 := Tryd.zeroValue3
  t9 := Tryd.underlying9
  a9 := Tryd.isAgg9
  z9 := Tryd.sizeOf9
  v9 := Tryd.zeroValue9
  t37 := Tryd.underlying129
  a37 := Tryd.isAgg129
  z37 := Tryd.sizeOf129
  v37 := Tryd.zeroValue129
  t70 := Tryd.underlying128
  a70 := Tryd.isAgg128
  z70 := Tryd.sizeOf128
  v70 := Tryd.zeroValue128
  t72 := Tryd.underlying131
  a72 := Tryd.isAgg131
  z72 := Tryd.sizeOf131
  v72 := Tryd.zeroValue131
  t127 := Tryd.underlying142
  a127 := Tryd.isAgg142
  z127 := Tryd.sizeOf142
  v127 := Tryd.zeroValue142 }
theorem Tryd.Builder_Extra_169 : Builder.Extra Tryd.prog Tryd.lays169_ren := {
  sizeBuilder := by kernel_rfl
  liesBuilder := by kernel_rfl
  t5 := Tryd.underlying5
  a5 := Tryd.isAgg5
  z5 := Tryd.sizeOf5
  v5 := Tryd.zeroValue5
  infoByte := by kernel_rfl
  cellsByte := by kernel_rfl
  sizeByte := by kernel_rfl
  neB5 := by decide }
open Go.RowKit in
/-- (*strings.Builder).String: "String returns the accumulated string.": OF A BUILDER THAT HOLDS AT LEAST ONE BYTE. ✋ THE MODEL FREEZES THOSE BYTES IN THE BUFFER (unsafe.String): a later write INTO them ends the model's run without an answer; a later append BEHIND them goes on. The statement's order of evaluation is drawn: one draw. (LAID: no walk: one application.) -/
theorem Tryd.Builder_String (B b : Nat) (l : List UInt8) (w : World) (h : Lib.IsBuilder 131 5 B b (Lib.byteCells l) w) (h0 : l ≠ []) :
    Calls Tryd.prog 74 #[.pointer (some ⟨b, 0, none⟩)] w fun e w' => e = .returned (.string ⟨l.toArray⟩) ∧ Below B w w' := Any.Builder_String Tryd.lays169 Tryd.Builder_Extra_169 B b l w h h0
open Go.RowKit in
/-- (*strings.Builder).String OF A BUILDER THAT HOLDS NO BYTE: the empty string. (Its buffer is nil, or a row of which it has taken nothing yet; where that row has NO capacity the model lays one new block for unsafe.SliceData's 'some address'.) One draw. (LAID: no walk: one application.) -/
theorem Tryd.Builder_String_empty (B b : Nat) (w : World) (h : Lib.IsBuilder 131 5 B b [] w) (hBw : B ≤ w.heap.size) :
    Calls Tryd.prog 74 #[.pointer (some ⟨b, 0, none⟩)] w fun e w' => e = .returned (.string ⟨#[]⟩) ∧ Below B w w' := Any.Builder_String_empty Tryd.lays169 Tryd.Builder_Extra_169 B b w h hBw
open Go.RowKit in
/-- (*strings.Builder).String: "String returns the accumulated string.": WHATEVER THE BUILDER HOLDS. (LAID: no walk: one application.) -/
theorem Tryd.Builder_String_any (B b : Nat) (l : List UInt8) (w : World) (h : Lib.IsBuilder 131 5 B b (Lib.byteCells l) w) (hBw : B ≤ w.heap.size) :
    Calls Tryd.prog 74 #[.pointer (some ⟨b, 0, none⟩)] w fun e w' => e = .returned (.string ⟨l.toArray⟩) ∧ Below B w w' := Any.Builder_String_any Tryd.lays169 Tryd.Builder_Extra_169 B b l w h hBw
open Go.RowKit in
/-- (*strings.Builder).Len: "Len returns the number of accumulated bytes; b.Len() == len(b.String()).": the world is as it was. (THE FORM '_f': 'Lib.IsBuilderF'.) (LAID: no walk: one application.) -/
theorem Tryd.Builder_Len_f (B b : Nat) (bs : List Value) (w : World) (h : Lib.IsBuilderF 131 5 B b bs w) :
    Calls Tryd.prog 73 #[.pointer (some ⟨b, 0, none⟩)] w fun e w' => e = .returned (.int .i64 bs.length) ∧ w' = w := Any.Builder_Len_f Tryd.lays170 B b bs w h
open Go.RowKit in
/-- (*strings.Builder).String: "String returns the accumulated string.": OF A BUILDER THAT HOLDS AT LEAST ONE BYTE. ✋ THE MODEL FREEZES THOSE BYTES IN THE BUFFER (unsafe.String): a later write INTO them ends the model's run without an answer; a later append BEHIND them goes on. The statement's order of evaluation is drawn: one draw. THE FORM '_f': IT SAYS BESIDES THAT THE BUILDER IS A BUILDER STILL ('Lib.IsBuilderF', the same bytes): SO IT CAN BE WRITTEN ON: 'b.WriteString(b.String()[:k])'. (LAID: no walk: one application.) -/
theorem Tryd.Builder_String_f (B b : Nat) (l : List UInt8) (w : World) (h : Lib.IsBuilderF 131 5 B b (Lib.byteCells l) w) (h0 : l ≠ []) :
    Calls Tryd.prog 74 #[.pointer (some ⟨b, 0, none⟩)] w fun e w' => e = .returned (.string ⟨l.toArray⟩) ∧ (Lib.IsBuilderF 131 5 B b (Lib.byteCells l) w' ∧ Below B w w') := Any.Builder_String_f Tryd.lays169 Tryd.Builder_Extra_169 B b l w h h0
open Go.RowKit in
/-- (*strings.Builder).String OF A BUILDER THAT HOLDS NO BYTE: the empty string; THE FORM '_f': a builder still. (LAID: no walk: one application.) -/
theorem Tryd.Builder_String_empty_f (B b : Nat) (w : World) (h : Lib.IsBuilderF 131 5 B b [] w) (hBw : B ≤ w.heap.size) :
    Calls Tryd.prog 74 #[.pointer (some ⟨b, 0, none⟩)] w fun e w' => e = .returned (.string ⟨#[]⟩) ∧ (Lib.IsBuilderF 131 5 B b [] w' ∧ Below B w w') := Any.Builder_String_empty_f Tryd.lays169 Tryd.Builder_Extra_169 B b w h hBw
open Go.RowKit in
/-- (*strings.Builder).String: "String returns the accumulated string.": WHATEVER THE BUILDER HOLDS; THE FORM '_f': OF A BUILDER THAT MAY HAVE BEEN READ BEFORE; AND IT IS A BUILDER STILL, holding the same bytes: it can be written on. (LAID: no walk: one application.) -/
theorem Tryd.Builder_String_any_f (B b : Nat) (l : List UInt8) (w : World) (h : Lib.IsBuilderF 131 5 B b (Lib.byteCells l) w) (hBw : B ≤ w.heap.size) :
    Calls Tryd.prog 74 #[.pointer (some ⟨b, 0, none⟩)] w fun e w' => e = .returned (.string ⟨l.toArray⟩) ∧ (Lib.IsBuilderF 131 5 B b (Lib.byteCells l) w' ∧ Below B w w') := Any.Builder_String_any_f Tryd.lays169 Tryd.Builder_Extra_169 B b l w h hBw
open Go.RowKit in
/-- (*strings.Builder).String: "String returns the accumulated string.": OF A BUILDER THAT HOLDS AT LEAST ONE BYTE. ✋ THE MODEL FREEZES THOSE BYTES IN THE BUFFER (unsafe.String): a later write INTO them ends the model's run without an answer; a later append BEHIND them goes on. The statement's order of evaluation is drawn: one draw. THE FORM '_k': OVER 'Lib.IsBuilderF' (a builder that 'String()' may have read), AND WITH THE FRAME THAT REACHES ABOVE THE BUILDER: 'Lib.OthersKept': every block that is not b and is no row of uint8's stands as it stood: the iterator of a range among them. (LAID: no walk: one application.) -/
theorem Tryd.Builder_String_k (B b : Nat) (l : List UInt8) (w : World) (h : Lib.IsBuilderF 131 5 B b (Lib.byteCells l) w) (h0 : l ≠ []) :
    Calls Tryd.prog 74 #[.pointer (some ⟨b, 0, none⟩)] w fun e w' => e = .returned (.string ⟨l.toArray⟩) ∧ (Lib.IsBuilderF 131 5 B b (Lib.byteCells l) w' ∧ Below B w w' ∧ Lib.OthersKept 5 (some b) w w') := Any.Builder_String_k Tryd.lays169 Tryd.Builder_Extra_169 B b l w h h0
open Go.RowKit in
/-- (*strings.Builder).String OF A BUILDER THAT HOLDS NO BYTE: the empty string; THE FORM '_k': OVER 'Lib.IsBuilderF' (a builder that 'String()' may have read), AND WITH THE FRAME THAT REACHES ABOVE THE BUILDER: 'Lib.OthersKept': every block that is not b and is no row of uint8's stands as it stood: the iterator of a range among them. (LAID: no walk: one application.) -/
theorem Tryd.Builder_String_empty_k (B b : Nat) (w : World) (h : Lib.IsBuilderF 131 5 B b [] w) (hBw : B ≤ w.heap.size) :
    Calls Tryd.prog 74 #[.pointer (some ⟨b, 0, none⟩)] w fun e w' => e = .returned (.string ⟨#[]⟩) ∧ (Lib.IsBuilderF 131 5 B b [] w' ∧ Below B w w' ∧ Lib.OthersKept 5 (some b) w w') := Any.Builder_String_empty_k Tryd.lays169 Tryd.Builder_Extra_169 B b w h hBw
open Go.RowKit in
/-- (*strings.Builder).String: "String returns the accumulated string.": WHATEVER THE BUILDER HOLDS; THE FORM '_k': OVER 'Lib.IsBuilderF' (a builder that 'String()' may have read), AND WITH THE FRAME THAT REACHES ABOVE THE BUILDER: 'Lib.OthersKept': every block that is not b and is no row of uint8's stands as it stood: the iterator of a range among them. (LAID: no walk: one application.) -/
theorem Tryd.Builder_String_any_k (B b : Nat) (l : List UInt8) (w : World) (h : Lib.IsBuilderF 131 5 B b (Lib.byteCells l) w) (hBw : B ≤ w.heap.size) :
    Calls Tryd.prog 74 #[.pointer (some ⟨b, 0, none⟩)] w fun e w' => e = .returned (.string ⟨l.toArray⟩) ∧ (Lib.IsBuilderF 131 5 B b (Lib.byteCells l) w' ∧ Below B w w' ∧ Lib.OthersKept 5 (some b) w w') := Any.Builder_String_any_k Tryd.lays169 Tryd.Builder_Extra_169 B b l w h hBw
def Tryd.laysM316_ren : Go.Shelf.Ren := ⟨fun | 316 => 80 | n => n, fun | 9 => 9 | 3 => 3 | 4 => 4 | 37 => 129 | 0 => 0 | 127 => 142 | 5 => 5 | n => n, fun | n => n⟩
theorem Tryd.laysM316 : Go.Proofs.LaysM.n316 Tryd.prog Tryd.laysM316_ren := {
  mixed := by kernel_rfl
  f316 := Tryd.func80.trans (congrArg some (by kernel_rfl))
  t0 := Tryd.underlying0
  a0 := Tryd.isAgg0
  z0 := Tryd.sizeOf0
  v0 := Tryd.zeroValue0
  t3 := Tryd.underlying3
  a3 := Tryd.isAgg3
  z3 := Tryd.sizeOf3
  v3 := Tryd.zeroValue3
  t4 := Tryd.underlying4
  a4 := Tryd.isAgg4
  z4 := Tryd.sizeOf4
  v4 := Tryd.zeroValue4
  t9 := Tryd.underlying9
  a9 := Tryd.isAgg9
  z9 := Tryd.sizeOf9
  v9 := Tryd.zeroValue9
  t37 := Tryd.underlying129
  a37 := Tryd.isAgg129
  z37 := Tryd.sizeOf129
  v37 := Tryd.zeroValue129
  t127 := Tryd.underlying142
  a127 := Tryd.isAgg142
  z127 := Tryd.sizeOf142
  v127 := Tryd.zeroValue142
  t5 := Tryd.underlying5
  a5 := Tryd.isAgg5
  z5 := Tryd.sizeOf5
  v5 := Tryd.zeroValue5
  i0 := by kernel_rfl
  i3 := by kernel_rfl
  i4 := by kernel_rfl
  i5 := by kernel_rfl
  i9 := by kernel_rfl
  i37 := by kernel_rfl
  i127 := by kernel_rfl }
open Go.RowKit in
/-- internal/stringslite.Clone (what strings.Clone calls): "Clone returns a fresh copy of s.": THE SAME BYTES. Of what was there nothing has turned (a new row is laid, and frozen, where s is not empty). (LAID: no walk: one application.) -/
theorem Tryd.stringslite_Clone (s : ByteArray) (w : World) (hlim : s.size ≤ 281474976710656) :
    Calls Tryd.prog 80 #[.string s] w fun e w' => e = .returned (.string s) ∧ Below w.heap.size w w' := Any.stringslite_Clone Tryd.laysM316 s w hlim
end Go.Proofs
namespace Go.Proofs.YtokponkokpdhiaaDoor
open Go.RowKit
set_option linter.unusedSimpArgs false
set_option linter.unusedVariables false
set_option maxRecDepth 100000 in
theorem clone_any (s : ByteArray) (w : World) (hs : s.size ≤ 281474976710656) : Calls Tryd.prog 75 #[.string s] w fun e w' => e = .returned (.string s) ∧ Below w.heap.size w w' := by
  have H : Hid (Calls Tryd.prog 80 #[.string s] w fun e w' => e = .returned (.string s) ∧ Below w.heap.size w w') := Tryd.stringslite_Clone s w hs
  go_enter Tryd.func75, Tryd.ntmps75
  go_wp2_with fail
  refine (show Calls Tryd.prog 80 _ _ _ from H.out).mono ?_
  rintro e w1 ⟨rfl, b⟩
  have HB : Hid (Below w.heap.size w w1) := b
  clear H b
  go_wp2
  go_ret
  exact ⟨rfl, HB.out⟩
end Go.Proofs.YtokponkokpdhiaaDoor
