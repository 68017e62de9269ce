/- The digits of a number: decimal. LexNumbers: the law. LexNumbers: the walk. Blanks, and the first character that is wanted: blank, begin's two functions, find, wordEnd. The first character that is wanted: find. wordEnd, remarked, stray. begin, stray. stray. unescape. -/
import Derived.Test.YtfecmpebnianpaaGreatDoorGaa
import Derived.Laws.IdiomStrings
import Derived.Laws.Concat
import Derived.Laws.Runes
namespace Go.Proofs.YtfecmpebnianpaaGreatDoor
open Go.RowKit
set_option linter.unusedSimpArgs false
set_option linter.unusedVariables false
theorem val_go : ∀ (ds : List Nat) (a : Nat), ds.foldl (fun n d => n * 10 + d) a = a * 10 ^ ds.length + valX ds := by
  intro ds
  induction ds with
  | nil => intro a; simp [valX]
  | cons d ds ih =>
    intro a
    unfold valX
    rw [List.foldl_cons, List.foldl_cons, ih, ih, List.length_cons, Nat.pow_succ, Nat.add_mul, Nat.zero_mul, Nat.zero_add, Nat.add_assoc, Nat.mul_assoc, Nat.mul_comm 10]
theorem val_cons (d : Nat) (ds : List Nat) : valX (d :: ds) = d * 10 ^ ds.length + valX ds := by
  have := val_go ds (0 * 10 + d)
  rw [Nat.zero_mul, Nat.zero_add] at this
  rw [← this]
  unfold valX
  rw [List.foldl_cons, Nat.zero_mul, Nat.zero_add]
theorem mk_size (ds : List Nat) : (∀ d ∈ ds, d < 10) → (mkS (ds.map (48 + ·))).size = ds.length := by
  intro h
  unfold mkS
  rw [size_mk]
  induction ds with
  | nil => rfl
  | cons d ds ih =>
    unfold encL
    rw [List.map_cons, List.flatMap_cons, enc48 (h d (List.mem_cons_self ..)), List.length_append, List.length_cons]
    have := ih (fun x hx => h x (List.mem_cons_of_mem _ hx))
    unfold encL at this
    rw [this]
    simp
    omega
/-- The digits under way: u is still to be laid. -/
structure Dg (U u : Nat) (ds : List Nat) : Prop where
  lt : ∀ d ∈ ds, d < 10
  sum : u * 10 ^ ds.length + valX ds = U
  len : ds.length ≤ 20
  room : u < 10 ^ (20 - ds.length)
theorem Dg.none {U : Nat} (h : U < 100000000000000000000) : Dg U U [] := ⟨by simp, by simp [valX], by simp, by simpa using h⟩
theorem Dg.more {U u : Nat} {ds : List Nat} (h : Dg U u ds) (hu : 0 < u ∨ ds = []) : Dg U (u / 10) (u % 10 :: ds) := by
  have hl : ds.length < 20 := by
    rcases hu with hu | rfl
    · rcases Nat.lt_or_ge ds.length 20 with g | g
      · exact g
      · have := h.room
        rw [show 20 - ds.length = 0 by omega] at this
        simp at this
        omega
    · simp
  refine ⟨?_, ?_, by rw [List.length_cons]; omega, ?_⟩
  · intro d hd
    rcases List.mem_cons.1 hd with rfl | hd
    · exact Nat.mod_lt _ (by omega)
    · exact h.lt d hd
  · rw [val_cons, List.length_cons, Nat.pow_succ, ← Nat.add_assoc, ← h.sum, Nat.mul_comm (10 ^ ds.length) 10, ← Nat.mul_assoc, ← Nat.add_mul]
    congr 2
    omega
  · rw [List.length_cons]
    have := h.room
    rw [show 20 - ds.length = (20 - (ds.length + 1)) + 1 by omega, Nat.pow_succ] at this
    exact Nat.div_lt_of_lt_mul (by rw [Nat.mul_comm]; exact this)
theorem Dg.size {U u : Nat} {ds : List Nat} (h : Dg U u ds) : (mkS (ds.map (48 + ·))).size ≤ 20 := by
  rw [mk_size ds h.lt]; exact h.len
def uOf : Value → Nat
  | .int _ m => m.toNat
  | _ => 0
end Go.Proofs.YtfecmpebnianpaaGreatDoor
namespace Go.Proofs.YtfecmpebnianpaaGreatDoor
open Go.RowKit
set_option linter.unusedSimpArgs false
set_option linter.unusedVariables false
/-- Digits with the number that they are. -/
structure Ds (N : Nat) (k : Nat) (ds : List Nat) : Prop where
  lt : ∀ d ∈ ds, d < 10
  val : valX ds = N
  ne : ds ≠ []
  len : ds.length ≤ 20 + k
theorem Ds.nought {N k : Nat} {ds : List Nat} (h : Ds N k ds) : Ds N (k + 1) (0 :: ds) :=
  ⟨fun d hd => by
    rcases List.mem_cons.1 hd with rfl | hd
    · omega
    · exact h.lt d hd, by rw [val_cons, Nat.zero_mul, Nat.zero_add, h.val], by simp, by rw [List.length_cons]; have := h.len; omega⟩
theorem Dg.ds {N : Nat} {ds : List Nat} (h : Dg N 0 ds) (hne : ds ≠ []) : Ds N 0 ds := ⟨h.lt, by have := h.sum; rw [Nat.zero_mul, Nat.zero_add] at this; exact this, hne, h.len⟩
theorem add_str (P : Program) (W : World) {a b c : ByteArray} (h1 : a ++ b = c) (h2 : a.size ≤ 1000000) (h3 : b.size ≤ 1000000) : (Op.stringOp .add a b).run P W = .ok (.string c) W := by
  rw [run_string_add_sum W a b (by omega), h1]
/-- What the law asks of the digits. -/
structure Asks (n : Int) (ds : List Nat) (R : Int × Int) : Prop where
  r1 : numR (mnB (decide (n < 0)) ++ mkS (ds.map (48 + ·))) = R
  r2 : numR (mnB (decide (n < 0)) ++ mkS (ds.map (1632 + ·))) = R
  r3 : numR (mnB (decide (n < 0)) ++ mkS (ds.map (65296 + ·))) = R
  r4 : (numR (mnB (decide (n < 0)) ++ mkS (ds.map (1632 + ·) ++ [48]))).2 = 9
  n1 : nameB (mnB (decide (n < 0)) ++ mkS (ds.map (48 + ·))) = false
  n3 : nameB (mnB (decide (n < 0)) ++ mkS (ds.map (65296 + ·))) = false
theorem Ds.asks {n : Int} {k : Nat} {ds : List Nat} (h : Ds n.natAbs k ds) (h1 : -9223372036854775808 ≤ n) (h2 : n ≤ 9223372036854775807) :
    ((-1152921504606846976 ≤ n ∧ n ≤ 1152921504606846975) → Asks n ds (n, 0)) ∧ (¬ (-1152921504606846976 ≤ n ∧ n ≤ 1152921504606846975) → Asks n ds (0, 11)) := by
  have hv := val_fits h.lt
  rw [h.val] at hv
  have hf := numD_fits h1 h2 hv
  refine ⟨fun g => ?_, fun g => ?_⟩
  · have e := hf.1 g
    exact ⟨by rw [num_word _ (.inl rfl) h.lt h.ne, e], by rw [num_word _ (.inr (.inl rfl)) h.lt h.ne, e], by rw [num_word _ (.inr (.inr rfl)) h.lt h.ne, e], num_mixed _ h.lt h.ne, name_word _ (.inl rfl) h.lt h.ne, name_word _ (.inr (.inr rfl)) h.lt h.ne⟩
  · have e := hf.2 g
    exact ⟨by rw [num_word _ (.inl rfl) h.lt h.ne, e], by rw [num_word _ (.inr (.inl rfl)) h.lt h.ne, e], by rw [num_word _ (.inr (.inr rfl)) h.lt h.ne, e], num_mixed _ h.lt h.ne, name_word _ (.inl rfl) h.lt h.ne, name_word _ (.inr (.inr rfl)) h.lt h.ne⟩
end Go.Proofs.YtfecmpebnianpaaGreatDoor
namespace Go.Proofs.YtfecmpebnianpaaGreatDoor
open Go.RowKit
set_option linter.unusedSimpArgs false
set_option linter.unusedVariables false
end Go.Proofs.YtfecmpebnianpaaGreatDoor
namespace Go.Proofs.YtfecmpebnianpaaGreatDoor
open Go.RowKit
set_option linter.unusedSimpArgs false
set_option linter.unusedVariables false
set_option maxRecDepth 100000 in
theorem notblank_any (c : Nat) (w : World) : Calls Tryz.prog 144 #[.int .i32 (c : Int)] w fun e w' => e = .returned (.bool (!blk c)) ∧ w' = w := by
  have HB : Hid (Calls Tryz.prog 121 #[.int .i32 (c : Int)] w fun e w' => e = .returned (.bool (blk c)) ∧ w' = w) := blank_any c w
  obtain ⟨b, hb⟩ : ∃ b, b = blk c := ⟨_, rfl⟩
  rw [← hb] at HB ⊢
  clear hb
  go_enter Tryz.func144, Tryz.ntmps144
  go_wp2_with fail
  refine (show Calls Tryz.prog 121 _ _ _ from HB.out).mono ?_
  rintro e wz ⟨rfl, rfl⟩
  clear HB
  go_wp2
  go_ret
  exact ⟨rfl, rfl⟩
set_option maxRecDepth 100000 in
theorem newline_any (c : Nat) (w : World) : Calls Tryz.prog 146 #[.int .i32 (c : Int)] w fun e w' => e = .returned (.bool (decide (c = 10))) ∧ w' = w := by
  have e : ((c : Int) == 10) = decide (c = 10) := by
    by_cases h : c = 10
    · subst h; rfl
    · have : ¬ (c : Int) = 10 := by omega
      simp [h, this]
  rw [← e]
  clear e
  go_enter Tryz.func146, Tryz.ntmps146
  go_wp2
  go_ret
  exact ⟨rfl, rfl⟩
end Go.Proofs.YtfecmpebnianpaaGreatDoor
namespace Go.Proofs.YtfecmpebnianpaaGreatDoor
open Go.RowKit
set_option linter.unusedSimpArgs false
set_option linter.unusedVariables false
def fndL (p : Nat → Bool) (a n : Nat) : List (Nat × Nat) → Nat
  | [] => n
  | (i, c) :: l => if p c = true then a + i else fndL p a n l
/-- The place of the first character that p wants, from a on, or the text's length. -/
def fnd (p : Nat → Bool) (s : ByteArray) (a : Nat) : Nat := fndL p a s.size (crs (s.extract a s.size) (s.extract a s.size).size 0)
set_option maxRecDepth 100000 in
set_option maxHeartbeats 1000000 in
theorem find_blank (s : ByteArray) (a : Nat) (ha : a ≤ s.size) (hs : s.size ≤ 1000000) (w : World) :
    Calls Tryz.prog 143 #[.string s, .int .i64 (a : Int), .func (.func 121) #[] #[]] w fun e w' => e = .returned (.int .i64 (fnd (fun c => blk c) s a : Nat)) ∧ Only (fun _ => False) w w' := by
  have HC : Hid (∀ (c : Nat) w1, Calls Tryz.prog 121 #[.int .i32 (c : Int)] w1 fun e w' => e = .returned (.bool (blk c)) ∧ w' = w1) := fun c w1 => blank_any c w1
  unfold fnd
  obtain ⟨S, hS⟩ : ∃ S, S = s.extract a s.size := ⟨_, rfl⟩
  have hsl : ∀ W : World, (Instr.slice 9 (.string s) (some (.int .i64 (a : Int))) none none).run Tryz.prog W = .ok (.string S) W := fun W => by
    rw [run_slice_string_l W 9 s Tryz.underlying9 _ _ (by omega) (by omega), hS]
    rfl
  have hsz : S.size = s.size - a := by rw [hS, ByteArray.size_extract]; omega
  rw [← hS]
  clear hS
  obtain ⟨Z, hZ⟩ : ∃ Z, Z = fndL (fun c => blk c) a s.size (crs S S.size 0) := ⟨_, rfl⟩
  have HZ : Hid (Z = fndL (fun c => blk c) a s.size (crs S S.size 0)) := hZ
  rw [← hZ]
  clear hZ
  go_enter Tryz.func143, Tryz.ntmps143
  go_wp2
  go_loopw [6] (fun r w' => ∃ (pos b : Nat), w' = w.iter S pos ∧ r = .int .i64 0 ∧ Hid (Z = fndL (fun c => blk c) a s.size (crs S b pos) ∧ S.size ≤ pos + b)) (fun _ w' => S.size - w'.iterPos w.heap.size)
  case atStart => exact ⟨0, S.size, rfl, rfl, HZ.out, by omega⟩
  case round =>
    obtain ⟨pos, b, rfl, rfl, HI⟩ := hrel
    clear HZ
    by_cases hp : pos < S.size
    · have hnx : ∀ ty, (Instr.next (.pointer (some ⟨w.heap.size, 0, none⟩)) true ty).run Tryz.prog (w.iter S pos) = _ := fun ty => run_next_any w S pos ty hp
      have hwd := wid_pos S pos hp
      obtain ⟨b', hb', hcr⟩ := crs_go hp HI.out.2
      have hdl := decode_le S pos
      obtain ⟨c, hc⟩ : ∃ c, c = (Utf8.decode S pos).1 := ⟨_, rfl⟩
      obtain ⟨wd, hw⟩ : ∃ c, c = (Utf8.decode S pos).2 := ⟨_, rfl⟩
      rw [← hc, ← hw] at hnx hcr
      rw [← hc] at hdl
      rw [← hw] at hwd
      have HZ2 : Hid (Z = fndL (fun c => blk c) a s.size ((pos, c) :: crs S b' (pos + wd)) ∧ S.size ≤ pos + wd + b') := ⟨by rw [HI.out.1, hcr], by have := HI.out.2; omega⟩
      clear HI hc hw hcr hb'
      have OI : Hid (Only (fun _ => False) w (w.iter S (pos + wd))) := (Only.refl _ w).iter S _
      have HC1 : Hid (Calls Tryz.prog 121 #[.int .i32 (c : Int)] (w.iter S (pos + wd)) fun e w' => e = .returned (.bool (blk c)) ∧ w' = w.iter S (pos + wd)) := HC.out _ _
      cases hin : (blk c) with
      | true =>
        rw [hin] at HC1
        have HE : Hid (Z = a + pos) := by rw [HZ2.out.1]; exact if_pos hin
        clear HZ2 hin HC
        go_wp2_with (go_at_call 121; refine (show Calls Tryz.prog 121 _ _ _ from HC1.out).mono ?_; rintro e wz ⟨rfl, rfl⟩)
        go_ret
        exact ⟨congrArg (fun z : Nat => Ending.returned (.int .i64 (z : Int))) (show a + pos = Z from HE.out.symm), OI.out⟩
      | false =>
        rw [hin] at HC1
        have HN : Hid (Z = fndL (fun c => blk c) a s.size (crs S b' (pos + wd)) ∧ S.size ≤ pos + wd + b') := ⟨by rw [HZ2.out.1]; exact if_neg (by show ¬ (blk c) = true; rw [hin]; simp), HZ2.out.2⟩
        clear HZ2 hin
        go_wp2_with (go_at_call 121; refine (show Calls Tryz.prog 121 _ _ _ from HC1.out).mono ?_; rintro e wz ⟨rfl, rfl⟩)
        go_roundw
        case rel => exact ⟨pos + wd, b', rfl, rfl, HN.out⟩
        case measure => simp; omega
    · have hnx : ∀ ty, (Instr.next (.pointer (some ⟨w.heap.size, 0, none⟩)) true ty).run Tryz.prog (w.iter S pos) = _ := fun ty => run_next_end w S pos ty hp
      have HE : Hid (Z = s.size) := by rw [HI.out.1, crs_end hp]; rfl
      have OI : Hid (Only (fun _ => False) w (w.iter S pos)) := (Only.refl _ w).iter S _
      clear HI HC
      go_wp2
      go_ret
      exact ⟨by rw [show Z = s.size from HE.out]; rfl, OI.out⟩
set_option maxRecDepth 100000 in
set_option maxHeartbeats 1000000 in
theorem find_notblank (s : ByteArray) (a : Nat) (ha : a ≤ s.size) (hs : s.size ≤ 1000000) (w : World) :
    Calls Tryz.prog 143 #[.string s, .int .i64 (a : Int), .func (.func 144) #[] #[]] w fun e w' => e = .returned (.int .i64 (fnd (fun c => !blk c) s a : Nat)) ∧ Only (fun _ => False) w w' := by
  have HC : Hid (∀ (c : Nat) w1, Calls Tryz.prog 144 #[.int .i32 (c : Int)] w1 fun e w' => e = .returned (.bool (!blk c)) ∧ w' = w1) := fun c w1 => notblank_any c w1
  unfold fnd
  obtain ⟨S, hS⟩ : ∃ S, S = s.extract a s.size := ⟨_, rfl⟩
  have hsl : ∀ W : World, (Instr.slice 9 (.string s) (some (.int .i64 (a : Int))) none none).run Tryz.prog W = .ok (.string S) W := fun W => by
    rw [run_slice_string_l W 9 s Tryz.underlying9 _ _ (by omega) (by omega), hS]
    rfl
  have hsz : S.size = s.size - a := by rw [hS, ByteArray.size_extract]; omega
  rw [← hS]
  clear hS
  obtain ⟨Z, hZ⟩ : ∃ Z, Z = fndL (fun c => !blk c) a s.size (crs S S.size 0) := ⟨_, rfl⟩
  have HZ : Hid (Z = fndL (fun c => !blk c) a s.size (crs S S.size 0)) := hZ
  rw [← hZ]
  clear hZ
  go_enter Tryz.func143, Tryz.ntmps143
  go_wp2
  go_loopw [6] (fun r w' => ∃ (pos b : Nat), w' = w.iter S pos ∧ r = .int .i64 0 ∧ Hid (Z = fndL (fun c => !blk c) a s.size (crs S b pos) ∧ S.size ≤ pos + b)) (fun _ w' => S.size - w'.iterPos w.heap.size)
  case atStart => exact ⟨0, S.size, rfl, rfl, HZ.out, by omega⟩
  case round =>
    obtain ⟨pos, b, rfl, rfl, HI⟩ := hrel
    clear HZ
    by_cases hp : pos < S.size
    · have hnx : ∀ ty, (Instr.next (.pointer (some ⟨w.heap.size, 0, none⟩)) true ty).run Tryz.prog (w.iter S pos) = _ := fun ty => run_next_any w S pos ty hp
      have hwd := wid_pos S pos hp
      obtain ⟨b', hb', hcr⟩ := crs_go hp HI.out.2
      have hdl := decode_le S pos
      obtain ⟨c, hc⟩ : ∃ c, c = (Utf8.decode S pos).1 := ⟨_, rfl⟩
      obtain ⟨wd, hw⟩ : ∃ c, c = (Utf8.decode S pos).2 := ⟨_, rfl⟩
      rw [← hc, ← hw] at hnx hcr
      rw [← hc] at hdl
      rw [← hw] at hwd
      have HZ2 : Hid (Z = fndL (fun c => !blk c) a s.size ((pos, c) :: crs S b' (pos + wd)) ∧ S.size ≤ pos + wd + b') := ⟨by rw [HI.out.1, hcr], by have := HI.out.2; omega⟩
      clear HI hc hw hcr hb'
      have OI : Hid (Only (fun _ => False) w (w.iter S (pos + wd))) := (Only.refl _ w).iter S _
      have HC1 : Hid (Calls Tryz.prog 144 #[.int .i32 (c : Int)] (w.iter S (pos + wd)) fun e w' => e = .returned (.bool (!blk c)) ∧ w' = w.iter S (pos + wd)) := HC.out _ _
      cases hin : (!blk c) with
      | true =>
        rw [hin] at HC1
        have HE : Hid (Z = a + pos) := by rw [HZ2.out.1]; exact if_pos hin
        clear HZ2 hin HC
        go_wp2_with (go_at_call 144; refine (show Calls Tryz.prog 144 _ _ _ from HC1.out).mono ?_; rintro e wz ⟨rfl, rfl⟩)
        go_ret
        exact ⟨congrArg (fun z : Nat => Ending.returned (.int .i64 (z : Int))) (show a + pos = Z from HE.out.symm), OI.out⟩
      | false =>
        rw [hin] at HC1
        have HN : Hid (Z = fndL (fun c => !blk c) a s.size (crs S b' (pos + wd)) ∧ S.size ≤ pos + wd + b') := ⟨by rw [HZ2.out.1]; exact if_neg (by show ¬ (!blk c) = true; rw [hin]; simp), HZ2.out.2⟩
        clear HZ2 hin
        go_wp2_with (go_at_call 144; refine (show Calls Tryz.prog 144 _ _ _ from HC1.out).mono ?_; rintro e wz ⟨rfl, rfl⟩)
        go_roundw
        case rel => exact ⟨pos + wd, b', rfl, rfl, HN.out⟩
        case measure => simp; omega
    · have hnx : ∀ ty, (Instr.next (.pointer (some ⟨w.heap.size, 0, none⟩)) true ty).run Tryz.prog (w.iter S pos) = _ := fun ty => run_next_end w S pos ty hp
      have HE : Hid (Z = s.size) := by rw [HI.out.1, crs_end hp]; rfl
      have OI : Hid (Only (fun _ => False) w (w.iter S pos)) := (Only.refl _ w).iter S _
      clear HI HC
      go_wp2
      go_ret
      exact ⟨by rw [show Z = s.size from HE.out]; rfl, OI.out⟩
set_option maxRecDepth 100000 in
set_option maxHeartbeats 1000000 in
theorem find_newline (s : ByteArray) (a : Nat) (ha : a ≤ s.size) (hs : s.size ≤ 1000000) (w : World) :
    Calls Tryz.prog 143 #[.string s, .int .i64 (a : Int), .func (.func 146) #[] #[]] w fun e w' => e = .returned (.int .i64 (fnd (fun c => decide (c = 10)) s a : Nat)) ∧ Only (fun _ => False) w w' := by
  have HC : Hid (∀ (c : Nat) w1, Calls Tryz.prog 146 #[.int .i32 (c : Int)] w1 fun e w' => e = .returned (.bool (decide (c = 10))) ∧ w' = w1) := fun c w1 => newline_any c w1
  unfold fnd
  obtain ⟨S, hS⟩ : ∃ S, S = s.extract a s.size := ⟨_, rfl⟩
  have hsl : ∀ W : World, (Instr.slice 9 (.string s) (some (.int .i64 (a : Int))) none none).run Tryz.prog W = .ok (.string S) W := fun W => by
    rw [run_slice_string_l W 9 s Tryz.underlying9 _ _ (by omega) (by omega), hS]
    rfl
  have hsz : S.size = s.size - a := by rw [hS, ByteArray.size_extract]; omega
  rw [← hS]
  clear hS
  obtain ⟨Z, hZ⟩ : ∃ Z, Z = fndL (fun c => decide (c = 10)) a s.size (crs S S.size 0) := ⟨_, rfl⟩
  have HZ : Hid (Z = fndL (fun c => decide (c = 10)) a s.size (crs S S.size 0)) := hZ
  rw [← hZ]
  clear hZ
  go_enter Tryz.func143, Tryz.ntmps143
  go_wp2
  go_loopw [6] (fun r w' => ∃ (pos b : Nat), w' = w.iter S pos ∧ r = .int .i64 0 ∧ Hid (Z = fndL (fun c => decide (c = 10)) a s.size (crs S b pos) ∧ S.size ≤ pos + b)) (fun _ w' => S.size - w'.iterPos w.heap.size)
  case atStart => exact ⟨0, S.size, rfl, rfl, HZ.out, by omega⟩
  case round =>
    obtain ⟨pos, b, rfl, rfl, HI⟩ := hrel
    clear HZ
    by_cases hp : pos < S.size
    · have hnx : ∀ ty, (Instr.next (.pointer (some ⟨w.heap.size, 0, none⟩)) true ty).run Tryz.prog (w.iter S pos) = _ := fun ty => run_next_any w S pos ty hp
      have hwd := wid_pos S pos hp
      obtain ⟨b', hb', hcr⟩ := crs_go hp HI.out.2
      have hdl := decode_le S pos
      obtain ⟨c, hc⟩ : ∃ c, c = (Utf8.decode S pos).1 := ⟨_, rfl⟩
      obtain ⟨wd, hw⟩ : ∃ c, c = (Utf8.decode S pos).2 := ⟨_, rfl⟩
      rw [← hc, ← hw] at hnx hcr
      rw [← hc] at hdl
      rw [← hw] at hwd
      have HZ2 : Hid (Z = fndL (fun c => decide (c = 10)) a s.size ((pos, c) :: crs S b' (pos + wd)) ∧ S.size ≤ pos + wd + b') := ⟨by rw [HI.out.1, hcr], by have := HI.out.2; omega⟩
      clear HI hc hw hcr hb'
      have OI : Hid (Only (fun _ => False) w (w.iter S (pos + wd))) := (Only.refl _ w).iter S _
      have HC1 : Hid (Calls Tryz.prog 146 #[.int .i32 (c : Int)] (w.iter S (pos + wd)) fun e w' => e = .returned (.bool (decide (c = 10))) ∧ w' = w.iter S (pos + wd)) := HC.out _ _
      cases hin : (decide (c = 10)) with
      | true =>
        rw [hin] at HC1
        have HE : Hid (Z = a + pos) := by rw [HZ2.out.1]; exact if_pos hin
        clear HZ2 hin HC
        go_wp2_with (go_at_call 146; refine (show Calls Tryz.prog 146 _ _ _ from HC1.out).mono ?_; rintro e wz ⟨rfl, rfl⟩)
        go_ret
        exact ⟨congrArg (fun z : Nat => Ending.returned (.int .i64 (z : Int))) (show a + pos = Z from HE.out.symm), OI.out⟩
      | false =>
        rw [hin] at HC1
        have HN : Hid (Z = fndL (fun c => decide (c = 10)) a s.size (crs S b' (pos + wd)) ∧ S.size ≤ pos + wd + b') := ⟨by rw [HZ2.out.1]; exact if_neg (by show ¬ (decide (c = 10)) = true; rw [hin]; simp), HZ2.out.2⟩
        clear HZ2 hin
        go_wp2_with (go_at_call 146; refine (show Calls Tryz.prog 146 _ _ _ from HC1.out).mono ?_; rintro e wz ⟨rfl, rfl⟩)
        go_roundw
        case rel => exact ⟨pos + wd, b', rfl, rfl, HN.out⟩
        case measure => simp; omega
    · have hnx : ∀ ty, (Instr.next (.pointer (some ⟨w.heap.size, 0, none⟩)) true ty).run Tryz.prog (w.iter S pos) = _ := fun ty => run_next_end w S pos ty hp
      have HE : Hid (Z = s.size) := by rw [HI.out.1, crs_end hp]; rfl
      have OI : Hid (Only (fun _ => False) w (w.iter S pos)) := (Only.refl _ w).iter S _
      clear HI HC
      go_wp2
      go_ret
      exact ⟨by rw [show Z = s.size from HE.out]; rfl, OI.out⟩
end Go.Proofs.YtfecmpebnianpaaGreatDoor
namespace Go.Proofs.YtfecmpebnianpaaGreatDoor
open Go.RowKit
set_option linter.unusedSimpArgs false
set_option linter.unusedVariables false
theorem fndL_le (p : Nat → Bool) (a n : Nat) (S : ByteArray) (h : a + S.size ≤ n) : ∀ (b pos : Nat), fndL p a n (crs S b pos) ≤ n := by
  intro b
  induction b with
  | zero => intro pos; exact Nat.le_refl _
  | succ b ih =>
    intro pos
    by_cases hp : pos < S.size
    · rw [show crs S (b + 1) pos = (pos, (Utf8.decode S pos).1) :: crs S b (pos + (Utf8.decode S pos).2) by simp [crs, hp]]
      unfold fndL
      split
      · omega
      · exact ih _
    · rw [crs_end hp]; exact Nat.le_refl _
theorem fndL_ge (p : Nat → Bool) (a n : Nat) (S : ByteArray) (h : a + S.size ≤ n) : ∀ (b pos : Nat), pos ≤ S.size → a + pos ≤ fndL p a n (crs S b pos) := by
  intro b
  induction b with
  | zero => intro pos hq; show a + pos ≤ n; omega
  | succ b ih =>
    intro pos hq
    by_cases hp : pos < S.size
    · rw [show crs S (b + 1) pos = (pos, (Utf8.decode S pos).1) :: crs S b (pos + (Utf8.decode S pos).2) by simp [crs, hp]]
      unfold fndL
      split
      · exact Nat.le_refl _
      · by_cases hr : pos + (Utf8.decode S pos).2 ≤ S.size
        · have := ih (pos + (Utf8.decode S pos).2) hr
          omega
        · rw [crs_end (by omega)]
          show a + pos ≤ n
          omega
    · rw [crs_end hp]
      show a + pos ≤ n
      omega
theorem fnd_le (p : Nat → Bool) (s : ByteArray) {a : Nat} (ha : a ≤ s.size) : a ≤ fnd p s a ∧ fnd p s a ≤ s.size := by
  have hz : (s.extract a s.size).size = s.size - a := by rw [ByteArray.size_extract]; omega
  exact ⟨fndL_ge p a s.size _ (by omega) _ 0 (by omega), fndL_le p a s.size _ (by omega) _ 0⟩
set_option maxRecDepth 100000 in
theorem wordEnd_any (s : ByteArray) (a : Nat) (ha : a ≤ s.size) (hs : s.size ≤ 1000000) (w : World) : Calls Tryz.prog 157 #[.string s, .int .i64 (a : Int)] w fun e w' => e = .returned (.int .i64 (fnd (fun c => blk c) s a : Nat)) ∧ Only (fun _ => False) w w' := by
  have HC : Hid (Calls Tryz.prog 143 #[.string s, .int .i64 (a : Int), .func (.func 121) #[] #[]] w fun e w' => e = .returned (.int .i64 (fnd (fun c => blk c) s a : Nat)) ∧ Only (fun _ => False) w w') := find_blank s a ha hs w
  obtain ⟨z, hz⟩ : ∃ z, z = fnd (fun c => blk c) s a := ⟨_, rfl⟩
  rw [← hz] at HC ⊢
  clear hz
  go_enter Tryz.func157, Tryz.ntmps157
  go_wp2_with fail
  refine (show Calls Tryz.prog 143 _ _ _ from HC.out).mono ?_
  rintro e wz ⟨rfl, o⟩
  have O : Hid (Only (fun _ => False) w wz) := o
  clear HC o
  go_wp2
  go_ret
  exact ⟨rfl, O.out⟩
def exB : ByteArray := ⟨#[33]⟩
/-- Is the word at a the remark's? -/
def rmk (s : ByteArray) (a : Nat) : Bool := preB (s.extract a s.size) exB && decide (fnd (fun c => blk c) s a = a + 1)
set_option maxRecDepth 100000 in
set_option maxHeartbeats 1000000 in
theorem remarked_any (s : ByteArray) (a : Nat) (ha : a ≤ s.size) (hs : s.size ≤ 1000000) (w : World) : Calls Tryz.prog 145 #[.string s, .int .i64 (a : Int)] w fun e w' => e = .returned (.bool (rmk s a)) ∧ Only (fun _ => False) w w' := by
  obtain ⟨S, hS⟩ : ∃ S, S = s.extract a s.size := ⟨_, rfl⟩
  have hsl : ∀ W : World, (Instr.slice 9 (.string s) (some (.int .i64 (a : Int))) none none).run Tryz.prog W = .ok (.string S) W := fun W => by
    rw [run_slice_string_l W 9 s Tryz.underlying9 _ _ (by omega) (by omega), hS]
    rfl
  have HP : Hid (∀ w1, Calls Tryz.prog 96 #[.string S, .string exB] w1 fun e w' => e = .returned (.bool (preB S exB)) ∧ w' = w1) := fun w1 => hasprefix_any S exB w1
  have HW : Hid (∀ w1, Calls Tryz.prog 157 #[.string s, .int .i64 (a : Int)] w1 fun e w' => e = .returned (.int .i64 (fnd (fun c => blk c) s a : Nat)) ∧ Only (fun _ => False) w1 w') := fun w1 => wordEnd_any s a ha hs w1
  unfold rmk
  rw [← hS]
  obtain ⟨z, hz⟩ : ∃ z, z = fnd (fun c => blk c) s a := ⟨_, rfl⟩
  obtain ⟨b, hb⟩ : ∃ b, b = preB S exB := ⟨_, rfl⟩
  rw [← hz] at HW ⊢
  rw [← hb] at HP ⊢
  clear hz hb hS
  cases b with
  | false =>
    go_enter Tryz.func145, Tryz.ntmps145
    go_wp2_with fail
    refine (show Calls Tryz.prog 96 _ _ _ from HP.out _).mono ?_
    rintro e wz ⟨rfl, rfl⟩
    clear HP HW
    go_wp2
    go_ret
    exact ⟨rfl, Only.refl _ _⟩
  | true =>
    have e1 : decide (z = a + 1) = ((z : Int) == (a : Int) + 1) := by
      by_cases g : z = a + 1
      · subst g; simp
      · have : ¬ (z : Int) = (a : Int) + 1 := by omega
        simp [g, this]
    rw [Bool.true_and, e1]
    clear e1
    go_enter Tryz.func145, Tryz.ntmps145
    go_wp2_with fail
    refine (show Calls Tryz.prog 96 _ _ _ from HP.out _).mono ?_
    rintro e wz ⟨rfl, rfl⟩
    clear HP
    go_wp2_with fail
    refine (show Calls Tryz.prog 157 _ _ _ from HW.out _).mono ?_
    rintro e wy ⟨rfl, o⟩
    have O : Hid (Only (fun _ => False) wz wy) := o
    clear HW o
    go_wp2
    go_ret
    exact ⟨rfl, O.out⟩
end Go.Proofs.YtfecmpebnianpaaGreatDoor
namespace Go.Proofs.YtfecmpebnianpaaGreatDoor
open Go.RowKit
set_option linter.unusedSimpArgs false
set_option linter.unusedVariables false
/-- Where the next token begins. -/
def bgn (s : ByteArray) : Nat → Nat → Nat
  | 0, a => a
  | f + 1, a => if rmk s (fnd (fun c => !blk c) s a) = true then bgn s f (fnd (fun c => decide (c = 10)) s (fnd (fun c => !blk c) s a)) else fnd (fun c => !blk c) s a
theorem pre_get {S p : ByteArray} {b : UInt8} (hp : p = ⟨#[b]⟩) (h : preB S p = true) : ∃ hs : 0 < S.size, S[0]'hs = b := by
  subst hp
  unfold preB at h
  have h1 : (ByteArray.mk #[b]).size = 1 := rfl
  have h2 : (ByteArray.mk #[b]).toList = [b] := by rw [ByteArray.toList_eq]
  rw [h1, h2] at h
  simp only [Bool.and_eq_true, decide_eq_true_eq, beq_iff_eq] at h
  have hs : 0 < S.size := by omega
  refine ⟨hs, ?_⟩
  have h3 := h.2
  rw [ByteArray.toList_eq, ByteArray.data_extract] at h3
  have h4 : S.data.size = S.size := rfl
  have : (S.data.extract 0 1).toList = [S.data[0]'(by omega)] := by
    apply List.ext_getElem
    · simp; omega
    · intro i h1 h2
      have : i = 0 := by simp at h2; omega
      subst this
      simp
  rw [this] at h3
  have h5 := List.head_eq_of_cons_eq h3
  exact h5
theorem rmk_go {s : ByteArray} {a : Nat} (ha : a ≤ s.size) (h : rmk s a = true) : a < fnd (fun c => decide (c = 10)) s a := by
  unfold rmk at h
  simp only [Bool.and_eq_true] at h
  obtain ⟨hs, hb⟩ := pre_get (b := 33) rfl h.1
  have hz : (s.extract a s.size).size = s.size - a := by rw [ByteArray.size_extract]; omega
  unfold fnd
  generalize s.extract a s.size = S at *
  obtain ⟨b', hb', hc⟩ := crs_go (s := S) (b := S.size) (pos := 0) hs (by omega)
  have hd := decode_ascii S 0 hs (by rw [hb]; decide)
  rw [hb] at hd
  rw [hc, hd]
  unfold fndL
  rw [if_neg (by decide)]
  have := fndL_ge (fun c => decide (c = 10)) a s.size S (by omega) b' (0 + 1) (by omega)
  show a < fndL (fun c => decide (c = 10)) a s.size (crs S b' (0 + 1))
  omega
set_option maxRecDepth 100000 in
set_option maxHeartbeats 1000000 in
theorem begin_any (s : ByteArray) (hs : s.size ≤ 1000000) (a f : Nat) (ha : a ≤ s.size) (hf : s.size - a < f) (w : World) : Calls Tryz.prog 123 #[.string s, .int .i64 (a : Int)] w fun e w' => e = .returned (.int .i64 (bgn s f a : Nat)) ∧ Only (fun _ => False) w w' := by
  have H1 : Hid (∀ a w, a ≤ s.size → Calls Tryz.prog 143 #[.string s, .int .i64 (a : Nat), .func (.func 144) #[] #[]] w fun e w' => e = .returned (.int .i64 (fnd (fun c => !blk c) s a : Nat)) ∧ Only (fun _ => False) w w') := fun a w ha => find_notblank s a ha hs w
  have H2 : Hid (∀ a w, a ≤ s.size → Calls Tryz.prog 143 #[.string s, .int .i64 (a : Nat), .func (.func 146) #[] #[]] w fun e w' => e = .returned (.int .i64 (fnd (fun c => decide (c = 10)) s a : Nat)) ∧ Only (fun _ => False) w w') := fun a w ha => find_newline s a ha hs w
  have H3 : Hid (∀ a w, a ≤ s.size → Calls Tryz.prog 145 #[.string s, .int .i64 (a : Nat)] w fun e w' => e = .returned (.bool (rmk s a)) ∧ Only (fun _ => False) w w') := fun a w ha => remarked_any s a ha hs w
  obtain ⟨Z, hZ⟩ : ∃ Z, Z = bgn s f a := ⟨_, rfl⟩
  have HZ : Hid (Z = bgn s f a ∧ s.size - a < f ∧ Only (fun _ => False) w w) := ⟨hZ, hf, Only.refl _ _⟩
  rw [← hZ]
  clear hZ hf
  go_enter Tryz.func123, Tryz.ntmps123
  go_wp2
  go_loopw [1] (fun x w' => ∃ (a f : Nat), x = .int .i64 (a : Nat) ∧ a ≤ s.size ∧ Hid (Z = bgn s f a ∧ s.size - a < f ∧ Only (fun _ => False) w w')) (fun x _ => s.size + 1 - uOf x)
  case atStart => exact ⟨a, f, rfl, ha, HZ.out⟩
  case round =>
    clear HZ ha
    obtain ⟨a, f, rfl, ha, HI⟩ := hrel
    obtain ⟨g, rfl⟩ : ∃ g, f = g + 1 := ⟨f - 1, by have := HI.out.2.1; omega⟩
    have C1 := H1.out a wr ha
    have l1 := fnd_le (fun c => !blk c) s ha
    have HB : Hid (Z = if rmk s (fnd (fun c => !blk c) s a) = true then bgn s g (fnd (fun c => decide (c = 10)) s (fnd (fun c => !blk c) s a)) else fnd (fun c => !blk c) s a) := HI.out.1
    obtain ⟨a1, ha1⟩ : ∃ a1, a1 = fnd (fun c => !blk c) s a := ⟨_, rfl⟩
    rw [← ha1] at C1 l1 HB
    clear ha1
    have HC1 : Hid (Calls Tryz.prog 143 _ _ _) := C1
    clear C1
    go_wp2_with fail
    refine (show Calls Tryz.prog 143 _ _ _ from HC1.out).mono ?_
    rintro e w1 ⟨rfl, o1⟩
    have O1 : Hid (Only (fun _ => False) w w1) := HI.out.2.2.trans o1 (fun _ _ g => g)
    have HG : Hid (s.size - a < g + 1) := HI.out.2.1
    have C2 := H3.out a1 w1 l1.2
    have HR : Hid (rmk s a1 = true → a1 < fnd (fun c => decide (c = 10)) s a1) := fun h => rmk_go l1.2 h
    clear HI HC1 o1
    cases hr : rmk s a1 with
    | false =>
      rw [hr] at C2
      have HE : Hid (Z = a1) := by rw [HB.out]; exact if_neg (by rw [hr]; simp)
      have HC2 : Hid (Calls Tryz.prog 145 _ _ _) := C2
      clear C2 HR HB hr
      go_wp2_with fail
      refine (show Calls Tryz.prog 145 _ _ _ from HC2.out).mono ?_
      rintro e w2 ⟨rfl, o2⟩
      have O2 : Hid (Only (fun _ => False) w w2) := O1.out.trans o2 (fun _ _ g => g)
      clear HC2 o2
      go_wp2
      go_ret
      exact ⟨by rw [show Z = a1 from HE.out]; rfl, O2.out⟩
    | true =>
      rw [hr] at C2
      have hlt := HR.out hr
      have l2 := fnd_le (fun c => decide (c = 10)) s l1.2
      have HE : Hid (Z = bgn s g (fnd (fun c => decide (c = 10)) s a1)) := by rw [HB.out]; exact if_pos hr
      have C3 := fun w => H2.out a1 w l1.2
      obtain ⟨a2, ha2⟩ : ∃ a2, a2 = fnd (fun c => decide (c = 10)) s a1 := ⟨_, rfl⟩
      rw [← ha2] at C3 hlt l2 HE
      have HC2 : Hid (Calls Tryz.prog 145 _ _ _) := C2
      have HC3 : Hid (∀ w, Calls Tryz.prog 143 _ _ _) := C3
      clear C2 C3 HR HB hr ha2
      go_wp2_with fail
      refine (show Calls Tryz.prog 145 _ _ _ from HC2.out).mono ?_
      rintro e w2 ⟨rfl, o2⟩
      have O2 : Hid (Only (fun _ => False) w w2) := O1.out.trans o2 (fun _ _ g => g)
      clear HC2 o2
      go_wp2_with fail
      refine (show Calls Tryz.prog 143 _ _ _ from HC3.out _).mono ?_
      rintro e w3 ⟨rfl, o3⟩
      have O3 : Hid (Only (fun _ => False) w w3) := O2.out.trans o3 (fun _ _ g => g)
      clear HC3 o3
      go_wp2
      go_roundw
      case rel => exact ⟨a2, g, rfl, l2.2, HE.out, by have : s.size - a < g + 1 := HG.out; omega, O3.out⟩
      case measure => simp only [uOf]; omega
end Go.Proofs.YtfecmpebnianpaaGreatDoor
namespace Go.Proofs.YtfecmpebnianpaaGreatDoor
open Go.RowKit
set_option linter.unusedSimpArgs false
set_option linter.unusedVariables false
def rpB : ByteArray := ⟨#[239, 191, 189]⟩
def stL (s : ByteArray) : List (Nat × Nat) → Nat
  | [] => s.size
  | (i, c) :: l => if c = 65533 ∧ preB (s.extract i s.size) rpB = false then i else stL s l
/-- The place of the first byte that belongs to no character, or the length. -/
def stR (s : ByteArray) : Nat := stL s (crs s s.size 0)
set_option maxRecDepth 100000 in
set_option maxHeartbeats 1000000 in
theorem stray_any (s : ByteArray) (hs : s.size ≤ 1000000000000) (w : World) : Calls Tryz.prog 122 #[.string s] w fun e w' => e = .returned (.int .i64 (stR s : Nat)) ∧ Only (fun _ => False) w w' := by
  have HP : Hid (∀ S w1, Calls Tryz.prog 96 #[.string S, .string rpB] w1 fun e w' => e = .returned (.bool (preB S rpB)) ∧ w' = w1) := fun S w1 => hasprefix_any S rpB w1
  obtain ⟨Z, hZ⟩ : ∃ Z, Z = stR s := ⟨_, rfl⟩
  have HZ : Hid (Z = stL s (crs s s.size 0)) := hZ
  rw [← hZ]
  clear hZ
  go_enter Tryz.func122, Tryz.ntmps122
  go_wp2
  go_loopw [2] (fun r w' => ∃ (pos b : Nat), w' = w.iter s pos ∧ r = .int .i64 0 ∧ Hid (Z = stL s (crs s b pos) ∧ s.size ≤ pos + b)) (fun _ w' => s.size - w'.iterPos w.heap.size)
  case atStart => exact ⟨0, s.size, rfl, rfl, HZ.out, by omega⟩
  case round =>
    obtain ⟨pos, b, rfl, rfl, HI⟩ := hrel
    clear HZ
    by_cases hp : pos < s.size
    · have hnx : ∀ ty, (Instr.next (.pointer (some ⟨w.heap.size, 0, none⟩)) true ty).run Tryz.prog (w.iter s pos) = _ := fun ty => run_next_any w s pos ty hp
      have hwd := wid_pos s pos hp
      obtain ⟨b', hb', hcr⟩ := crs_go hp HI.out.2
      have hdl := decode_le s pos
      obtain ⟨c, hc⟩ : ∃ c, c = (Utf8.decode s pos).1 := ⟨_, rfl⟩
      obtain ⟨wd, hw⟩ : ∃ c, c = (Utf8.decode s pos).2 := ⟨_, rfl⟩
      rw [← hc, ← hw] at hnx hcr
      rw [← hc] at hdl
      rw [← hw] at hwd
      have HZ2 : Hid (Z = stL s ((pos, c) :: crs s b' (pos + wd)) ∧ s.size ≤ pos + wd + b') := ⟨by rw [HI.out.1, hcr], by have := HI.out.2; omega⟩
      clear HI hc hw hcr hb'
      have OI : Hid (Only (fun _ => False) w (w.iter s (pos + wd))) := (Only.refl _ w).iter s _
      by_cases h3 : c = 65533
      · obtain ⟨S, hS⟩ : ∃ S, S = s.extract pos s.size := ⟨_, rfl⟩
        have hsl : ∀ W : World, (Instr.slice 9 (.string s) (some (.int .i64 (pos : Int))) none none).run Tryz.prog W = .ok (.string S) W := fun W => by
          rw [run_slice_string_l W 9 s Tryz.underlying9 _ _ (by omega) (by omega), hS]
          rfl
        have HC1 := HP.out S (w.iter s (pos + wd))
        cases hin : preB S rpB with
        | false =>
          rw [hin] at HC1
          have HE : Hid (Z = pos) := by rw [HZ2.out.1]; exact if_pos ⟨h3, by rw [← hS]; exact hin⟩
          have HC2 : Hid (Calls Tryz.prog 96 _ _ _) := HC1
          subst h3
          clear HZ2 hin HP HC1 hS
          go_wp2_with fail
          refine (show Calls Tryz.prog 96 _ _ _ from HC2.out).mono ?_
          rintro e wz ⟨rfl, rfl⟩
          clear HC2
          go_wp2
          go_ret
          exact ⟨by rw [show Z = pos from HE.out]; rfl, OI.out⟩
        | true =>
          rw [hin] at HC1
          have HN : Hid (Z = stL s (crs s b' (pos + wd)) ∧ s.size ≤ pos + wd + b') := ⟨by rw [HZ2.out.1]; exact if_neg (fun g => by rw [← hS, hin] at g; exact absurd g.2 (by simp)), HZ2.out.2⟩
          have HC2 : Hid (Calls Tryz.prog 96 _ _ _) := HC1
          subst h3
          clear HZ2 hin HC1 hS
          go_wp2_with fail
          refine (show Calls Tryz.prog 96 _ _ _ from HC2.out).mono ?_
          rintro e wz ⟨rfl, rfl⟩
          clear HC2
          go_wp2
          go_roundw
          case rel => exact ⟨pos + wd, b', rfl, rfl, HN.out⟩
          case measure => simp; omega
      · have i3 : ¬ (c : Int) = 65533 := by omega
        have HN : Hid (Z = stL s (crs s b' (pos + wd)) ∧ s.size ≤ pos + wd + b') := ⟨by rw [HZ2.out.1]; exact if_neg (fun g => h3 g.1), HZ2.out.2⟩
        clear HZ2
        go_wp2
        go_roundw
        case rel => exact ⟨pos + wd, b', rfl, rfl, HN.out⟩
        case measure => simp; omega
    · have hnx : ∀ ty, (Instr.next (.pointer (some ⟨w.heap.size, 0, none⟩)) true ty).run Tryz.prog (w.iter s pos) = _ := fun ty => run_next_end w s pos ty hp
      have HE : Hid (Z = s.size) := by rw [HI.out.1, crs_end hp]; rfl
      have OI : Hid (Only (fun _ => False) w (w.iter s pos)) := (Only.refl _ w).iter s _
      clear HI HP
      go_wp2
      go_ret
      exact ⟨by rw [show Z = s.size from HE.out]; rfl, OI.out⟩
end Go.Proofs.YtfecmpebnianpaaGreatDoor
namespace Go.Proofs.YtfecmpebnianpaaGreatDoor
open Go.RowKit
set_option linter.unusedSimpArgs false
set_option linter.unusedVariables false
/-- What a sign behind a backslash means. -/
def une (c : Nat) : Option Nat := if c = 110 then some 10 else if c = 34 ∨ c = 92 then some c else none
def uneV (o : Option Nat) : Value := match o with
  | some c => .tuple #[.int .i32 (c : Int), .bool true]
  | none => .tuple #[.int .i32 0, .bool false]
set_option maxRecDepth 100000 in
set_option maxHeartbeats 1000000 in
theorem unescape_any (c : Nat) (w : World) : Calls Tryz.prog 158 #[.int .i32 (c : Int)] w fun e w' => e = .returned (uneV (une c)) ∧ w' = w := by
  by_cases h1 : c = 110
  · subst h1
    rw [show une 110 = some 10 from rfl]
    go_enter Tryz.func158, Tryz.ntmps158
    go_wp2
    go_ret2
    exact ⟨rfl, rfl⟩
  · by_cases h2 : c = 34
    · subst h2
      rw [show une 34 = some 34 from rfl]
      go_enter Tryz.func158, Tryz.ntmps158
      go_wp2
      go_ret2
      exact ⟨rfl, rfl⟩
    · by_cases h3 : c = 92
      · subst h3
        rw [show une 92 = some 92 from rfl]
        go_enter Tryz.func158, Tryz.ntmps158
        go_wp2
        go_ret2
        exact ⟨rfl, rfl⟩
      · have e : une c = none := by
          unfold une
          rw [if_neg h1, if_neg (by omega)]
        rw [e]
        have i1 : ¬ (c : Int) = 110 := by omega
        have i2 : ¬ (c : Int) = 34 := by omega
        have i3 : ¬ (c : Int) = 92 := by omega
        go_enter Tryz.func158, Tryz.ntmps158
        go_wp2
        go_ret2
        exact ⟨rfl, rfl⟩
end Go.Proofs.YtfecmpebnianpaaGreatDoor
