/- Texts as rows of characters: what is decoded, found and skipped. -/
import Derived.Test.YtbijiigobbjlcaaDoorLx25
namespace Go.Proofs.YtbijiigobbjlcaaDoor
open Go.RowKit Go.Lib
set_option linter.unusedSimpArgs false
set_option linter.unusedVariables false
def wr (c : Nat) : Nat := (encodeRune (c : Int)).length
def wl (l : List Nat) : Nat := (enL l).length
def VL (l : List Nat) : Prop := ∀ c ∈ l, Vr c
theorem wl_nil : wl [] = 0 := rfl
theorem wl_cons (c : Nat) (l : List Nat) : wl (c :: l) = wr c + wl l := by simp [wl, wr, enL]
theorem wl_app (a b : List Nat) : wl (a ++ b) = wl a + wl b := by simp [wl, enL]
theorem wr_pos (c : Nat) : 1 ≤ wr c := by
  have := (runeCells_le (c : Int)).1
  rw [runeCells_length] at this
  exact this
theorem tx_size (l : List Nat) : (tx l).size = wl l := by simp [tx, wl, ByteArray.size]
theorem tx_data (l : List Nat) : (tx l).data.toList = enL l := by simp [tx]
theorem tx_inj {s : ByteArray} {l : List Nat} (h : s.data.toList = enL l) : s = tx l := by
  apply ByteArray.ext
  apply Array.toList_inj.1
  rw [tx_data, h]
theorem byte_of {n : Nat} (h : n < 256) : n.toUInt8.toNat = n := by
  show (UInt8.ofNat n).toNat = n
  rw [UInt8.toNat_ofNat']
  omega
theorem enc1 {c : Nat} (h : c ≤ 127) : encodeRune (c : Int) = [c.toUInt8] := by
  unfold encodeRune
  rw [encodeRuneZ_one (by omega) (by omega)]
  simp
theorem enc2 {c : Nat} (h0 : 128 ≤ c) (h1 : c ≤ 2047) : encodeRune (c : Int) = [(192 + c / 64).toUInt8, (128 + c % 64).toUInt8] := by
  unfold encodeRune
  rw [encodeRuneZ_two (by omega) (by omega)]
  simp only [List.map_cons, List.map_nil]
  congr 2 <;> omega
theorem enc3 {c : Nat} (h : (2048 ≤ c ∧ c < 55296) ∨ (57343 < c ∧ c ≤ 65535)) : encodeRune (c : Int) = [(224 + c / 4096).toUInt8, (128 + c / 64 % 64).toUInt8, (128 + c % 64).toUInt8] := by
  unfold encodeRune
  rw [encodeRuneZ_three (by omega)]
  simp only [List.map_cons, List.map_nil]
  congr 2
theorem enc4 {c : Nat} (h0 : 65536 ≤ c) (h1 : c ≤ 1114111) : encodeRune (c : Int) = [(240 + c / 262144).toUInt8, (128 + c / 4096 % 64).toUInt8, (128 + c / 64 % 64).toUInt8, (128 + c % 64).toUInt8] := by
  unfold encodeRune
  rw [encodeRuneZ_four (by omega) (by omega)]
  simp only [List.map_cons, List.map_nil]
  congr 2
set_option maxRecDepth 10000 in
/-- What was encoded is decoded. -/
theorem decodeL_enc {c : Nat} (hc : Vr c) (t : List UInt8) : decodeL (encodeRune (c : Int) ++ t) = (c, wr c) := by
  unfold wr
  rw [decodeL_N]
  unfold Vr at hc
  by_cases h1 : c ≤ 127
  · rw [enc1 h1]
    simp only [List.cons_append, List.nil_append, List.getD_cons_zero, List.length_cons, List.length_nil]
    rw [byte_of (by omega)]
    unfold decodeN
    rw [if_pos (by omega)]
  · by_cases h2 : c ≤ 2047
    · rw [enc2 (by omega) h2]
      simp only [List.cons_append, List.nil_append, List.getD_cons_zero, List.getD_cons_succ, List.length_cons, List.length_nil]
      rw [byte_of (by omega), byte_of (by omega)]
      unfold decodeN
      rw [if_neg (by omega), if_pos ⟨by omega, by omega, by omega⟩, if_pos (by omega)]
      congr 1
      omega
    · by_cases h3 : c ≤ 65535
      · rw [enc3 (by omega)]
        simp only [List.cons_append, List.nil_append, List.getD_cons_zero, List.getD_cons_succ, List.length_cons, List.length_nil]
        rw [byte_of (by omega), byte_of (by omega), byte_of (by omega)]
        unfold decodeN
        have e : (224 + c / 4096) % 16 * 4096 + (128 + c / 64 % 64) % 64 * 64 + (128 + c % 64) % 64 = c := by omega
        rw [if_neg (by omega), if_neg (by omega), if_pos ⟨by omega, ⟨by omega, by omega⟩, by omega, by omega⟩, e, if_pos ⟨by omega, by omega⟩]
      · rw [enc4 (by omega) (by omega)]
        simp only [List.cons_append, List.nil_append, List.getD_cons_zero, List.getD_cons_succ, List.length_cons, List.length_nil]
        rw [byte_of (by omega), byte_of (by omega), byte_of (by omega), byte_of (by omega)]
        unfold decodeN
        have e : (240 + c / 262144) % 8 * 262144 + (128 + c / 4096 % 64) % 64 * 4096 + (128 + c / 64 % 64) % 64 * 64 + (128 + c % 64) % 64 = c := by omega
        rw [if_neg (by omega), if_neg (by omega), if_neg (by omega), if_pos ⟨by omega, ⟨by omega, by omega⟩, ⟨by omega, by omega⟩, by omega, by omega⟩, e, if_pos ⟨by omega, by omega⟩]
theorem decode_tx (p : List Nat) {c : Nat} (hc : Vr c) (q : List Nat) : Utf8.decode (tx (p ++ c :: q)) (wl p) = (c, wr c) := by
  rw [← decodeL_drop, tx_data, enL_app]
  unfold wl
  rw [List.drop_left, show c :: q = [c] ++ q from rfl, enL_app, show enL [c] = encodeRune (c : Int) by simp [enL]]
  exact decodeL_enc hc _
/-- Characters with their places. -/
def pl : Nat → List Nat → List (Nat × Nat)
  | _, [] => []
  | o, c :: r => (o, c) :: pl (o + wr c) r
theorem crs_tx : ∀ (q p : List Nat) (b : Nat), VL q → wl q ≤ b → crs (tx (p ++ q)) b (wl p) = pl (wl p) q
  | [], p, b, _, _ => by
    rw [crs_end (by rw [tx_size, List.append_nil]; exact Nat.lt_irrefl _)]
    rfl
  | c :: q, p, b, h, hb => by
    have hc := h c (List.mem_cons_self ..)
    have hw := wr_pos c
    rw [wl_cons] at hb
    have hp : wl p < (tx (p ++ c :: q)).size := by rw [tx_size, wl_app, wl_cons]; omega
    obtain ⟨b', rfl, e⟩ := crs_go (b := b) hp (by rw [tx_size, wl_app, wl_cons]; omega)
    rw [e, decode_tx p hc q]
    have := crs_tx q (p ++ [c]) b' (fun x hx => h x (List.mem_cons_of_mem _ hx)) (by omega)
    rw [wl_app, wl_cons, wl_nil, Nat.add_zero, List.append_assoc] at this
    rw [show p ++ c :: q = p ++ ([c] ++ q) from rfl, this]
    rfl
theorem crs_tx0 {q : List Nat} (h : VL q) : crs (tx q) (tx q).size 0 = pl 0 q := by
  have := crs_tx q [] (tx q).size h (by rw [tx_size]; exact Nat.le_refl _)
  exact this
theorem pl_runes : ∀ (o : Nat) (q : List Nat), (pl o q).map (·.2) = q
  | _, [] => rfl
  | o, c :: q => by rw [pl, List.map_cons, pl_runes]
theorem rns_tx {q : List Nat} (h : VL q) : rns (tx q) = q := by
  unfold rns chs
  rw [crs_tx0 h, pl_runes]
/-- A text that has the characters q from the place a on. -/
def Sfx (s : ByteArray) (q : List Nat) (a : Nat) : Prop := ∃ p, s = tx (p ++ q) ∧ a = wl p ∧ VL q
theorem sfx_all {q : List Nat} (h : VL q) : Sfx (tx q) q 0 := ⟨[], rfl, rfl, h⟩
theorem Sfx.size {s : ByteArray} {q : List Nat} {a : Nat} (h : Sfx s q a) : s.size = a + wl q := by
  obtain ⟨p, rfl, rfl, _⟩ := h
  rw [tx_size, wl_app]
theorem Sfx.drop {s : ByteArray} {m q : List Nat} {a : Nat} (h : Sfx s (m ++ q) a) : Sfx s q (a + wl m) := by
  obtain ⟨p, rfl, rfl, hv⟩ := h
  exact ⟨p ++ m, by rw [List.append_assoc], by rw [wl_app], fun c hc => hv c (List.mem_append_right _ hc)⟩
theorem Sfx.vl {s : ByteArray} {q : List Nat} {a : Nat} (h : Sfx s q a) : VL q := by obtain ⟨p, _, _, hv⟩ := h; exact hv
theorem Sfx.extract {s : ByteArray} {m q : List Nat} {a : Nat} (h : Sfx s (m ++ q) a) : s.extract a (a + wl m) = tx m := by
  obtain ⟨p, rfl, rfl, hv⟩ := h
  apply tx_inj
  rw [ByteArray.data_extract, Array.toList_extract, tx_data, enL_app, enL_app]
  simp [wl, List.extract, List.take_append, List.drop_append]
theorem Sfx.rest {s : ByteArray} {q : List Nat} {a : Nat} (h : Sfx s q a) : s.extract a s.size = tx q := by
  have : Sfx s (q ++ []) a := by rw [List.append_nil]; exact h
  rw [h.size]
  exact this.extract
theorem fndL_pl (P : Nat → Bool) (a n : Nat) : ∀ (q : List Nat) (o : Nat), n = a + o + wl q → fndL P a n (pl o q) = a + o + wl (q.takeWhile (fun c => !P c))
  | [], o, h => by rw [pl, fndL, List.takeWhile_nil]; exact h
  | c :: q, o, h => by
    rw [pl, fndL, List.takeWhile_cons]
    rw [wl_cons] at h
    by_cases hp : P c = true
    · rw [if_pos hp]
      simp [hp, wl_nil]
    · rw [if_neg hp, fndL_pl P a n q (o + wr c) (by omega)]
      simp only [Bool.not_eq_true] at hp
      simp only [hp, Bool.not_false, if_true]
      rw [wl_cons]
      omega
theorem fnd_sfx (P : Nat → Bool) {s : ByteArray} {q : List Nat} {a : Nat} (h : Sfx s q a) : fnd P s a = a + wl (q.takeWhile (fun c => !P c)) := by
  unfold fnd
  rw [h.rest, crs_tx0 h.vl]
  have := fndL_pl P a s.size q 0 (by rw [h.size]; omega)
  rw [Nat.add_zero] at this
  exact this
theorem split_while (P : Nat → Bool) (q : List Nat) : q = q.takeWhile P ++ q.dropWhile P := (List.takeWhile_append_dropWhile ..).symm
theorem fnd_drop (P : Nat → Bool) {s : ByteArray} {q : List Nat} {a : Nat} (h : Sfx s q a) : Sfx s (q.dropWhile (fun c => !P c)) (fnd P s a) := by
  rw [fnd_sfx P h]
  have : Sfx s (q.takeWhile (fun c => !P c) ++ q.dropWhile (fun c => !P c)) a := by rw [← split_while]; exact h
  exact this.drop
theorem tx_app (a b : List Nat) : tx a ++ tx b = tx (a ++ b) := by
  apply tx_inj
  rw [ByteArray.data_append, Array.toList_append, tx_data, tx_data, enL_app]
theorem wl_len : ∀ l : List Nat, l.length ≤ wl l
  | [] => Nat.le_refl _
  | c :: l => by
    have := wl_len l
    have := wr_pos c
    rw [wl_cons, List.length_cons]
    omega
theorem Sfx.pos {s : ByteArray} {q : List Nat} {a b : Nat} (h : Sfx s q a) (g : Sfx s q b) : a = b := by
  have := h.size
  have := g.size
  omega
theorem Sfx.decode {s : ByteArray} {c : Nat} {q : List Nat} {a : Nat} (h : Sfx s (c :: q) a) : Utf8.decode s a = (c, wr c) := by
  obtain ⟨p, rfl, rfl, hv⟩ := h
  exact decode_tx p (hv c (List.mem_cons_self ..)) q
theorem Sfx.tail {s : ByteArray} {c : Nat} {q : List Nat} {a : Nat} (h : Sfx s (c :: q) a) : Sfx s q (a + wr c) := by
  have : Sfx s ([c] ++ q) a := h
  have := this.drop
  rwa [wl_cons, wl_nil, Nat.add_zero] at this
theorem pre_one {c : Nat} {q : List Nat} (hv : VL (c :: q)) : preB (tx (c :: q)) exB = decide (c = 33) := by
  by_cases h : c = 33
  · subst h
    rw [decide_eq_true rfl]
    have e : (tx (33 :: q)).extract 0 1 = tx [33] := by
      have : Sfx (tx (33 :: q)) ([33] ++ q) 0 := sfx_all hv
      have := this.extract
      rwa [show 0 + wl [33] = 1 from rfl] at this
    unfold preB
    have e2 : exB.size = 1 := rfl
    rw [e2, e]
    have hz : 1 ≤ (tx (33 :: q)).size := by rw [tx_size, wl_cons]; have := wr_pos 33; omega
    rw [decide_eq_true hz, show tx [33] = exB from rfl]
    simp
  · rw [decide_eq_false h, Bool.eq_false_iff]
    intro g
    obtain ⟨hs, hb⟩ := pre_get (b := 33) rfl g
    have hd := decode_ascii (tx (c :: q)) 0 hs (by rw [hb]; decide)
    rw [hb] at hd
    have hd2 := (sfx_all hv).decode
    rw [hd] at hd2
    injection hd2 with e1
    exact h e1.symm
theorem pre_none : preB (tx []) exB = false := by
  unfold preB
  rw [decide_eq_false (by decide)]
  rfl
/-- A remark begins. -/
def rmL (q : List Nat) : Bool := decide (q.head? = some 33) && (q.tail.takeWhile (fun c => !blk c)).isEmpty
theorem rmk_sfx {s : ByteArray} {q : List Nat} {a : Nat} (h : Sfx s q a) : rmk s a = rmL q := by
  unfold rmk rmL
  rw [h.rest, fnd_sfx _ h]
  cases q with
  | nil => rw [pre_none]; rfl
  | cons c q =>
    rw [pre_one h.vl]
    by_cases hc : c = 33
    · subst hc
      have e : (33 :: q).takeWhile (fun c => !blk c) = 33 :: q.takeWhile (fun c => !blk c) := by rw [List.takeWhile_cons]; rfl
      rw [e, wl_cons, show wr 33 = 1 from rfl]
      simp only [List.head?_cons, List.tail_cons, decide_true, Bool.true_and]
      cases hq : q.takeWhile (fun c => !blk c) with
      | nil => simp [wl_nil]
      | cons d r =>
        rw [wl_cons]
        have := wr_pos d
        simp
        omega
    · simp [hc]
/-- What is left where the next token begins. -/
def skp : Nat → List Nat → List Nat
  | 0, q => q
  | f + 1, q => if rmL (q.dropWhile blk) = true then skp f ((q.dropWhile blk).dropWhile (fun c => !decide (c = 10))) else q.dropWhile blk
theorem bgn_sfx {s : ByteArray} : ∀ (f : Nat) {q : List Nat} {a : Nat}, Sfx s q a → Sfx s (skp f q) (bgn s f a) := by
  intro f
  induction f with
  | zero => intro q a h; exact h
  | succ f ih =>
    intro q a h
    have h1 := fnd_drop (fun c => !blk c) h
    simp only [Bool.not_not] at h1
    have h2 := rmk_sfx h1
    unfold bgn skp
    rw [h2]
    by_cases hr : rmL (q.dropWhile blk) = true
    · rw [if_pos hr, if_pos hr]
      exact ih (fnd_drop (fun c => decide (c = 10)) h1)
    · rw [if_neg hr, if_neg hr]
      exact h1
theorem dw_len (P : Nat → Bool) (q : List Nat) : (q.dropWhile P).length ≤ q.length := (List.dropWhile_sublist P).length_le
theorem rm_drop {q : List Nat} (h : rmL q = true) : (q.dropWhile (fun c => !decide (c = 10))).length < q.length := by
  cases q with
  | nil => simp [rmL] at h
  | cons c q =>
    unfold rmL at h
    simp only [List.head?_cons, Bool.and_eq_true, decide_eq_true_eq, Option.some.injEq] at h
    obtain ⟨rfl, _⟩ := h
    rw [List.dropWhile_cons]
    have := dw_len (fun c => !decide (c = 10)) q
    simp only [show (!decide (33 = 10)) = true from rfl, if_true, List.length_cons]
    omega
theorem skp_fuel : ∀ (f g : Nat) (q : List Nat), q.length < f → q.length < g → skp f q = skp g q := by
  intro f
  induction f with
  | zero => intro g q h _; omega
  | succ f ih =>
    intro g q hf hg
    obtain ⟨g, rfl⟩ : ∃ k, g = k + 1 := ⟨g - 1, by omega⟩
    unfold skp
    by_cases hr : rmL (q.dropWhile blk) = true
    · rw [if_pos hr, if_pos hr]
      have h1 := rm_drop hr
      have h2 := dw_len blk q
      exact ih g _ (by omega) (by omega)
    · rw [if_neg hr, if_neg hr]
def SK (q : List Nat) : List Nat := skp (q.length + 1) q
theorem SK_eq (q : List Nat) : SK q = if rmL (q.dropWhile blk) = true then SK ((q.dropWhile blk).dropWhile (fun c => !decide (c = 10))) else q.dropWhile blk := by
  conv => lhs; unfold SK; unfold skp
  by_cases hr : rmL (q.dropWhile blk) = true
  · rw [if_pos hr, if_pos hr]
    have h1 := rm_drop hr
    have h2 := dw_len blk q
    exact skp_fuel _ _ _ (by omega) (by omega)
  · rw [if_neg hr, if_neg hr]
theorem bg_sfx {s : ByteArray} {q : List Nat} {a : Nat} (h : Sfx s q a) : Sfx s (SK q) (bg s a) := by
  have := bgn_sfx (s.size + 1) h
  rw [skp_fuel (s.size + 1) (q.length + 1) q (by have := h.size; have := wl_len q; omega) (by omega)] at this
  exact this
theorem SK_len (q : List Nat) : (SK q).length ≤ q.length := by
  have : ∀ (f : Nat) (q : List Nat), (skp f q).length ≤ q.length := by
    intro f
    induction f with
    | zero => intro q; exact Nat.le_refl _
    | succ f ih =>
      intro q
      unfold skp
      have h2 := dw_len blk q
      split
      · have h3 := dw_len (fun c => !decide (c = 10)) (q.dropWhile blk)
        have := ih ((q.dropWhile blk).dropWhile (fun c => !decide (c = 10)))
        omega
      · exact h2
  exact this _ q
theorem SK_nil : SK [] = [] := rfl
/-- Blanks ahead make no difference. -/
theorem SK_blank (q y : List Nat) (h : q.dropWhile blk = []) : SK (q ++ y) = SK y := by
  rw [SK_eq (q ++ y), SK_eq y, List.dropWhile_append, h]
  rfl
theorem SK_ten (x : List Nat) : SK (10 :: x) = SK x := SK_blank [10] x rfl
/-- A text behind a line's end, or none. -/
def Ynl (y : List Nat) : Prop := y = [] ∨ ∃ x, y = 10 :: x
theorem tw_nl (P : Nat → Bool) (hP : P 10 = false) (q : List Nat) {y : List Nat} (hy : Ynl y) : (q ++ y).takeWhile P = q.takeWhile P := by
  rcases hy with rfl | ⟨x, rfl⟩
  · rw [List.append_nil]
  · induction q with
    | nil => simp [List.takeWhile_cons, hP]
    | cons c q ih =>
      rw [List.cons_append, List.takeWhile_cons, List.takeWhile_cons, ih]
theorem rmL_nl {q y : List Nat} (hy : Ynl y) (hq : q ≠ []) : rmL (q ++ y) = rmL q := by
  cases q with
  | nil => exact absurd rfl hq
  | cons c q =>
    unfold rmL
    rw [List.cons_append, List.head?_cons, List.head?_cons, List.tail_cons, List.tail_cons, tw_nl _ rfl q hy]
theorem SK_ext (y : List Nat) (hy : Ynl y) : ∀ (n : Nat) (q : List Nat), q.length ≤ n → SK (q ++ y) = if SK q = [] then SK y else SK q ++ y := by
  intro n
  induction n with
  | zero =>
    intro q hq
    obtain rfl : q = [] := List.eq_nil_of_length_eq_zero (by omega)
    rw [SK_nil, if_pos rfl]
    rfl
  | succ n ih =>
    intro q hq
    by_cases hr : q.dropWhile blk = []
    · have e : SK q = [] := by rw [SK_eq, hr]; rfl
      rw [if_pos e, SK_blank q y hr]
    · have ed : (q ++ y).dropWhile blk = q.dropWhile blk ++ y := by
        rw [List.dropWhile_append, if_neg (by simpa using hr)]
      rw [SK_eq (q ++ y), SK_eq q, ed, rmL_nl hy hr]
      by_cases hm : rmL (q.dropWhile blk) = true
      · rw [if_pos hm, if_pos hm]
        have h1 := rm_drop hm
        have h2 := dw_len blk q
        by_cases h3 : (q.dropWhile blk).dropWhile (fun c => !decide (c = 10)) = []
        · rw [List.dropWhile_append, h3, SK_nil, if_pos rfl]
          rcases hy with rfl | ⟨x, rfl⟩
          · rfl
          · rw [if_pos (by rfl), List.dropWhile_cons, if_neg (by decide)]
        · rw [List.dropWhile_append, if_neg (by simpa using h3)]
          exact ih _ (by omega)
      · rw [if_neg hm, if_neg hm, if_neg hr]
theorem pre_take {X p : ByteArray} (h : preB X p = true) : X.data.toList.take p.size = p.data.toList := by
  unfold preB at h
  simp only [Bool.and_eq_true, decide_eq_true_eq, beq_iff_eq] at h
  have := h.2
  rw [ByteArray.toList_eq, ByteArray.toList_eq, ByteArray.data_extract, Array.toList_extract] at this
  simpa using this
/-- A text without a byte that belongs to no character is a row of characters. -/
theorem valid_from (s : ByteArray) : ∀ (b pos : Nat), pos ≤ s.size → s.size ≤ pos + b → stL s (crs s b pos) = s.size → ∃ l, VL l ∧ s.data.toList.drop pos = enL l := by
  intro b
  induction b with
  | zero =>
    intro pos h1 h2 _
    refine ⟨[], fun c hc => by simp at hc, ?_⟩
    rw [List.drop_eq_nil_of_le (by rw [Array.length_toList]; exact h2)]
    rfl
  | succ b ih =>
    intro pos h1 h2 h3
    by_cases hp : pos < s.size
    · have hw := wid_pos s pos hp
      have hwp := decode_wd s pos hp
      rw [show crs s (b + 1) pos = (pos, (Utf8.decode s pos).1) :: crs s b (pos + (Utf8.decode s pos).2) by simp [crs, hp]] at h3
      unfold stL at h3
      have hne : s.data.toList.drop pos ≠ [] := by
        intro g
        have := congrArg List.length g
        rw [List.length_drop, Array.length_toList] at this
        have : s.data.size - pos = 0 := this
        have : s.data.size = s.size := rfl
        omega
      have hdl := decodeL_drop s pos
      by_cases hbad : (Utf8.decode s pos).1 = 65533 ∧ preB (s.extract pos s.size) rpB = false
      · rw [if_pos hbad] at h3
        omega
      · rw [if_neg hbad] at h3
        obtain ⟨l, hl, e⟩ := ih (pos + (Utf8.decode s pos).2) hwp (by omega) h3
        have hv : ¬ ((decodeL (s.data.toList.drop pos)).1 = 65533 ∧ (decodeL (s.data.toList.drop pos)).2 = 1) := by
          rw [hdl]
          intro g
          have hpre : preB (s.extract pos s.size) rpB = true := by
            cases hx : preB (s.extract pos s.size) rpB with
            | true => rfl
            | false => exact absurd ⟨g.1, hx⟩ hbad
          have ht := pre_take hpre
          have hx : (s.extract pos s.size).data.toList = s.data.toList.drop pos := by
            rw [ByteArray.data_extract, Array.toList_extract]
            show List.extract _ _ _ = _
            rw [List.extract, List.take_of_length_le]
            rw [List.length_drop, Array.length_toList]
            exact Nat.le_refl _
          rw [hx] at ht
          have e3 : s.data.toList.drop pos = encodeRune ((65533 : Nat) : Int) ++ (s.data.toList.drop pos).drop 3 := by
            have : encodeRune ((65533 : Nat) : Int) = rpB.data.toList := rfl
            rw [this, ← ht]
            exact (List.take_append_drop 3 _).symm
          rw [e3, decodeL_enc (by unfold Vr; omega)] at hdl
          rw [← hdl] at g
          exact absurd g.2 (by decide)
        have he := encode_decode _ hne hv
        rw [hdl] at he
        refine ⟨(Utf8.decode s pos).1 :: l, ?_, ?_⟩
        · intro c hc
          rcases List.mem_cons.1 hc with rfl | hc
          · exact decode_vr s pos
          · exact hl c hc
        · rw [show enL ((Utf8.decode s pos).1 :: l) = encodeRune ((Utf8.decode s pos).1 : Int) ++ enL l by simp [enL], he, ← e, ← List.drop_drop, List.take_append_drop]
    · refine ⟨[], fun c hc => by simp at hc, ?_⟩
      rw [List.drop_eq_nil_of_le (by rw [Array.length_toList]; show s.size ≤ pos; omega)]
      rfl
theorem valid_tx {s : ByteArray} (h : ¬ stR s < s.size) : ∃ l, VL l ∧ s = tx l := by
  have h2 := stL_le s s.size 0
  unfold stR at h
  obtain ⟨l, hl, e⟩ := valid_from s s.size 0 (Nat.zero_le _) (by omega) (by omega)
  rw [List.drop_zero] at e
  exact ⟨l, hl, tx_inj e⟩
end Go.Proofs.YtbijiigobbjlcaaDoor
