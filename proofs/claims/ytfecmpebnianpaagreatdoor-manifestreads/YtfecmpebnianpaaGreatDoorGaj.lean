/- Texts as rows of characters: what is decoded, found and skipped. Tokens of texts that are put together. Sources one behind the other: what is read of tokens that others follow. LexJoins: the walk. Trees of the document in memory. Values as trees: Tree, ItemTree. -/
import Derived.Test.YtfecmpebnianpaaGreatDoorGai
import Derived.Test.YtfecmpebnianpaaGreatDoorGah
namespace Go.Proofs.YtfecmpebnianpaaGreatDoor
open Go.RowKit Go.Lib
set_option linter.unusedSimpArgs false
set_option linter.unusedVariables false
def wr (c : Nat) : Nat := (encodeRune (c : Int)).length
def wl (l : List Nat) : Nat := (enL l).length
def VL (l : List Nat) : Prop := ∀ c ∈ l, Vr c
theorem wl_nil : wl [] = 0 := rfl
theorem wl_cons (c : Nat) (l : List Nat) : wl (c :: l) = wr c + wl l := by simp [wl, wr, enL]
theorem wl_app (a b : List Nat) : wl (a ++ b) = wl a + wl b := by simp [wl, enL]
theorem wr_pos (c : Nat) : 1 ≤ wr c := by
  have := (runeCells_le (c : Int)).1
  rw [runeCells_length] at this
  exact this
theorem tx_size (l : List Nat) : (tx l).size = wl l := by simp [tx, wl, ByteArray.size]
theorem tx_data (l : List Nat) : (tx l).data.toList = enL l := by simp [tx]
theorem tx_inj {s : ByteArray} {l : List Nat} (h : s.data.toList = enL l) : s = tx l := by
  apply ByteArray.ext
  apply Array.toList_inj.1
  rw [tx_data, h]
theorem byte_of {n : Nat} (h : n < 256) : n.toUInt8.toNat = n := by
  show (UInt8.ofNat n).toNat = n
  rw [UInt8.toNat_ofNat']
  omega
theorem enc1 {c : Nat} (h : c ≤ 127) : encodeRune (c : Int) = [c.toUInt8] := by
  unfold encodeRune
  rw [encodeRuneZ_one (by omega) (by omega)]
  simp
theorem enc2 {c : Nat} (h0 : 128 ≤ c) (h1 : c ≤ 2047) : encodeRune (c : Int) = [(192 + c / 64).toUInt8, (128 + c % 64).toUInt8] := by
  unfold encodeRune
  rw [encodeRuneZ_two (by omega) (by omega)]
  simp only [List.map_cons, List.map_nil]
  congr 2 <;> omega
theorem enc3 {c : Nat} (h : (2048 ≤ c ∧ c < 55296) ∨ (57343 < c ∧ c ≤ 65535)) : encodeRune (c : Int) = [(224 + c / 4096).toUInt8, (128 + c / 64 % 64).toUInt8, (128 + c % 64).toUInt8] := by
  unfold encodeRune
  rw [encodeRuneZ_three (by omega)]
  simp only [List.map_cons, List.map_nil]
  congr 2
theorem enc4 {c : Nat} (h0 : 65536 ≤ c) (h1 : c ≤ 1114111) : encodeRune (c : Int) = [(240 + c / 262144).toUInt8, (128 + c / 4096 % 64).toUInt8, (128 + c / 64 % 64).toUInt8, (128 + c % 64).toUInt8] := by
  unfold encodeRune
  rw [encodeRuneZ_four (by omega) (by omega)]
  simp only [List.map_cons, List.map_nil]
  congr 2
set_option maxRecDepth 10000 in
/-- What was encoded is decoded. -/
theorem decodeL_enc {c : Nat} (hc : Vr c) (t : List UInt8) : decodeL (encodeRune (c : Int) ++ t) = (c, wr c) := by
  unfold wr
  rw [decodeL_N]
  unfold Vr at hc
  by_cases h1 : c ≤ 127
  · rw [enc1 h1]
    simp only [List.cons_append, List.nil_append, List.getD_cons_zero, List.length_cons, List.length_nil]
    rw [byte_of (by omega)]
    unfold decodeN
    rw [if_pos (by omega)]
  · by_cases h2 : c ≤ 2047
    · rw [enc2 (by omega) h2]
      simp only [List.cons_append, List.nil_append, List.getD_cons_zero, List.getD_cons_succ, List.length_cons, List.length_nil]
      rw [byte_of (by omega), byte_of (by omega)]
      unfold decodeN
      rw [if_neg (by omega), if_pos ⟨by omega, by omega, by omega⟩, if_pos (by omega)]
      congr 1
      omega
    · by_cases h3 : c ≤ 65535
      · rw [enc3 (by omega)]
        simp only [List.cons_append, List.nil_append, List.getD_cons_zero, List.getD_cons_succ, List.length_cons, List.length_nil]
        rw [byte_of (by omega), byte_of (by omega), byte_of (by omega)]
        unfold decodeN
        have e : (224 + c / 4096) % 16 * 4096 + (128 + c / 64 % 64) % 64 * 64 + (128 + c % 64) % 64 = c := by omega
        rw [if_neg (by omega), if_neg (by omega), if_pos ⟨by omega, ⟨by omega, by omega⟩, by omega, by omega⟩, e, if_pos ⟨by omega, by omega⟩]
      · rw [enc4 (by omega) (by omega)]
        simp only [List.cons_append, List.nil_append, List.getD_cons_zero, List.getD_cons_succ, List.length_cons, List.length_nil]
        rw [byte_of (by omega), byte_of (by omega), byte_of (by omega), byte_of (by omega)]
        unfold decodeN
        have e : (240 + c / 262144) % 8 * 262144 + (128 + c / 4096 % 64) % 64 * 4096 + (128 + c / 64 % 64) % 64 * 64 + (128 + c % 64) % 64 = c := by omega
        rw [if_neg (by omega), if_neg (by omega), if_neg (by omega), if_pos ⟨by omega, ⟨by omega, by omega⟩, ⟨by omega, by omega⟩, by omega, by omega⟩, e, if_pos ⟨by omega, by omega⟩]
theorem decode_tx (p : List Nat) {c : Nat} (hc : Vr c) (q : List Nat) : Utf8.decode (tx (p ++ c :: q)) (wl p) = (c, wr c) := by
  rw [← decodeL_drop, tx_data, enL_app]
  unfold wl
  rw [List.drop_left, show c :: q = [c] ++ q from rfl, enL_app, show enL [c] = encodeRune (c : Int) by simp [enL]]
  exact decodeL_enc hc _
/-- Characters with their places. -/
def pl : Nat → List Nat → List (Nat × Nat)
  | _, [] => []
  | o, c :: r => (o, c) :: pl (o + wr c) r
theorem crs_tx : ∀ (q p : List Nat) (b : Nat), VL q → wl q ≤ b → crs (tx (p ++ q)) b (wl p) = pl (wl p) q
  | [], p, b, _, _ => by
    rw [crs_end (by rw [tx_size, List.append_nil]; exact Nat.lt_irrefl _)]
    rfl
  | c :: q, p, b, h, hb => by
    have hc := h c (List.mem_cons_self ..)
    have hw := wr_pos c
    rw [wl_cons] at hb
    have hp : wl p < (tx (p ++ c :: q)).size := by rw [tx_size, wl_app, wl_cons]; omega
    obtain ⟨b', rfl, e⟩ := crs_go (b := b) hp (by rw [tx_size, wl_app, wl_cons]; omega)
    rw [e, decode_tx p hc q]
    have := crs_tx q (p ++ [c]) b' (fun x hx => h x (List.mem_cons_of_mem _ hx)) (by omega)
    rw [wl_app, wl_cons, wl_nil, Nat.add_zero, List.append_assoc] at this
    rw [show p ++ c :: q = p ++ ([c] ++ q) from rfl, this]
    rfl
theorem crs_tx0 {q : List Nat} (h : VL q) : crs (tx q) (tx q).size 0 = pl 0 q := by
  have := crs_tx q [] (tx q).size h (by rw [tx_size]; exact Nat.le_refl _)
  exact this
theorem pl_runes : ∀ (o : Nat) (q : List Nat), (pl o q).map (·.2) = q
  | _, [] => rfl
  | o, c :: q => by rw [pl, List.map_cons, pl_runes]
theorem rns_tx {q : List Nat} (h : VL q) : rns (tx q) = q := by
  unfold rns chs
  rw [crs_tx0 h, pl_runes]
/-- A text that has the characters q from the place a on. -/
def Sfx (s : ByteArray) (q : List Nat) (a : Nat) : Prop := ∃ p, s = tx (p ++ q) ∧ a = wl p ∧ VL q
theorem sfx_all {q : List Nat} (h : VL q) : Sfx (tx q) q 0 := ⟨[], rfl, rfl, h⟩
theorem Sfx.size {s : ByteArray} {q : List Nat} {a : Nat} (h : Sfx s q a) : s.size = a + wl q := by
  obtain ⟨p, rfl, rfl, _⟩ := h
  rw [tx_size, wl_app]
theorem Sfx.drop {s : ByteArray} {m q : List Nat} {a : Nat} (h : Sfx s (m ++ q) a) : Sfx s q (a + wl m) := by
  obtain ⟨p, rfl, rfl, hv⟩ := h
  exact ⟨p ++ m, by rw [List.append_assoc], by rw [wl_app], fun c hc => hv c (List.mem_append_right _ hc)⟩
theorem Sfx.vl {s : ByteArray} {q : List Nat} {a : Nat} (h : Sfx s q a) : VL q := by obtain ⟨p, _, _, hv⟩ := h; exact hv
theorem Sfx.extract {s : ByteArray} {m q : List Nat} {a : Nat} (h : Sfx s (m ++ q) a) : s.extract a (a + wl m) = tx m := by
  obtain ⟨p, rfl, rfl, hv⟩ := h
  apply tx_inj
  rw [ByteArray.data_extract, Array.toList_extract, tx_data, enL_app, enL_app]
  simp [wl, List.extract, List.take_append, List.drop_append]
theorem Sfx.rest {s : ByteArray} {q : List Nat} {a : Nat} (h : Sfx s q a) : s.extract a s.size = tx q := by
  have : Sfx s (q ++ []) a := by rw [List.append_nil]; exact h
  rw [h.size]
  exact this.extract
theorem fndL_pl (P : Nat → Bool) (a n : Nat) : ∀ (q : List Nat) (o : Nat), n = a + o + wl q → fndL P a n (pl o q) = a + o + wl (q.takeWhile (fun c => !P c))
  | [], o, h => by rw [pl, fndL, List.takeWhile_nil]; exact h
  | c :: q, o, h => by
    rw [pl, fndL, List.takeWhile_cons]
    rw [wl_cons] at h
    by_cases hp : P c = true
    · rw [if_pos hp]
      simp [hp, wl_nil]
    · rw [if_neg hp, fndL_pl P a n q (o + wr c) (by omega)]
      simp only [Bool.not_eq_true] at hp
      simp only [hp, Bool.not_false, if_true]
      rw [wl_cons]
      omega
theorem fnd_sfx (P : Nat → Bool) {s : ByteArray} {q : List Nat} {a : Nat} (h : Sfx s q a) : fnd P s a = a + wl (q.takeWhile (fun c => !P c)) := by
  unfold fnd
  rw [h.rest, crs_tx0 h.vl]
  have := fndL_pl P a s.size q 0 (by rw [h.size]; omega)
  rw [Nat.add_zero] at this
  exact this
theorem split_while (P : Nat → Bool) (q : List Nat) : q = q.takeWhile P ++ q.dropWhile P := (List.takeWhile_append_dropWhile ..).symm
theorem fnd_drop (P : Nat → Bool) {s : ByteArray} {q : List Nat} {a : Nat} (h : Sfx s q a) : Sfx s (q.dropWhile (fun c => !P c)) (fnd P s a) := by
  rw [fnd_sfx P h]
  have : Sfx s (q.takeWhile (fun c => !P c) ++ q.dropWhile (fun c => !P c)) a := by rw [← split_while]; exact h
  exact this.drop
theorem tx_app (a b : List Nat) : tx a ++ tx b = tx (a ++ b) := by
  apply tx_inj
  rw [ByteArray.data_append, Array.toList_append, tx_data, tx_data, enL_app]
theorem wl_len : ∀ l : List Nat, l.length ≤ wl l
  | [] => Nat.le_refl _
  | c :: l => by
    have := wl_len l
    have := wr_pos c
    rw [wl_cons, List.length_cons]
    omega
theorem Sfx.pos {s : ByteArray} {q : List Nat} {a b : Nat} (h : Sfx s q a) (g : Sfx s q b) : a = b := by
  have := h.size
  have := g.size
  omega
theorem Sfx.decode {s : ByteArray} {c : Nat} {q : List Nat} {a : Nat} (h : Sfx s (c :: q) a) : Utf8.decode s a = (c, wr c) := by
  obtain ⟨p, rfl, rfl, hv⟩ := h
  exact decode_tx p (hv c (List.mem_cons_self ..)) q
theorem Sfx.tail {s : ByteArray} {c : Nat} {q : List Nat} {a : Nat} (h : Sfx s (c :: q) a) : Sfx s q (a + wr c) := by
  have : Sfx s ([c] ++ q) a := h
  have := this.drop
  rwa [wl_cons, wl_nil, Nat.add_zero] at this
theorem pre_one {c : Nat} {q : List Nat} (hv : VL (c :: q)) : preB (tx (c :: q)) exB = decide (c = 33) := by
  by_cases h : c = 33
  · subst h
    rw [decide_eq_true rfl]
    have e : (tx (33 :: q)).extract 0 1 = tx [33] := by
      have : Sfx (tx (33 :: q)) ([33] ++ q) 0 := sfx_all hv
      have := this.extract
      rwa [show 0 + wl [33] = 1 from rfl] at this
    unfold preB
    have e2 : exB.size = 1 := rfl
    rw [e2, e]
    have hz : 1 ≤ (tx (33 :: q)).size := by rw [tx_size, wl_cons]; have := wr_pos 33; omega
    rw [decide_eq_true hz, show tx [33] = exB from rfl]
    simp
  · rw [decide_eq_false h, Bool.eq_false_iff]
    intro g
    obtain ⟨hs, hb⟩ := pre_get (b := 33) rfl g
    have hd := decode_ascii (tx (c :: q)) 0 hs (by rw [hb]; decide)
    rw [hb] at hd
    have hd2 := (sfx_all hv).decode
    rw [hd] at hd2
    injection hd2 with e1
    exact h e1.symm
theorem pre_none : preB (tx []) exB = false := by
  unfold preB
  rw [decide_eq_false (by decide)]
  rfl
/-- A remark begins. -/
def rmL (q : List Nat) : Bool := decide (q.head? = some 33) && (q.tail.takeWhile (fun c => !blk c)).isEmpty
theorem rmk_sfx {s : ByteArray} {q : List Nat} {a : Nat} (h : Sfx s q a) : rmk s a = rmL q := by
  unfold rmk rmL
  rw [h.rest, fnd_sfx _ h]
  cases q with
  | nil => rw [pre_none]; rfl
  | cons c q =>
    rw [pre_one h.vl]
    by_cases hc : c = 33
    · subst hc
      have e : (33 :: q).takeWhile (fun c => !blk c) = 33 :: q.takeWhile (fun c => !blk c) := by rw [List.takeWhile_cons]; rfl
      rw [e, wl_cons, show wr 33 = 1 from rfl]
      simp only [List.head?_cons, List.tail_cons, decide_true, Bool.true_and]
      cases hq : q.takeWhile (fun c => !blk c) with
      | nil => simp [wl_nil]
      | cons d r =>
        rw [wl_cons]
        have := wr_pos d
        simp
        omega
    · simp [hc]
/-- What is left where the next token begins. -/
def skp : Nat → List Nat → List Nat
  | 0, q => q
  | f + 1, q => if rmL (q.dropWhile blk) = true then skp f ((q.dropWhile blk).dropWhile (fun c => !decide (c = 10))) else q.dropWhile blk
theorem bgn_sfx {s : ByteArray} : ∀ (f : Nat) {q : List Nat} {a : Nat}, Sfx s q a → Sfx s (skp f q) (bgn s f a) := by
  intro f
  induction f with
  | zero => intro q a h; exact h
  | succ f ih =>
    intro q a h
    have h1 := fnd_drop (fun c => !blk c) h
    simp only [Bool.not_not] at h1
    have h2 := rmk_sfx h1
    unfold bgn skp
    rw [h2]
    by_cases hr : rmL (q.dropWhile blk) = true
    · rw [if_pos hr, if_pos hr]
      exact ih (fnd_drop (fun c => decide (c = 10)) h1)
    · rw [if_neg hr, if_neg hr]
      exact h1
theorem dw_len (P : Nat → Bool) (q : List Nat) : (q.dropWhile P).length ≤ q.length := (List.dropWhile_sublist P).length_le
theorem rm_drop {q : List Nat} (h : rmL q = true) : (q.dropWhile (fun c => !decide (c = 10))).length < q.length := by
  cases q with
  | nil => simp [rmL] at h
  | cons c q =>
    unfold rmL at h
    simp only [List.head?_cons, Bool.and_eq_true, decide_eq_true_eq, Option.some.injEq] at h
    obtain ⟨rfl, _⟩ := h
    rw [List.dropWhile_cons]
    have := dw_len (fun c => !decide (c = 10)) q
    simp only [show (!decide (33 = 10)) = true from rfl, if_true, List.length_cons]
    omega
theorem skp_fuel : ∀ (f g : Nat) (q : List Nat), q.length < f → q.length < g → skp f q = skp g q := by
  intro f
  induction f with
  | zero => intro g q h _; omega
  | succ f ih =>
    intro g q hf hg
    obtain ⟨g, rfl⟩ : ∃ k, g = k + 1 := ⟨g - 1, by omega⟩
    unfold skp
    by_cases hr : rmL (q.dropWhile blk) = true
    · rw [if_pos hr, if_pos hr]
      have h1 := rm_drop hr
      have h2 := dw_len blk q
      exact ih g _ (by omega) (by omega)
    · rw [if_neg hr, if_neg hr]
def SK (q : List Nat) : List Nat := skp (q.length + 1) q
theorem SK_eq (q : List Nat) : SK q = if rmL (q.dropWhile blk) = true then SK ((q.dropWhile blk).dropWhile (fun c => !decide (c = 10))) else q.dropWhile blk := by
  conv => lhs; unfold SK; unfold skp
  by_cases hr : rmL (q.dropWhile blk) = true
  · rw [if_pos hr, if_pos hr]
    have h1 := rm_drop hr
    have h2 := dw_len blk q
    exact skp_fuel _ _ _ (by omega) (by omega)
  · rw [if_neg hr, if_neg hr]
theorem bg_sfx {s : ByteArray} {q : List Nat} {a : Nat} (h : Sfx s q a) : Sfx s (SK q) (bg s a) := by
  have := bgn_sfx (s.size + 1) h
  rw [skp_fuel (s.size + 1) (q.length + 1) q (by have := h.size; have := wl_len q; omega) (by omega)] at this
  exact this
theorem SK_nil : SK [] = [] := rfl
/-- Blanks ahead make no difference. -/
theorem SK_blank (q y : List Nat) (h : q.dropWhile blk = []) : SK (q ++ y) = SK y := by
  rw [SK_eq (q ++ y), SK_eq y, List.dropWhile_append, h]
  rfl
theorem pre_take {X p : ByteArray} (h : preB X p = true) : X.data.toList.take p.size = p.data.toList := by
  unfold preB at h
  simp only [Bool.and_eq_true, decide_eq_true_eq, beq_iff_eq] at h
  have := h.2
  rw [ByteArray.toList_eq, ByteArray.toList_eq, ByteArray.data_extract, Array.toList_extract] at this
  simpa using this
/-- A text without a byte that belongs to no character is a row of characters. -/
theorem valid_from (s : ByteArray) : ∀ (b pos : Nat), pos ≤ s.size → s.size ≤ pos + b → stL s (crs s b pos) = s.size → ∃ l, VL l ∧ s.data.toList.drop pos = enL l := by
  intro b
  induction b with
  | zero =>
    intro pos h1 h2 _
    refine ⟨[], fun c hc => by simp at hc, ?_⟩
    rw [List.drop_eq_nil_of_le (by rw [Array.length_toList]; exact h2)]
    rfl
  | succ b ih =>
    intro pos h1 h2 h3
    by_cases hp : pos < s.size
    · have hw := wid_pos s pos hp
      have hwp := decode_wd s pos hp
      rw [show crs s (b + 1) pos = (pos, (Utf8.decode s pos).1) :: crs s b (pos + (Utf8.decode s pos).2) by simp [crs, hp]] at h3
      unfold stL at h3
      have hne : s.data.toList.drop pos ≠ [] := by
        intro g
        have := congrArg List.length g
        rw [List.length_drop, Array.length_toList] at this
        have : s.data.size - pos = 0 := this
        have : s.data.size = s.size := rfl
        omega
      have hdl := decodeL_drop s pos
      by_cases hbad : (Utf8.decode s pos).1 = 65533 ∧ preB (s.extract pos s.size) rpB = false
      · rw [if_pos hbad] at h3
        omega
      · rw [if_neg hbad] at h3
        obtain ⟨l, hl, e⟩ := ih (pos + (Utf8.decode s pos).2) hwp (by omega) h3
        have hv : ¬ ((decodeL (s.data.toList.drop pos)).1 = 65533 ∧ (decodeL (s.data.toList.drop pos)).2 = 1) := by
          rw [hdl]
          intro g
          have hpre : preB (s.extract pos s.size) rpB = true := by
            cases hx : preB (s.extract pos s.size) rpB with
            | true => rfl
            | false => exact absurd ⟨g.1, hx⟩ hbad
          have ht := pre_take hpre
          have hx : (s.extract pos s.size).data.toList = s.data.toList.drop pos := by
            rw [ByteArray.data_extract, Array.toList_extract]
            show List.extract _ _ _ = _
            rw [List.extract, List.take_of_length_le]
            rw [List.length_drop, Array.length_toList]
            exact Nat.le_refl _
          rw [hx] at ht
          have e3 : s.data.toList.drop pos = encodeRune ((65533 : Nat) : Int) ++ (s.data.toList.drop pos).drop 3 := by
            have : encodeRune ((65533 : Nat) : Int) = rpB.data.toList := rfl
            rw [this, ← ht]
            exact (List.take_append_drop 3 _).symm
          rw [e3, decodeL_enc (by unfold Vr; omega)] at hdl
          rw [← hdl] at g
          exact absurd g.2 (by decide)
        have he := encode_decode _ hne hv
        rw [hdl] at he
        refine ⟨(Utf8.decode s pos).1 :: l, ?_, ?_⟩
        · intro c hc
          rcases List.mem_cons.1 hc with rfl | hc
          · exact decode_vr s pos
          · exact hl c hc
        · rw [show enL ((Utf8.decode s pos).1 :: l) = encodeRune ((Utf8.decode s pos).1 : Int) ++ enL l by simp [enL], he, ← e, ← List.drop_drop, List.take_append_drop]
    · refine ⟨[], fun c hc => by simp at hc, ?_⟩
      rw [List.drop_eq_nil_of_le (by rw [Array.length_toList]; show s.size ≤ pos; omega)]
      rfl
theorem valid_tx {s : ByteArray} (h : ¬ stR s < s.size) : ∃ l, VL l ∧ s = tx l := by
  have h2 := stL_le s s.size 0
  unfold stR at h
  obtain ⟨l, hl, e⟩ := valid_from s s.size 0 (Nat.zero_le _) (by omega) (by omega)
  rw [List.drop_zero] at e
  exact ⟨l, hl, tx_inj e⟩
end Go.Proofs.YtfecmpebnianpaaGreatDoor
namespace Go.Proofs.YtfecmpebnianpaaGreatDoor
open Go.RowKit Go.Lib
set_option linter.unusedSimpArgs false
set_option linter.unusedVariables false
theorem str_sfx {s : ByteArray} {q : List Nat} {a : Nat} (h : Sfx s (34 :: q) a) : strR s a = strG a s.size (pl 0 q) false [] := by
  have h1 : Sfx s q (a + 1) := h.tail
  unfold strR
  rw [h1.rest, crs_tx0 h1.vl]
theorem quote_sfx {s : ByteArray} {c : Nat} {q : List Nat} {a : Nat} (h : Sfx s (c :: q) a) : (byN s a = 34) ↔ c = 34 := by
  have := h.size
  rw [wl_cons] at this
  have := wr_pos c
  rw [quote_byte (by omega), h.decode]
/-- What a word is, by its characters. -/
def wrdL (w : List Nat) (a z : Nat) : Tok × Nat × Int :=
  if (numR (tx w)).2 = 0 then (⟨2, ⟨#[]⟩, (numR (tx w)).1, a⟩, z, 0)
  else if (numR (tx w)).2 = 11 then (⟨0, ⟨#[]⟩, 0, 0⟩, a, 11)
  else if nmdB (tx w) = false then (⟨0, ⟨#[]⟩, 0, 0⟩, a, 10)
  else (⟨1, tx w, 0, a⟩, z, 0)
theorem wrd_sfx {s : ByteArray} {q : List Nat} {a : Nat} (h : Sfx s q a) : wrdR s a = wrdL (q.takeWhile (fun c => !blk c)) a (a + wl (q.takeWhile (fun c => !blk c))) := by
  have h2 : Sfx s (q.takeWhile (fun c => !blk c) ++ q.dropWhile (fun c => !blk c)) a := by rw [← split_while]; exact h
  unfold wrdR wrdL
  dsimp only
  rw [fnd_sfx _ h, h2.extract]
theorem tokG_fuel (s : ByteArray) : ∀ (f g a : Nat) (acc : List Tok), s.size - a < f → s.size - a < g → tokG s f a acc = tokG s g a acc := by
  intro f
  induction f with
  | zero => intro g a acc h _; omega
  | succ f ih =>
    intro g a acc hf hg
    obtain ⟨g, rfl⟩ : ∃ k, g = k + 1 := ⟨g - 1, by omega⟩
    unfold tokG
    by_cases ha : a < s.size
    · rw [if_pos ha, if_pos ha]
      by_cases h0 : (redR s a).2.2 = 0
      · rw [if_pos h0, if_pos h0]
        have h1 := red_go ha h0
        have h2 := bg_bd h1.2
        split
        · rfl
        · exact ih _ _ _ (by omega) (by omega)
      · rw [if_neg h0, if_neg h0]
    · rw [if_neg ha, if_neg ha]
/-- The tokens from a place on. -/
def tokH (s : ByteArray) (a : Nat) (acc : List Tok) : List Tok × Nat × Int := tokG s (s.size + 1) a acc
theorem tokH_end {s : ByteArray} {a : Nat} (acc : List Tok) (h : ¬ a < s.size) : tokH s a acc = (acc, 0, 0) := by
  unfold tokH tokG
  rw [if_neg h]
theorem tokH_go {s : ByteArray} {a : Nat} {acc : List Tok} (h : a < s.size) (h0 : (redR s a).2.2 = 0) (h1 : acc.length ≠ 4096) : tokH s a acc = tokH s (bg s (redR s a).2.1) (acc ++ [(redR s a).1]) := by
  conv => lhs; unfold tokH; unfold tokG
  rw [if_pos h, if_pos h0, if_neg h1]
  have g1 := red_go h h0
  have g2 := bg_bd g1.2
  exact tokG_fuel s _ _ _ _ (by omega) (by omega)
theorem tokR_h {s : ByteArray} (h0 : s.size ≤ 65536) (h1 : ¬ stR s < s.size) : tokR s = tokH s (bg s 0) [] := by
  unfold tokR
  rw [if_neg (by omega), if_neg h1]
  rfl
end Go.Proofs.YtfecmpebnianpaaGreatDoor
namespace Go.Proofs.YtfecmpebnianpaaGreatDoor
open Go.RowKit
set_option linter.unusedSimpArgs false
set_option linter.unusedVariables false
end Go.Proofs.YtfecmpebnianpaaGreatDoor
namespace Go.Proofs.YtfecmpebnianpaaGreatDoor
open Go.RowKit Go.Lib
set_option linter.unusedSimpArgs false
set_option linter.unusedVariables false
/-- A row of tokens that can be read. -/
def RdT (w : World) (v : Value) (l : List Tok) : Prop := ∃ ao cap, v = .slice ao l.length cap ∧ ∀ i t, l[i]? = some t → ∃ g, ao = some ⟨g, 0, none⟩ ∧ g < w.heap.size ∧ w.cell? ⟨g, i * 4, none⟩ = some (.int .i64 t.k) ∧ w.cell? ⟨g, i * 4 + 1, none⟩ = some (.string t.t) ∧ w.cell? ⟨g, i * 4 + 2, none⟩ = some (.int .i64 t.n) ∧ w.cell? ⟨g, i * 4 + 3, none⟩ = some (.int .i64 t.a)
theorem RdT.only {w w' : World} {v : Value} {l : List Tok} (h : RdT w v l) (o : Only (fun _ => False) w w') : RdT w' v l := by
  obtain ⟨ao, cap, e, h⟩ := h
  refine ⟨ao, cap, e, fun i t ht => ?_⟩
  obtain ⟨g, e1, hg, c0, c1, c2, c3⟩ := h i t ht
  exact ⟨g, e1, Nat.lt_of_lt_of_le hg o.size, o.cell c0 (fun x => x), o.cell c1 (fun x => x), o.cell c2 (fun x => x), o.cell c3 (fun x => x)⟩
end Go.Proofs.YtfecmpebnianpaaGreatDoor
namespace Go.Proofs.YtfecmpebnianpaaGreatDoor
open Go.RowKit
set_option linter.unusedSimpArgs false
set_option linter.unusedVariables false
/-- the number and the text of the document's tree -/
def vn (t : Tre) : Int := if t.k = 1 then t.n else if t.k = 3 then (if t.n != 0 then 1 else 0) else 0
def vs (t : Tre) : ByteArray := if t.k = 2 ∨ t.k = 7 then t.s else ⟨#[]⟩
/-- lists of at most 4096 parts -/
def WfT : Nat → Tre → Prop
  | 0, _ => False
  | d + 1, t => t.l.length ≤ 4096 ∧ ∀ x ∈ t.l, WfT d x
theorem WfT.mono : ∀ {d d' : Nat} {t : Tre}, d ≤ d' → WfT d t → WfT d' t
  | 0, _, _, _, h => h.elim
  | d + 1, 0, t, hd, h => by omega
  | d + 1, e + 1, t, hd, h => ⟨h.1, fun x hx => (h.2 x hx).mono (by omega)⟩
theorem prs_wf (n : Int) : ∀ f m q o z l r z', prs n f m q o z = .ok (l, r, z') → z ≤ 1024 → q.length ≤ 4096 → ∀ x ∈ l, WfT f x := by
  intro f
  induction f with
  | zero => intro m q o z l r z' h; simp [prs] at h
  | succ f ih =>
    intro m q o z l r z' h hz hq
    match m with
    | 0 =>
      simp only [prs] at h
      cases q with
      | nil => simp at h
      | cons t q =>
        simp only [List.length_cons] at hq
        simp only at h
        repeat' split at h
        all_goals first
          | (simp at h; done)
          | (simp only [Except.ok.injEq, Prod.mk.injEq] at h; obtain ⟨rfl, rfl, rfl⟩ := h; intro x hx; simp only [List.mem_cons, List.not_mem_nil, or_false] at hx; subst hx; exact ⟨Nat.zero_le _, fun x hx => by simp at hx⟩)
          | skip
        all_goals
          rename_i hp
          simp only [Except.ok.injEq, Prod.mk.injEq] at h; obtain ⟨rfl, rfl, rfl⟩ := h
          have h1 := prs_ok n _ _ _ _ _ _ _ _ hp (by omega)
          have h2 := ih _ _ _ _ _ _ _ hp (by omega) (by omega)
          intro x hx
          simp only [List.mem_cons, List.not_mem_nil, or_false] at hx
          subst hx
          exact ⟨by dsimp only; omega, h2⟩
    | 1 =>
      simp only [prs] at h
      cases q with
      | nil => simp at h
      | cons t q =>
        simp only at h
        repeat' split at h
        · simp at h
        · simp only [Except.ok.injEq, Prod.mk.injEq] at h; obtain ⟨rfl, rfl, rfl⟩ := h; intro x hx; simp only [List.mem_cons, List.not_mem_nil, or_false] at hx; subst hx; exact ⟨Nat.zero_le _, fun x hx => by simp at hx⟩
        · exact fun x hx => (ih _ _ _ _ _ _ _ h hz hq x hx).mono (by omega)
    | m + 2 =>
      simp only [prs] at h
      cases q with
      | nil => simp at h
      | cons t q =>
        simp only at h
        repeat' split at h
        · simp only [Except.ok.injEq, Prod.mk.injEq] at h; obtain ⟨rfl, rfl, rfl⟩ := h; intro x hx; simp at hx
        · simp at h
        · simp at h
        · rename_i l1 r1 z1 hp _ l2 r2 z2 hp2
          simp only [Except.ok.injEq, Prod.mk.injEq] at h; obtain ⟨rfl, rfl, rfl⟩ := h
          obtain ⟨h1, h2, h3, h4, h5⟩ := prs_ok n _ _ _ _ _ _ _ _ hp hz
          intro x hx
          rw [List.mem_append] at hx
          rcases hx with hx | hx
          · exact (ih _ _ _ _ _ _ _ hp hz hq x hx).mono (by omega)
          · exact (ih _ _ _ _ _ _ _ hp2 h3 (by omega) x hx).mono (by omega)
/-- the slice lv holds the parts of the tree t as the document has them -/
def VtAt (w : World) (S : Nat → Prop) : Nat → Tre → Value → Prop
  | 0, _, _ => False
  | d + 1, t, lv => ∃ ao cap, lv = .slice ao t.l.length cap ∧ t.l.length ≤ cap ∧ ∀ (i : Nat) (x : Tre), t.l[i]? = some x → ∃ g k lx, ao = some ⟨g, k, none⟩ ∧ S g ∧ (w.cell? ⟨g, k + i * 4, none⟩ = some (.int .i64 (x.k : Int)) ∧ w.cell? ⟨g, k + i * 4 + 1, none⟩ = some (.int .i64 (vn x)) ∧ w.cell? ⟨g, k + i * 4 + 2, none⟩ = some (.string (vs x)) ∧ w.cell? ⟨g, k + i * 4 + 3, none⟩ = some lx) ∧ VtAt w S d x lx
theorem VtAt.step {w w' : World} {S S' : Nat → Prop} (hS : ∀ b, S b → S' b) (hk : ∀ (a : Addr) u, S a.block → w.cell? a = some u → w'.cell? a = some u) : ∀ {d d' : Nat} {t : Tre} {v : Value}, d ≤ d' → VtAt w S d t v → VtAt w' S' d' t v := by
  intro d
  induction d with
  | zero => intro d' t v _ h; exact h.elim
  | succ d ih =>
    intro d' t v hd h
    obtain ⟨e, rfl⟩ : ∃ e, d' = e + 1 := ⟨d' - 1, by omega⟩
    obtain ⟨ao, cap, hv, hc, hl⟩ := h
    refine ⟨ao, cap, hv, hc, fun i x hx => ?_⟩
    obtain ⟨g, k, lx, ha, hg, ⟨c0, c1, c2, c3⟩, ht⟩ := hl i x hx
    exact ⟨g, k, lx, ha, hS g hg, ⟨hk _ _ hg c0, hk _ _ hg c1, hk _ _ hg c2, hk _ _ hg c3⟩, ih (by omega) ht⟩
def NvAt (w : World) (B d : Nat) (t : Tre) (lv : Value) : Prop := ∃ S, VtAt w S d t lv ∧ ∀ b, S b → B ≤ b ∧ b < w.heap.size
theorem NvAt.only {w w' : World} {B d : Nat} {t : Tre} {lv : Value} {bs : Nat → Prop} (h : NvAt w B d t lv) (o : Only bs w w') (hb : ∀ b, B ≤ b → ¬ bs b) : NvAt w' B d t lv := by
  obtain ⟨S, ht, hS⟩ := h
  exact ⟨S, ht.step (fun _ g => g) (fun a u hs hc => o.cell hc (hb _ (hS _ hs).1)) (Nat.le_refl _), fun b hbS => ⟨(hS b hbS).1, Nat.lt_of_lt_of_le (hS b hbS).2 o.size⟩⟩
theorem NvAt.lower {w : World} {B C d : Nat} {t : Tre} {lv : Value} (h : NvAt w B d t lv) (hC : C ≤ B) : NvAt w C d t lv := by
  obtain ⟨S, ht, hS⟩ := h
  exact ⟨S, ht, fun b hbS => ⟨Nat.le_trans hC (hS b hbS).1, (hS b hbS).2⟩⟩
theorem NvAt.deep {w : World} {B d d' : Nat} {t : Tre} {lv : Value} (h : NvAt w B d t lv) (hd : d ≤ d') : NvAt w B d' t lv := by
  obtain ⟨S, ht, hS⟩ := h
  exact ⟨S, ht.step (fun _ g => g) (fun _ _ _ g => g) hd, hS⟩
theorem nv_nil {w : World} {B d : Nat} {t : Tre} (h : t.l = []) : NvAt w B (d + 1) t (.slice none 0 0) :=
  ⟨fun _ => False, ⟨none, 0, by rw [h]; rfl, by rw [h]; exact Nat.zero_le _, fun i x hx => by rw [h] at hx; simp at hx⟩, fun b h => h.elim⟩
theorem NvAt.form {w : World} {B d : Nat} {t : Tre} {lv : Value} (h : NvAt w B d t lv) : ∃ ao cap, lv = .slice ao t.l.length cap := by
  obtain ⟨S, ht, _⟩ := h
  cases d with
  | zero => exact ht.elim
  | succ d => obtain ⟨ao, cap, hv, _⟩ := ht; exact ⟨ao, cap, hv⟩
/-- a row of the document's trees that was made since block B -/
def VrAt (w : World) (B d : Nat) (v : Value) (l : List Tre) : Prop :=
  ∃ us S, w.ownsRow B 100 4 v l.length us ∧ (∀ (j : Nat) (x : Tre), l[j]? = some x → ∃ lx, (us[j * 4]? = some (.int .i64 (x.k : Int)) ∧ us[j * 4 + 1]? = some (.int .i64 (vn x)) ∧ us[j * 4 + 2]? = some (.string (vs x)) ∧ us[j * 4 + 3]? = some lx) ∧ VtAt w S d x lx) ∧ ∀ b, S b → B ≤ b ∧ b < w.heap.size ∧ v.ownBlock ≠ some b
theorem vr_nil (w : World) (B d : Nat) : VrAt w B d (.slice none 0 0) [] :=
  ⟨[], fun _ => False, ⟨rfl, .inl ⟨rfl, rfl⟩⟩, fun j x h => by simp at h, fun b h => h.elim⟩
theorem VrAt.form {w : World} {B d : Nat} {v : Value} {l : List Tre} (h : VrAt w B d v l) : ∃ ao cap, v = .slice ao l.length cap := by
  obtain ⟨us, S, ho, _⟩ := h
  rcases ho.2 with ⟨h1, h2⟩ | ⟨g, cap, cur, h1, _⟩
  · exact ⟨_, _, by rw [h1, h2]⟩
  · exact ⟨_, _, h1⟩
theorem VrAt.only {w w' : World} {B d : Nat} {v : Value} {l : List Tre} {bs : Nat → Prop} (h : VrAt w B d v l) (o : Only bs w w') (hb : ∀ b, B ≤ b → ¬ bs b) : VrAt w' B d v l := by
  obtain ⟨us, S, ho, ht, hS⟩ := h
  refine ⟨us, S, o.owns ho (fun k hk => hb k (ho.lt k hk).1), fun j x hx => ?_, fun b hbS => ?_⟩
  · obtain ⟨lx, hu, h2⟩ := ht j x hx
    exact ⟨lx, hu, h2.step (fun _ g => g) (fun a u hs hc => o.cell hc (hb _ (hS _ hs).1)) (Nat.le_refl _)⟩
  · obtain ⟨h1, h2, h3⟩ := hS b hbS
    exact ⟨h1, Nat.lt_of_lt_of_le h2 o.size, h3⟩
theorem VrAt.snoc {w w' : World} {B C d : Nat} {v v' : Value} {l : List Tre} {t : Tre} {lv : Value} {us : List Value} {S : Nat → Prop} (hg : w.grownBy w' v.ownBlock) (ho : w.ownsRow B 100 4 v l.length us) (ht : ∀ (j : Nat) (x : Tre), l[j]? = some x → ∃ lx, (us[j * 4]? = some (.int .i64 (x.k : Int)) ∧ us[j * 4 + 1]? = some (.int .i64 (vn x)) ∧ us[j * 4 + 2]? = some (.string (vs x)) ∧ us[j * 4 + 3]? = some lx) ∧ VtAt w S d x lx) (hS : ∀ b, S b → B ≤ b ∧ b < w.heap.size ∧ v.ownBlock ≠ some b)
    (hn : NvAt w C d t lv) (hC : B ≤ C) (hv : ∀ k, v.ownBlock = some k → k < C) (ho' : w'.ownsRow B 100 4 v' (l.length + 1) (us ++ [.int .i64 (t.k : Int), .int .i64 (vn t), .string (vs t), lv])) (hat : v'.ownBlock = v.ownBlock ∨ v'.ownBlock = some w.heap.size) : VrAt w' B d v' (l ++ [t]) := by
  obtain ⟨S1, t1, s1⟩ := hn
  have oo : Only (fun k => v.ownBlock = some k) w w' := (Only.refl _ w).grown hg (fun k e _ => e)
  have a1 : ∀ b, S b → ¬ v.ownBlock = some b := fun b h => (hS b h).2.2
  have a2 : ∀ b, S1 b → ¬ v.ownBlock = some b := fun b h e => by have := hv b e; have := (s1 b h).1; omega
  have hl : us.length = l.length * 4 := ho.1
  refine ⟨_, fun b => S b ∨ S1 b, by simpa using ho', fun j x hx => ?_, fun b hb => ?_⟩
  · by_cases hj : j < l.length
    · rw [List.getElem?_append_left hj] at hx
      obtain ⟨lx, ⟨h0, h1, h2, h3⟩, h6⟩ := ht j x hx
      have ap : ∀ i u, us[i]? = some u → (us ++ [.int .i64 (t.k : Int), .int .i64 (vn t), .string (vs t), lv])[i]? = some u := fun i u hu => by
        rw [List.getElem?_append_left (List.getElem?_eq_some_iff.1 hu).1]; exact hu
      exact ⟨lx, ⟨ap _ _ h0, ap _ _ h1, ap _ _ h2, ap _ _ h3⟩, h6.step (fun _ g => .inl g) (fun a y hs hc => oo.cell hc (a1 _ hs)) (Nat.le_refl _)⟩
    · have hj2 : j < (l ++ [t]).length := (List.getElem?_eq_some_iff.1 hx).1
      have hj3 : j = l.length := by simp at hj2; omega
      subst hj3
      simp at hx
      subst hx
      have ap : ∀ i, (us ++ [.int .i64 (t.k : Int), .int .i64 (vn t), .string (vs t), lv])[l.length * 4 + i]? = ([.int .i64 (t.k : Int), .int .i64 (vn t), .string (vs t), lv] : List Value)[i]? := fun i => by
        rw [List.getElem?_append_right (by omega)]
        congr 1
        omega
      exact ⟨lv, ⟨ap 0, ap 1, ap 2, ap 3⟩, t1.step (fun _ g => .inr g) (fun a y hs hc => oo.cell hc (a2 _ hs)) (Nat.le_refl _)⟩
  · have h1 : B ≤ b ∧ b < w.heap.size ∧ v.ownBlock ≠ some b := by
      rcases hb with h | h
      · exact hS b h
      · exact ⟨Nat.le_trans hC (s1 b h).1, (s1 b h).2, a2 b h⟩
    refine ⟨h1.1, Nat.lt_of_lt_of_le h1.2.1 oo.size, ?_⟩
    rcases hat with e | e <;> rw [e]
    · exact h1.2.2
    · intro e2
      injection e2 with e2
      have := h1.2.1
      omega
/-- a row as the parts of a tree -/
theorem VrAt.tree {w : World} {B d : Nat} {v : Value} {l : List Tre} {t : Tre} (h : VrAt w B d v l) (e : t.l = l) : NvAt w B (d + 1) t v := by
  subst e
  obtain ⟨us, S, ho, ht, hS⟩ := h
  refine ⟨fun b => S b ∨ v.ownBlock = some b, ?_, fun b hb => ?_⟩
  · rcases ho.2 with ⟨rfl, h2⟩ | ⟨g, cap, cur, hv, hB, hg, hn, hcm, hcs, htk⟩
    · exact ⟨none, 0, by rw [h2], by omega, fun i x hx => by have := (List.getElem?_eq_some_iff.1 hx).1; omega⟩
    · refine ⟨some ⟨g, 0, none⟩, cap, hv, hn, fun i x hx => ?_⟩
      obtain ⟨lx, ⟨h0, h1, h2, h3⟩, h4⟩ := ht i x hx
      have hc : ∀ j u, us[j]? = some u → w.cell? ⟨g, 0 + j, none⟩ = some u := fun j u hu => by
        have := ho.cells (g := g) (by rw [hv]; rfl) j u hu
        rwa [addr_ad, ← Nat.zero_add j] at this
      exact ⟨g, 0, lx, rfl, .inr (by rw [hv]; rfl), ⟨hc _ _ h0, hc _ _ h1, hc _ _ h2, hc _ _ h3⟩, h4.step (fun _ g => .inl g) (fun _ _ _ g => g) (Nat.le_refl _)⟩
  · rcases hb with h | h
    · exact ⟨(hS b h).1, (hS b h).2.1⟩
    · exact ho.lt b h
/-- what a type assertion with two values answers -/
theorem as_hit (T xt : TypeId) (D : TypeDesc) (hD : Tryz.prog.underlying T = some D) (hn : ∀ m, D ≠ .interface m) (x : Value) (W : World) : (Instr.typeAssert (.iface T x) xt T true).run Tryz.prog W = .ok (.tuple #[x, .bool true]) W := by
  simp only [Instr.typeAssert, Sem.run_bind, run_underlying hD, Result.andThen_ok]
  cases D <;> simp_all
theorem as_miss (T U xt : TypeId) (D : TypeDesc) (hD : Tryz.prog.underlying U = some D) (hn : ∀ m, D ≠ .interface m) (hT : T ≠ U) (z : Value) (hz : ∀ W : World, (zeroValue U).run Tryz.prog W = .ok z W) (x : Value) (W : World) : (Instr.typeAssert (.iface T x) xt U true).run Tryz.prog W = .ok (.tuple #[z, .bool false]) W := by
  simp only [Instr.typeAssert, Sem.run_bind, run_underlying hD, Result.andThen_ok]
  cases D <;> simp_all
end Go.Proofs.YtfecmpebnianpaaGreatDoor
namespace Go.Proofs.YtfecmpebnianpaaGreatDoor
open Go.RowKit
set_option linter.unusedSimpArgs false
set_option linter.unusedVariables false
/-- what the trees of many are -/
def TsC (d F : Nat) (i : Bool) : Prop := ∀ (v : Value) (l : List Tre) (w : World) (S : Nat → Prop), SqAt w S d i v l → l.length ≤ 4096 → (∀ x ∈ l, ∃ e, WfT e x) → Calls Tryz.prog F #[v] w fun e w' => ∃ ao cap, e = .returned (.slice ao l.length cap) ∧ Hid (VrAt w' w.heap.size d (.slice ao l.length cap) l ∧ Only (fun _ => False) w w')
/-- what the tree of one is -/
def TeC (d F : Nat) (i : Bool) : Prop := ∀ (v : Value) (t : Tre) (w : World) (S : Nat → Prop), TrAt w S d i t v → (∃ e, WfT e t) → Calls Tryz.prog F #[v] w fun e w' => ∃ lv, e = .returned (.agg #[.int .i64 (t.k : Int), .int .i64 (vn t), .string (vs t), lv]) ∧ Hid (NvAt w' w.heap.size d t lv ∧ Only (fun _ => False) w w')
theorem results_v {fn : Func} {u : Tmp} (h : fn.results = #[.cell u 100]) (tmps : Array Value) (w : World) (B : Nat) {x y z r : Value} (h0 : w.cell? ⟨B, 0, none⟩ = some x) (h1 : w.cell? ⟨B, 1, none⟩ = some y) (h2 : w.cell? ⟨B, 2, none⟩ = some z) (h3 : w.cell? ⟨B, 3, none⟩ = some r) (ha : tmps.getD u undef = .pointer (some ⟨B, 0, none⟩)) :
    (results fn tmps).run Tryz.prog w = .ok (.agg #[x, y, z, r]) w := by
  have ha' : tmps[u]?.getD undef = .pointer (some ⟨B, 0, none⟩) := by simpa using ha
  simp [results, h, ha', asAddr, go_sem, loadVar, isAgg, Tryz.underlying100, h0, h1, h2, h3]
theorem only4 {w : World} {B : Nat} (x0 x1 x2 x3 : Value) : Only (fun b => b = B) w ((((w.setCell ⟨B, 0, none⟩ x0).setCell ⟨B, 1, none⟩ x1).setCell ⟨B, 2, none⟩ x2).setCell ⟨B, 3, none⟩ x3) :=
  ((((Only.refl (fun b => b = B) w).setCell ⟨B, 0, none⟩ _ (fun _ => rfl)).setCell ⟨B, 1, none⟩ _ (fun _ => rfl)).setCell ⟨B, 2, none⟩ _ (fun _ => rfl)).setCell ⟨B, 3, none⟩ _ (fun _ => rfl)
set_option maxRecDepth 100000 in
theorem zero_Int (W : World) : (zeroValue 184).run Tryz.prog W = .ok (.agg #[.int .i64 0]) W := by rfl
set_option maxRecDepth 100000 in
theorem zero_Str (W : World) : (zeroValue 186).run Tryz.prog W = .ok (.agg #[.string ⟨#[]⟩]) W := by rfl
set_option maxRecDepth 100000 in
theorem zero_Bool (W : World) : (zeroValue 188).run Tryz.prog W = .ok (.agg #[.bool false]) W := by rfl
set_option maxRecDepth 100000 in
theorem zero_List (W : World) : (zeroValue 191).run Tryz.prog W = .ok (.agg #[.slice none 0 0]) W := by rfl
set_option maxRecDepth 100000 in
theorem zero_Push (W : World) : (zeroValue 159).run Tryz.prog W = .ok (.agg #[.nilIface]) W := by rfl
set_option maxRecDepth 100000 in
theorem tree_int (n : Int) (w : World) : Calls Tryz.prog 80 #[.iface 184 (.agg #[.int .i64 n])] w fun e w' => e = .returned (.agg #[.int .i64 1, .int .i64 n, .string ⟨#[]⟩, .slice none 0 0]) ∧ Only (fun _ => False) w w' := by
  have hInt := as_hit 184 157 _ Tryz.underlying184 (by intro m h; cases h)
  have O0 : Hid (Only (fun _ => False) w w) := Only.refl _ _
  go_enter Tryz.func80, Tryz.ntmps80
  go_wp2
  refine bodyPost_ret (results_v rfl _ _ w.heap.size (x := _) (y := _) (z := _) (r := _) ?_ ?_ ?_ ?_ rfl) rfl ⟨rfl, ?_⟩
  · simp [go_sem]
  · simp [go_sem]
  · simp [go_sem]
  · simp [go_sem]
  · first
      | exact ((O0.out.alloc _).alloc _)
      | exact (((((O0.out.alloc _).alloc _).setCell _ _ (fun h => absurd h (by simp))).setCell _ _ (fun h => absurd h (by simp))).setCell _ _ (fun h => absurd h (by simp))).setCell _ _ (fun h => absurd h (by simp))
set_option maxRecDepth 100000 in
theorem tree_str (x : ByteArray) (w : World) : Calls Tryz.prog 80 #[.iface 186 (.agg #[.string x])] w fun e w' => e = .returned (.agg #[.int .i64 2, .int .i64 0, .string x, .slice none 0 0]) ∧ Only (fun _ => False) w w' := by
  have mInt := as_miss 186 184 157 _ Tryz.underlying184 (by intro m h; cases h) (by decide) _ zero_Int
  have hStr := as_hit 186 157 _ Tryz.underlying186 (by intro m h; cases h)
  have O0 : Hid (Only (fun _ => False) w w) := Only.refl _ _
  go_enter Tryz.func80, Tryz.ntmps80
  go_wp2
  refine bodyPost_ret (results_v rfl _ _ w.heap.size (x := _) (y := _) (z := _) (r := _) ?_ ?_ ?_ ?_ rfl) rfl ⟨rfl, ?_⟩
  · simp [go_sem]
  · simp [go_sem]
  · simp [go_sem]
  · simp [go_sem]
  · first
      | exact ((O0.out.alloc _).alloc _)
      | exact (((((O0.out.alloc _).alloc _).setCell _ _ (fun h => absurd h (by simp))).setCell _ _ (fun h => absurd h (by simp))).setCell _ _ (fun h => absurd h (by simp))).setCell _ _ (fun h => absurd h (by simp))
set_option maxRecDepth 100000 in
theorem tree_yes  (w : World) : Calls Tryz.prog 80 #[.iface 188 (.agg #[.bool true])] w fun e w' => e = .returned (.agg #[.int .i64 3, .int .i64 1, .string ⟨#[]⟩, .slice none 0 0]) ∧ Only (fun _ => False) w w' := by
  have mInt := as_miss 188 184 157 _ Tryz.underlying184 (by intro m h; cases h) (by decide) _ zero_Int
  have mStr := as_miss 188 186 157 _ Tryz.underlying186 (by intro m h; cases h) (by decide) _ zero_Str
  have hBool := as_hit 188 157 _ Tryz.underlying188 (by intro m h; cases h)
  have O0 : Hid (Only (fun _ => False) w w) := Only.refl _ _
  go_enter Tryz.func80, Tryz.ntmps80
  go_wp2
  refine bodyPost_ret (results_v rfl _ _ w.heap.size (x := _) (y := _) (z := _) (r := _) ?_ ?_ ?_ ?_ rfl) rfl ⟨rfl, ?_⟩
  · simp [go_sem]
  · simp [go_sem]
  · simp [go_sem]
  · simp [go_sem]
  · first
      | exact ((O0.out.alloc _).alloc _)
      | exact (((((O0.out.alloc _).alloc _).setCell _ _ (fun h => absurd h (by simp))).setCell _ _ (fun h => absurd h (by simp))).setCell _ _ (fun h => absurd h (by simp))).setCell _ _ (fun h => absurd h (by simp))
set_option maxRecDepth 100000 in
theorem tree_no  (w : World) : Calls Tryz.prog 80 #[.iface 188 (.agg #[.bool false])] w fun e w' => e = .returned (.agg #[.int .i64 3, .int .i64 0, .string ⟨#[]⟩, .slice none 0 0]) ∧ Only (fun _ => False) w w' := by
  have mInt := as_miss 188 184 157 _ Tryz.underlying184 (by intro m h; cases h) (by decide) _ zero_Int
  have mStr := as_miss 188 186 157 _ Tryz.underlying186 (by intro m h; cases h) (by decide) _ zero_Str
  have hBool := as_hit 188 157 _ Tryz.underlying188 (by intro m h; cases h)
  have O0 : Hid (Only (fun _ => False) w w) := Only.refl _ _
  go_enter Tryz.func80, Tryz.ntmps80
  go_wp2
  refine bodyPost_ret (results_v rfl _ _ w.heap.size (x := _) (y := _) (z := _) (r := _) ?_ ?_ ?_ ?_ rfl) rfl ⟨rfl, ?_⟩
  · simp [go_sem]
  · simp [go_sem]
  · simp [go_sem]
  · simp [go_sem]
  · first
      | exact ((O0.out.alloc _).alloc _)
      | exact (((((O0.out.alloc _).alloc _).setCell _ _ (fun h => absurd h (by simp))).setCell _ _ (fun h => absurd h (by simp))).setCell _ _ (fun h => absurd h (by simp))).setCell _ _ (fun h => absurd h (by simp))
set_option maxRecDepth 100000 in
theorem tree_call (x : ByteArray) (w : World) : Calls Tryz.prog 55 #[.iface 51 (.agg #[.string x])] w fun e w' => e = .returned (.agg #[.int .i64 7, .int .i64 0, .string x, .slice none 0 0]) ∧ Only (fun _ => False) w w' := by
  have mPush := as_miss 51 159 53 _ Tryz.underlying159 (by intro m h; cases h) (by decide) _ zero_Push
  have hCall := as_hit 51 53 _ Tryz.underlying51 (by intro m h; cases h)
  have O0 : Hid (Only (fun _ => False) w w) := Only.refl _ _
  go_enter Tryz.func55, Tryz.ntmps55
  go_wp2
  refine bodyPost_ret (results_v rfl _ _ w.heap.size (x := _) (y := _) (z := _) (r := _) ?_ ?_ ?_ ?_ rfl) rfl ⟨rfl, ?_⟩
  · simp [go_sem]
  · simp [go_sem]
  · simp [go_sem]
  · simp [go_sem]
  · first
      | exact ((O0.out.alloc _).alloc _)
      | exact (((((O0.out.alloc _).alloc _).setCell _ _ (fun h => absurd h (by simp))).setCell _ _ (fun h => absurd h (by simp))).setCell _ _ (fun h => absurd h (by simp))).setCell _ _ (fun h => absurd h (by simp))
set_option maxRecDepth 100000 in
theorem tree_list (d : Nat) (l : List Tre) (ao : Option Addr) (cap : Nat) (w : World) (S : Nat → Prop) (HT : TsC d 106 false) (h : SqAt w S d false (.slice ao l.length cap) l) (hl : l.length ≤ 4096) (hw : ∀ x ∈ l, ∃ e, WfT e x) : Calls Tryz.prog 80 #[.iface 191 (.agg #[.slice ao l.length cap])] w fun e w' => ∃ ao' cap', e = .returned (.agg #[.int .i64 4, .int .i64 0, .string ⟨#[]⟩, .slice ao' l.length cap']) ∧ Hid (VrAt w' w.heap.size d (.slice ao' l.length cap') l ∧ Only (fun _ => False) w w') := by
  have HC : Hid (∀ w1, Only (fun _ => False) w w1 → Calls Tryz.prog 106 #[.slice ao l.length cap] w1 fun e w' => ∃ ao cap, e = .returned (.slice ao l.length cap) ∧ Hid (VrAt w' w1.heap.size d (.slice ao l.length cap) l ∧ Only (fun _ => False) w1 w')) := fun w1 o1 => HT _ _ _ S (h.step (fun _ g => g) (fun a u _ hc => o1.cell hc (fun g => g)) (Nat.le_refl _)) hl hw
  have mInt := as_miss 191 184 157 _ Tryz.underlying184 (by intro m h; cases h) (by decide) _ zero_Int
  have mStr := as_miss 191 186 157 _ Tryz.underlying186 (by intro m h; cases h) (by decide) _ zero_Str
  have mBool := as_miss 191 188 157 _ Tryz.underlying188 (by intro m h; cases h) (by decide) _ zero_Bool
  have hList := as_hit 191 157 _ Tryz.underlying191 (by intro m h; cases h)
  have O0 : Hid (Only (fun _ => False) w w) := Only.refl _ _
  clear HT h hl hw
  obtain ⟨L, hL⟩ : ∃ L, L = l.length := ⟨_, rfl⟩
  have HL : Hid (L = l.length) := hL
  rw [← hL] at HC
  rw [← hL]
  clear hL
  go_enter Tryz.func80, Tryz.ntmps80
  go_wp2_with fail
  refine (show Calls Tryz.prog 106 _ _ _ from HC.out _ ((O0.out.alloc _).alloc _)).mono ?_
  rintro e w1 ⟨ao', cap', rfl, g1⟩
  have R3 : w1.heap[w.heap.size]? = some (.cells #[.int .i64 0, .int .i64 0, .string ⟨#[]⟩, .slice none 0 0] 100) := (g1.out.2.block w.heap.size (by simp; omega) (fun h => h)).trans ((((Only.refl (fun _ => False) (w.alloc (.cells #[.int .i64 0, .int .i64 0, .string ⟨#[]⟩, .slice none 0 0] 100))).alloc _).block w.heap.size (by simp) (fun h => h)).trans (alloc_at _ _ _ rfl))
  have G1 : Hid (VrAt w1 (w.heap.size + 1) d (.slice ao' L cap') l ∧ Only (fun _ => False) w w1) := by
    obtain ⟨us, SS, ho, ht, hS⟩ := g1.out.1
    have e1 : L = l.length := HL.out
    refine ⟨⟨us, SS, ⟨ho.1, ?_⟩, ht, fun b hb => ⟨by have := (hS b hb).1; simp at this; omega, (hS b hb).2⟩⟩, ((O0.out.alloc _).alloc _).trans g1.out.2 (fun _ _ g => g)⟩
    rcases ho.2 with g | ⟨g, cc, cur, h1, h2, h3⟩
    · exact .inl g
    · exact .inr ⟨g, cc, cur, h1, by simp at h2; omega, h3⟩
  clear g1 HC O0
  obtain ⟨B, hBe⟩ : ∃ B, B = w.heap.size := ⟨_, rfl⟩
  have HE : Hid (B = w.heap.size) := hBe
  rw [← hBe] at R3 ⊢
  have c0 := blk_cells R3 0
  have c1 := blk_cells R3 1
  have c2 := blk_cells R3 2
  have c3 := blk_cells R3 3
  have z0 := blk_froz R3 0
  have z1 := blk_froz R3 1
  have z2 := blk_froz R3 2
  have z3 := blk_froz R3 3
  have HR3 : Hid (w1.heap[B]? = some (.cells #[.int .i64 0, .int .i64 0, .string ⟨#[]⟩, .slice none 0 0] 100)) := R3
  simp only [List.getElem?_toArray, List.getElem?_cons_zero, List.getElem?_cons_succ] at c0 c1 c2 c3
  clear R3 hBe
  go_wp2
  obtain ⟨p0, p1, p2, p3⟩ := set4 HR3.out rfl (.int .i64 4) (.int .i64 0) (.string ⟨#[]⟩) (.slice ao' L cap')
  have e1 : L = l.length := HL.out
  have hBe : B = w.heap.size := HE.out
  have OB := @only4 w1 B (.int .i64 4) (.int .i64 0) (.string ⟨#[]⟩) (.slice ao' L cap')
  refine bodyPost_ret (results_v rfl _ _ B p0 p1 p2 p3 rfl) rfl ⟨ao', cap', rfl, ?_, G1.out.2.trans OB (fun b h e => by omega)⟩
  obtain ⟨us, SS, ho, ht, hS⟩ := G1.out.1.only OB (fun b h e => by omega)
  refine ⟨us, SS, ⟨ho.1, ?_⟩, ht, fun b hb => ⟨by have := (hS b hb).1; omega, (hS b hb).2⟩⟩
  rcases ho.2 with g | ⟨g, cc, cur, h1, h2, h3⟩
  · exact .inl g
  · exact .inr ⟨g, cc, cur, h1, by omega, h3⟩
set_option maxRecDepth 100000 in
theorem tree_quot (d : Nat) (l : List Tre) (ao : Option Addr) (cap : Nat) (w : World) (S : Nat → Prop) (HT : TsC d 36 true) (h : SqAt w S d true (.slice ao l.length cap) l) (hl : l.length ≤ 4096) (hw : ∀ x ∈ l, ∃ e, WfT e x) : Calls Tryz.prog 80 #[.iface 194 (.agg #[.slice ao l.length cap])] w fun e w' => ∃ ao' cap', e = .returned (.agg #[.int .i64 5, .int .i64 0, .string ⟨#[]⟩, .slice ao' l.length cap']) ∧ Hid (VrAt w' w.heap.size d (.slice ao' l.length cap') l ∧ Only (fun _ => False) w w') := by
  have HC : Hid (∀ w1, Only (fun _ => False) w w1 → Calls Tryz.prog 36 #[.slice ao l.length cap] w1 fun e w' => ∃ ao cap, e = .returned (.slice ao l.length cap) ∧ Hid (VrAt w' w1.heap.size d (.slice ao l.length cap) l ∧ Only (fun _ => False) w1 w')) := fun w1 o1 => HT _ _ _ S (h.step (fun _ g => g) (fun a u _ hc => o1.cell hc (fun g => g)) (Nat.le_refl _)) hl hw
  have mInt := as_miss 194 184 157 _ Tryz.underlying184 (by intro m h; cases h) (by decide) _ zero_Int
  have mStr := as_miss 194 186 157 _ Tryz.underlying186 (by intro m h; cases h) (by decide) _ zero_Str
  have mBool := as_miss 194 188 157 _ Tryz.underlying188 (by intro m h; cases h) (by decide) _ zero_Bool
  have mList := as_miss 194 191 157 _ Tryz.underlying191 (by intro m h; cases h) (by decide) _ zero_List
  have hQuot := as_hit 194 157 _ Tryz.underlying194 (by intro m h; cases h)
  have O0 : Hid (Only (fun _ => False) w w) := Only.refl _ _
  clear HT h hl hw
  obtain ⟨L, hL⟩ : ∃ L, L = l.length := ⟨_, rfl⟩
  have HL : Hid (L = l.length) := hL
  rw [← hL] at HC
  rw [← hL]
  clear hL
  go_enter Tryz.func80, Tryz.ntmps80
  go_wp2_with fail
  refine (show Calls Tryz.prog 36 _ _ _ from HC.out _ ((O0.out.alloc _).alloc _)).mono ?_
  rintro e w1 ⟨ao', cap', rfl, g1⟩
  have R3 : w1.heap[w.heap.size]? = some (.cells #[.int .i64 0, .int .i64 0, .string ⟨#[]⟩, .slice none 0 0] 100) := (g1.out.2.block w.heap.size (by simp; omega) (fun h => h)).trans ((((Only.refl (fun _ => False) (w.alloc (.cells #[.int .i64 0, .int .i64 0, .string ⟨#[]⟩, .slice none 0 0] 100))).alloc _).block w.heap.size (by simp) (fun h => h)).trans (alloc_at _ _ _ rfl))
  have G1 : Hid (VrAt w1 (w.heap.size + 1) d (.slice ao' L cap') l ∧ Only (fun _ => False) w w1) := by
    obtain ⟨us, SS, ho, ht, hS⟩ := g1.out.1
    have e1 : L = l.length := HL.out
    refine ⟨⟨us, SS, ⟨ho.1, ?_⟩, ht, fun b hb => ⟨by have := (hS b hb).1; simp at this; omega, (hS b hb).2⟩⟩, ((O0.out.alloc _).alloc _).trans g1.out.2 (fun _ _ g => g)⟩
    rcases ho.2 with g | ⟨g, cc, cur, h1, h2, h3⟩
    · exact .inl g
    · exact .inr ⟨g, cc, cur, h1, by simp at h2; omega, h3⟩
  clear g1 HC O0
  obtain ⟨B, hBe⟩ : ∃ B, B = w.heap.size := ⟨_, rfl⟩
  have HE : Hid (B = w.heap.size) := hBe
  rw [← hBe] at R3 ⊢
  have c0 := blk_cells R3 0
  have c1 := blk_cells R3 1
  have c2 := blk_cells R3 2
  have c3 := blk_cells R3 3
  have z0 := blk_froz R3 0
  have z1 := blk_froz R3 1
  have z2 := blk_froz R3 2
  have z3 := blk_froz R3 3
  have HR3 : Hid (w1.heap[B]? = some (.cells #[.int .i64 0, .int .i64 0, .string ⟨#[]⟩, .slice none 0 0] 100)) := R3
  simp only [List.getElem?_toArray, List.getElem?_cons_zero, List.getElem?_cons_succ] at c0 c1 c2 c3
  clear R3 hBe
  go_wp2
  obtain ⟨p0, p1, p2, p3⟩ := set4 HR3.out rfl (.int .i64 5) (.int .i64 0) (.string ⟨#[]⟩) (.slice ao' L cap')
  have e1 : L = l.length := HL.out
  have hBe : B = w.heap.size := HE.out
  have OB := @only4 w1 B (.int .i64 5) (.int .i64 0) (.string ⟨#[]⟩) (.slice ao' L cap')
  refine bodyPost_ret (results_v rfl _ _ B p0 p1 p2 p3 rfl) rfl ⟨ao', cap', rfl, ?_, G1.out.2.trans OB (fun b h e => by omega)⟩
  obtain ⟨us, SS, ho, ht, hS⟩ := G1.out.1.only OB (fun b h e => by omega)
  refine ⟨us, SS, ⟨ho.1, ?_⟩, ht, fun b hb => ⟨by have := (hS b hb).1; omega, (hS b hb).2⟩⟩
  rcases ho.2 with g | ⟨g, cc, cur, h1, h2, h3⟩
  · exact .inl g
  · exact .inr ⟨g, cc, cur, h1, by omega, h3⟩
theorem tree_of (d : Nat) (H1 : TsC d 106 false) (H2 : TsC d 36 true) : TeC (d + 1) 80 false := by
  intro v t w S h hw
  obtain ⟨k, n, s, l⟩ := t
  rcases h with ⟨h1, h2, h3⟩ | ⟨h1, h2, h3⟩ | ⟨h1, h2, h3⟩ | ⟨h1, ao, cap, hv, hc, hl⟩
  · dsimp only at h1 h2 h3
    subst h1 h3
    exact (tree_int n w).mono fun e w' g => ⟨_, g.1, nv_nil h2, g.2⟩
  · dsimp only at h1 h2 h3
    subst h1 h3
    exact (tree_str s w).mono fun e w' g => ⟨_, g.1, nv_nil h2, g.2⟩
  · dsimp only at h1 h2 h3
    subst h1 h3
    by_cases hn : n = 0
    · subst hn
      exact (tree_no w).mono fun e w' g => ⟨_, g.1, nv_nil h2, g.2⟩
    · have e1 : (n != 0) = true := by simp [hn]
      have e2 : vn ⟨3, n, s, l⟩ = 1 := by simp [vn, hn]
      rw [e1, e2]
      exact (tree_yes w).mono fun e w' g => ⟨_, g.1, nv_nil h2, g.2⟩
  · dsimp only at h1 hv hc hl
    obtain ⟨e, hw⟩ := hw
    cases e with
    | zero => exact hw.elim
    | succ e =>
      obtain ⟨hw1, hw2⟩ := hw
      dsimp only at hw1 hw2
      rcases h1 with h1 | h1
      · subst h1
        rw [if_pos rfl] at hv
        subst hv
        exact (tree_list d l ao cap w S H1 ⟨ao, cap, rfl, hc, hl⟩ hw1 (fun x hx => ⟨e, hw2 x hx⟩)).mono fun e w' g => by
          obtain ⟨ao', cap', he, g⟩ := g
          exact ⟨_, he, g.out.1.tree rfl, g.out.2⟩
      · subst h1
        rw [if_neg (by omega)] at hv
        subst hv
        exact (tree_quot d l ao cap w S H2 ⟨ao, cap, rfl, hc, hl⟩ hw1 (fun x hx => ⟨e, hw2 x hx⟩)).mono fun e w' g => by
          obtain ⟨ao', cap', he, g⟩ := g
          exact ⟨_, he, g.out.1.tree rfl, g.out.2⟩
set_option maxRecDepth 100000 in
theorem itree_push (u : Value) (hu : ∃ T y, u = .iface T y) (x0 x1 : Int) (x2 : ByteArray) (Q : Value → World → Prop) (w : World)
    (HC0 : ∀ w1, w.heap.size < w1.heap.size → Only (fun _ => False) w w1 → Calls Tryz.prog 80 #[u] w1 fun e w' => ∃ lv, e = .returned (.agg #[.int .i64 x0, .int .i64 x1, .string x2, lv]) ∧ (∃ ao n cap, lv = .slice ao n cap) ∧ Hid ((∀ w2, Only (fun b => b = w.heap.size) w' w2 → Q lv w2) ∧ Only (fun _ => False) w1 w')) :
    Calls Tryz.prog 55 #[.iface 159 (.agg #[u])] w fun e w' => ∃ lv, e = .returned (.agg #[.int .i64 x0, .int .i64 x1, .string x2, lv]) ∧ Hid (Q lv w' ∧ Only (fun _ => False) w w') := by
  have HC : Hid (∀ w1, w.heap.size < w1.heap.size → Only (fun _ => False) w w1 → Calls Tryz.prog 80 #[u] w1 fun e w' => ∃ lv, e = .returned (.agg #[.int .i64 x0, .int .i64 x1, .string x2, lv]) ∧ (∃ ao n cap, lv = .slice ao n cap) ∧ Hid ((∀ w2, Only (fun b => b = w.heap.size) w' w2 → Q lv w2) ∧ Only (fun _ => False) w1 w')) := HC0
  obtain ⟨T, y, rfl⟩ := hu
  have hPush := as_hit 159 53 _ Tryz.underlying159 (by intro m h; cases h)
  have O0 : Hid (Only (fun _ => False) w w) := Only.refl _ _
  clear HC0
  go_enter Tryz.func55, Tryz.ntmps55
  go_wp2_with fail
  refine (show Calls Tryz.prog 80 _ _ _ from HC.out _ (by simp; omega) ((O0.out.alloc _).alloc _)).mono ?_
  rintro e w1 ⟨lv, rfl, ⟨ao, nn, cap, rfl⟩, g1⟩
  have R3 : w1.heap[w.heap.size]? = some (.cells #[.int .i64 0, .int .i64 0, .string ⟨#[]⟩, .slice none 0 0] 100) := (g1.out.2.block w.heap.size (by simp; omega) (fun h => h)).trans ((((Only.refl (fun _ => False) (w.alloc (.cells #[.int .i64 0, .int .i64 0, .string ⟨#[]⟩, .slice none 0 0] 100))).alloc _).block w.heap.size (by simp) (fun h => h)).trans (alloc_at _ _ _ rfl))
  have G1 : Hid ((∀ w2, Only (fun b => b = w.heap.size) w1 w2 → Q (.slice ao nn cap) w2) ∧ Only (fun _ => False) w w1) := ⟨g1.out.1, ((O0.out.alloc _).alloc _).trans g1.out.2 (fun _ _ g => g)⟩
  clear g1 HC O0
  obtain ⟨B, hBe⟩ : ∃ B, B = w.heap.size := ⟨_, rfl⟩
  have HE : Hid (B = w.heap.size) := hBe
  rw [← hBe] at R3 ⊢
  have c0 := blk_cells R3 0
  have c1 := blk_cells R3 1
  have c2 := blk_cells R3 2
  have c3 := blk_cells R3 3
  have z0 := blk_froz R3 0
  have z1 := blk_froz R3 1
  have z2 := blk_froz R3 2
  have z3 := blk_froz R3 3
  have HR3 : Hid (w1.heap[B]? = some (.cells #[.int .i64 0, .int .i64 0, .string ⟨#[]⟩, .slice none 0 0] 100)) := R3
  simp only [List.getElem?_toArray, List.getElem?_cons_zero, List.getElem?_cons_succ] at c0 c1 c2 c3
  clear R3 hBe
  go_wp2
  obtain ⟨p0, p1, p2, p3⟩ := set4 HR3.out rfl (.int .i64 x0) (.int .i64 x1) (.string x2) (.slice ao nn cap)
  have hBe : B = w.heap.size := HE.out
  have OB := @only4 w1 B (.int .i64 x0) (.int .i64 x1) (.string x2) (.slice ao nn cap)
  refine bodyPost_ret (results_v rfl _ _ B p0 p1 p2 p3 rfl) rfl ⟨_, rfl, G1.out.1 _ (by rw [← hBe]; exact OB), G1.out.2.trans OB (fun b h e => by omega)⟩
theorem itree_of (d : Nat) (H : TeC d 80 false) : TeC (d + 1) 55 true := by
  intro v t w S h hw
  rcases h with ⟨h1, h2, h3⟩ | ⟨h1, u, h3, h4⟩
  · obtain ⟨k, n, s, l⟩ := t
    dsimp only at h1 h2 h3
    subst h1 h3
    exact (tree_call s w).mono fun e w' g => ⟨_, g.1, nv_nil h2, g.2⟩
  · subst h3
    refine (itree_push u h4.form (t.k : Int) (vn t) (vs t) (fun lv w' => NvAt w' w.heap.size (d + 1) t lv) w fun w1 hlt o1 => ?_).mono fun e w' g => g
    have h5 : TrAt w1 S d false t u := h4.step (fun _ g => g) (fun a u _ hc => o1.cell hc (fun g => g)) (Nat.le_refl _)
    refine (H u t w1 S h5 hw).mono fun e w' g => ?_
    obtain ⟨lv, he, g⟩ := g
    obtain ⟨ao, cap, hf⟩ := g.out.1.form
    exact ⟨lv, he, ⟨ao, _, cap, hf⟩, fun w2 o2 => ((g.out.1.only o2 (fun b hb e => by omega)).lower (by omega)).deep (by omega), g.out.2⟩
end Go.Proofs.YtfecmpebnianpaaGreatDoor
