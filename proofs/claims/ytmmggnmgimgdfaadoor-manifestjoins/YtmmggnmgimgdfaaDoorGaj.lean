/- readAll of items: the loop. Parse, Items; awake. Texts as rows of characters: what is decoded, found and skipped. Tokens of texts that are put together. Sources one behind the other: what is read of tokens that others follow. LexJoins: the walk. -/
import Derived.Test.YtmmggnmgimgdfaaDoorGai
import Derived.Test.YtmmggnmgimgdfaaDoorGah
namespace Go.Proofs.YtmmggnmgimgdfaaDoor
open Go.RowKit
set_option linter.unusedSimpArgs false
set_option linter.unusedVariables false
/-- an item is put behind a row -/
theorem app_item {w : World} {B C d : Nat} {v : Value} {acc : List Tre} {t : Tre} {iv : Value} (hf : RwAt w B 72 d true v acc) (hn : NwAt w C d true t iv) (hC : B ≤ C) (hv : ∀ k, v.ownBlock = some k → k < C) (hB : B ≤ w.heap.size) (hl : acc.length ≤ 4096) :
    ∃ v' w', (∀ ty, (Builtin.append_ #[52, 52] ty #[v, .slice (some ⟨w.heap.size, 0, none⟩) 1 1]).run Tryd.prog (w.alloc (.cells #[iv] 72)) = .ok v' w') ∧ RwAt w' B 72 d true v' (acc ++ [t]) ∧ Only (fun k => B ≤ k) w w' := by
  obtain ⟨i0, z0, hi, hz0, hz1, hz2, hz3⟩ := el_info13
  obtain ⟨W, hW⟩ : ∃ W, W = w.alloc (.cells #[iv] 72) := ⟨_, rfl⟩
  have oo : Only (fun _ => False) w W := by rw [hW]; exact (Only.refl _ w).alloc _
  have hf2 := hf.only oo (fun _ _ h => h)
  have hn2 := hn.only oo (fun _ _ h => h)
  have hblk : W.heap[w.heap.size]? = some (.cells #[iv] 72) := by rw [hW]; exact alloc_at _ _ _ rfl
  obtain ⟨us, S, ho, ht, hS⟩ := hf2
  obtain ⟨T, y, hv0⟩ := hn2.form
  have key := fun ty => run_append_own_at (P := Tryd.prog) W B 52 ty 72 i0 z0 1 16 Tryd.underlying52 hi hz0 hz1 hz2 hz3 (by omega) v acc.length us ho ⟨w.heap.size, 0, none⟩ 1 1 [iv] rfl (by
      intro j u hj
      rw [addr_ad, blk_cells hblk]
      simpa using hj) (by
      intro u hu
      simp only [List.mem_cons, List.not_mem_nil, or_false] at hu
      subst hu
      rw [hv0]
      rfl) (by unfold maxLen; omega) (by omega) (by have := oo.size; omega)
  obtain ⟨v', w', hr, own', hg, _, hat⟩ := key 0
  refine ⟨v', w', fun ty => ?_, RwAt.snoc hg ho ht hS hn2 hC hv own' hat, oo.mono (bs' := fun k => B ≤ k) (fun _ _ h => h.elim) |>.trans ((Only.refl (fun k => v.ownBlock = some k) W).grown hg (fun k e _ => e)) (fun k hk e => (ho.lt k e).1)⟩
  rw [← hW, ← hr]
  rfl
end Go.Proofs.YtmmggnmgimgdfaaDoor
namespace Go.Proofs.YtmmggnmgimgdfaaDoor
open Go.RowKit
set_option linter.unusedSimpArgs false
set_option linter.unusedVariables false
theorem readAll_any (s : ByteArray) (w : World) (h : Nog w) : Calls Tryd.prog 33 #[.string s, .func (.func 34) #[] #[]] w (raP s w) := by
  by_cases hb : (tokR s).2.2 = 0
  · exact readAll_good s w h hb (tokR_len s) (by have := tokR_size hb; omega)
  · exact readAll_bad s w h hb
set_option maxRecDepth 100000 in
theorem parse_any (s : ByteArray) (w : World) (h : Nog w) : Calls Tryd.prog 24 #[.string s] w (raP s w) := by
  have HC : Hid (Calls Tryd.prog 33 #[.string s, .func (.func 34) #[] #[]] w (raP s w)) := readAll_any s w h
  clear h
  go_enter Tryd.func24, Tryd.ntmps24
  go_wp2_with fail
  refine (show Calls Tryd.prog 33 _ _ _ from HC.out).mono ?_
  rintro e w1 ⟨v, rfl, g⟩
  clear HC
  go_wp2
  go_ret3
  exact ⟨v, rfl, g⟩
theorem seven : (parI ⟨#[55]⟩).2.2 = 0 ∧ (parI ⟨#[55]⟩).1.length = 1 := ⟨by kernel_rfl, by kernel_rfl⟩
end Go.Proofs.YtmmggnmgimgdfaaDoor
namespace Go.Proofs.YtmmggnmgimgdfaaDoor
open Go.RowKit Go.Lib
set_option linter.unusedSimpArgs false
set_option linter.unusedVariables false
def wr (c : Nat) : Nat := (encodeRune (c : Int)).length
def wl (l : List Nat) : Nat := (enL l).length
def VL (l : List Nat) : Prop := ∀ c ∈ l, Vr c
theorem wl_nil : wl [] = 0 := rfl
theorem wl_cons (c : Nat) (l : List Nat) : wl (c :: l) = wr c + wl l := by simp [wl, wr, enL]
theorem wl_app (a b : List Nat) : wl (a ++ b) = wl a + wl b := by simp [wl, enL]
theorem wr_pos (c : Nat) : 1 ≤ wr c := by
  have := (runeCells_le (c : Int)).1
  rw [runeCells_length] at this
  exact this
theorem tx_size (l : List Nat) : (tx l).size = wl l := by simp [tx, wl, ByteArray.size]
theorem tx_data (l : List Nat) : (tx l).data.toList = enL l := by simp [tx]
theorem tx_inj {s : ByteArray} {l : List Nat} (h : s.data.toList = enL l) : s = tx l := by
  apply ByteArray.ext
  apply Array.toList_inj.1
  rw [tx_data, h]
theorem byte_of {n : Nat} (h : n < 256) : n.toUInt8.toNat = n := by
  show (UInt8.ofNat n).toNat = n
  rw [UInt8.toNat_ofNat']
  omega
theorem enc1 {c : Nat} (h : c ≤ 127) : encodeRune (c : Int) = [c.toUInt8] := by
  unfold encodeRune
  rw [encodeRuneZ_one (by omega) (by omega)]
  simp
theorem enc2 {c : Nat} (h0 : 128 ≤ c) (h1 : c ≤ 2047) : encodeRune (c : Int) = [(192 + c / 64).toUInt8, (128 + c % 64).toUInt8] := by
  unfold encodeRune
  rw [encodeRuneZ_two (by omega) (by omega)]
  simp only [List.map_cons, List.map_nil]
  congr 2 <;> omega
theorem enc3 {c : Nat} (h : (2048 ≤ c ∧ c < 55296) ∨ (57343 < c ∧ c ≤ 65535)) : encodeRune (c : Int) = [(224 + c / 4096).toUInt8, (128 + c / 64 % 64).toUInt8, (128 + c % 64).toUInt8] := by
  unfold encodeRune
  rw [encodeRuneZ_three (by omega)]
  simp only [List.map_cons, List.map_nil]
  congr 2
theorem enc4 {c : Nat} (h0 : 65536 ≤ c) (h1 : c ≤ 1114111) : encodeRune (c : Int) = [(240 + c / 262144).toUInt8, (128 + c / 4096 % 64).toUInt8, (128 + c / 64 % 64).toUInt8, (128 + c % 64).toUInt8] := by
  unfold encodeRune
  rw [encodeRuneZ_four (by omega) (by omega)]
  simp only [List.map_cons, List.map_nil]
  congr 2
set_option maxRecDepth 10000 in
/-- What was encoded is decoded. -/
theorem decodeL_enc {c : Nat} (hc : Vr c) (t : List UInt8) : decodeL (encodeRune (c : Int) ++ t) = (c, wr c) := by
  unfold wr
  rw [decodeL_N]
  unfold Vr at hc
  by_cases h1 : c ≤ 127
  · rw [enc1 h1]
    simp only [List.cons_append, List.nil_append, List.getD_cons_zero, List.length_cons, List.length_nil]
    rw [byte_of (by omega)]
    unfold decodeN
    rw [if_pos (by omega)]
  · by_cases h2 : c ≤ 2047
    · rw [enc2 (by omega) h2]
      simp only [List.cons_append, List.nil_append, List.getD_cons_zero, List.getD_cons_succ, List.length_cons, List.length_nil]
      rw [byte_of (by omega), byte_of (by omega)]
      unfold decodeN
      rw [if_neg (by omega), if_pos ⟨by omega, by omega, by omega⟩, if_pos (by omega)]
      congr 1
      omega
    · by_cases h3 : c ≤ 65535
      · rw [enc3 (by omega)]
        simp only [List.cons_append, List.nil_append, List.getD_cons_zero, List.getD_cons_succ, List.length_cons, List.length_nil]
        rw [byte_of (by omega), byte_of (by omega), byte_of (by omega)]
        unfold decodeN
        have e : (224 + c / 4096) % 16 * 4096 + (128 + c / 64 % 64) % 64 * 64 + (128 + c % 64) % 64 = c := by omega
        rw [if_neg (by omega), if_neg (by omega), if_pos ⟨by omega, ⟨by omega, by omega⟩, by omega, by omega⟩, e, if_pos ⟨by omega, by omega⟩]
      · rw [enc4 (by omega) (by omega)]
        simp only [List.cons_append, List.nil_append, List.getD_cons_zero, List.getD_cons_succ, List.length_cons, List.length_nil]
        rw [byte_of (by omega), byte_of (by omega), byte_of (by omega), byte_of (by omega)]
        unfold decodeN
        have e : (240 + c / 262144) % 8 * 262144 + (128 + c / 4096 % 64) % 64 * 4096 + (128 + c / 64 % 64) % 64 * 64 + (128 + c % 64) % 64 = c := by omega
        rw [if_neg (by omega), if_neg (by omega), if_neg (by omega), if_pos ⟨by omega, ⟨by omega, by omega⟩, ⟨by omega, by omega⟩, by omega, by omega⟩, e, if_pos ⟨by omega, by omega⟩]
theorem decode_tx (p : List Nat) {c : Nat} (hc : Vr c) (q : List Nat) : Utf8.decode (tx (p ++ c :: q)) (wl p) = (c, wr c) := by
  rw [← decodeL_drop, tx_data, enL_app]
  unfold wl
  rw [List.drop_left, show c :: q = [c] ++ q from rfl, enL_app, show enL [c] = encodeRune (c : Int) by simp [enL]]
  exact decodeL_enc hc _
/-- Characters with their places. -/
def pl : Nat → List Nat → List (Nat × Nat)
  | _, [] => []
  | o, c :: r => (o, c) :: pl (o + wr c) r
theorem crs_tx : ∀ (q p : List Nat) (b : Nat), VL q → wl q ≤ b → crs (tx (p ++ q)) b (wl p) = pl (wl p) q
  | [], p, b, _, _ => by
    rw [crs_end (by rw [tx_size, List.append_nil]; exact Nat.lt_irrefl _)]
    rfl
  | c :: q, p, b, h, hb => by
    have hc := h c (List.mem_cons_self ..)
    have hw := wr_pos c
    rw [wl_cons] at hb
    have hp : wl p < (tx (p ++ c :: q)).size := by rw [tx_size, wl_app, wl_cons]; omega
    obtain ⟨b', rfl, e⟩ := crs_go (b := b) hp (by rw [tx_size, wl_app, wl_cons]; omega)
    rw [e, decode_tx p hc q]
    have := crs_tx q (p ++ [c]) b' (fun x hx => h x (List.mem_cons_of_mem _ hx)) (by omega)
    rw [wl_app, wl_cons, wl_nil, Nat.add_zero, List.append_assoc] at this
    rw [show p ++ c :: q = p ++ ([c] ++ q) from rfl, this]
    rfl
theorem crs_tx0 {q : List Nat} (h : VL q) : crs (tx q) (tx q).size 0 = pl 0 q := by
  have := crs_tx q [] (tx q).size h (by rw [tx_size]; exact Nat.le_refl _)
  exact this
theorem pl_runes : ∀ (o : Nat) (q : List Nat), (pl o q).map (·.2) = q
  | _, [] => rfl
  | o, c :: q => by rw [pl, List.map_cons, pl_runes]
theorem rns_tx {q : List Nat} (h : VL q) : rns (tx q) = q := by
  unfold rns chs
  rw [crs_tx0 h, pl_runes]
/-- A text that has the characters q from the place a on. -/
def Sfx (s : ByteArray) (q : List Nat) (a : Nat) : Prop := ∃ p, s = tx (p ++ q) ∧ a = wl p ∧ VL q
theorem sfx_all {q : List Nat} (h : VL q) : Sfx (tx q) q 0 := ⟨[], rfl, rfl, h⟩
theorem Sfx.size {s : ByteArray} {q : List Nat} {a : Nat} (h : Sfx s q a) : s.size = a + wl q := by
  obtain ⟨p, rfl, rfl, _⟩ := h
  rw [tx_size, wl_app]
theorem Sfx.drop {s : ByteArray} {m q : List Nat} {a : Nat} (h : Sfx s (m ++ q) a) : Sfx s q (a + wl m) := by
  obtain ⟨p, rfl, rfl, hv⟩ := h
  exact ⟨p ++ m, by rw [List.append_assoc], by rw [wl_app], fun c hc => hv c (List.mem_append_right _ hc)⟩
theorem Sfx.vl {s : ByteArray} {q : List Nat} {a : Nat} (h : Sfx s q a) : VL q := by obtain ⟨p, _, _, hv⟩ := h; exact hv
theorem Sfx.extract {s : ByteArray} {m q : List Nat} {a : Nat} (h : Sfx s (m ++ q) a) : s.extract a (a + wl m) = tx m := by
  obtain ⟨p, rfl, rfl, hv⟩ := h
  apply tx_inj
  rw [ByteArray.data_extract, Array.toList_extract, tx_data, enL_app, enL_app]
  simp [wl, List.extract, List.take_append, List.drop_append]
theorem Sfx.rest {s : ByteArray} {q : List Nat} {a : Nat} (h : Sfx s q a) : s.extract a s.size = tx q := by
  have : Sfx s (q ++ []) a := by rw [List.append_nil]; exact h
  rw [h.size]
  exact this.extract
theorem fndL_pl (P : Nat → Bool) (a n : Nat) : ∀ (q : List Nat) (o : Nat), n = a + o + wl q → fndL P a n (pl o q) = a + o + wl (q.takeWhile (fun c => !P c))
  | [], o, h => by rw [pl, fndL, List.takeWhile_nil]; exact h
  | c :: q, o, h => by
    rw [pl, fndL, List.takeWhile_cons]
    rw [wl_cons] at h
    by_cases hp : P c = true
    · rw [if_pos hp]
      simp [hp, wl_nil]
    · rw [if_neg hp, fndL_pl P a n q (o + wr c) (by omega)]
      simp only [Bool.not_eq_true] at hp
      simp only [hp, Bool.not_false, if_true]
      rw [wl_cons]
      omega
theorem fnd_sfx (P : Nat → Bool) {s : ByteArray} {q : List Nat} {a : Nat} (h : Sfx s q a) : fnd P s a = a + wl (q.takeWhile (fun c => !P c)) := by
  unfold fnd
  rw [h.rest, crs_tx0 h.vl]
  have := fndL_pl P a s.size q 0 (by rw [h.size]; omega)
  rw [Nat.add_zero] at this
  exact this
theorem split_while (P : Nat → Bool) (q : List Nat) : q = q.takeWhile P ++ q.dropWhile P := (List.takeWhile_append_dropWhile ..).symm
theorem fnd_drop (P : Nat → Bool) {s : ByteArray} {q : List Nat} {a : Nat} (h : Sfx s q a) : Sfx s (q.dropWhile (fun c => !P c)) (fnd P s a) := by
  rw [fnd_sfx P h]
  have : Sfx s (q.takeWhile (fun c => !P c) ++ q.dropWhile (fun c => !P c)) a := by rw [← split_while]; exact h
  exact this.drop
theorem tx_app (a b : List Nat) : tx a ++ tx b = tx (a ++ b) := by
  apply tx_inj
  rw [ByteArray.data_append, Array.toList_append, tx_data, tx_data, enL_app]
theorem wl_len : ∀ l : List Nat, l.length ≤ wl l
  | [] => Nat.le_refl _
  | c :: l => by
    have := wl_len l
    have := wr_pos c
    rw [wl_cons, List.length_cons]
    omega
theorem Sfx.pos {s : ByteArray} {q : List Nat} {a b : Nat} (h : Sfx s q a) (g : Sfx s q b) : a = b := by
  have := h.size
  have := g.size
  omega
theorem Sfx.decode {s : ByteArray} {c : Nat} {q : List Nat} {a : Nat} (h : Sfx s (c :: q) a) : Utf8.decode s a = (c, wr c) := by
  obtain ⟨p, rfl, rfl, hv⟩ := h
  exact decode_tx p (hv c (List.mem_cons_self ..)) q
theorem Sfx.tail {s : ByteArray} {c : Nat} {q : List Nat} {a : Nat} (h : Sfx s (c :: q) a) : Sfx s q (a + wr c) := by
  have : Sfx s ([c] ++ q) a := h
  have := this.drop
  rwa [wl_cons, wl_nil, Nat.add_zero] at this
theorem pre_one {c : Nat} {q : List Nat} (hv : VL (c :: q)) : preB (tx (c :: q)) exB = decide (c = 33) := by
  by_cases h : c = 33
  · subst h
    rw [decide_eq_true rfl]
    have e : (tx (33 :: q)).extract 0 1 = tx [33] := by
      have : Sfx (tx (33 :: q)) ([33] ++ q) 0 := sfx_all hv
      have := this.extract
      rwa [show 0 + wl [33] = 1 from rfl] at this
    unfold preB
    have e2 : exB.size = 1 := rfl
    rw [e2, e]
    have hz : 1 ≤ (tx (33 :: q)).size := by rw [tx_size, wl_cons]; have := wr_pos 33; omega
    rw [decide_eq_true hz, show tx [33] = exB from rfl]
    simp
  · rw [decide_eq_false h, Bool.eq_false_iff]
    intro g
    obtain ⟨hs, hb⟩ := pre_get (b := 33) rfl g
    have hd := decode_ascii (tx (c :: q)) 0 hs (by rw [hb]; decide)
    rw [hb] at hd
    have hd2 := (sfx_all hv).decode
    rw [hd] at hd2
    injection hd2 with e1
    exact h e1.symm
theorem pre_none : preB (tx []) exB = false := by
  unfold preB
  rw [decide_eq_false (by decide)]
  rfl
/-- A remark begins. -/
def rmL (q : List Nat) : Bool := decide (q.head? = some 33) && (q.tail.takeWhile (fun c => !blk c)).isEmpty
theorem rmk_sfx {s : ByteArray} {q : List Nat} {a : Nat} (h : Sfx s q a) : rmk s a = rmL q := by
  unfold rmk rmL
  rw [h.rest, fnd_sfx _ h]
  cases q with
  | nil => rw [pre_none]; rfl
  | cons c q =>
    rw [pre_one h.vl]
    by_cases hc : c = 33
    · subst hc
      have e : (33 :: q).takeWhile (fun c => !blk c) = 33 :: q.takeWhile (fun c => !blk c) := by rw [List.takeWhile_cons]; rfl
      rw [e, wl_cons, show wr 33 = 1 from rfl]
      simp only [List.head?_cons, List.tail_cons, decide_true, Bool.true_and]
      cases hq : q.takeWhile (fun c => !blk c) with
      | nil => simp [wl_nil]
      | cons d r =>
        rw [wl_cons]
        have := wr_pos d
        simp
        omega
    · simp [hc]
/-- What is left where the next token begins. -/
def skp : Nat → List Nat → List Nat
  | 0, q => q
  | f + 1, q => if rmL (q.dropWhile blk) = true then skp f ((q.dropWhile blk).dropWhile (fun c => !decide (c = 10))) else q.dropWhile blk
theorem bgn_sfx {s : ByteArray} : ∀ (f : Nat) {q : List Nat} {a : Nat}, Sfx s q a → Sfx s (skp f q) (bgn s f a) := by
  intro f
  induction f with
  | zero => intro q a h; exact h
  | succ f ih =>
    intro q a h
    have h1 := fnd_drop (fun c => !blk c) h
    simp only [Bool.not_not] at h1
    have h2 := rmk_sfx h1
    unfold bgn skp
    rw [h2]
    by_cases hr : rmL (q.dropWhile blk) = true
    · rw [if_pos hr, if_pos hr]
      exact ih (fnd_drop (fun c => decide (c = 10)) h1)
    · rw [if_neg hr, if_neg hr]
      exact h1
theorem dw_len (P : Nat → Bool) (q : List Nat) : (q.dropWhile P).length ≤ q.length := (List.dropWhile_sublist P).length_le
theorem rm_drop {q : List Nat} (h : rmL q = true) : (q.dropWhile (fun c => !decide (c = 10))).length < q.length := by
  cases q with
  | nil => simp [rmL] at h
  | cons c q =>
    unfold rmL at h
    simp only [List.head?_cons, Bool.and_eq_true, decide_eq_true_eq, Option.some.injEq] at h
    obtain ⟨rfl, _⟩ := h
    rw [List.dropWhile_cons]
    have := dw_len (fun c => !decide (c = 10)) q
    simp only [show (!decide (33 = 10)) = true from rfl, if_true, List.length_cons]
    omega
theorem skp_fuel : ∀ (f g : Nat) (q : List Nat), q.length < f → q.length < g → skp f q = skp g q := by
  intro f
  induction f with
  | zero => intro g q h _; omega
  | succ f ih =>
    intro g q hf hg
    obtain ⟨g, rfl⟩ : ∃ k, g = k + 1 := ⟨g - 1, by omega⟩
    unfold skp
    by_cases hr : rmL (q.dropWhile blk) = true
    · rw [if_pos hr, if_pos hr]
      have h1 := rm_drop hr
      have h2 := dw_len blk q
      exact ih g _ (by omega) (by omega)
    · rw [if_neg hr, if_neg hr]
def SK (q : List Nat) : List Nat := skp (q.length + 1) q
theorem SK_eq (q : List Nat) : SK q = if rmL (q.dropWhile blk) = true then SK ((q.dropWhile blk).dropWhile (fun c => !decide (c = 10))) else q.dropWhile blk := by
  conv => lhs; unfold SK; unfold skp
  by_cases hr : rmL (q.dropWhile blk) = true
  · rw [if_pos hr, if_pos hr]
    have h1 := rm_drop hr
    have h2 := dw_len blk q
    exact skp_fuel _ _ _ (by omega) (by omega)
  · rw [if_neg hr, if_neg hr]
theorem bg_sfx {s : ByteArray} {q : List Nat} {a : Nat} (h : Sfx s q a) : Sfx s (SK q) (bg s a) := by
  have := bgn_sfx (s.size + 1) h
  rw [skp_fuel (s.size + 1) (q.length + 1) q (by have := h.size; have := wl_len q; omega) (by omega)] at this
  exact this
theorem SK_len (q : List Nat) : (SK q).length ≤ q.length := by
  have : ∀ (f : Nat) (q : List Nat), (skp f q).length ≤ q.length := by
    intro f
    induction f with
    | zero => intro q; exact Nat.le_refl _
    | succ f ih =>
      intro q
      unfold skp
      have h2 := dw_len blk q
      split
      · have h3 := dw_len (fun c => !decide (c = 10)) (q.dropWhile blk)
        have := ih ((q.dropWhile blk).dropWhile (fun c => !decide (c = 10)))
        omega
      · exact h2
  exact this _ q
theorem SK_nil : SK [] = [] := rfl
/-- Blanks ahead make no difference. -/
theorem SK_blank (q y : List Nat) (h : q.dropWhile blk = []) : SK (q ++ y) = SK y := by
  rw [SK_eq (q ++ y), SK_eq y, List.dropWhile_append, h]
  rfl
theorem SK_ten (x : List Nat) : SK (10 :: x) = SK x := SK_blank [10] x rfl
/-- A text behind a line's end, or none. -/
def Ynl (y : List Nat) : Prop := y = [] ∨ ∃ x, y = 10 :: x
theorem tw_nl (P : Nat → Bool) (hP : P 10 = false) (q : List Nat) {y : List Nat} (hy : Ynl y) : (q ++ y).takeWhile P = q.takeWhile P := by
  rcases hy with rfl | ⟨x, rfl⟩
  · rw [List.append_nil]
  · induction q with
    | nil => simp [List.takeWhile_cons, hP]
    | cons c q ih =>
      rw [List.cons_append, List.takeWhile_cons, List.takeWhile_cons, ih]
theorem rmL_nl {q y : List Nat} (hy : Ynl y) (hq : q ≠ []) : rmL (q ++ y) = rmL q := by
  cases q with
  | nil => exact absurd rfl hq
  | cons c q =>
    unfold rmL
    rw [List.cons_append, List.head?_cons, List.head?_cons, List.tail_cons, List.tail_cons, tw_nl _ rfl q hy]
theorem SK_ext (y : List Nat) (hy : Ynl y) : ∀ (n : Nat) (q : List Nat), q.length ≤ n → SK (q ++ y) = if SK q = [] then SK y else SK q ++ y := by
  intro n
  induction n with
  | zero =>
    intro q hq
    obtain rfl : q = [] := List.eq_nil_of_length_eq_zero (by omega)
    rw [SK_nil, if_pos rfl]
    rfl
  | succ n ih =>
    intro q hq
    by_cases hr : q.dropWhile blk = []
    · have e : SK q = [] := by rw [SK_eq, hr]; rfl
      rw [if_pos e, SK_blank q y hr]
    · have ed : (q ++ y).dropWhile blk = q.dropWhile blk ++ y := by
        rw [List.dropWhile_append, if_neg (by simpa using hr)]
      rw [SK_eq (q ++ y), SK_eq q, ed, rmL_nl hy hr]
      by_cases hm : rmL (q.dropWhile blk) = true
      · rw [if_pos hm, if_pos hm]
        have h1 := rm_drop hm
        have h2 := dw_len blk q
        by_cases h3 : (q.dropWhile blk).dropWhile (fun c => !decide (c = 10)) = []
        · rw [List.dropWhile_append, h3, SK_nil, if_pos rfl]
          rcases hy with rfl | ⟨x, rfl⟩
          · rfl
          · rw [if_pos (by rfl), List.dropWhile_cons, if_neg (by decide)]
        · rw [List.dropWhile_append, if_neg (by simpa using h3)]
          exact ih _ (by omega)
      · rw [if_neg hm, if_neg hm, if_neg hr]
theorem pre_take {X p : ByteArray} (h : preB X p = true) : X.data.toList.take p.size = p.data.toList := by
  unfold preB at h
  simp only [Bool.and_eq_true, decide_eq_true_eq, beq_iff_eq] at h
  have := h.2
  rw [ByteArray.toList_eq, ByteArray.toList_eq, ByteArray.data_extract, Array.toList_extract] at this
  simpa using this
/-- A text without a byte that belongs to no character is a row of characters. -/
theorem valid_from (s : ByteArray) : ∀ (b pos : Nat), pos ≤ s.size → s.size ≤ pos + b → stL s (crs s b pos) = s.size → ∃ l, VL l ∧ s.data.toList.drop pos = enL l := by
  intro b
  induction b with
  | zero =>
    intro pos h1 h2 _
    refine ⟨[], fun c hc => by simp at hc, ?_⟩
    rw [List.drop_eq_nil_of_le (by rw [Array.length_toList]; exact h2)]
    rfl
  | succ b ih =>
    intro pos h1 h2 h3
    by_cases hp : pos < s.size
    · have hw := wid_pos s pos hp
      have hwp := decode_wd s pos hp
      rw [show crs s (b + 1) pos = (pos, (Utf8.decode s pos).1) :: crs s b (pos + (Utf8.decode s pos).2) by simp [crs, hp]] at h3
      unfold stL at h3
      have hne : s.data.toList.drop pos ≠ [] := by
        intro g
        have := congrArg List.length g
        rw [List.length_drop, Array.length_toList] at this
        have : s.data.size - pos = 0 := this
        have : s.data.size = s.size := rfl
        omega
      have hdl := decodeL_drop s pos
      by_cases hbad : (Utf8.decode s pos).1 = 65533 ∧ preB (s.extract pos s.size) rpB = false
      · rw [if_pos hbad] at h3
        omega
      · rw [if_neg hbad] at h3
        obtain ⟨l, hl, e⟩ := ih (pos + (Utf8.decode s pos).2) hwp (by omega) h3
        have hv : ¬ ((decodeL (s.data.toList.drop pos)).1 = 65533 ∧ (decodeL (s.data.toList.drop pos)).2 = 1) := by
          rw [hdl]
          intro g
          have hpre : preB (s.extract pos s.size) rpB = true := by
            cases hx : preB (s.extract pos s.size) rpB with
            | true => rfl
            | false => exact absurd ⟨g.1, hx⟩ hbad
          have ht := pre_take hpre
          have hx : (s.extract pos s.size).data.toList = s.data.toList.drop pos := by
            rw [ByteArray.data_extract, Array.toList_extract]
            show List.extract _ _ _ = _
            rw [List.extract, List.take_of_length_le]
            rw [List.length_drop, Array.length_toList]
            exact Nat.le_refl _
          rw [hx] at ht
          have e3 : s.data.toList.drop pos = encodeRune ((65533 : Nat) : Int) ++ (s.data.toList.drop pos).drop 3 := by
            have : encodeRune ((65533 : Nat) : Int) = rpB.data.toList := rfl
            rw [this, ← ht]
            exact (List.take_append_drop 3 _).symm
          rw [e3, decodeL_enc (by unfold Vr; omega)] at hdl
          rw [← hdl] at g
          exact absurd g.2 (by decide)
        have he := encode_decode _ hne hv
        rw [hdl] at he
        refine ⟨(Utf8.decode s pos).1 :: l, ?_, ?_⟩
        · intro c hc
          rcases List.mem_cons.1 hc with rfl | hc
          · exact decode_vr s pos
          · exact hl c hc
        · rw [show enL ((Utf8.decode s pos).1 :: l) = encodeRune ((Utf8.decode s pos).1 : Int) ++ enL l by simp [enL], he, ← e, ← List.drop_drop, List.take_append_drop]
    · refine ⟨[], fun c hc => by simp at hc, ?_⟩
      rw [List.drop_eq_nil_of_le (by rw [Array.length_toList]; show s.size ≤ pos; omega)]
      rfl
theorem valid_tx {s : ByteArray} (h : ¬ stR s < s.size) : ∃ l, VL l ∧ s = tx l := by
  have h2 := stL_le s s.size 0
  unfold stR at h
  obtain ⟨l, hl, e⟩ := valid_from s s.size 0 (Nat.zero_le _) (by omega) (by omega)
  rw [List.drop_zero] at e
  exact ⟨l, hl, tx_inj e⟩
end Go.Proofs.YtmmggnmgimgdfaaDoor
namespace Go.Proofs.YtmmggnmgimgdfaaDoor
open Go.RowKit Go.Lib
set_option linter.unusedSimpArgs false
set_option linter.unusedVariables false
/-- A token d places on. -/
def shT (d : Nat) (t : Tok) : Tok := ⟨t.k, t.t, t.n, t.a + (d : Int)⟩
def shR (d : Nat) (r : Tok × Nat × Int) : Tok × Nat × Int := (shT d r.1, r.2.1 + d, r.2.2)
/-- A string that is read is read the same with more behind it, and further on. -/
theorem strG_ext (a n m d : Nat) (y : List Nat) : ∀ (q : List Nat) (o : Nat) (e : Bool) (out : List Nat), (strG a n (pl o q) e out).2.2 = 0 → strG (a + d) m (pl o (q ++ y)) e out = shR d (strG a n (pl o q) e out)
  | [], o, true, out => by intro h; simp [pl, strG] at h
  | [], o, false, out => by intro h; simp [pl, strG] at h
  | c :: q, o, true, out => by
    rw [List.cons_append, pl, pl]
    simp only [strG]
    cases une c with
    | none => intro h; simp at h
    | some k => exact strG_ext a n m d y q _ _ _
  | c :: q, o, false, out => by
    rw [List.cons_append, pl, pl]
    simp only [strG]
    split
    · exact strG_ext a n m d y q _ _ _
    · split
      · split
        · intro h; simp at h
        · intro _
          simp only [shR, shT]
          congr 2
          omega
      · exact strG_ext a n m d y q _ _ _
/-- Where the string's end is. -/
theorem strG_end (a n : Nat) : ∀ (q : List Nat) (o : Nat) (e : Bool) (out : List Nat), (strG a n (pl o q) e out).2.2 = 0 → ∃ k q', q = k ++ q' ∧ k ≠ [] ∧ (strG a n (pl o q) e out).2.1 = a + 1 + o + wl k
  | [], o, true, out => by intro h; simp [pl, strG] at h
  | [], o, false, out => by intro h; simp [pl, strG] at h
  | c :: q, o, true, out => by
    rw [pl]
    simp only [strG]
    cases une c with
    | none => intro h; simp at h
    | some k =>
      intro h
      obtain ⟨k, q', e1, _, e2⟩ := strG_end a n q _ _ _ h
      exact ⟨c :: k, q', by rw [e1]; rfl, by simp, by rw [wl_cons]; simp only at e2 ⊢; omega⟩
  | c :: q, o, false, out => by
    rw [pl]
    simp only [strG]
    split
    · intro h
      obtain ⟨k, q', e1, _, e2⟩ := strG_end a n q _ _ _ h
      exact ⟨c :: k, q', by rw [e1]; rfl, by simp, by rw [wl_cons]; omega⟩
    · split
      · split
        · intro h; simp at h
        · intro _
          have h34 : c = 34 := by assumption
          subst h34
          exact ⟨[34], q, rfl, by simp, by show a + o + 2 = a + 1 + o + wl [34]; rw [show wl [34] = 1 from rfl]; omega⟩
      · intro h
        obtain ⟨k, q', e1, _, e2⟩ := strG_end a n q _ _ _ h
        exact ⟨c :: k, q', by rw [e1]; rfl, by simp, by rw [wl_cons]; omega⟩
theorem str_sfx {s : ByteArray} {q : List Nat} {a : Nat} (h : Sfx s (34 :: q) a) : strR s a = strG a s.size (pl 0 q) false [] := by
  have h1 : Sfx s q (a + 1) := h.tail
  unfold strR
  rw [h1.rest, crs_tx0 h1.vl]
theorem quote_sfx {s : ByteArray} {c : Nat} {q : List Nat} {a : Nat} (h : Sfx s (c :: q) a) : (byN s a = 34) ↔ c = 34 := by
  have := h.size
  rw [wl_cons] at this
  have := wr_pos c
  rw [quote_byte (by omega), h.decode]
/-- What a word is, by its characters. -/
def wrdL (w : List Nat) (a z : Nat) : Tok × Nat × Int :=
  if (numR (tx w)).2 = 0 then (⟨2, ⟨#[]⟩, (numR (tx w)).1, a⟩, z, 0)
  else if (numR (tx w)).2 = 11 then (⟨0, ⟨#[]⟩, 0, 0⟩, a, 11)
  else if nmdB (tx w) = false then (⟨0, ⟨#[]⟩, 0, 0⟩, a, 10)
  else (⟨1, tx w, 0, a⟩, z, 0)
theorem wrd_sfx {s : ByteArray} {q : List Nat} {a : Nat} (h : Sfx s q a) : wrdR s a = wrdL (q.takeWhile (fun c => !blk c)) a (a + wl (q.takeWhile (fun c => !blk c))) := by
  have h2 : Sfx s (q.takeWhile (fun c => !blk c) ++ q.dropWhile (fun c => !blk c)) a := by rw [← split_while]; exact h
  unfold wrdR wrdL
  dsimp only
  rw [fnd_sfx _ h, h2.extract]
theorem wrdL_sh (w : List Nat) (a z d : Nat) (h : (wrdL w a z).2.2 = 0) : wrdL w (a + d) (z + d) = shR d (wrdL w a z) := by
  unfold wrdL at h ⊢
  split
  · simp only [shR, shT]
    congr 2
  · rw [if_neg (by assumption)] at h
    split
    · rw [if_pos (by assumption)] at h
      exact absurd h (by simp)
    · rw [if_neg (by assumption)] at h
      split
      · rw [if_pos (by assumption)] at h
        exact absurd h (by simp)
      · simp only [shR, shT]
        congr 2
theorem wrdL_z (w : List Nat) (a z : Nat) (h : (wrdL w a z).2.2 = 0) : (wrdL w a z).2.1 = z := by
  unfold wrdL at h ⊢
  split
  · rfl
  · rw [if_neg (by assumption)] at h
    split
    · rw [if_pos (by assumption)] at h
      exact absurd h (by simp)
    · rw [if_neg (by assumption)] at h
      split
      · rw [if_pos (by assumption)] at h
        exact absurd h (by simp)
      · rfl
/-- A token that is read is read the same with a line's end behind the text, and further on. -/
theorem red_same {s S : ByteArray} {q y : List Nat} {a d : Nat} (hq : q ≠ []) (hy : Ynl y) (h : Sfx s q a) (g : Sfx S (q ++ y) (a + d)) (hz : (redR s a).2.2 = 0) : redR S (a + d) = shR d (redR s a) := by
  cases q with
  | nil => exact absurd rfl hq
  | cons c q =>
    have k1 := quote_sfx h
    have k2 := quote_sfx (show Sfx S (c :: (q ++ y)) (a + d) from g)
    unfold redR at hz ⊢
    by_cases hc : c = 34
    · subst hc
      rw [if_pos (k1.2 rfl)] at hz ⊢
      rw [if_pos (k2.2 rfl)]
      rw [str_sfx h] at hz ⊢
      rw [str_sfx (show Sfx S (34 :: (q ++ y)) (a + d) from g)]
      exact strG_ext a _ _ d y q 0 false [] hz
    · rw [if_neg (fun x => hc (k1.1 x))] at hz ⊢
      rw [if_neg (fun x => hc (k2.1 x))]
      rw [wrd_sfx h] at hz ⊢
      rw [wrd_sfx g, tw_nl _ rfl _ hy]
      have := wrdL_sh _ _ _ d hz
      rw [← this]
      congr 1
      omega
theorem red_sfx {s : ByteArray} {q : List Nat} {a : Nat} (hq : q ≠ []) (h : Sfx s q a) (hz : (redR s a).2.2 = 0) : ∃ m q', q = m ++ q' ∧ m ≠ [] ∧ (redR s a).2.1 = a + wl m := by
  cases q with
  | nil => exact absurd rfl hq
  | cons c q =>
    have k1 := quote_sfx h
    have ha : a < s.size := by have := h.size; rw [wl_cons] at this; have := wr_pos c; omega
    have hgo := red_go ha hz
    unfold redR at hz hgo ⊢
    by_cases hc : c = 34
    · subst hc
      rw [if_pos (k1.2 rfl)] at hz ⊢
      rw [str_sfx h] at hz ⊢
      obtain ⟨k, q', e1, _, e2⟩ := strG_end a s.size q 0 false [] hz
      exact ⟨34 :: k, q', by rw [e1]; rfl, by simp, by rw [e2, wl_cons, show wr 34 = 1 from rfl]; omega⟩
    · rw [if_neg (fun x => hc (k1.1 x))] at hz hgo ⊢
      rw [wrd_sfx h] at hz hgo ⊢
      rw [wrdL_z _ _ _ hz] at hgo ⊢
      refine ⟨_, _, split_while (fun c => !blk c) (c :: q), ?_, rfl⟩
      intro e
      rw [e, wl_nil] at hgo
      omega
theorem tokG_fuel (s : ByteArray) : ∀ (f g a : Nat) (acc : List Tok), s.size - a < f → s.size - a < g → tokG s f a acc = tokG s g a acc := by
  intro f
  induction f with
  | zero => intro g a acc h _; omega
  | succ f ih =>
    intro g a acc hf hg
    obtain ⟨g, rfl⟩ : ∃ k, g = k + 1 := ⟨g - 1, by omega⟩
    unfold tokG
    by_cases ha : a < s.size
    · rw [if_pos ha, if_pos ha]
      by_cases h0 : (redR s a).2.2 = 0
      · rw [if_pos h0, if_pos h0]
        have h1 := red_go ha h0
        have h2 := bg_bd h1.2
        split
        · rfl
        · exact ih _ _ _ (by omega) (by omega)
      · rw [if_neg h0, if_neg h0]
    · rw [if_neg ha, if_neg ha]
/-- The tokens from a place on. -/
def tokH (s : ByteArray) (a : Nat) (acc : List Tok) : List Tok × Nat × Int := tokG s (s.size + 1) a acc
theorem tokH_end {s : ByteArray} {a : Nat} (acc : List Tok) (h : ¬ a < s.size) : tokH s a acc = (acc, 0, 0) := by
  unfold tokH tokG
  rw [if_neg h]
theorem tokH_go {s : ByteArray} {a : Nat} {acc : List Tok} (h : a < s.size) (h0 : (redR s a).2.2 = 0) (h1 : acc.length ≠ 4096) : tokH s a acc = tokH s (bg s (redR s a).2.1) (acc ++ [(redR s a).1]) := by
  conv => lhs; unfold tokH; unfold tokG
  rw [if_pos h, if_pos h0, if_neg h1]
  have g1 := red_go h h0
  have g2 := bg_bd g1.2
  exact tokG_fuel s _ _ _ _ (by omega) (by omega)
theorem tokH_ok {s : ByteArray} {a : Nat} {acc : List Tok} (h : a < s.size) (hz : (tokH s a acc).2.2 = 0) : (redR s a).2.2 = 0 ∧ acc.length ≠ 4096 := by
  unfold tokH tokG at hz
  rw [if_pos h] at hz
  by_cases h0 : (redR s a).2.2 = 0
  · rw [if_pos h0] at hz
    refine ⟨h0, fun g => ?_⟩
    rw [if_pos g] at hz
    exact absurd hz (by simp)
  · rw [if_neg h0] at hz
    exact absurd hz h0
/-- The tokens of a text, with a line's end and more behind it, further on. -/
theorem tok_run {s S : ByteArray} {y : List Nat} {d : Nat} (hy : Ynl y) : ∀ (n : Nat) (q : List Nat) (a : Nat) (acc' : List Tok), q.length ≤ n → Sfx s q a → Sfx S (q ++ y) (a + d) → (tokH s (bg s a) acc').2.2 = 0 →
    ∃ R, (tokH s (bg s a) acc').1 = acc' ++ R ∧ ∀ acc : List Tok, acc.length + R.length ≤ 4096 → tokH S (bg S (a + d)) acc = tokH S (bg S (s.size + d)) (acc ++ R.map (shT d)) := by
  intro n
  induction n with
  | zero =>
    intro q a acc' hn h g hz
    obtain rfl : q = [] := List.eq_nil_of_length_eq_zero (by omega)
    have hb : Sfx s [] (bg s a) := bg_sfx h
    have hs := h.size
    have hbs := hb.size
    rw [wl_nil] at hs hbs
    refine ⟨[], by rw [tokH_end _ (by omega)]; simp, fun acc _ => ?_⟩
    rw [show s.size + d = a + d by omega]
    simp
  | succ n ih =>
    intro q a acc' hn h g hz
    have hb := bg_sfx h
    have gb := bg_sfx g
    rw [SK_ext y hy _ q (Nat.le_refl _)] at gb
    have hs := h.size
    have gs := g.size
    have hbs := hb.size
    have gy : Sfx S y (s.size + d) := by
      have := g.drop
      rwa [show a + d + wl q = s.size + d by omega] at this
    cases hr : SK q with
    | nil =>
      rw [hr, wl_nil] at hbs
      rw [hr, if_pos rfl] at gb
      refine ⟨[], by rw [tokH_end _ (by omega)]; simp, fun acc _ => ?_⟩
      rw [gb.pos (bg_sfx gy)]
      simp
    | cons c r =>
      rw [hr] at hb hbs
      rw [hr, if_neg (by simp)] at gb
      have gbs := gb.size
      have hw := wr_pos c
      rw [wl_cons] at hbs
      rw [wl_app, wl_cons] at gbs
      rw [wl_app] at gs
      have epos : bg S (a + d) = bg s a + d := by omega
      have hlt : bg s a < s.size := by omega
      obtain ⟨z1, z2⟩ := tokH_ok hlt hz
      rw [tokH_go hlt z1 z2] at hz ⊢
      rw [epos] at gb ⊢
      have hsame := red_same (by simp) hy hb gb z1
      obtain ⟨m, q', em, hm, hp⟩ := red_sfx (by simp) hb z1
      have hb' : Sfx s q' (redR s (bg s a)).2.1 := by rw [hp]; rw [em] at hb; exact hb.drop
      have gb' : Sfx S (q' ++ y) ((redR s (bg s a)).2.1 + d) := by
        rw [em, List.append_assoc] at gb
        have := gb.drop
        rw [hp]
        rwa [show bg s a + d + wl m = bg s a + wl m + d by omega] at this
      have hl : q'.length ≤ n := by
        have h1 := SK_len q
        rw [hr, em, List.length_append] at h1
        have := List.length_pos_iff.2 hm
        omega
      obtain ⟨R, e1, e2⟩ := ih q' _ _ hl hb' gb' hz
      refine ⟨(redR s (bg s a)).1 :: R, by rw [e1]; simp, fun acc hacc => ?_⟩
      rw [List.length_cons] at hacc
      have hz2 : (redR S (bg s a + d)).2.2 = 0 := by rw [hsame]; exact z1
      have hlt2 : bg s a + d < S.size := by omega
      rw [tokH_go hlt2 hz2 (by omega), hsame]
      show tokH S (bg S ((redR s (bg s a)).2.1 + d)) (acc ++ [shT d (redR s (bg s a)).1]) = _
      rw [e2 (acc ++ [shT d (redR s (bg s a)).1]) (by rw [List.length_append]; simp; omega)]
      simp
theorem stR_tx {l : List Nat} (h : VL l) : ¬ stR (tx l) < (tx l).size := by
  have key : ∀ (q : List Nat) (o : Nat), Sfx (tx l) q o → stL (tx l) (pl o q) = (tx l).size := by
    intro q
    induction q with
    | nil => intro o _; rfl
    | cons c q ih =>
      intro o ho
      rw [pl]
      unfold stL
      rw [if_neg]
      · exact ih _ ho.tail
      · rintro ⟨rfl, hp⟩
        rw [ho.rest] at hp
        have e : (tx (65533 :: q)).extract 0 3 = tx [65533] := by
          have : Sfx (tx (65533 :: q)) ([65533] ++ q) 0 := sfx_all ho.vl
          have := this.extract
          rwa [show 0 + wl [65533] = 3 from rfl] at this
        unfold preB at hp
        rw [show rpB.size = 3 from rfl, e, show tx [65533] = rpB from rfl] at hp
        have hz : 3 ≤ (tx (65533 :: q)).size := by rw [tx_size, wl_cons, show wr 65533 = 3 from rfl]; omega
        rw [decide_eq_true hz] at hp
        simp at hp
  unfold stR
  rw [crs_tx0 h, key l 0 (sfx_all h)]
  omega
theorem tokR_h {s : ByteArray} (h0 : s.size ≤ 65536) (h1 : ¬ stR s < s.size) : tokR s = tokH s (bg s 0) [] := by
  unfold tokR
  rw [if_neg (by omega), if_neg h1]
  rfl
theorem tokR_ok {s : ByteArray} (h : (tokR s).2.2 = 0) : s.size ≤ 65536 ∧ ∃ l, VL l ∧ s = tx l := by
  have h0 := tokR_size h
  refine ⟨h0, valid_tx fun g => ?_⟩
  unfold tokR at h
  rw [if_neg (by omega), if_pos g] at h
  exact absurd h (by simp)
theorem tokR_place {s : ByteArray} (h : (tokR s).2.2 = 0) : (tokR s).2.1 = 0 := by
  have key : ∀ (f a : Nat) (acc : List Tok), (tokG s f a acc).2.2 = 0 → (tokG s f a acc).2.1 = 0 := by
    intro f
    induction f with
    | zero => intro a acc _; rfl
    | succ f ih =>
      intro a acc
      unfold tokG
      split
      · split
        · split
          · intro h; simp at h
          · exact ih _ _
        · intro h; exact absurd h (by assumption)
      · intro _; rfl
  unfold tokR at h ⊢
  split
  · rfl
  · rw [if_neg (by assumption)] at h
    split
    · rw [if_pos (by assumption)] at h
      exact absurd h (by simp)
    · rw [if_neg (by assumption)] at h
      exact key _ _ _ h
/-- The tokens of a text behind which more stands on a new line. -/
theorem tok_more {s : ByteArray} {l x : List Nat} (hl : VL l) (hx : VL x) (hs : s = tx l) (h : (tokR s).2.2 = 0) (hz : s.size + 1 + wl x ≤ 65536) :
    tokR (tx (l ++ 10 :: x)) = tokH (tx (l ++ 10 :: x)) (bg (tx (l ++ 10 :: x)) (s.size + 1)) (tokR s).1 := by
  have hv : VL (l ++ 10 :: x) := by
    intro c hc
    rcases List.mem_append.1 hc with hc | hc
    · exact hl c hc
    · rcases List.mem_cons.1 hc with rfl | hc
      · exact .inl (by decide)
      · exact hx c hc
  have h0 := tokR_size h
  subst hs
  have e1 : tokR (tx l) = tokH (tx l) (bg (tx l) 0) [] := tokR_h h0 (stR_tx hl)
  have hsz : (tx (l ++ 10 :: x)).size = (tx l).size + 1 + wl x := by rw [tx_size, tx_size, wl_app, wl_cons, show wr 10 = 1 from rfl]; omega
  rw [tokR_h (by omega) (stR_tx hv)]
  have hlen := tokR_len (tx l)
  rw [e1] at h hlen ⊢
  obtain ⟨R, r1, r2⟩ := tok_run (d := 0) (.inr ⟨x, rfl⟩) l.length l 0 [] (Nat.le_refl _) (sfx_all hl) (sfx_all hv) h
  rw [List.nil_append] at r1
  have h00 : ∀ t : Tok, shT 0 t = t := fun t => by cases t; simp [shT]
  have := r2 [] (by rw [r1] at hlen; simpa using hlen)
  rw [Nat.add_zero, Nat.add_zero, List.nil_append, List.map_congr_left (fun t _ => h00 t), List.map_id'] at this
  rw [this, r1]
  have gy : Sfx (tx (l ++ 10 :: x)) (10 :: x) (tx l).size := by
    have := (sfx_all hv).drop
    rwa [Nat.zero_add, ← tx_size] at this
  have gx := gy.tail
  rw [show wr 10 = 1 from rfl] at gx
  have p1 := bg_sfx gy
  rw [SK_ten] at p1
  rw [p1.pos (bg_sfx gx)]
end Go.Proofs.YtmmggnmgimgdfaaDoor
namespace Go.Proofs.YtmmggnmgimgdfaaDoor
open Go.RowKit
set_option linter.unusedSimpArgs false
set_option linter.unusedVariables false
theorem sh_nm (d : Nat) (t : Tok) : nmB (shT d t) = nmB t := rfl
theorem sh_is (d : Nat) (t : Tok) (s : ByteArray) : isB (shT d t) s = isB t s := rfl
theorem sh_0 (t : Tok) : shT 0 t = t := by cases t; simp [shT]
theorem sh_map0 (q : List Tok) : q.map (shT 0) = q := by
  have : shT 0 = id := funext sh_0
  rw [this, List.map_id]
/-- what succeeds does so wherever it stands, and whatever follows -/
theorem prs_ext (n n' : Int) (d : Nat) (B : List Tok) : ∀ f m q o z l r z', prs n f m q o z = .ok (l, r, z') → prs n' f m (q.map (shT d) ++ B) o z = .ok (l, r.map (shT d) ++ B, z') := by
  intro f
  induction f with
  | zero => intro m q o z l r z' h; simp [prs] at h
  | succ f ih =>
    intro m q o z l r z' h
    match m with
    | 0 =>
      cases q with
      | nil => simp [prs] at h
      | cons t q =>
        simp only [prs] at h
        simp only [List.map_cons, List.cons_append, prs, shT]
        repeat' split at h
        all_goals first
          | (simp at h; done)
          | (simp only [Except.ok.injEq, Prod.mk.injEq] at h; obtain ⟨rfl, rfl, rfl⟩ := h; simp [*]; done)
          | skip
        all_goals
          rename_i hp
          simp only [Except.ok.injEq, Prod.mk.injEq] at h
          obtain ⟨rfl, rfl, rfl⟩ := h
          have h2 := ih _ _ _ _ _ _ _ hp
          simp [*]
    | 1 =>
      cases q with
      | nil => simp [prs] at h
      | cons t q =>
        simp only [prs] at h
        simp only [List.map_cons, List.cons_append, prs]
        have hs := sh_nm d t
        by_cases hb : nmB t = true
        · rw [if_pos hb] at h
          rw [if_pos (hs.trans hb)]
          by_cases hz : z = 1024
          · rw [if_pos hz] at h
            simp at h
          · rw [if_neg hz] at h ⊢
            simp only [Except.ok.injEq, Prod.mk.injEq] at h
            obtain ⟨rfl, rfl, rfl⟩ := h
            rfl
        · rw [if_neg hb] at h
          rw [if_neg (fun e => hb (hs.symm.trans e))]
          have := ih _ _ _ _ _ _ _ h
          simpa using this
    | m + 2 =>
      cases q with
      | nil => simp [prs] at h
      | cons t q =>
        simp only [prs] at h
        simp only [List.map_cons, List.cons_append, prs]
        have hs := sh_is d t (shB m)
        by_cases hb : isB t (shB m) = true
        · rw [if_pos hb] at h
          rw [if_pos (hs.trans hb)]
          simp only [Except.ok.injEq, Prod.mk.injEq] at h
          obtain ⟨rfl, rfl, rfl⟩ := h
          rfl
        · rw [if_neg hb] at h
          rw [if_neg (fun e => hb (hs.symm.trans e))]
          split at h
          · simp at h
          · rename_i l1 r1 z1 hp
            split at h
            · simp at h
            · rename_i l2 r2 z2 hp2
              simp only [Except.ok.injEq, Prod.mk.injEq] at h
              obtain ⟨rfl, rfl, rfl⟩ := h
              have h1 := ih _ _ _ _ _ _ _ hp
              have h2 := ih _ _ _ _ _ _ _ hp2
              simp only [List.map_cons, List.cons_append] at h1
              rw [h1]
              dsimp only
              rw [h2]
theorem sdR_ext (n n' : Int) (d : Nat) (B : List Tok) (e : ByteArray) : ∀ (k : Nat) (q : List Tok) (j : Nat) (r : List Tok), sdR n e k q = .ok (j, r) → sdR n' e k (q.map (shT d) ++ B) = .ok (j, r.map (shT d) ++ B)
  | k, [], j, r, h => by simp [sdR] at h
  | k, t :: q, j, r, h => by
    simp only [sdR] at h
    simp only [List.map_cons, List.cons_append, sdR]
    have hs := sh_is d t e
    have hs2 := sh_nm d t
    by_cases hb : isB t e = true
    · rw [if_pos hb] at h
      rw [if_pos (hs.trans hb)]
      simp only [Except.ok.injEq, Prod.mk.injEq] at h
      obtain ⟨rfl, rfl⟩ := h
      rfl
    · rw [if_neg hb] at h
      rw [if_neg (fun e => hb (hs.symm.trans e))]
      by_cases hn : nmB t = true
      · rw [if_pos hn] at h
        rw [if_pos (hs2.trans hn)]
        by_cases h16 : k = 16
        · rw [if_pos h16] at h
          simp at h
        · rw [if_neg h16] at h ⊢
          exact sdR_ext n n' d B e (k + 1) q j r h
      · rw [if_neg hn] at h
        simp at h
theorem dfR_ext (n n' : Int) (d : Nat) (B : List Tok) (f : Nat) (q : List Tok) (o z : Int) (fm : Fm) (r : List Tok) (z' : Int) (h : dfR n f q o z = .ok (fm, r, z')) : dfR n' f (q.map (shT d) ++ B) o z = .ok (fm, r.map (shT d) ++ B, z') := by
  cases q with
  | nil => simp [dfR] at h
  | cons t0 q1 =>
    simp only [dfR] at h
    simp only [List.map_cons, List.cons_append, dfR]
    by_cases hf : o = 32 ∨ z = 1024
    · rw [if_pos hf] at h
      simp at h
    · rw [if_neg hf] at h ⊢
      cases q1 with
      | nil => simp [dfN] at h
      | cons t1 q2 =>
        simp only [dfN] at h
        simp only [List.map_cons, List.cons_append, dfN]
        have hs := sh_nm d t1
        by_cases h1 : nmB t1 = false
        · rw [if_pos h1] at h
          simp at h
        · rw [if_neg h1] at h
          rw [if_neg (fun e => h1 (hs.symm.trans e))]
          cases q2 with
          | nil => simp [dfQ] at h
          | cons t2 q3 =>
            simp only [dfQ] at h
            simp only [List.map_cons, List.cons_append, dfQ]
            have hs2 := sh_is d t2 ⟨#[40]⟩
            by_cases h2 : isB t2 ⟨#[40]⟩ = false
            · rw [if_pos h2] at h
              simp at h
            · rw [if_neg h2] at h
              rw [if_neg (fun e => h2 (hs2.symm.trans e))]
              unfold dfA at h ⊢
              cases h3 : sdR n ⟨#[45, 45]⟩ 0 q3 with
              | error e => rw [h3] at h; simp at h
              | ok p =>
                obtain ⟨i, q4⟩ := p
                rw [h3] at h
                rw [sdR_ext n n' d B _ 0 q3 i q4 h3]
                dsimp only at h ⊢
                unfold dfB at h ⊢
                cases h4 : sdR n ⟨#[41]⟩ 0 q4 with
                | error e => rw [h4] at h; simp at h
                | ok p =>
                  obtain ⟨j, q5⟩ := p
                  rw [h4] at h
                  rw [sdR_ext n n' d B _ 0 q4 j q5 h4]
                  dsimp only at h ⊢
                  unfold dfC at h ⊢
                  cases h5 : prs n f 4 q5 (o + 1) (z + 1) with
                  | error e => rw [h5] at h; simp at h
                  | ok p =>
                    obtain ⟨l, q6, z6⟩ := p
                    rw [h5] at h
                    rw [prs_ext n n' d B f 4 q5 _ _ l q6 z6 h5]
                    simp only [Except.ok.injEq, Prod.mk.injEq] at h
                    obtain ⟨rfl, rfl, rfl⟩ := h
                    rfl
theorem fmR_ext (n n' : Int) (d : Nat) (B : List Tok) (f : Nat) (q : List Tok) (o z : Int) (fm : Fm) (r : List Tok) (z' : Int) (h : fmR n f q o z = .ok (fm, r, z')) : fmR n' f (q.map (shT d) ++ B) o z = .ok (fm, r.map (shT d) ++ B, z') := by
  cases q with
  | nil => simp [fmR] at h
  | cons t q =>
    simp only [fmR] at h
    by_cases hb : isB t ⟨#[58]⟩ = true
    · rw [if_pos hb] at h
      have := dfR_ext n n' d B f _ o z fm r z' h
      simp only [List.map_cons, List.cons_append, fmR] at this ⊢
      rw [if_pos ((sh_is d t ⟨#[58]⟩).trans hb)]
      exact this
    · rw [if_neg hb] at h
      cases h5 : prs n f 1 (t :: q) o z with
      | error e => rw [h5] at h; simp at h
      | ok p =>
        obtain ⟨l, q6, z6⟩ := p
        rw [h5] at h
        have h6 := prs_ext n n' d B f 1 _ _ _ l q6 z6 h5
        simp only [List.map_cons, List.cons_append, fmR] at h6 ⊢
        rw [if_neg (fun e => hb ((sh_is d t ⟨#[58]⟩).symm.trans e)), h6]
        simp only [Except.ok.injEq, Prod.mk.injEq] at h
        obtain ⟨rfl, rfl, rfl⟩ := h
        rfl
theorem alR_fuel (n : Int) (F : Nat) : ∀ (g g' : Nat) (q : List Tok), q.length < g → q.length < g' → alR n F g q = alR n F g' q
  | 0, _, _, h, _ => by omega
  | _ + 1, 0, _, _, h => by omega
  | g + 1, g' + 1, [], _, _ => rfl
  | g + 1, g' + 1, t :: r, h, h' => by
    simp only [alR]
    cases hf : fmR n F (t :: r) 0 0 with
    | error e => rfl
    | ok p =>
      obtain ⟨fm, q, z⟩ := p
      have := fmR_len (by omega) hf
      simp only [List.length_cons] at h h' this
      dsimp only
      rw [alR_fuel n F g g' q (by omega) (by omega)]
theorem alR_join (n n' : Int) (F d : Nat) (B : List Tok) (l2 : List Fm) (gB : Nat) (hB : alR n' F gB B = .ok l2) (hgB : B.length < gB) : ∀ (g : Nat) (q : List Tok) (l : List Fm), q.length < g → alR n F g q = .ok l → alR n' F (g + gB) (q.map (shT d) ++ B) = .ok (l ++ l2)
  | 0, _, _, h, _ => by omega
  | g + 1, [], l, _, h => by
    simp only [alR, Except.ok.injEq] at h
    subst h
    rw [List.map_nil, List.nil_append, List.nil_append, alR_fuel n' F (g + 1 + gB) gB B (by omega) hgB]
    exact hB
  | g + 1, t :: r, l, hl, h => by
    simp only [alR] at h
    cases hf : fmR n F (t :: r) 0 0 with
    | error e => rw [hf] at h; simp at h
    | ok p =>
      obtain ⟨fm, q, z⟩ := p
      rw [hf] at h
      dsimp only at h
      cases ha : alR n F g q with
      | error e => rw [ha] at h; simp at h
      | ok l1 =>
        rw [ha] at h
        simp only [Except.ok.injEq] at h
        subst h
        have h1 := fmR_len (by omega) hf
        simp only [List.length_cons] at hl h1
        have h2 := fmR_ext n n' d B F _ 0 0 fm q z hf
        have h3 := alR_join n n' F d B l2 gB hB hgB g q l1 (by omega) ha
        rw [show g + 1 + gB = (g + gB) + 1 by omega]
        simp only [List.map_cons, List.cons_append] at h2 ⊢
        simp only [alR]
        rw [h2]
        dsimp only
        rw [h3]
end Go.Proofs.YtmmggnmgimgdfaaDoor
namespace Go.Proofs.YtmmggnmgimgdfaaDoor
open Go.RowKit Go.Lib
set_option linter.unusedSimpArgs false
set_option linter.unusedVariables false
/-- A row of tokens that can be read. -/
def RdT (w : World) (v : Value) (l : List Tok) : Prop := ∃ ao cap, v = .slice ao l.length cap ∧ ∀ i t, l[i]? = some t → ∃ g, ao = some ⟨g, 0, none⟩ ∧ g < w.heap.size ∧ w.cell? ⟨g, i * 4, none⟩ = some (.int .i64 t.k) ∧ w.cell? ⟨g, i * 4 + 1, none⟩ = some (.string t.t) ∧ w.cell? ⟨g, i * 4 + 2, none⟩ = some (.int .i64 t.n) ∧ w.cell? ⟨g, i * 4 + 3, none⟩ = some (.int .i64 t.a)
theorem rdt_toks {w : World} {B : Nat} {v : Value} {l : List Tok} (h : ToksAt w B v l) : RdT w v l := by
  obtain ⟨ao, cap, rfl⟩ := h.1
  refine ⟨ao, cap, rfl, fun i t ht => ?_⟩
  obtain ⟨g, cap', hv, _, hg, c⟩ := toks_cells h ht
  injection hv with e1 e2 e3
  exact ⟨g, e1, hg, c⟩
theorem RdT.only {w w' : World} {v : Value} {l : List Tok} (h : RdT w v l) (o : Only (fun _ => False) w w') : RdT w' v l := by
  obtain ⟨ao, cap, e, h⟩ := h
  refine ⟨ao, cap, e, fun i t ht => ?_⟩
  obtain ⟨g, e1, hg, c0, c1, c2, c3⟩ := h i t ht
  exact ⟨g, e1, Nat.lt_of_lt_of_le hg o.size, o.cell c0 (fun x => x), o.cell c1 (fun x => x), o.cell c2 (fun x => x), o.cell c3 (fun x => x)⟩
/-- A row's beginning. -/
theorem rdt_take {w : World} {B : Nat} {v : Value} {l : List Tok} (h : ToksAt w B v l) {n : Nat} (hn : n ≤ l.length) : ∃ ao cap, v = .slice ao l.length cap ∧ n ≤ cap ∧ RdT w (.slice ao n cap) (l.take n) := by
  obtain ⟨ao, cap, rfl⟩ := h.1
  have hc : l.length ≤ cap := by
    rcases h.2.2 with ⟨e, e2⟩ | ⟨g, cap', cur, fz, hv, _, _, _, hcap, _⟩
    · injection e with e1 e3 e4
      omega
    · injection hv with e1 e3 e4
      omega
  have hl : (l.take n).length = n := by rw [List.length_take]; omega
  refine ⟨ao, cap, rfl, by omega, ao, cap, by rw [hl], fun i t ht => ?_⟩
  have hi : i < n := by have := (List.getElem?_eq_some_iff.1 ht).1; omega
  rw [List.getElem?_take_of_lt hi] at ht
  obtain ⟨g, cap', hv, _, hg, c⟩ := toks_cells h ht
  injection hv with e1 e2 e3
  exact ⟨g, e1, hg, c⟩
theorem chain_mem {s : ByteArray} : ∀ (l : List Tok) (last : Int) (i : Nat) (b : Tok), Chain s last l → l[i]? = some b → ∃ a : Nat, b.a = (a : Int) ∧ a < s.size
  | [], _, i, b, _, h => by simp at h
  | t :: l, last, 0, b, ⟨a, _, h2, h3, _⟩, h => by
    simp only [List.getElem?_cons_zero, Option.some.injEq] at h
    subst h
    exact ⟨a, h3.at_, h2⟩
  | t :: l, last, i + 1, b, ⟨a, _, _, _, h4⟩, h => chain_mem l _ i b h4 (by simpa using h)
theorem joins_pure {s t : ByteArray} (h1 : (tokR s).2.2 = 0) (h2 : (tokR t).2.2 = 0) (hz : s.size + t.size < 65536) (hn : (tokR s).1.length + (tokR t).1.length ≤ 4096) :
    tokR (s ++ ⟨#[10]⟩ ++ t) = ((tokR s).1 ++ (tokR t).1.map (shT (s.size + 1)), 0, 0) := by
  obtain ⟨_, l, hl, e1⟩ := tokR_ok h1
  obtain ⟨z2, x, hx, e2⟩ := tokR_ok h2
  have e : s ++ ⟨#[10]⟩ ++ t = tx (l ++ 10 :: x) := by
    rw [e1, e2, show (⟨#[10]⟩ : ByteArray) = tx [10] from rfl, tx_app, tx_app, List.append_assoc]
    rfl
  have ht : t.size = wl x := by rw [e2, tx_size]
  have hs : s.size = wl l := by rw [e1, tx_size]
  have hm := tok_more hl hx e1 h1 (by omega)
  rw [e, hm]
  have hv : VL (l ++ 10 :: x) := by
    intro c hc
    rcases List.mem_append.1 hc with hc | hc
    · exact hl c hc
    · rcases List.mem_cons.1 hc with rfl | hc
      · exact .inl (by decide)
      · exact hx c hc
  have e3 : tokR t = tokH t (bg t 0) [] := by
    rw [e2]
    exact tokR_h (by rw [← e2]; exact z2) (stR_tx hx)
  have gx : Sfx (tx (l ++ 10 :: x)) (x ++ []) (0 + (s.size + 1)) := by
    have : Sfx (tx (l ++ 10 :: x)) (l ++ 10 :: x) 0 := sfx_all hv
    have := this.drop.tail
    rw [List.append_nil, Nat.zero_add, hs]
    rwa [Nat.zero_add, show wr 10 = 1 from rfl] at this
  rw [e3] at h2 hn ⊢
  obtain ⟨R, r1, r2⟩ := tok_run (d := s.size + 1) (.inl rfl) x.length x 0 [] (Nat.le_refl _) (by rw [e2]; exact sfx_all hx) gx h2
  rw [List.nil_append] at r1
  rw [r1] at hn ⊢
  have := r2 (tokR s).1 hn
  rw [Nat.zero_add] at this
  rw [this]
  apply tokH_end
  have hb := bg_bd (s := tx (l ++ 10 :: x)) (a := t.size + (s.size + 1)) (by rw [tx_size, wl_app, wl_cons, show wr 10 = 1 from rfl]; omega)
  have : (tx (l ++ 10 :: x)).size = t.size + (s.size + 1) := by rw [tx_size, wl_app, wl_cons, show wr 10 = 1 from rfl]; omega
  omega
end Go.Proofs.YtmmggnmgimgdfaaDoor
