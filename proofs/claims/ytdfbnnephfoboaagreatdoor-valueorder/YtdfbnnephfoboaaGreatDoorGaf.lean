/- Texts of characters by the document: Chars, Bad, Name, and what they are. Values of any kind as the document's trees: how these lie in memory. What the document measures of a tree, and what the program does: the plain functions. Two values in their normal form are equal just if they are the same tree. -/
import Derived.Test.YtdfbnnephfoboaaGreatDoorGac
import Derived.Test.YtdfbnnephfoboaaGreatDoorGae
import Derived.Lib.MapLaws
import Derived.Lib.RuneCountTail
import Derived.Deep.QuietTactic
import Derived.Test.YtdfbnnephfoboaaGreatDoorGaa
import Derived.Lib.ValidLaws
namespace Go.Proofs.YtdfbnnephfoboaaGreatDoor
open Go.RowKit Go.Lib
set_option linter.unusedSimpArgs false
set_option linter.unusedVariables false
set_option maxRecDepth 100000
set_option maxHeartbeats 16000000
/-- What is decoded is a character. -/
theorem decode_vr (s : ByteArray) (pos : Nat) : Vr (Utf8.decode s pos).1 := by
  rw [decode_at]
  have k0 := (s.get! pos).toNat_lt
  have k1 := (s.get! (pos + 1)).toNat_lt
  have k2 := (s.get! (pos + 2)).toNat_lt
  have k3 := (s.get! (pos + 3)).toNat_lt
  unfold Vr
  rcases decodeN_shape (s.size - pos) (s.get! pos).toNat (s.get! (pos + 1)).toNat (s.get! (pos + 2)).toNat (s.get! (pos + 3)).toNat with ⟨c, e⟩ | ⟨c1, c2, c3, cv, e⟩ | ⟨c1, c2, c3, c4, cv, cs, e⟩ | ⟨c1, c2, c3, c4, c5, cv, cw, e⟩ | e <;> rw [e] <;> dsimp only <;> omega
/-- The bytes of characters. -/
def enL (l : List Nat) : List UInt8 := l.flatMap fun (r : Nat) => encodeRune (r : Int)
def tx (l : List Nat) : ByteArray := ⟨(enL l).toArray⟩
theorem alloc_at (W : World) (o : Obj) (n : Nat) (h : n = W.heap.size) : (W.alloc o).heap[n]? = some o := by
  subst h
  exact Array.getElem?_push_size ..
theorem enL_app (a b : List Nat) : enL (a ++ b) = enL a ++ enL b := by simp [enL]
theorem decode_wd (s : ByteArray) (pos : Nat) (h : pos < s.size) : pos + (Utf8.decode s pos).2 ≤ s.size := by
  rw [decode_at]
  rcases decodeN_shape (s.size - pos) (s.get! pos).toNat (s.get! (pos + 1)).toNat (s.get! (pos + 2)).toNat (s.get! (pos + 3)).toNat with ⟨c, e⟩ | ⟨c1, c2, c3, cv, e⟩ | ⟨c1, c2, c3, c4, cv, cs, e⟩ | ⟨c1, c2, c3, c4, c5, cv, cw, e⟩ | e <;> rw [e] <;> dsimp only <;> omega
theorem stL_le (s : ByteArray) : ∀ (b pos : Nat), stL s (crs s b pos) ≤ s.size
  | 0, pos => by simp [crs, stL]
  | b + 1, pos => by
    by_cases hp : pos < s.size
    · rw [show crs s (b + 1) pos = (pos, (Utf8.decode s pos).1) :: crs s b (pos + (Utf8.decode s pos).2) by simp [crs, hp]]
      unfold stL
      split
      · exact Nat.le_of_lt hp
      · exact stL_le s b _
    · rw [crs_end hp]
      exact Nat.le_refl _
def wr (c : Nat) : Nat := (encodeRune (c : Int)).length
def wl (l : List Nat) : Nat := (enL l).length
def VL (l : List Nat) : Prop := ∀ c ∈ l, Vr c
theorem wl_nil : wl [] = 0 := rfl
theorem wl_cons (c : Nat) (l : List Nat) : wl (c :: l) = wr c + wl l := by simp [wl, wr, enL]
theorem wl_app (a b : List Nat) : wl (a ++ b) = wl a + wl b := by simp [wl, enL]
theorem wr_pos (c : Nat) : 1 ≤ wr c := by
  have := (runeCells_le (c : Int)).1
  rw [runeCells_length] at this
  exact this
theorem tx_size (l : List Nat) : (tx l).size = wl l := by simp [tx, wl, ByteArray.size]
theorem tx_data (l : List Nat) : (tx l).data.toList = enL l := by simp [tx]
theorem tx_inj {s : ByteArray} {l : List Nat} (h : s.data.toList = enL l) : s = tx l := by
  apply ByteArray.ext
  apply Array.toList_inj.1
  rw [tx_data, h]
theorem byte_of {n : Nat} (h : n < 256) : n.toUInt8.toNat = n := by
  show (UInt8.ofNat n).toNat = n
  rw [UInt8.toNat_ofNat']
  omega
theorem enc1 {c : Nat} (h : c ≤ 127) : encodeRune (c : Int) = [c.toUInt8] := by
  unfold encodeRune
  rw [encodeRuneZ_one (by omega) (by omega)]
  simp
theorem enc2 {c : Nat} (h0 : 128 ≤ c) (h1 : c ≤ 2047) : encodeRune (c : Int) = [(192 + c / 64).toUInt8, (128 + c % 64).toUInt8] := by
  unfold encodeRune
  rw [encodeRuneZ_two (by omega) (by omega)]
  simp only [List.map_cons, List.map_nil]
  congr 2 <;> omega
theorem enc3 {c : Nat} (h : (2048 ≤ c ∧ c < 55296) ∨ (57343 < c ∧ c ≤ 65535)) : encodeRune (c : Int) = [(224 + c / 4096).toUInt8, (128 + c / 64 % 64).toUInt8, (128 + c % 64).toUInt8] := by
  unfold encodeRune
  rw [encodeRuneZ_three (by omega)]
  simp only [List.map_cons, List.map_nil]
  congr 2
theorem enc4 {c : Nat} (h0 : 65536 ≤ c) (h1 : c ≤ 1114111) : encodeRune (c : Int) = [(240 + c / 262144).toUInt8, (128 + c / 4096 % 64).toUInt8, (128 + c / 64 % 64).toUInt8, (128 + c % 64).toUInt8] := by
  unfold encodeRune
  rw [encodeRuneZ_four (by omega) (by omega)]
  simp only [List.map_cons, List.map_nil]
  congr 2
/-- What was encoded is decoded. -/
theorem decodeL_enc {c : Nat} (hc : Vr c) (t : List UInt8) : decodeL (encodeRune (c : Int) ++ t) = (c, wr c) := by
  unfold wr
  rw [decodeL_N]
  unfold Vr at hc
  by_cases h1 : c ≤ 127
  · rw [enc1 h1]
    simp only [List.cons_append, List.nil_append, List.getD_cons_zero, List.length_cons, List.length_nil]
    rw [byte_of (by omega)]
    unfold decodeN
    rw [if_pos (by omega)]
  · by_cases h2 : c ≤ 2047
    · rw [enc2 (by omega) h2]
      simp only [List.cons_append, List.nil_append, List.getD_cons_zero, List.getD_cons_succ, List.length_cons, List.length_nil]
      rw [byte_of (by omega), byte_of (by omega)]
      unfold decodeN
      rw [if_neg (by omega), if_pos ⟨by omega, by omega, by omega⟩, if_pos (by omega)]
      congr 1
      omega
    · by_cases h3 : c ≤ 65535
      · rw [enc3 (by omega)]
        simp only [List.cons_append, List.nil_append, List.getD_cons_zero, List.getD_cons_succ, List.length_cons, List.length_nil]
        rw [byte_of (by omega), byte_of (by omega), byte_of (by omega)]
        unfold decodeN
        have e : (224 + c / 4096) % 16 * 4096 + (128 + c / 64 % 64) % 64 * 64 + (128 + c % 64) % 64 = c := by omega
        rw [if_neg (by omega), if_neg (by omega), if_pos ⟨by omega, ⟨by omega, by omega⟩, by omega, by omega⟩, e, if_pos ⟨by omega, by omega⟩]
      · rw [enc4 (by omega) (by omega)]
        simp only [List.cons_append, List.nil_append, List.getD_cons_zero, List.getD_cons_succ, List.length_cons, List.length_nil]
        rw [byte_of (by omega), byte_of (by omega), byte_of (by omega), byte_of (by omega)]
        unfold decodeN
        have e : (240 + c / 262144) % 8 * 262144 + (128 + c / 4096 % 64) % 64 * 4096 + (128 + c / 64 % 64) % 64 * 64 + (128 + c % 64) % 64 = c := by omega
        rw [if_neg (by omega), if_neg (by omega), if_neg (by omega), if_pos ⟨by omega, ⟨by omega, by omega⟩, ⟨by omega, by omega⟩, by omega, by omega⟩, e, if_pos ⟨by omega, by omega⟩]
theorem decode_tx (p : List Nat) {c : Nat} (hc : Vr c) (q : List Nat) : Utf8.decode (tx (p ++ c :: q)) (wl p) = (c, wr c) := by
  rw [← decodeL_drop, tx_data, enL_app]
  unfold wl
  rw [List.drop_left, show c :: q = [c] ++ q from rfl, enL_app, show enL [c] = encodeRune (c : Int) by simp [enL]]
  exact decodeL_enc hc _
/-- Characters with their places. -/
def pl : Nat → List Nat → List (Nat × Nat)
  | _, [] => []
  | o, c :: r => (o, c) :: pl (o + wr c) r
theorem crs_tx : ∀ (q p : List Nat) (b : Nat), VL q → wl q ≤ b → crs (tx (p ++ q)) b (wl p) = pl (wl p) q
  | [], p, b, _, _ => by
    rw [crs_end (by rw [tx_size, List.append_nil]; exact Nat.lt_irrefl _)]
    rfl
  | c :: q, p, b, h, hb => by
    have hc := h c (List.mem_cons_self ..)
    have hw := wr_pos c
    rw [wl_cons] at hb
    have hp : wl p < (tx (p ++ c :: q)).size := by rw [tx_size, wl_app, wl_cons]; omega
    obtain ⟨b', rfl, e⟩ := crs_go (b := b) hp (by rw [tx_size, wl_app, wl_cons]; omega)
    rw [e, decode_tx p hc q]
    have := crs_tx q (p ++ [c]) b' (fun x hx => h x (List.mem_cons_of_mem _ hx)) (by omega)
    rw [wl_app, wl_cons, wl_nil, Nat.add_zero, List.append_assoc] at this
    rw [show p ++ c :: q = p ++ ([c] ++ q) from rfl, this]
    rfl
theorem crs_tx0 {q : List Nat} (h : VL q) : crs (tx q) (tx q).size 0 = pl 0 q := by
  have := crs_tx q [] (tx q).size h (by rw [tx_size]; exact Nat.le_refl _)
  exact this
/-- A text that has the characters q from the place a on. -/
def Sfx (s : ByteArray) (q : List Nat) (a : Nat) : Prop := ∃ p, s = tx (p ++ q) ∧ a = wl p ∧ VL q
theorem sfx_all {q : List Nat} (h : VL q) : Sfx (tx q) q 0 := ⟨[], rfl, rfl, h⟩
theorem Sfx.size {s : ByteArray} {q : List Nat} {a : Nat} (h : Sfx s q a) : s.size = a + wl q := by
  obtain ⟨p, rfl, rfl, _⟩ := h
  rw [tx_size, wl_app]
theorem Sfx.drop {s : ByteArray} {m q : List Nat} {a : Nat} (h : Sfx s (m ++ q) a) : Sfx s q (a + wl m) := by
  obtain ⟨p, rfl, rfl, hv⟩ := h
  exact ⟨p ++ m, by rw [List.append_assoc], by rw [wl_app], fun c hc => hv c (List.mem_append_right _ hc)⟩
theorem Sfx.vl {s : ByteArray} {q : List Nat} {a : Nat} (h : Sfx s q a) : VL q := by obtain ⟨p, _, _, hv⟩ := h; exact hv
theorem Sfx.extract {s : ByteArray} {m q : List Nat} {a : Nat} (h : Sfx s (m ++ q) a) : s.extract a (a + wl m) = tx m := by
  obtain ⟨p, rfl, rfl, hv⟩ := h
  apply tx_inj
  rw [ByteArray.data_extract, Array.toList_extract, tx_data, enL_app, enL_app]
  simp [wl, List.extract, List.take_append, List.drop_append]
theorem Sfx.rest {s : ByteArray} {q : List Nat} {a : Nat} (h : Sfx s q a) : s.extract a s.size = tx q := by
  have : Sfx s (q ++ []) a := by rw [List.append_nil]; exact h
  rw [h.size]
  exact this.extract
theorem Sfx.pos {s : ByteArray} {q : List Nat} {a b : Nat} (h : Sfx s q a) (g : Sfx s q b) : a = b := by
  have := h.size
  have := g.size
  omega
theorem Sfx.decode {s : ByteArray} {c : Nat} {q : List Nat} {a : Nat} (h : Sfx s (c :: q) a) : Utf8.decode s a = (c, wr c) := by
  obtain ⟨p, rfl, rfl, hv⟩ := h
  exact decode_tx p (hv c (List.mem_cons_self ..)) q
theorem Sfx.tail {s : ByteArray} {c : Nat} {q : List Nat} {a : Nat} (h : Sfx s (c :: q) a) : Sfx s q (a + wr c) := by
  have : Sfx s ([c] ++ q) a := h
  have := this.drop
  rwa [wl_cons, wl_nil, Nat.add_zero] at this
theorem pre_take {X p : ByteArray} (h : preB X p = true) : X.data.toList.take p.size = p.data.toList := by
  unfold preB at h
  simp only [Bool.and_eq_true, decide_eq_true_eq, beq_iff_eq] at h
  have := h.2
  rw [ByteArray.toList_eq, ByteArray.toList_eq, ByteArray.data_extract, Array.toList_extract] at this
  simpa using this
/-- A text without a byte that belongs to no character is a row of characters. -/
theorem valid_from (s : ByteArray) : ∀ (b pos : Nat), pos ≤ s.size → s.size ≤ pos + b → stL s (crs s b pos) = s.size → ∃ l, VL l ∧ s.data.toList.drop pos = enL l := by
  intro b
  induction b with
  | zero =>
    intro pos h1 h2 _
    refine ⟨[], fun c hc => by simp at hc, ?_⟩
    rw [List.drop_eq_nil_of_le (by rw [Array.length_toList]; exact h2)]
    rfl
  | succ b ih =>
    intro pos h1 h2 h3
    by_cases hp : pos < s.size
    · have hw := wid_pos s pos hp
      have hwp := decode_wd s pos hp
      rw [show crs s (b + 1) pos = (pos, (Utf8.decode s pos).1) :: crs s b (pos + (Utf8.decode s pos).2) by simp [crs, hp]] at h3
      unfold stL at h3
      have hne : s.data.toList.drop pos ≠ [] := by
        intro g
        have := congrArg List.length g
        rw [List.length_drop, Array.length_toList] at this
        have : s.data.size - pos = 0 := this
        have : s.data.size = s.size := rfl
        omega
      have hdl := decodeL_drop s pos
      by_cases hbad : (Utf8.decode s pos).1 = 65533 ∧ preB (s.extract pos s.size) rpB = false
      · rw [if_pos hbad] at h3
        omega
      · rw [if_neg hbad] at h3
        obtain ⟨l, hl, e⟩ := ih (pos + (Utf8.decode s pos).2) hwp (by omega) h3
        have hv : ¬ ((decodeL (s.data.toList.drop pos)).1 = 65533 ∧ (decodeL (s.data.toList.drop pos)).2 = 1) := by
          rw [hdl]
          intro g
          have hpre : preB (s.extract pos s.size) rpB = true := by
            cases hx : preB (s.extract pos s.size) rpB with
            | true => rfl
            | false => exact absurd ⟨g.1, hx⟩ hbad
          have ht := pre_take hpre
          have hx : (s.extract pos s.size).data.toList = s.data.toList.drop pos := by
            rw [ByteArray.data_extract, Array.toList_extract]
            show List.extract _ _ _ = _
            rw [List.extract, List.take_of_length_le]
            rw [List.length_drop, Array.length_toList]
            exact Nat.le_refl _
          rw [hx] at ht
          have e3 : s.data.toList.drop pos = encodeRune ((65533 : Nat) : Int) ++ (s.data.toList.drop pos).drop 3 := by
            have : encodeRune ((65533 : Nat) : Int) = rpB.data.toList := rfl
            rw [this, ← ht]
            exact (List.take_append_drop 3 _).symm
          rw [e3, decodeL_enc (by unfold Vr; omega)] at hdl
          rw [← hdl] at g
          exact absurd g.2 (by decide)
        have he := encode_decode _ hne hv
        rw [hdl] at he
        refine ⟨(Utf8.decode s pos).1 :: l, ?_, ?_⟩
        · intro c hc
          rcases List.mem_cons.1 hc with rfl | hc
          · exact decode_vr s pos
          · exact hl c hc
        · rw [show enL ((Utf8.decode s pos).1 :: l) = encodeRune ((Utf8.decode s pos).1 : Int) ++ enL l by simp [enL], he, ← e, ← List.drop_drop, List.take_append_drop]
    · refine ⟨[], fun c hc => by simp at hc, ?_⟩
      rw [List.drop_eq_nil_of_le (by rw [Array.length_toList]; show s.size ≤ pos; omega)]
      rfl
theorem valid_tx {s : ByteArray} (h : ¬ stR s < s.size) : ∃ l, VL l ∧ s = tx l := by
  have h2 := stL_le s s.size 0
  unfold stR at h
  obtain ⟨l, hl, e⟩ := valid_from s s.size 0 (Nat.zero_le _) (by omega) (by omega)
  rw [List.drop_zero] at e
  exact ⟨l, hl, tx_inj e⟩
theorem stR_tx {l : List Nat} (h : VL l) : ¬ stR (tx l) < (tx l).size := by
  have key : ∀ (q : List Nat) (o : Nat), Sfx (tx l) q o → stL (tx l) (pl o q) = (tx l).size := by
    intro q
    induction q with
    | nil => intro o _; rfl
    | cons c q ih =>
      intro o ho
      rw [pl]
      unfold stL
      rw [if_neg]
      · exact ih _ ho.tail
      · rintro ⟨rfl, hp⟩
        rw [ho.rest] at hp
        have e : (tx (65533 :: q)).extract 0 3 = tx [65533] := by
          have : Sfx (tx (65533 :: q)) ([65533] ++ q) 0 := sfx_all ho.vl
          have := this.extract
          rwa [show 0 + wl [65533] = 3 from rfl] at this
        unfold preB at hp
        rw [show rpB.size = 3 from rfl, e, show tx [65533] = rpB from rfl] at hp
        have hz : 3 ≤ (tx (65533 :: q)).size := by rw [tx_size, wl_cons, show wr 65533 = 3 from rfl]; omega
        rw [decide_eq_true hz] at hp
        simp at hp
  unfold stR
  rw [crs_tx0 h, key l 0 (sfx_all h)]
  omega
/-- A character of a text: its number, its place, the place behind it, and whether the byte belongs to none. -/
structure Chr where
  r : Nat
  a : Nat
  z : Nat
  b : Bool
theorem crs_len (s : ByteArray) : ∀ (b pos : Nat), pos ≤ s.size → (crs s b pos).length ≤ s.size - pos
  | 0, pos, _ => by simp [crs]
  | b + 1, pos, h => by
    by_cases hp : pos < s.size
    · rw [show crs s (b + 1) pos = (pos, (Utf8.decode s pos).1) :: crs s b (pos + (Utf8.decode s pos).2) by simp [crs, hp], List.length_cons]
      have := wid_pos s pos hp
      have := decode_wd s pos hp
      have := crs_len s b (pos + (Utf8.decode s pos).2) (by omega)
      omega
    · rw [crs_end hp]
      simp
/-- A row of characters that can be read. -/
def RdC (w : World) (v : Value) (l : List Chr) : Prop := ∃ ao cap, v = .slice ao l.length cap ∧ l.length ≤ cap ∧ ∀ i t, l[i]? = some t → ∃ g o, ao = some ⟨g, o, none⟩ ∧ g < w.heap.size ∧ w.cell? ⟨g, o + i * 4, none⟩ = some (.int .i32 (t.r : Int)) ∧ w.cell? ⟨g, o + i * 4 + 1, none⟩ = some (.int .i64 (t.a : Int)) ∧ w.cell? ⟨g, o + i * 4 + 2, none⟩ = some (.int .i64 (t.z : Int)) ∧ w.cell? ⟨g, o + i * 4 + 3, none⟩ = some (.bool t.b)
theorem RdC.only {w w' : World} {v : Value} {l : List Chr} (h : RdC w v l) (o : Only (fun _ => False) w w') : RdC w' v l := by
  obtain ⟨ao, cap, e, hc, h⟩ := h
  refine ⟨ao, cap, e, hc, fun i t ht => ?_⟩
  obtain ⟨g, oo, e1, hg, c0, c1, c2, c3⟩ := h i t ht
  exact ⟨g, oo, e1, Nat.lt_of_lt_of_le hg o.size, o.cell c0 (fun x => x), o.cell c1 (fun x => x), o.cell c2 (fun x => x), o.cell c3 (fun x => x)⟩
end Go.Proofs.YtdfbnnephfoboaaGreatDoor
namespace Go.Proofs.YtdfbnnephfoboaaGreatDoor
open Go.RowKit
set_option linter.unusedSimpArgs false
set_option linter.unusedVariables false
set_option maxRecDepth 100000
set_option maxHeartbeats 16000000
/-- the number and the text that a tree of its kind has -/
def vnn (t : Vt) : Int := if t.k = 1 ∨ t.k = 6 then t.n else if t.k = 3 then (if t.n != 0 then 1 else 0) else 0
def vss (t : Vt) : ByteArray := if t.k = 2 ∨ t.k = 7 then t.s else ⟨#[]⟩
/-- a tree as values have it: no number and no text but where its kind has one -/
def NfT : Nat → Vt → Prop
  | 0, _ => False
  | d + 1, t => t.l.length ≤ 2600000000000 ∧ (-9223372036854775808 ≤ t.n ∧ t.n ≤ 9223372036854775807) ∧ t.n = vnn t ∧ t.s = vss t ∧ ∀ x ∈ t.l, NfT d x
theorem NfT.mono : ∀ {d d' : Nat} {t : Vt}, d ≤ d' → NfT d t → NfT d' t
  | 0, _, _, _, h => h.elim
  | d + 1, 0, t, hd, h => by omega
  | d + 1, e + 1, t, hd, h => ⟨h.1, h.2.1, h.2.2.1, h.2.2.2.1, fun x hx => (h.2.2.2.2 x hx).mono (by omega)⟩
theorem nf8 {d : Nat} : NfT (d + 1) ⟨8, 0, ⟨#[]⟩, []⟩ := ⟨Nat.zero_le _, ⟨by decide, by decide⟩, rfl, rfl, fun x hx => by cases hx⟩
theorem nm_nf : ∀ (d : Nat) (i : Bool) (t : Vt), SmT d t → NfT d (nm d i t)
  | 0, _, _, h => h.elim
  | d + 1, i, t, h => by
    obtain ⟨k, n, s, l⟩ := t
    obtain ⟨h1, h2, h3, h4, h5⟩ := h
    dsimp only at h1 h2 h3 h4 h5
    unfold nm
    dsimp only
    have z0 : (-9223372036854775808 : Int) ≤ 0 ∧ (0 : Int) ≤ 9223372036854775807 := ⟨by decide, by decide⟩
    split
    · exact ⟨Nat.zero_le _, h4, rfl, rfl, fun x hx => by cases hx⟩
    split
    · exact ⟨Nat.zero_le _, z0, rfl, rfl, fun x hx => by cases hx⟩
    split
    · refine ⟨Nat.zero_le _, ?_, ?_, rfl, fun x hx => by cases hx⟩ <;> dsimp only [vnn] <;> cases n != 0 <;> decide
    split
    · refine ⟨by simpa using h2, z0, rfl, rfl, fun x hx => ?_⟩
      obtain ⟨y, hy, rfl⟩ := List.mem_map.1 hx
      exact nm_nf d false y (h5 y hy)
    split
    · refine ⟨by simpa using h2, z0, rfl, rfl, fun x hx => ?_⟩
      obtain ⟨y, hy, rfl⟩ := List.mem_map.1 hx
      exact nm_nf d true y (h5 y hy)
    split
    · exact ⟨Nat.zero_le _, h4, rfl, rfl, fun x hx => by cases hx⟩
    split
    · exact ⟨Nat.zero_le _, z0, rfl, rfl, fun x hx => by cases hx⟩
    · exact nf8
def NuAt (w : World) (B d : Nat) (t : Vt) (lv : Value) : Prop := ∃ S, VsAt w S d t.l lv ∧ ∀ b, S b → B ≤ b ∧ b < w.heap.size
theorem NuAt.only {w w' : World} {B d : Nat} {t : Vt} {lv : Value} {bs : Nat → Prop} (h : NuAt w B d t lv) (o : Only bs w w') (hb : ∀ b, B ≤ b → ¬ bs b) : NuAt w' B d t lv := by
  obtain ⟨S, ht, hS⟩ := h
  exact ⟨S, ht.step (fun _ g => g) (fun a u hs hc => o.cell hc (hb _ (hS _ hs).1)) (Nat.le_refl _), fun b hbS => ⟨(hS b hbS).1, Nat.lt_of_lt_of_le (hS b hbS).2 o.size⟩⟩
theorem NuAt.lower {w : World} {B C d : Nat} {t : Vt} {lv : Value} (h : NuAt w B d t lv) (hC : C ≤ B) : NuAt w C d t lv := by
  obtain ⟨S, ht, hS⟩ := h
  exact ⟨S, ht, fun b hbS => ⟨Nat.le_trans hC (hS b hbS).1, (hS b hbS).2⟩⟩
theorem NuAt.deep {w : World} {B d d' : Nat} {t : Vt} {lv : Value} (h : NuAt w B d t lv) (hd : d ≤ d') : NuAt w B d' t lv := by
  obtain ⟨S, ht, hS⟩ := h
  exact ⟨S, ht.step (fun _ g => g) (fun _ _ _ g => g) hd, hS⟩
theorem NuAt.form {w : World} {B d : Nat} {t : Vt} {lv : Value} (h : NuAt w B d t lv) : ∃ ao cap, lv = .slice ao t.l.length cap := by
  obtain ⟨S, ht, _⟩ := h
  cases d with
  | zero => exact ht.elim
  | succ d => obtain ⟨ao, cap, hv, _⟩ := ht; exact ⟨ao, cap, hv⟩
/-- a row of the document's trees that was made since block B -/
def UrAt (w : World) (B d : Nat) (v : Value) (l : List Vt) : Prop :=
  ∃ us S, w.ownsRow B 24 4 v l.length us ∧ (∀ (j : Nat) (x : Vt), l[j]? = some x → ∃ lx, (us[j * 4]? = some (.int .i64 x.k) ∧ us[j * 4 + 1]? = some (.int .i64 (x.n)) ∧ us[j * 4 + 2]? = some (.string (x.s)) ∧ us[j * 4 + 3]? = some lx) ∧ VsAt w S d x.l lx) ∧ ∀ b, S b → B ≤ b ∧ b < w.heap.size ∧ v.ownBlock ≠ some b
theorem UrAt.form {w : World} {B d : Nat} {v : Value} {l : List Vt} (h : UrAt w B d v l) : ∃ ao cap, v = .slice ao l.length cap := by
  obtain ⟨us, S, ho, _⟩ := h
  rcases ho.2 with ⟨h1, h2⟩ | ⟨g, cap, cur, h1, _⟩
  · exact ⟨_, _, by rw [h1, h2]⟩
  · exact ⟨_, _, h1⟩
theorem UrAt.only {w w' : World} {B d : Nat} {v : Value} {l : List Vt} {bs : Nat → Prop} (h : UrAt w B d v l) (o : Only bs w w') (hb : ∀ b, B ≤ b → ¬ bs b) : UrAt w' B d v l := by
  obtain ⟨us, S, ho, ht, hS⟩ := h
  refine ⟨us, S, o.owns ho (fun k hk => hb k (ho.lt k hk).1), fun j x hx => ?_, fun b hbS => ?_⟩
  · obtain ⟨lx, hu, h2⟩ := ht j x hx
    exact ⟨lx, hu, h2.step (fun _ g => g) (fun a u hs hc => o.cell hc (hb _ (hS _ hs).1)) (Nat.le_refl _)⟩
  · obtain ⟨h1, h2, h3⟩ := hS b hbS
    exact ⟨h1, Nat.lt_of_lt_of_le h2 o.size, h3⟩
theorem UrAt.snoc {w w' : World} {B C d : Nat} {v v' : Value} {l : List Vt} {t : Vt} {lv : Value} {us : List Value} {S : Nat → Prop} (hg : w.grownBy w' v.ownBlock) (ho : w.ownsRow B 24 4 v l.length us) (ht : ∀ (j : Nat) (x : Vt), l[j]? = some x → ∃ lx, (us[j * 4]? = some (.int .i64 x.k) ∧ us[j * 4 + 1]? = some (.int .i64 (x.n)) ∧ us[j * 4 + 2]? = some (.string (x.s)) ∧ us[j * 4 + 3]? = some lx) ∧ VsAt w S d x.l lx) (hS : ∀ b, S b → B ≤ b ∧ b < w.heap.size ∧ v.ownBlock ≠ some b)
    (hn : NuAt w C d t lv) (hC : B ≤ C) (hv : ∀ k, v.ownBlock = some k → k < C) (ho' : w'.ownsRow B 24 4 v' (l.length + 1) (us ++ [.int .i64 t.k, .int .i64 (t.n), .string (t.s), lv])) (hat : v'.ownBlock = v.ownBlock ∨ v'.ownBlock = some w.heap.size) : UrAt w' B d v' (l ++ [t]) := by
  obtain ⟨S1, t1, s1⟩ := hn
  have oo : Only (fun k => v.ownBlock = some k) w w' := (Only.refl _ w).grown hg (fun k e _ => e)
  have a1 : ∀ b, S b → ¬ v.ownBlock = some b := fun b h => (hS b h).2.2
  have a2 : ∀ b, S1 b → ¬ v.ownBlock = some b := fun b h e => by have := hv b e; have := (s1 b h).1; omega
  have hl : us.length = l.length * 4 := ho.1
  refine ⟨_, fun b => S b ∨ S1 b, by simpa using ho', fun j x hx => ?_, fun b hb => ?_⟩
  · by_cases hj : j < l.length
    · rw [List.getElem?_append_left hj] at hx
      obtain ⟨lx, ⟨h0, h1, h2, h3⟩, h6⟩ := ht j x hx
      have ap : ∀ i u, us[i]? = some u → (us ++ [.int .i64 t.k, .int .i64 (t.n), .string (t.s), lv])[i]? = some u := fun i u hu => by
        rw [List.getElem?_append_left (List.getElem?_eq_some_iff.1 hu).1]; exact hu
      exact ⟨lx, ⟨ap _ _ h0, ap _ _ h1, ap _ _ h2, ap _ _ h3⟩, h6.step (fun _ g => .inl g) (fun a y hs hc => oo.cell hc (a1 _ hs)) (Nat.le_refl _)⟩
    · have hj2 : j < (l ++ [t]).length := (List.getElem?_eq_some_iff.1 hx).1
      have hj3 : j = l.length := by simp at hj2; omega
      subst hj3
      simp at hx
      subst hx
      have ap : ∀ i, (us ++ [.int .i64 t.k, .int .i64 (t.n), .string (t.s), lv])[l.length * 4 + i]? = ([.int .i64 t.k, .int .i64 (t.n), .string (t.s), lv] : List Value)[i]? := fun i => by
        rw [List.getElem?_append_right (by omega)]
        congr 1
        omega
      exact ⟨lv, ⟨ap 0, ap 1, ap 2, ap 3⟩, t1.step (fun _ g => .inr g) (fun a y hs hc => oo.cell hc (a2 _ hs)) (Nat.le_refl _)⟩
  · have h1 : B ≤ b ∧ b < w.heap.size ∧ v.ownBlock ≠ some b := by
      rcases hb with h | h
      · exact hS b h
      · exact ⟨Nat.le_trans hC (s1 b h).1, (s1 b h).2, a2 b h⟩
    refine ⟨h1.1, Nat.lt_of_lt_of_le h1.2.1 oo.size, ?_⟩
    rcases hat with e | e <;> rw [e]
    · exact h1.2.2
    · intro e2
      injection e2 with e2
      have := h1.2.1
      omega
/-- a row as the parts of a tree -/
theorem UrAt.tree {w : World} {B d : Nat} {v : Value} {l : List Vt} {t : Vt} (h : UrAt w B d v l) (e : t.l = l) : NuAt w B (d + 1) t v := by
  subst e
  obtain ⟨us, S, ho, ht, hS⟩ := h
  refine ⟨fun b => S b ∨ v.ownBlock = some b, ?_, fun b hb => ?_⟩
  · rcases ho.2 with ⟨rfl, h2⟩ | ⟨g, cap, cur, hv, hB, hg, hn, hcm, hcs, htk⟩
    · exact ⟨none, 0, by rw [h2], by omega, fun i x hx => by have := (List.getElem?_eq_some_iff.1 hx).1; omega⟩
    · refine ⟨some ⟨g, 0, none⟩, cap, hv, hn, fun i x hx => ?_⟩
      obtain ⟨lx, ⟨h0, h1, h2, h3⟩, h4⟩ := ht i x hx
      have hc : ∀ j u, us[j]? = some u → w.cell? ⟨g, 0 + j, none⟩ = some u := fun j u hu => by
        have := ho.cells (g := g) (by rw [hv]; rfl) j u hu
        rwa [addr_ad, ← Nat.zero_add j] at this
      exact ⟨g, 0, lx, rfl, .inr (by rw [hv]; rfl), ⟨hc _ _ h0, hc _ _ h1, hc _ _ h2, hc _ _ h3⟩, h4.step (fun _ g => .inl g) (fun _ _ _ g => g) (Nat.le_refl _)⟩
  · rcases hb with h | h
    · exact ⟨(hS b h).1, (hS b h).2.1⟩
    · exact ho.lt b h
theorem uas_nil (U xt : TypeId) (D : TypeDesc) (hD : Tryz.prog.underlying U = some D) (hn : ∀ m, D ≠ .interface m) (z : Value) (hz : ∀ W : World, (zeroValue U).run Tryz.prog W = .ok z W) (W : World) : (Instr.typeAssert .nilIface xt U true).run Tryz.prog W = .ok (.tuple #[z, .bool false]) W := by
  simp only [Instr.typeAssert, Sem.run_bind, run_underlying hD, Result.andThen_ok]
  cases D <;> simp_all
/-- trees in a slice of values or items -/
def QiAt (w : World) (S : Nat → Prop) (d : Nat) (i : Bool) (v : Value) (l : List Vt) : Prop := ∃ ao cap, v = .slice ao l.length cap ∧ l.length ≤ cap ∧ ∀ (j : Nat) (x : Vt), l[j]? = some x → ∃ g k u, ao = some ⟨g, k, none⟩ ∧ S g ∧ w.cell? ⟨g, k + j, none⟩ = some u ∧ TiAt w S d i x u
theorem QiAt.step {w w' : World} {S S' : Nat → Prop} (hS : ∀ b, S b → S' b) (hk : ∀ (a : Addr) u, S a.block → w.cell? a = some u → w'.cell? a = some u) {d d' : Nat} {i : Bool} {l : List Vt} {v : Value} (hd : d ≤ d') (h : QiAt w S d i v l) : QiAt w' S' d' i v l := by
  obtain ⟨ao, cap, hv, hc, hl⟩ := h
  refine ⟨ao, cap, hv, hc, fun j x hx => ?_⟩
  obtain ⟨g, k, u, ha, hg, hu, ht⟩ := hl j x hx
  exact ⟨g, k, u, ha, hS g hg, hk _ _ hg hu, ht.step hS hk hd⟩
end Go.Proofs.YtdfbnnephfoboaaGreatDoor
namespace Go.Proofs.YtdfbnnephfoboaaGreatDoor
open Go.RowKit Go.Lib
set_option linter.unusedSimpArgs false
set_option linter.unusedVariables false
set_option maxRecDepth 100000
set_option maxHeartbeats 16000000
theorem validD_enL : ∀ (q : List Nat), VL q → validD (enL q) = true
  | [], _ => rfl
  | c :: q, h => by
    have hc : Vr c := h c (List.mem_cons_self ..)
    have e : enL (c :: q) = encodeRune (c : Int) ++ enL q := by simp [enL]
    have hd := decodeL_enc hc (enL q)
    have hw := wr_pos c
    have hne : enL (c :: q) ≠ [] := by
      rw [e]
      intro g
      have := congrArg List.length g
      rw [List.length_append, List.length_nil] at this
      unfold wr at hw
      omega
    rw [validD_step _ hne, e, hd]
    have h1 : ¬ (c = 65533 ∧ wr c = 1) := by
      rintro ⟨rfl, h⟩
      exact absurd h (by decide)
    rw [if_neg h1, show wr c = (encodeRune (c : Int)).length from rfl, List.drop_left]
    exact validD_enL q (fun x hx => h x (List.mem_cons_of_mem _ hx))
theorem validD_runes : ∀ (n : Nat) (l : List UInt8), l.length ≤ n → validD l = true → ∃ q, VL q ∧ l = enL q
  | 0, l, h, _ => ⟨[], fun c hc => by simp at hc, (List.length_eq_zero_iff.1 (Nat.le_zero.1 h)).trans rfl⟩
  | n + 1, l, h, hv => by
    by_cases hne : l = []
    · exact ⟨[], fun c hc => by simp at hc, by rw [hne]; rfl⟩
    · rw [validD_step _ hne] at hv
      by_cases hb : (decodeL l).1 = 65533 ∧ (decodeL l).2 = 1
      · rw [if_pos hb] at hv
        exact absurd hv (by decide)
      · rw [if_neg hb] at hv
        have he := encode_decode _ hne hb
        have hp : 1 ≤ (decodeL l).2 := by
          by_cases h0 : (decodeL l).2 = 0
          · rw [h0, List.take_zero] at he
            have := wr_pos (decodeL l).1
            unfold wr at this
            rw [he] at this
            simp at this
          · omega
        have hl : 0 < l.length := List.length_pos_iff.2 hne
        obtain ⟨q, hq, e⟩ := validD_runes n (l.drop (decodeL l).2) (by rw [List.length_drop]; omega) hv
        refine ⟨(decodeL l).1 :: q, fun c hc => ?_, ?_⟩
        · rcases List.mem_cons.1 hc with rfl | hc
          · exact decode_vr _ _
          · exact hq c hc
        · rw [show enL ((decodeL l).1 :: q) = encodeRune ((decodeL l).1 : Int) ++ enL q by simp [enL], he, ← e, List.take_append_drop]
/-- a text is one of characters just if no byte is astray -/
theorem vl_st (s : ByteArray) : vlB s = true ↔ ¬ stR s < s.size := by
  unfold vlB
  constructor
  · intro h
    obtain ⟨q, hq, e⟩ := validD_runes _ _ (Nat.le_refl _) h
    rw [tx_inj e]
    exact stR_tx hq
  · intro h
    obtain ⟨q, hq, rfl⟩ := valid_tx h
    rw [tx_data]
    exact validD_enL q hq
/-- a tree whose leaves have no parts -/
def LfT : Nat → Vt → Prop
  | 0, _ => False
  | d + 1, t => (¬ (t.k = 4 ∨ t.k = 5) → t.l = []) ∧ ∀ x ∈ t.l, LfT d x
theorem nm_lf : ∀ (d : Nat) (i : Bool) (t : Vt), SmT d t → LfT d (nm d i t)
  | 0, _, _, h => h.elim
  | d + 1, i, t, h => by
    obtain ⟨k, n, s, l⟩ := t
    obtain ⟨h1, h2, h3, h4, h5⟩ := h
    dsimp only at h5
    unfold nm
    dsimp only
    split
    · exact ⟨fun _ => rfl, fun x hx => by cases hx⟩
    split
    · exact ⟨fun _ => rfl, fun x hx => by cases hx⟩
    split
    · exact ⟨fun _ => rfl, fun x hx => by cases hx⟩
    split
    · refine ⟨fun g => absurd (.inl rfl) g, fun x hx => ?_⟩
      obtain ⟨y, hy, rfl⟩ := List.mem_map.1 hx
      exact nm_lf d false y (h5 y hy)
    split
    · refine ⟨fun g => absurd (.inr rfl) g, fun x hx => ?_⟩
      obtain ⟨y, hy, rfl⟩ := List.mem_map.1 hx
      exact nm_lf d true y (h5 y hy)
    split
    · exact ⟨fun _ => rfl, fun x hx => by cases hx⟩
    split
    · exact ⟨fun _ => rfl, fun x hx => by cases hx⟩
    · exact ⟨fun _ => rfl, fun x hx => by cases hx⟩
theorem al8 {t : Vt} (h : t.k = 8) : alB t = false := by simp [alB, h]
theorem vt_ext {a b : Vt} (h1 : a.k = b.k) (h2 : a.n = b.n) (h3 : a.s = b.s) (h4 : a.l = b.l) : a = b := by
  cases a; cases b
  simp only at h1 h2 h3 h4
  subst h1 h2 h3 h4
  rfl
theorem bytes_same {a b : ByteArray} : (a.toList == b.toList) = true ↔ a = b := by
  constructor
  · intro h
    have h := beq_iff_eq.1 h
    rw [ByteArray.toList_eq, ByteArray.toList_eq] at h
    exact ByteArray.ext (Array.toList_inj.1 h)
  · intro h; rw [h]; simp
theorem smL_eq (f : Vt → Vt → Bool) : ∀ (a b : List Vt), (∀ x ∈ a, ∀ y ∈ b, (f x y = true ↔ x = y)) → (smL f a b = true ↔ a = b)
  | [], [], _ => by simp [smL]
  | [], y :: b, _ => by simp [smL]
  | x :: a, [], _ => by simp [smL]
  | x :: a, y :: b, h => by
    have h1 := h x (.head _) y (.head _)
    have h2 := smL_eq f a b (fun x' hx y' hy => h x' (.tail _ hx) y' (.tail _ hy))
    rw [show smL f (x :: a) (y :: b) = (f x y && smL f a b) from rfl, Bool.and_eq_true, h1, h2]
    simp
theorem ok_kind {d : Nat} {t : Vt} (h : okV (d + 1) false t = true) : t.k = 1 ∨ t.k = 2 ∨ t.k = 3 ∨ t.k = 4 ∨ t.k = 5 ∨ t.k = 6 := by
  by_cases hk : t.k = 4 ∨ t.k = 5
  · omega
  · rw [show okV (d + 1) false t = alB t from if_neg hk] at h
    unfold alB at h
    split at h
    · omega
    split at h
    · omega
    split at h
    · omega
    · have := of_decide_eq_true h
      omega
theorem sm_eq : ∀ (D : Nat) (i : Bool) (a b : Vt) (e : Nat), okV D i a = true → okV D i b = true → NfT e a → NfT e b → LfT e a → LfT e b → (smV D i a b = true ↔ a = b)
  | 0, _, _, _, _, h, _, _, _, _, _ => by cases h
  | D + 1, true, a, b, e, h1, h2, n1, n2, l1, l2 => by
    cases e with
    | zero => exact n1.elim
    | succ e =>
      by_cases h7 : a.k = 7 ∨ b.k = 7
      · rw [show smV (D + 1) true a b = (decide (a.k = 7) && decide (b.k = 7) && (a.s.toList == b.s.toList)) from if_pos h7]
        simp only [Bool.and_eq_true, decide_eq_true_eq, bytes_same]
        constructor
        · rintro ⟨⟨ka, kb⟩, hs⟩
          refine vt_ext (ka.trans kb.symm) ?_ hs ?_
          · have va : vnn a = 0 := (if_neg (by omega)).trans (if_neg (by omega))
            have vb : vnn b = 0 := (if_neg (by omega)).trans (if_neg (by omega))
            rw [n1.2.2.1, n2.2.2.1, va, vb]
          · rw [l1.1 (by omega), l2.1 (by omega)]
        · intro he
          subst he
          exact ⟨⟨by omega, by omega⟩, rfl⟩
      · have ka : a.k ≠ 7 := fun g => h7 (.inl g)
        have kb : b.k ≠ 7 := fun g => h7 (.inr g)
        have e1 : okV (D + 1) true a = if a.k = 8 then false else okV D false a := if_neg ka
        have e2 : okV (D + 1) true b = if b.k = 8 then false else okV D false b := if_neg kb
        rw [e1] at h1
        rw [e2] at h2
        split at h1
        · cases h1
        split at h2
        · cases h2
        rw [show smV (D + 1) true a b = smV D false a b from if_neg h7]
        exact sm_eq D false a b (e + 1) h1 h2 n1 n2 l1 l2
  | D + 1, false, a, b, e, h1, h2, n1, n2, l1, l2 => by
    cases e with
    | zero => exact n1.elim
    | succ e =>
      have ka := ok_kind h1
      have kb := ok_kind h2
      obtain ⟨_, _, na, sa, pa⟩ := n1
      obtain ⟨_, _, nb, sb, pb⟩ := n2
      have es : smV (D + 1) false a b = (decide (a.k = b.k) && (if a.k = 1 ∨ a.k = 6 then a.n == b.n else if a.k = 2 then a.s.toList == b.s.toList else if a.k = 3 then (a.n != 0) == (b.n != 0) else smL (smV D (decide (a.k = 5))) a.l b.l)) := rfl
      rw [es, Bool.and_eq_true, decide_eq_true_eq]
      by_cases hk : a.k = b.k
      · have hs2 : a.k ≠ 2 → a.s = b.s := fun g => by
          have va : vss a = ⟨#[]⟩ := if_neg (by omega)
          have vb : vss b = ⟨#[]⟩ := if_neg (by omega)
          rw [sa, sb, va, vb]
        have hl0 : ¬ (a.k = 4 ∨ a.k = 5) → a.l = b.l := fun g => by rw [l1.1 g, l2.1 (by omega)]
        have hn0 : ¬ (a.k = 1 ∨ a.k = 6) → a.k ≠ 3 → a.n = b.n := fun g g3 => by
          have va : vnn a = 0 := (if_neg g).trans (if_neg g3)
          have vb : vnn b = 0 := (if_neg (by omega)).trans (if_neg (by omega))
          rw [na, nb, va, vb]
        by_cases k1 : a.k = 1 ∨ a.k = 6
        · rw [if_pos k1, beq_iff_eq]
          exact ⟨fun g => vt_ext hk g.2 (hs2 (by omega)) (hl0 (by omega)), fun g => by subst g; exact ⟨rfl, rfl⟩⟩
        · rw [if_neg k1]
          by_cases k2 : a.k = 2
          · rw [if_pos k2, bytes_same]
            exact ⟨fun g => vt_ext hk (hn0 k1 (by omega)) g.2 (hl0 (by omega)), fun g => by subst g; exact ⟨rfl, rfl⟩⟩
          · rw [if_neg k2]
            by_cases k3 : a.k = 3
            · rw [if_pos k3, beq_iff_eq]
              refine ⟨fun g => vt_ext hk ?_ (hs2 k2) (hl0 (by omega)), fun g => by subst g; exact ⟨rfl, rfl⟩⟩
              have va : vnn a = if a.n != 0 then 1 else 0 := (if_neg k1).trans (if_pos k3)
              have vb : vnn b = if b.n != 0 then 1 else 0 := (if_neg (by omega)).trans (if_pos (by omega))
              rw [na, nb, va, vb, g.2]
            · rw [if_neg k3]
              have k45 : a.k = 4 ∨ a.k = 5 := by omega
              rw [show okV (D + 1) false a = a.l.all (okV D (decide (a.k = 5))) from if_pos k45] at h1
              rw [show okV (D + 1) false b = b.l.all (okV D (decide (b.k = 5))) from if_pos (by omega), ← hk] at h2
              rw [smL_eq (smV D (decide (a.k = 5))) a.l b.l (fun x hx y hy => sm_eq D _ x y e (List.all_eq_true.1 h1 x hx) (List.all_eq_true.1 h2 y hy) (pa x hx) (pb y hy) (l1.2 x hx) (l2.2 y hy))]
              exact ⟨fun g => vt_ext hk (hn0 k1 k3) (hs2 k2) g.2, fun g => by subst g; exact ⟨rfl, rfl⟩⟩
      · exact ⟨fun g => absurd g.1 hk, fun g => by subst g; exact absurd rfl hk⟩
/-- the same of what comes in as trees -/
theorem sm_nm {d D : Nat} {a b : Vt} (sa : SmT d a) (sb : SmT d b) (h1 : sdB D (nm d false a) = true) (h2 : sdB D (nm d false b) = true) : smV D false (nm d false a) (nm d false b) = true ↔ nm d false a = nm d false b := by
  unfold sdB msB at h1 h2
  simp only [Bool.and_eq_true] at h1 h2
  exact sm_eq D false _ _ d h1.1.1 h2.1.1 (nm_nf d false a sa) (nm_nf d false b sb) (nm_lf d false a sa) (nm_lf d false b sb)
end Go.Proofs.YtdfbnnephfoboaaGreatDoor
